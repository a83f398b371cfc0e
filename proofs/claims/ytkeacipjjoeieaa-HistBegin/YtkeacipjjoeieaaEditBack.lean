/-
  An edit is undone, on plain data. No program is named.
-/
import Derived.Test.YtkeacipjjoeieaaEditMath
namespace Go.Proofs.Ytkeacipjjoeieaa.EditK
open Go.RowKit Kit EditM

/-- an edit is undone -/
theorem inv_fits {e : EdM} {t : Bs} (h : e.fits t) : (e.inv t).fits (e.step t) := by
  have hl := h.len
  have hn := h.nat
  obtain ⟨h1, h2, h3, h4, h5⟩ := h
  have hp : (e.inv t).put.size = e.cut.toNat := by
    show (str _).size = _
    rw [size_str, List.length_take, List.length_drop]; omega
  refine ⟨h1, by show (0 : Int) ≤ (e.put.size : Int); omega, ?_, ?_, by omega⟩
  · show (e.put.size : Int) ≤ _ - e.at_; rw [hl]; omega
  · show _ - (e.put.size : Int) + _ ≤ 600; rw [hl, hp]; omega
theorem made_back (t p : Bs) (a c : Nat) (h : a + c ≤ t.length) : made (made t a c p) a p.length ((t.drop a).take c) = t := by
  have e1 : (t.take a).length = a := by rw [List.length_take]; omega
  have e2 : (t.take a ++ p).length = a + p.length := by rw [List.length_append, e1]
  have d1 : List.take a (t.take a ++ p ++ t.drop (a + c)) = t.take a := by
    rw [List.append_assoc, List.take_append_of_le_length (by omega), List.take_take, Nat.min_self]
  have d2 : List.drop (a + p.length) (t.take a ++ p ++ t.drop (a + c)) = t.drop (a + c) := by rw [← e2]; exact List.drop_left
  unfold made
  rw [d1, d2, ← List.drop_drop, List.append_assoc, List.take_append_drop, List.take_append_drop]
theorem inv_step {e : EdM} {t : Bs} (h : e.fits t) : (e.inv t).step (e.step t) = t := by
  have hn := h.nat
  have := made_back t e.put.data.toList e.at_.toNat e.cut.toNat hn
  rw [size_list] at this
  show made (made t _ _ _) e.at_.toNat (e.put.size : Int).toNat (str _).data.toList = t
  rw [list_str, Int.toNat_natCast]
  exact this
theorem inv_ok {e : EdM} {t : Bs} (h : e.fits t) (ho : e.ok) : (e.inv t).ok := by
  refine ⟨ho.a0, ho.a1, ?_, ?_, ?_⟩
  · show -9223372036854775808 ≤ (e.put.size : Int); omega
  · show (e.put.size : Int) ≤ 9223372036854775807; have := ho.p; omega
  · show (str _).size ≤ _; rw [size_str, List.length_take, List.length_drop]; have := h.t6; omega

end Go.Proofs.Ytkeacipjjoeieaa.EditK
