/-
  edit.Apply of valid edits; edits that a call has laid.
-/
import Derived.Test.YtokfnajgjhkepaaEditApply
namespace Go.Proofs.Ytokfnajgjhkepaa.EditK
open Go.RowKit Kit EditM EditC

theorem applyV (t : ByteArray) (l : List EdM) (v : Value) (w : World) (hl : EdsV w v l) (hok : ∀ e ∈ l, e.ok) (h60 : l.length ≤ 60) (ht : t.size ≤ 600) (hc : apC l t.data.toList = 0) :
    Calls Try.prog 16 #[.string t, v] w fun e w' => e = .returned (.tuple #[.string (str (apT l t.data.toList)), .int .i64 0]) ∧ Below w.heap.size w w' := by
  obtain ⟨a, cap, rfl, _, ha, _⟩ := hl
  have := apply t l a cap w ha hok h60 ht
  unfold apR at this
  rw [hc, if_pos rfl] at this
  exact this
/-- a copy of edits -/
theorem EdsV.own {w : World} {base : Nat} {v : Value} {l : List EdM} {n : Nat} (hn : l.length = n) (h : w.ownsRow base 40 3 v n (flatC EdM.cs l)) : EdsV w v l :=
  SlV.of_owns EdM.cs_len (base := base) (e := 40) (by rw [hn]; exact h)

theorem one_at (w : World) (e : EdM) : EdsV (w.alloc (.cells #[.int .i64 e.at_, .int .i64 e.cut, .string e.put] 40)) (.slice (some ⟨w.heap.size, 0, none⟩) 1 1) [e] := by
  refine ⟨_, _, rfl, by simp, ⟨fun i o hi => ⟨w.heap.size, 0, rfl, by simp, fun j hj => ?_⟩⟩, .inr ⟨_, _, rfl, by simp⟩⟩
  have hi0 : i = 0 := by
    have := (List.getElem?_eq_some_iff.1 hi).1
    simpa using this
  subst hi0
  simp at hi; subst hi
  rw [show (0 + 0 * 3 + j) = j by omega, cells_new]
  simp [EdM.cs]

end Go.Proofs.Ytokfnajgjhkepaa.EditK
