/-
  fustiantop.sameTexts at two slices that read alike.
-/
import Derived.Test.YtokfnajgjhkepaaLift
import Derived.Test.YtokfnajgjhkepaaBnd2
namespace Go.Proofs.Ytokfnajgjhkepaa.SameTop
open Go.RowKit Kit

set_option maxHeartbeats 400000 in
theorem same (v1 v2 : Value) (zs : List ByteArray) (w : World) (h1 : Row w v1 (zs.map (.string ·))) (h2 : Row w v2 (zs.map (.string ·))) (hl : zs.length ≤ maxLen) :
    Calls Try.prog 20 #[v1, v2] w fun e w' => e = .returned (.bool true) ∧ Below w.heap.size w w' := by
  unfold maxLen at hl
  obtain ⟨a1, c1, rfl, h1⟩ := h1
  obtain ⟨a2, c2, rfl, h2⟩ := h2
  simp only [List.length_map] at h1 h2 ⊢
  have H1 := Lib.hid h1
  have H2 := Lib.hid h2
  clear h1 h2
  generalize hn : zs.length = n at *
  have HN := Lib.hid hn
  clear hn
  go_enter Try.func20, Try.ntmps20
  go_wp2
  go_loopw [5] (fun i wr => ∃ k : Nat, k ≤ n ∧ i = .int .i64 k ∧ ∃ m, wr = w.drewN m) (fun i _ => n - (intOf i).toNat)
  case atStart => exact ⟨0, Nat.zero_le _, rfl, 0, rfl⟩
  case round =>
    obtain ⟨k, hk, rfl, m, rfl⟩ := hrel
    by_cases hlt : k < n
    · obtain ⟨b1, o1, rfl, _, q1⟩ := H1.out (by omega)
      obtain ⟨b2, o2, rfl, _, q2⟩ := H2.out (by omega)
      have hkz : k < zs.length := by rw [HN.out]; exact hlt
      have p1 := q1 k hlt
      have p2 := q2 k hlt
      rw [List.getElem?_map, List.getElem?_eq_getElem hkz] at p1 p2
      simp only [Option.map_some] at p1 p2
      have i0 : (0 : Int) ≤ (k : Int) := Int.natCast_nonneg _
      have i1 : (k : Int) < (n : Int) := by omega
      clear q1 q2
      generalize zs[k] = z at *
      clear hkz
      go_wp2
      go_quiet (fail)
      go_wp2
      refine ⟨⟨k + 1, by omega, by go_num, _, rfl⟩, by simp [intOf]; omega⟩
    · go_wp2
      go_ret
      exact ⟨rfl, bdrewN (Below.refl _ _) _⟩

end Go.Proofs.Ytokfnajgjhkepaa.SameTop
