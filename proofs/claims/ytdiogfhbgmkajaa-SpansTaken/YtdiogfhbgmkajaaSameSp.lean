/-
  fustianlaw.sameSpans at two slices that read alike.
-/
import Derived.Test.YtdiogfhbgmkajaaSpanEq
namespace Go.Proofs.Ytdiogfhbgmkajaa.SpanR
open Go.RowKit Kit SpanM

set_option maxHeartbeats 1000000 in
theorem same (v1 v2 : Value) (l : List SpM) (w : World) (h1 : SpsV w v1 l) (h2 : SpsV w v2 l) (hl : l.length ≤ 1000) :
    Calls Try.prog 19 #[v1, v2] w fun e w' => e = .returned (.bool true) ∧ Below w.heap.size w w' := by
  obtain ⟨a1, c1, rfl, k1⟩ := h1.at_
  obtain ⟨a2, c2, rfl, k2⟩ := h2.at_
  have H1 := Lib.hid k1
  have H2 := Lib.hid k2
  have ns := neqSpan
  have gs := guardSpan
  clear h1 h2 k1 k2
  generalize hn : l.length = n at *
  have HN := Lib.hid hn
  clear hn
  go_enter Try.func19, Try.ntmps19
  go_wp2
  go_loopw [5] (fun i wr => ∃ k : Nat, k ≤ n ∧ i = .int .i64 k ∧ ∃ m, wr = w.drewN m) (fun i _ => n - (intOf i).toNat)
  case atStart => exact ⟨0, Nat.zero_le _, rfl, 0, rfl⟩
  case round =>
    obtain ⟨k, hk, rfl, m, rfl⟩ := hrel
    by_cases hlt : k < n
    · obtain ⟨s, hs⟩ : ∃ s, l[k]? = some s := ⟨l[k]'(by have := HN.out; omega), by simp [HN.out, hlt]⟩
      obtain ⟨b1, o1, rfl, _, p1, p2⟩ := SpsAt.get H1.out hs
      obtain ⟨b2, o2, rfl, _, q1, q2⟩ := SpsAt.get H2.out hs
      have i0 : (0 : Int) ≤ (k : Int) := Int.natCast_nonneg _
      have i1 : (k : Int) < (n : Int) := by omega
      clear hs
      obtain ⟨lo, hi⟩ := s
      dsimp only at *
      go_wp2
      go_quiet (fail)
      go_wp2
      refine ⟨⟨k + 1, by omega, by go_num, _, rfl⟩, by simp [intOf]; omega⟩
    · go_wp2
      go_ret
      exact ⟨rfl, bdrewN (Below.refl _ _) _⟩
end Go.Proofs.Ytdiogfhbgmkajaa.SpanR
