/-
  The document's answers: EditFault, editPlace, EditPlace.
-/
import Derived.Test.YtdiogfhbgmkajaaChecked
import Derived.Test.YtdiogfhbgmkajaaEditMath
import Derived.WalkSpells
namespace Go.Proofs.Ytdiogfhbgmkajaa.EditR
open Go.RowKit Kit EditM

set_option maxHeartbeats 2000000 in
theorem fault_r (n a c : Int) (s : ByteArray) (w : World) (h : n < 0 ∨ 600 < n ∨ a < 0 ∨ c < 0 ∨ n - a < c) (_ha : a ≤ 9223372036854775807) (_hc : c ≤ 9223372036854775807) :
    Calls Try.prog 48 #[.int .i64 n, .agg #[.int .i64 a, .int .i64 c, .string s]] w fun e w' => e = .returned (.int .i64 2) ∧ Below w.heap.size w w' := by
  by_cases h1 : n < 0
  · clear h
    go_enter Try.func48, Try.ntmps48
    go_wp2
    go_ret
    exact ⟨rfl, balloc (Below.refl _ _) _⟩
  by_cases h2 : 600 < n
  · clear h
    go_enter Try.func48, Try.ntmps48
    go_wp2
    go_ret
    exact ⟨rfl, balloc (Below.refl _ _) _⟩
  by_cases h3 : a < 0
  · clear h
    go_enter Try.func48, Try.ntmps48
    go_wp2
    go_ret
    exact ⟨rfl, balloc (Below.refl _ _) _⟩
  by_cases h4 : c < 0
  · clear h
    go_enter Try.func48, Try.ntmps48
    go_wp2
    go_ret
    exact ⟨rfl, balloc (Below.refl _ _) _⟩
  by_cases h5 : n < a
  · clear h
    go_enter Try.func48, Try.ntmps48
    go_wp2
    go_ret
    exact ⟨rfl, balloc (Below.refl _ _) _⟩
  by_cases h6 : n < c
  · clear h
    go_enter Try.func48, Try.ntmps48
    go_wp2
    go_ret
    exact ⟨rfl, balloc (Below.refl _ _) _⟩
  have h7 : n < a + c := by omega
  clear h
  go_enter Try.func48, Try.ntmps48
  go_wp2
  go_ret
  exact ⟨rfl, balloc (Below.refl _ _) _⟩

set_option maxHeartbeats 2000000 in
theorem fault_ref (n a c : Int) (s : ByteArray) (w : World) (ha : a ≤ 9223372036854775807) (hc : c ≤ 9223372036854775807) (hs : s.size ≤ 140737488351232) :
    Calls Try.prog 48 #[.int .i64 n, .agg #[.int .i64 a, .int .i64 c, .string s]] w fun e w' => e = .returned (.int .i64 (fault n a c s.size)) ∧ Below w.heap.size w w' := by
  by_cases h : n < 0 ∨ 600 < n ∨ a < 0 ∨ c < 0 ∨ n - a < c
  · rw [fault_range h]; exact fault_r n a c s w h ha hc
  · have h1 : ¬ n < 0 := by omega
    have h2 : ¬ 600 < n := by omega
    have h3 : ¬ a < 0 := by omega
    have h4 : ¬ c < 0 := by omega
    have h5 : ¬ n < a := by omega
    have h6 : ¬ n < c := by omega
    have h7 : ¬ n < a + c := by omega
    by_cases h8 : 600 < n - c + (s.size : Int)
    · rw [fault_size h h8]
      have h9 : 600 < n + (s.size : Int) - c := by omega
      clear h h8
      go_enter Try.func48, Try.ntmps48
      go_wp2
      go_ret
      exact ⟨rfl, balloc (Below.refl _ _) _⟩
    · rw [fault_ok h h8]
      have h9 : ¬ 600 < n + (s.size : Int) - c := by omega
      clear h h8
      go_enter Try.func48, Try.ntmps48
      go_wp2
      go_ret
      exact ⟨rfl, balloc (Below.refl _ _) _⟩

set_option maxHeartbeats 2000000 in
theorem editPlace (a c x : Int) (s : ByteArray) (r : Bool) (w : World) (a0 : 0 ≤ a) (a1 : a ≤ 1099511627776) (c0 : 0 ≤ c) (c1 : c ≤ 1099511627776) (x0 : 0 ≤ x) (x1 : x ≤ 1099511627776) (hs : s.size ≤ 140737488351232) :
    Calls Try.prog 49 #[.agg #[.int .i64 a, .int .i64 c, .string s], .int .i64 x, .bool r] w fun e w' => e = .returned (.int .i64 (placed a c s.size x r)) ∧ Below w.heap.size w w' := by
  by_cases h1 : x < a
  · have hv : Hid (placed a c s.size x r = x) := by show _ = _; unfold placed; rw [if_pos h1]
    go_enter Try.func49, Try.ntmps49
    go_wp2
    go_ret
    exact ⟨ret_int hv.out.symm, balloc (Below.refl _ _) _⟩
  · by_cases h2 : x < a + c ∨ (c = 0 ∧ x = a)
    · have hv : Hid (placed a c s.size x r = if r then a + (s.size : Int) else a) := by
        show _ = _
        unfold placed; rw [if_neg h1, if_pos h2]
      by_cases h3 : x < a + c
      · have h4 : ¬ a + c ≤ x := by omega
        clear h2
        cases r
        all_goals
          go_enter Try.func49, Try.ntmps49
          go_wp2
          go_ret
          exact ⟨ret_int (by rw [hv.out]; rfl), balloc (Below.refl _ _) _⟩
      · obtain ⟨rfl, rfl⟩ : c = 0 ∧ x = a := by omega
        clear h2 h3 h1
        have g1 : ((x : Int) == x) = true := by simp
        cases r
        all_goals
          go_enter Try.func49, Try.ntmps49
          go_wp2
          go_ret
          exact ⟨ret_int (by rw [hv.out]; rfl), balloc (Below.refl _ _) _⟩
    · have hv : Hid (placed a c s.size x r = x - c + (s.size : Int)) := by
        show _ = _
        unfold placed; rw [if_neg h1, if_neg h2]; omega
      have h3 : a + c ≤ x := by omega
      by_cases h4 : c = 0
      · have g1 : (c == 0) = true := by simpa using h4
        have g2 : (x == a) = false := by simp; omega
        clear h2 h4
        go_enter Try.func49, Try.ntmps49
        go_wp2
        go_ret
        exact ⟨ret_int (by rw [hv.out]), balloc (Below.refl _ _) _⟩
      · have g1 : (c == 0) = false := by simpa using h4
        clear h2 h4
        go_enter Try.func49, Try.ntmps49
        go_wp2
        go_ret
        exact ⟨ret_int (by rw [hv.out]), balloc (Below.refl _ _) _⟩

end Go.Proofs.Ytdiogfhbgmkajaa.EditR
