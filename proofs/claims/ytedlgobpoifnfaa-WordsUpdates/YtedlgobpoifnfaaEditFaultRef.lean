/-
  The document's answers: EditFault.
-/
import Derived.Test.YtedlgobpoifnfaaChecked
import Derived.Test.YtedlgobpoifnfaaEditMath
import Derived.WalkSpells
namespace Go.Proofs.Ytedlgobpoifnfaa.EditR
open Go.RowKit Kit EditM

set_option maxHeartbeats 2000000 in
theorem fault_r (n a c : Int) (s : ByteArray) (w : World) (h : n < 0 ∨ 600 < n ∨ a < 0 ∨ c < 0 ∨ n - a < c) (_ha : a ≤ 9223372036854775807) (_hc : c ≤ 9223372036854775807) :
    Calls Try.prog 34 #[.int .i64 n, .agg #[.int .i64 a, .int .i64 c, .string s]] w fun e w' => e = .returned (.int .i64 2) ∧ Below w.heap.size w w' := by
  by_cases h1 : n < 0
  · clear h
    go_enter Try.func34, Try.ntmps34
    go_wp2
    go_ret
    exact ⟨rfl, balloc (Below.refl _ _) _⟩
  by_cases h2 : 600 < n
  · clear h
    go_enter Try.func34, Try.ntmps34
    go_wp2
    go_ret
    exact ⟨rfl, balloc (Below.refl _ _) _⟩
  by_cases h3 : a < 0
  · clear h
    go_enter Try.func34, Try.ntmps34
    go_wp2
    go_ret
    exact ⟨rfl, balloc (Below.refl _ _) _⟩
  by_cases h4 : c < 0
  · clear h
    go_enter Try.func34, Try.ntmps34
    go_wp2
    go_ret
    exact ⟨rfl, balloc (Below.refl _ _) _⟩
  by_cases h5 : n < a
  · clear h
    go_enter Try.func34, Try.ntmps34
    go_wp2
    go_ret
    exact ⟨rfl, balloc (Below.refl _ _) _⟩
  by_cases h6 : n < c
  · clear h
    go_enter Try.func34, Try.ntmps34
    go_wp2
    go_ret
    exact ⟨rfl, balloc (Below.refl _ _) _⟩
  have h7 : n < a + c := by omega
  clear h
  go_enter Try.func34, Try.ntmps34
  go_wp2
  go_ret
  exact ⟨rfl, balloc (Below.refl _ _) _⟩

set_option maxHeartbeats 2000000 in
theorem fault_ref (n a c : Int) (s : ByteArray) (w : World) (ha : a ≤ 9223372036854775807) (hc : c ≤ 9223372036854775807) (hs : s.size ≤ 140737488351232) :
    Calls Try.prog 34 #[.int .i64 n, .agg #[.int .i64 a, .int .i64 c, .string s]] w fun e w' => e = .returned (.int .i64 (fault n a c s.size)) ∧ Below w.heap.size w w' := by
  by_cases h : n < 0 ∨ 600 < n ∨ a < 0 ∨ c < 0 ∨ n - a < c
  · rw [fault_range h]; exact fault_r n a c s w h ha hc
  · have h1 : ¬ n < 0 := by omega
    have h2 : ¬ 600 < n := by omega
    have h3 : ¬ a < 0 := by omega
    have h4 : ¬ c < 0 := by omega
    have h5 : ¬ n < a := by omega
    have h6 : ¬ n < c := by omega
    have h7 : ¬ n < a + c := by omega
    by_cases h8 : 600 < n - c + (s.size : Int)
    · rw [fault_size h h8]
      have h9 : 600 < n + (s.size : Int) - c := by omega
      clear h h8
      go_enter Try.func34, Try.ntmps34
      go_wp2
      go_ret
      exact ⟨rfl, balloc (Below.refl _ _) _⟩
    · rw [fault_ok h h8]
      have h9 : ¬ 600 < n + (s.size : Int) - c := by omega
      clear h h8
      go_enter Try.func34, Try.ntmps34
      go_wp2
      go_ret
      exact ⟨rfl, balloc (Below.refl _ _) _⟩

end Go.Proofs.Ytedlgobpoifnfaa.EditR
