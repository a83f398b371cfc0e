/-
  Package edit: what sizeAfter, Check and tooLong answer.
-/
import Derived.Test.YtokfnajgjhkepaaChecked
import Derived.Test.YtokfnajgjhkepaaBnd2
import Derived.WalkSpells
namespace Go.Proofs.Ytokfnajgjhkepaa.EditC
open Go.RowKit Kit EditM

set_option maxHeartbeats 400000 in
theorem sizeAfter (n a c : Int) (s : ByteArray) (w : World) (h0 : 0 ≤ n) (h1 : n ≤ 600) (h2 : 0 ≤ c) (h3 : c ≤ n) (h4 : s.size ≤ 140737488351232) :
    Calls Try.prog 39 #[.int .i64 n, .agg #[.int .i64 a, .int .i64 c, .string s]] w fun e w' => e = .returned (.int .i64 (n - c + (s.size : Int))) ∧ Below w.heap.size w w' := by
  go_enter Try.func39, Try.ntmps39
  go_wp2
  go_ret
  exact ⟨rfl, balloc (Below.refl _ _) _⟩

set_option maxHeartbeats 1000000 in
theorem check_range (n a c : Int) (s : ByteArray) (w : World) (ha : a ≤ 9223372036854775807) (h : n < 0 ∨ 600 < n ∨ a < 0 ∨ c < 0 ∨ n - a < c) :
    Calls Try.prog 30 #[.int .i64 n, .agg #[.int .i64 a, .int .i64 c, .string s]] w fun e w' => e = .returned (.int .i64 2) ∧ Below w.heap.size w w' := by
  by_cases h1 : n < 0
  · clear h
    go_enter Try.func30, Try.ntmps30
    go_wp2
    go_ret
    exact ⟨rfl, balloc (Below.refl _ _) _⟩
  · by_cases h2 : 600 < n
    · clear h
      go_enter Try.func30, Try.ntmps30
      go_wp2
      go_ret
      exact ⟨rfl, balloc (Below.refl _ _) _⟩
    · by_cases h3 : a < 0
      · clear h
        go_enter Try.func30, Try.ntmps30
        go_wp2
        go_ret
        exact ⟨rfl, balloc (Below.refl _ _) _⟩
      · by_cases h4 : c < 0
        · clear h
          go_enter Try.func30, Try.ntmps30
          go_wp2
          go_ret
          exact ⟨rfl, balloc (Below.refl _ _) _⟩
        · have h5 : n - a < c := by omega
          clear h
          go_enter Try.func30, Try.ntmps30
          go_wp2
          go_ret
          exact ⟨rfl, balloc (Below.refl _ _) _⟩

set_option maxHeartbeats 1000000 in
theorem check_size (n a c : Int) (s : ByteArray) (w : World) (ha : a ≤ 9223372036854775807) (hs : s.size ≤ 140737488351232) (h : ¬ (n < 0 ∨ 600 < n ∨ a < 0 ∨ c < 0 ∨ n - a < c)) (h6 : 600 < n - c + (s.size : Int)) :
    Calls Try.prog 30 #[.int .i64 n, .agg #[.int .i64 a, .int .i64 c, .string s]] w fun e w' => e = .returned (.int .i64 1) ∧ Below w.heap.size w w' := by
  have h1 : ¬ n < 0 := by omega
  have h2 : ¬ 600 < n := by omega
  have h3 : ¬ a < 0 := by omega
  have h4 : ¬ c < 0 := by omega
  have h5 : ¬ n - a < c := by omega
  have H := Lib.hid (fun w => sizeAfter n a c s w (by omega) (by omega) (by omega) (by omega) hs)
  clear h
  go_enter Try.func30, Try.ntmps30
  go_wp2_with fail
  refine (H.out _).mono ?_
  rintro e w1 ⟨rfl, hb1⟩
  go_wp2_with fail
  go_ret
  exact ⟨rfl, bstep (balloc (Below.refl _ _) _) hb1⟩

set_option maxHeartbeats 1000000 in
theorem check_ok (n a c : Int) (s : ByteArray) (w : World) (ha : a ≤ 9223372036854775807) (hs : s.size ≤ 140737488351232) (h : ¬ (n < 0 ∨ 600 < n ∨ a < 0 ∨ c < 0 ∨ n - a < c)) (h6 : ¬ 600 < n - c + (s.size : Int)) :
    Calls Try.prog 30 #[.int .i64 n, .agg #[.int .i64 a, .int .i64 c, .string s]] w fun e w' => e = .returned (.int .i64 0) ∧ Below w.heap.size w w' := by
  have h1 : ¬ n < 0 := by omega
  have h2 : ¬ 600 < n := by omega
  have h3 : ¬ a < 0 := by omega
  have h4 : ¬ c < 0 := by omega
  have h5 : ¬ n - a < c := by omega
  have H := Lib.hid (fun w => sizeAfter n a c s w (by omega) (by omega) (by omega) (by omega) hs)
  clear h
  go_enter Try.func30, Try.ntmps30
  go_wp2_with fail
  refine (H.out _).mono ?_
  rintro e w1 ⟨rfl, hb1⟩
  go_wp2_with fail
  go_ret
  exact ⟨rfl, bstep (balloc (Below.refl _ _) _) hb1⟩

/-- Check, whatever it answers -/
theorem check (n a c : Int) (s : ByteArray) (w : World) (ha : a ≤ 9223372036854775807) (hs : s.size ≤ 140737488351232) :
    Calls Try.prog 30 #[.int .i64 n, .agg #[.int .i64 a, .int .i64 c, .string s]] w fun e w' => e = .returned (.int .i64 (fault n a c s.size)) ∧ Below w.heap.size w w' := by
  by_cases h : n < 0 ∨ 600 < n ∨ a < 0 ∨ c < 0 ∨ n - a < c
  · rw [fault_range h]; exact check_range n a c s w ha h
  · by_cases h6 : 600 < n - c + (s.size : Int)
    · rw [fault_size h h6]; exact check_size n a c s w ha hs h h6
    · rw [fault_ok h h6]; exact check_ok n a c s w ha hs h h6

def long (t : Nat) (n : Nat) : Bool := decide (60 < n) || decide (600 < t)
set_option maxHeartbeats 400000 in
theorem tooLong_no (t : ByteArray) (a : Option Addr) (n cap : Nat) (w : World) (h1 : n ≤ 60) (h2 : t.size ≤ 600) :
    Calls Try.prog 29 #[.string t, .slice a n cap] w fun e w' => e = .returned (.bool false) ∧ w = w' := by
  go_enter Try.func29, Try.ntmps29
  have g1 : decide ((60 : Int) < (n : Int)) = false := by simp; omega
  have g2 : decide ((600 : Int) < (t.size : Int)) = false := by simp; omega
  go_wp2
  go_ret
  exact ⟨rfl, rfl⟩
set_option maxHeartbeats 400000 in
theorem tooLong_yes (t : ByteArray) (a : Option Addr) (n cap : Nat) (w : World) (h : 60 < n ∨ 600 < t.size) :
    Calls Try.prog 29 #[.string t, .slice a n cap] w fun e w' => e = .returned (.bool true) ∧ w = w' := by
  by_cases h1 : 60 < n
  · clear h
    have g1 : decide ((60 : Int) < (n : Int)) = true := by simp; omega
    go_enter Try.func29, Try.ntmps29
    go_wp2
    go_ret
    exact ⟨rfl, rfl⟩
  · have h2 : 600 < t.size := by omega
    clear h
    have g1 : decide ((60 : Int) < (n : Int)) = false := by simp; omega
    have g2 : decide ((600 : Int) < (t.size : Int)) = true := by simp; omega
    go_enter Try.func29, Try.ntmps29
    go_wp2
    go_ret
    exact ⟨rfl, rfl⟩

end Go.Proofs.Ytokfnajgjhkepaa.EditC
