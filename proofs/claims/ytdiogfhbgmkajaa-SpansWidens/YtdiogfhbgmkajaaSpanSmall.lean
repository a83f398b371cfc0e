/-
  Package spans: what empty, before, from, within and bounded answer.
-/
import Derived.Test.YtdiogfhbgmkajaaSpanAt
import Derived.WalkSpells
namespace Go.Proofs.Ytdiogfhbgmkajaa.SpanC
open Go.RowKit Kit SpanM

theorem ret_bool {a b : Bool} (h : a = b) : Ending.returned (.bool a) = .returned (.bool b) := by rw [h]
set_option maxHeartbeats 400000 in
theorem empty (s : SpM) (w : World) :
    Calls Try.prog 58 #[.agg #[.int .i64 s.lo, .int .i64 s.hi]] w fun e w' => e = .returned (.bool (decide (Emp s))) ∧ Below w.heap.size w w' := by
  have E : Hid (decide (Emp s) = decide (s.hi ≤ s.lo)) := Lib.hid rfl
  go_enter Try.func58, Try.ntmps58
  go_wp2
  go_ret
  exact ⟨ret_bool (by rw [E.out]; try rfl), balloc (Below.refl _ _) _⟩
theorem ret_two {k k' : IntKind} {a b c d : Int} (h : a = b) (h' : c = d) : Ending.returned (.agg #[.int k a, .int k' c]) = .returned (.agg #[.int k b, .int k' d]) := by rw [h, h']
set_option maxHeartbeats 400000 in
theorem before (s : SpM) (x : Int) (w : World) :
    Calls Try.prog 45 #[.agg #[.int .i64 s.lo, .int .i64 s.hi], .int .i64 x] w fun e w' => e = .returned (.agg #[.int .i64 (befS s x).lo, .int .i64 (befS s x).hi]) ∧ Below w.heap.size w w' := by
  by_cases h : x < s.hi
  · have E : Hid ((befS s x).lo = s.lo ∧ (befS s x).hi = x) := Lib.hid ⟨by unfold befS; dsimp only; try omega, by unfold befS; dsimp only; try omega⟩
    go_enter Try.func45, Try.ntmps45
    go_wp2
    refine bodyPost_ret (v := .agg #[.int .i64 (befS s x).lo, .int .i64 (befS s x).hi]) (by rw [E.out.1, E.out.2]; simp [results, Try.results45, go_sem]) rfl ⟨rfl, balloc (balloc (Below.refl _ _) _) _⟩
  · have E : Hid ((befS s x).lo = s.lo ∧ (befS s x).hi = s.hi) := Lib.hid ⟨by unfold befS; dsimp only; try omega, by unfold befS; dsimp only; try omega⟩
    go_enter Try.func45, Try.ntmps45
    go_wp2
    refine bodyPost_ret (v := .agg #[.int .i64 (befS s x).lo, .int .i64 (befS s x).hi]) (by rw [E.out.1, E.out.2]; simp [results, Try.results45, go_sem]) rfl ⟨rfl, balloc (balloc (Below.refl _ _) _) _⟩
set_option maxHeartbeats 400000 in
theorem from_ (s : SpM) (x : Int) (w : World) :
    Calls Try.prog 47 #[.agg #[.int .i64 s.lo, .int .i64 s.hi], .int .i64 x] w fun e w' => e = .returned (.agg #[.int .i64 (froS s x).lo, .int .i64 (froS s x).hi]) ∧ Below w.heap.size w w' := by
  by_cases h : s.lo < x
  · have E : Hid ((froS s x).lo = x ∧ (froS s x).hi = s.hi) := Lib.hid ⟨by unfold froS; dsimp only; try omega, by unfold froS; dsimp only; try omega⟩
    go_enter Try.func47, Try.ntmps47
    go_wp2
    refine bodyPost_ret (v := .agg #[.int .i64 (froS s x).lo, .int .i64 (froS s x).hi]) (by rw [E.out.1, E.out.2]; simp [results, Try.results47, go_sem]) rfl ⟨rfl, balloc (balloc (Below.refl _ _) _) _⟩
  · have E : Hid ((froS s x).lo = s.lo ∧ (froS s x).hi = s.hi) := Lib.hid ⟨by unfold froS; dsimp only; try omega, by unfold froS; dsimp only; try omega⟩
    go_enter Try.func47, Try.ntmps47
    go_wp2
    refine bodyPost_ret (v := .agg #[.int .i64 (froS s x).lo, .int .i64 (froS s x).hi]) (by rw [E.out.1, E.out.2]; simp [results, Try.results47, go_sem]) rfl ⟨rfl, balloc (balloc (Below.refl _ _) _) _⟩
def WithinP (n : Int) (s : SpM) : Prop := 0 ≤ s.lo ∧ s.lo ≤ s.hi ∧ s.hi ≤ n
instance (n : Int) (s : SpM) : Decidable (WithinP n s) := by unfold WithinP; infer_instance
set_option maxHeartbeats 800000 in
theorem within (n : Int) (s : SpM) (w : World) :
    Calls Try.prog 50 #[.int .i64 n, .agg #[.int .i64 s.lo, .int .i64 s.hi]] w fun e w' => e = .returned (.bool (decide (WithinP n s))) ∧ Below w.heap.size w w' := by
  by_cases h1 : 0 ≤ s.lo
  · by_cases h2 : s.lo ≤ s.hi
    · have E : Hid (decide (WithinP n s) = decide (s.hi ≤ n)) := Lib.hid (decide_eq_decide.2 ⟨fun h => h.2.2, fun h => ⟨h1, h2, h⟩⟩)
      go_enter Try.func50, Try.ntmps50
      go_wp2
      all_goals (go_ret; exact ⟨ret_bool (by rw [E.out]; try simp [*]), balloc (Below.refl _ _) _⟩)
    · have E : Hid (decide (WithinP n s) = false) := Lib.hid (decide_eq_false fun h => by unfold WithinP at h; omega)
      have g : decide (s.lo ≤ s.hi) = false := decide_eq_false h2
      go_enter Try.func50, Try.ntmps50
      go_wp2
      go_ret
      exact ⟨ret_bool E.out.symm, balloc (Below.refl _ _) _⟩
  · have E : Hid (decide (WithinP n s) = false) := Lib.hid (decide_eq_false fun h => by unfold WithinP at h; omega)
    have g : decide (0 ≤ s.lo) = false := decide_eq_false h1
    go_enter Try.func50, Try.ntmps50
    go_wp2
    go_ret
    exact ⟨ret_bool E.out.symm, balloc (Below.refl _ _) _⟩
set_option maxHeartbeats 400000 in
theorem bounded_ok (a : Option Addr) (n cap : Nat) (w : World) (h : n ≤ 40) :
    Calls Try.prog 37 #[.slice a n cap] w fun e w' => e = .returned (.tuple #[.slice a n cap, .int .i64 0]) ∧ w = w' := by
  have g : ¬ (40 : Int) < (n : Int) := by omega
  go_enter Try.func37, Try.ntmps37
  go_wp2
  go_ret2
  exact ⟨rfl, rfl⟩
set_option maxHeartbeats 400000 in
theorem bounded_full (a : Option Addr) (n cap : Nat) (w : World) (h : 40 < n) :
    Calls Try.prog 37 #[.slice a n cap] w fun e w' => e = .returned (.tuple #[.slice none 0 0, .int .i64 8]) ∧ w = w' := by
  have g : (40 : Int) < (n : Int) := by omega
  go_enter Try.func37, Try.ntmps37
  go_wp2
  go_ret2
  exact ⟨rfl, rfl⟩
end Go.Proofs.Ytdiogfhbgmkajaa.SpanC
