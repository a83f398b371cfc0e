/-
  Package pos: what May answers, in the code and in the document's answer.
-/
import Derived.Test.YtajnebmijplkeaaLift
import Derived.Test.YtajnebmijplkeaaPosMath
import Derived.Lib.Hide
import Derived.BigQuiet
import Derived.Deep.QuietTactic
import Derived.Deep.RegionHeld3
import Derived.Deep.RegionWith
namespace Go.Proofs.Ytajnebmijplkeaa.PosC
open Go.ChangeShapes Go.WideShapes Go.ChangeAt Go.RowKit PosM

set_option maxHeartbeats 400000 in
theorem fits (x : Int) (w : World) : Calls Try.prog 25 #[.int .i64 x] w fun e w' => e = .returned (.bool (fitsB x)) ∧ w = w' := by
  by_cases h0 : 0 ≤ x
  all_goals by_cases h1 : x ≤ 1099511627776
  all_goals
    go_enter Try.func25, Try.ntmps25
    go_wp2
    go_ret
    exact ⟨by simp [fitsB, h0, h1], rfl⟩

theorem fitsB_not {x : Int} (h : ¬ fitsB x = true) : fitsB x = false := by simpa using h

set_option maxHeartbeats 400000 in
theorem may (b l c : Int) (w : World) : Calls Try.prog 13 #[.agg #[.int .i64 b, .int .i64 l, .int .i64 c]] w fun e w' => e = .returned (.bool (mayB b l c)) ∧ Below w.heap.size w w' := by
  have fin : ∀ v : Obj, Below w.heap.size w (w.alloc v) := fun v => (Below.refl _ _).alloc (Nat.le_refl _) v
  by_cases hb : fitsB b = true
  · by_cases hl : fitsB l = true
    · by_cases hc : fitsB c = true
      · have b1 := (fitsB_iff b).1 hb
        have l1 := (fitsB_iff l).1 hl
        have c1 := (fitsB_iff c).1 hc
        by_cases h0 : l = 0
        · subst h0
          go_enter Try.func13, Try.ntmps13
          go_wp2_with (go_at_call 25; refine (fits _ _).mono ?_; rintro e w' ⟨rfl, rfl⟩)
          go_ret
          exact ⟨by simp [mayB, hb, hl, hc], fin _⟩
        · have h0' : (l == 0) = false := by simpa using h0
          go_enter Try.func13, Try.ntmps13
          go_wp2_with (go_at_call 25; refine (fits _ _).mono ?_; rintro e w' ⟨rfl, rfl⟩)
          go_ret
          exact ⟨by simp [mayB, hb, hl, hc, h0], fin _⟩
      · have hc := fitsB_not hc
        go_enter Try.func13, Try.ntmps13
        go_wp2_with (go_at_call 25; refine (fits _ _).mono ?_; rintro e w' ⟨rfl, rfl⟩)
        go_ret
        exact ⟨by simp [mayB, hb, hl, hc], fin _⟩
    · have hl := fitsB_not hl
      go_enter Try.func13, Try.ntmps13
      go_wp2_with (go_at_call 25; refine (fits _ _).mono ?_; rintro e w' ⟨rfl, rfl⟩)
      go_ret
      exact ⟨by simp [mayB, hb, hl], fin _⟩
  · have hb := fitsB_not hb
    go_enter Try.func13, Try.ntmps13
    go_wp2_with (go_at_call 25; refine (fits _ _).mono ?_; rintro e w' ⟨rfl, rfl⟩)
    go_ret
    exact ⟨by simp [mayB, hb], fin _⟩

theorem notFits {x : Int} (h : x < 0 ∨ 1099511627776 < x) : fitsB x = false := by
  simp [fitsB]; omega

set_option maxHeartbeats 1000000 in
theorem refMay (b l c : Int) (w : World) : Calls Try.prog 14 #[.agg #[.int .i64 b, .int .i64 l, .int .i64 c]] w fun e w' => e = .returned (.bool (mayB b l c)) ∧ Below w.heap.size w w' := by
  have fin : ∀ v u : Obj, Below w.heap.size w ((w.alloc v).alloc u) := fun v u => ((Below.refl _ _).alloc (Nat.le_refl _) v).alloc (by simp) u
  go_enter Try.func14, Try.ntmps14
  go_wp2
  go_loop [13] (fun i => ∃ k : Nat, i = .int .i64 k ∧ k ≤ 3 ∧ (0 < k → 0 ≤ b ∧ b ≤ 1099511627776) ∧ (1 < k → 0 ≤ l ∧ l ≤ 1099511627776) ∧ (2 < k → 0 ≤ c ∧ c ≤ 1099511627776)) (fun i => 3 - (intOf i).toNat)
  case atStart => exact ⟨0, rfl, by omega, by omega, by omega, by omega⟩
  case round =>
    obtain ⟨k, rfl, hk, hb, hl, hc⟩ := hrel
    rcases (by omega : k = 0 ∨ k = 1 ∨ k = 2 ∨ k = 3) with rfl | rfl | rfl | rfl
    · by_cases h : 0 ≤ b ∧ b ≤ 1099511627776
      · have h1 := h.1
        have h2 := h.2
        go_wp2
        exact ⟨⟨1, rfl, by omega, by omega, by omega, by omega⟩, by simp [intOf]⟩
      · have hn := notFits (x := b) (by omega)
        rcases (by omega : b < 0 ∨ 1099511627776 < b) with h1 | h1
        all_goals
          go_wp2
          go_ret
          exact ⟨by simp [mayB, hn], fin _ _⟩
    · have hb := hb (by omega)
      have fb := (fitsB_iff b).2 hb
      by_cases h : 0 ≤ l ∧ l ≤ 1099511627776
      · have h1 := h.1
        have h2 := h.2
        go_wp2
        exact ⟨⟨2, rfl, by omega, by omega, by omega, by omega⟩, by simp [intOf]⟩
      · have hn := notFits (x := l) (by omega)
        rcases (by omega : l < 0 ∨ 1099511627776 < l) with h1 | h1
        all_goals
          go_wp2
          go_ret
          exact ⟨by simp [mayB, hn], fin _ _⟩
    · have hb := hb (by omega)
      have hl := hl (by omega)
      by_cases h : 0 ≤ c ∧ c ≤ 1099511627776
      · have h1 := h.1
        have h2 := h.2
        go_wp2
        exact ⟨⟨3, rfl, by omega, by omega, by omega, by omega⟩, by simp [intOf]⟩
      · have hn := notFits (x := c) (by omega)
        rcases (by omega : c < 0 ∨ 1099511627776 < c) with h1 | h1
        all_goals
          go_wp2
          go_ret
          exact ⟨by simp [mayB, hn], fin _ _⟩
    · have hb := hb (by omega)
      have hl := hl (by omega)
      have hc := hc (by omega)
      have fb := (fitsB_iff b).2 hb
      have fl := (fitsB_iff l).2 hl
      have fc := (fitsB_iff c).2 hc
      obtain ⟨b1, b2⟩ := hb
      obtain ⟨l1, l2⟩ := hl
      obtain ⟨c1, c2⟩ := hc
      by_cases h0 : l = 0
      · subst h0
        go_wp2
        go_ret
        exact ⟨by simp [mayB, fb, fl, fc], fin _ _⟩
      · have h0' : (l == 0) = false := by simpa using h0
        have e : decide (l ≤ b - c) = decide (l + c ≤ b) := by rw [decide_eq_decide]; omega
        have E := Lib.hid e
        clear e
        go_wp2
        go_ret
        exact ⟨by simp [mayB, fb, fl, fc, h0, E.out], fin _ _⟩

/-- a box of three cells at block k, kept while all below is kept -/
def S3 (w : World) (k : Nat) (v0 v1 v2 : Value) (w' : World) : Prop := Below w.heap.size w w' ∧ k < w'.heap.size ∧ w'.cell? ⟨k, 0, none⟩ = some v0 ∧ w'.cell? ⟨k, 1, none⟩ = some v1 ∧ w'.cell? ⟨k, 2, none⟩ = some v2
theorem S3.next {w w1 w2 : World} {k : Nat} {v0 v1 v2 : Value} (h : S3 w k v0 v1 v2 w1) (hb : Below w1.heap.size w1 w2) : S3 w k v0 v1 v2 w2 :=
  ⟨h.1.trans (hb.mono h.1.size), Nat.lt_of_lt_of_le h.2.1 hb.size, (hb.cell h.2.1).trans h.2.2.1, (hb.cell h.2.1).trans h.2.2.2.1, (hb.cell h.2.1).trans h.2.2.2.2⟩
theorem S3.drew {w w1 : World} {k : Nat} {v0 v1 v2 : Value} (h : S3 w k v0 v1 v2 w1) : S3 w k v0 v1 v2 w1.drew := h.next ((Below.refl _ _).drew)
theorem S3.box (w : World) (v0 v1 v2 : Value) (t : TypeId) : S3 w w.heap.size v0 v1 v2 (w.alloc (.cells #[v0, v1, v2] t)) :=
  ⟨(Below.refl _ _).alloc (Nat.le_refl _) _, by simp, by simp, by simp, by simp⟩

set_option maxHeartbeats 400000 in
theorem posMays (b l c : Int) (w : World) : Calls Try.prog 4 #[.agg #[.int .i64 b, .int .i64 l, .int .i64 c]] w fun e w' => e = .returned (.bool true) ∧ Below w.heap.size w w' := by
  go_enter Try.func4, Try.ntmps4
  go_wp2_with fail
  go_region_held3 (fun w' => Below w.heap.size w w' ∧ w.heap.size < w'.heap.size ∧ w'.cell? ⟨w.heap.size, 0, none⟩ = some (.int .i64 b) ∧ w'.cell? ⟨w.heap.size, 1, none⟩ = some (.int .i64 l) ∧ w'.cell? ⟨w.heap.size, 2, none⟩ = some (.int .i64 c))
    (first | exact (S3.box w (.int .i64 b) (.int .i64 l) (.int .i64 c) _).drew | exact S3.next (by assumption) (by assumption) | (trace_state; fail))
    (first | (go_at_call 13; refine (may _ _ _ _).mono ?_; rintro e w' ⟨rfl, hb⟩) | (go_at_call 14; refine (refMay _ _ _ _).mono ?_; rintro e w' ⟨rfl, hb⟩))
  rename_i hH
  have hB := hH.1
  clear hH
  go_wp2
  go_ret
  exact ⟨rfl, hB⟩

end Go.Proofs.Ytajnebmijplkeaa.PosC
