/-
  Package pos: what May answers.
-/
import Derived.Test.YtkckhjljindgmaaLift
import Derived.Test.YtkckhjljindgmaaPosMath
import Derived.Lib.Hide
import Derived.BigQuiet
import Derived.Deep.QuietTactic
import Derived.Deep.RegionHeld3
import Derived.Deep.RegionWith
namespace Go.Proofs.Ytkckhjljindgmaa.PosC
open Go.ChangeShapes Go.WideShapes Go.ChangeAt Go.RowKit PosM

set_option maxHeartbeats 400000 in
theorem fits (x : Int) (w : World) : Calls Try.prog 82 #[.int .i64 x] w fun e w' => e = .returned (.bool (fitsB x)) ∧ w = w' := by
  by_cases h0 : 0 ≤ x
  all_goals by_cases h1 : x ≤ 1099511627776
  all_goals
    go_enter Try.func82, Try.ntmps82
    go_wp2
    go_ret
    exact ⟨by simp [fitsB, h0, h1], rfl⟩

theorem fitsB_not {x : Int} (h : ¬ fitsB x = true) : fitsB x = false := by simpa using h

set_option maxHeartbeats 400000 in
theorem may (b l c : Int) (w : World) : Calls Try.prog 73 #[.agg #[.int .i64 b, .int .i64 l, .int .i64 c]] w fun e w' => e = .returned (.bool (mayB b l c)) ∧ Below w.heap.size w w' := by
  have fin : ∀ v : Obj, Below w.heap.size w (w.alloc v) := fun v => (Below.refl _ _).alloc (Nat.le_refl _) v
  by_cases hb : fitsB b = true
  · by_cases hl : fitsB l = true
    · by_cases hc : fitsB c = true
      · have b1 := (fitsB_iff b).1 hb
        have l1 := (fitsB_iff l).1 hl
        have c1 := (fitsB_iff c).1 hc
        by_cases h0 : l = 0
        · subst h0
          go_enter Try.func73, Try.ntmps73
          go_wp2_with (go_at_call 82; refine (fits _ _).mono ?_; rintro e w' ⟨rfl, rfl⟩)
          go_ret
          exact ⟨by simp [mayB, hb, hl, hc], fin _⟩
        · have h0' : (l == 0) = false := by simpa using h0
          go_enter Try.func73, Try.ntmps73
          go_wp2_with (go_at_call 82; refine (fits _ _).mono ?_; rintro e w' ⟨rfl, rfl⟩)
          go_ret
          exact ⟨by simp [mayB, hb, hl, hc, h0], fin _⟩
      · have hc := fitsB_not hc
        go_enter Try.func73, Try.ntmps73
        go_wp2_with (go_at_call 82; refine (fits _ _).mono ?_; rintro e w' ⟨rfl, rfl⟩)
        go_ret
        exact ⟨by simp [mayB, hb, hl, hc], fin _⟩
    · have hl := fitsB_not hl
      go_enter Try.func73, Try.ntmps73
      go_wp2_with (go_at_call 82; refine (fits _ _).mono ?_; rintro e w' ⟨rfl, rfl⟩)
      go_ret
      exact ⟨by simp [mayB, hb, hl], fin _⟩
  · have hb := fitsB_not hb
    go_enter Try.func73, Try.ntmps73
    go_wp2_with (go_at_call 82; refine (fits _ _).mono ?_; rintro e w' ⟨rfl, rfl⟩)
    go_ret
    exact ⟨by simp [mayB, hb], fin _⟩

theorem notFits {x : Int} (h : x < 0 ∨ 1099511627776 < x) : fitsB x = false := by
  simp [fitsB]; omega

end Go.Proofs.Ytkckhjljindgmaa.PosC
