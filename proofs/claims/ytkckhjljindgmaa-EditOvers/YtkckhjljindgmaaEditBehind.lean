/-
  Package edit: what goesBehind answers.
-/
import Derived.Test.YtkckhjljindgmaaChecked
import Derived.Test.YtkckhjljindgmaaEditMath
import Derived.WalkSpells
import Derived.WalkLawsBesides
namespace Go.Proofs.Ytkckhjljindgmaa.EditC
open Go.RowKit Kit EditM

/-- a comes behind the text of b -/
def behind (a b : EdM) : Bool := decide (a.at_ = b.at_) && decide (b.cut = 0) && (decide (0 < a.cut) || (!Op.bytesLess a.put.toList b.put.toList && !(a.put.toList == b.put.toList)))

set_option maxHeartbeats 2000000 in
theorem goesBehind (a b : EdM) (w : World) :
    Calls Try.prog 41 #[.agg #[.int .i64 a.at_, .int .i64 a.cut, .string a.put], .agg #[.int .i64 b.at_, .int .i64 b.cut, .string b.put]] w fun e w' => e = .returned (.bool (behind a b)) ∧ Below w.heap.size w w' := by
  have E := Lib.hid (show behind a b = (decide (a.at_ = b.at_) && decide (b.cut = 0) && (decide (0 < a.cut) || (!Op.bytesLess a.put.toList b.put.toList && !(a.put.toList == b.put.toList)))) from rfl)
  generalize behind a b = r at *
  obtain ⟨a1, a2, a3⟩ := a
  obtain ⟨b1, b2, b3⟩ := b
  dsimp only at E ⊢
  by_cases h1 : a1 = b1
  · have g1 : (a1 == b1) = true := by simpa using h1
    by_cases h2 : b2 = 0
    · have g2 : (b2 == 0) = true := by simpa using h2
      by_cases h3 : 0 < a2
      · have hr : r = true := by rw [E.out]; simp [h1, h2, h3]
        subst hr
        clear h1 h2 E
        go_enter Try.func41, Try.ntmps41
        go_wp2
        go_ret
        exact ⟨rfl, balloc (balloc (Below.refl _ _) _) _⟩
      · have hr : Hid (r = (!Op.bytesLess a3.toList b3.toList && !(a3.toList == b3.toList))) := by show _ = _; rw [E.out]; simp [h1, h2, h3]
        have g3 : decide (0 < a2) = false := by simpa using h3
        clear h1 h2 E
        go_enter Try.func41, Try.ntmps41
        go_wp2
        all_goals (go_ret; exact ⟨ret_bool hr.out.symm, balloc (balloc (Below.refl _ _) _) _⟩)
    · have g2 : (b2 == 0) = false := by simpa using h2
      have hr : r = false := by rw [E.out]; simp [h2]
      subst hr
      clear h1 h2 E
      go_enter Try.func41, Try.ntmps41
      go_wp2
      go_ret
      exact ⟨rfl, balloc (balloc (Below.refl _ _) _) _⟩
  · have g1 : (a1 == b1) = false := by simpa using h1
    have hr : r = false := by rw [E.out]; simp [h1]
    subst hr
    clear h1 E
    go_enter Try.func41, Try.ntmps41
    go_wp2
    go_ret
    exact ⟨rfl, balloc (balloc (Below.refl _ _) _) _⟩

end Go.Proofs.Ytkckhjljindgmaa.EditC
