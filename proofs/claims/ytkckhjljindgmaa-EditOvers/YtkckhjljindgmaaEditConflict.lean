/-
  Package edit: what conflict answers.
-/
import Derived.Test.YtkckhjljindgmaaChecked
import Derived.Test.YtkckhjljindgmaaEditMath
import Derived.WalkSpells
import Derived.Deep.Cut
namespace Go.Proofs.Ytkckhjljindgmaa.EditC
open Go.RowKit Kit EditM

theorem two0 (x y : Value) (w : World) : (Instr.index 93 (.agg #[x, y]) (.int .i64 0)).run Try.prog w = .ok x w := by kernel_rfl
theorem two1 (x y : Value) (w : World) : (Instr.index 93 (.agg #[x, y]) (.int .i64 1)).run Try.prog w = .ok y w := by kernel_rfl

set_option maxRecDepth 100000 in
set_option maxHeartbeats 4000000 in
theorem conflict (a b : EdM) (w : World) (a0 : 0 ≤ a.at_) (a1 : a.at_ ≤ 600) (a2 : 0 ≤ a.cut) (a3 : a.cut ≤ 600) (b0 : 0 ≤ b.at_) (b1 : b.at_ ≤ 600) (b2 : 0 ≤ b.cut) (b3 : b.cut ≤ 600) (pa : a.put.size ≤ 140737488351232) (pb : b.put.size ≤ 140737488351232) :
    Calls Try.prog 40 #[.agg #[.int .i64 a.at_, .int .i64 a.cut, .string a.put], .agg #[.int .i64 b.at_, .int .i64 b.cut, .string b.put]] w fun e w' => e = .returned (.bool (clash a b)) ∧ Below w.heap.size w w' := by
  have E : Hid (clash a b = (decide (max a.at_ b.at_ < min (a.at_ + a.cut) (b.at_ + b.cut)) || (decide (0 < a.put.size) && decide (b.at_ < a.at_) && decide (a.at_ < b.at_ + b.cut)) || (decide (0 < b.put.size) && decide (a.at_ < b.at_) && decide (b.at_ < a.at_ + a.cut)))) := by show _ = _; rfl
  generalize clash a b = r at *
  obtain ⟨aa, ac, ap⟩ := a
  obtain ⟨ba, bc, bp⟩ := b
  dsimp only at *
  have i0 := two0
  have i1 := two1
  have hov : (max aa ba < min (aa + ac) (ba + bc)) ∨ ¬ (max aa ba < min (aa + ac) (ba + bc)) := Decidable.em _
  by_cases hA : aa < ba <;> by_cases hB : ba + bc < aa + ac
  all_goals
    rcases hov with hov | hov
    · have hr : r = true := by rw [E.out]; simp only [decide_eq_true hov, Bool.true_or]
      subst hr
      clear E
      have hq1 : ba < ba + bc := by omega
      have hq2 : ba < aa + ac := by omega
      have hq3 : aa < ba + bc := by omega
      have hq4 : aa < aa + ac := by omega
      clear hov
      go_enter Try.func40, Try.ntmps40
      go_wp2
      go_ret
      exact ⟨rfl, balloc (balloc (balloc (balloc (balloc (Below.refl _ _) _) _) _) _) _⟩
    · have hr : Hid (r = ((decide (0 < ap.size) && decide (ba < aa) && decide (aa < ba + bc)) || (decide (0 < bp.size) && decide (aa < ba) && decide (ba < aa + ac)))) := by
        show _ = _
        rw [E.out]; simp only [decide_eq_false hov, Bool.false_or]
      clear E
      first
        | have hq : ¬ ba < ba + bc := by omega
        | have hq : ¬ ba < aa + ac := by omega
        | have hq : ¬ aa < ba + bc := by omega
        | have hq : ¬ aa < aa + ac := by omega
      clear hov
      go_enter Try.func40, Try.ntmps40
      go_wp2
      go_loop [46] (fun i => ∃ j : Int, (j = 0 ∨ (j = 1 ∧ ¬ (0 < ap.size ∧ ba < aa ∧ aa < ba + bc)) ∨ (j = 2 ∧ ¬ (0 < ap.size ∧ ba < aa ∧ aa < ba + bc) ∧ ¬ (0 < bp.size ∧ aa < ba ∧ ba < aa + ac))) ∧ i = .int .i64 j) (fun i => (2 - intOf i).toNat)
      case atStart => exact ⟨0, .inl rfl, rfl⟩
      case round =>
        obtain ⟨j, hj, rfl⟩ := hrel
        rcases hj with rfl | ⟨rfl, hn⟩ | ⟨rfl, hn, hm⟩
        · by_cases g : 0 < ap.size ∧ ba < aa ∧ aa < ba + bc
          · obtain ⟨g1, g2, g3⟩ := g
            go_wp2
            go_ret
            exact ⟨ret_bool (by rw [hr.out]; simp [g1, g2, g3]), balloc (balloc (balloc (balloc (balloc (Below.refl _ _) _) _) _) _) _⟩
          · have hg := Lib.hid g
            by_cases g1 : 0 < ap.size
            · by_cases g2 : ba < aa
              · have g3 : ¬ aa < ba + bc := fun h => g ⟨g1, g2, h⟩
                clear g
                go_wp2
                all_goals
                  go_round
                  case rel => exact ⟨1, .inr (.inl ⟨rfl, hg.out⟩), rfl⟩
                  case measure => simp [intOf]
              · clear g
                go_wp2
                all_goals
                  go_round
                  case rel => exact ⟨1, .inr (.inl ⟨rfl, hg.out⟩), rfl⟩
                  case measure => simp [intOf]
            · clear g
              go_wp2
              all_goals
                go_round
                case rel => exact ⟨1, .inr (.inl ⟨rfl, hg.out⟩), rfl⟩
                case measure => simp [intOf]
        · have hn' := Lib.hid hn
          clear hn
          by_cases g : 0 < bp.size ∧ aa < ba ∧ ba < aa + ac
          · obtain ⟨g1, g2, g3⟩ := g
            go_wp2
            go_ret
            exact ⟨ret_bool (by rw [hr.out]; simp [g1, g2, g3]), balloc (balloc (balloc (balloc (balloc (Below.refl _ _) _) _) _) _) _⟩
          · have hg := Lib.hid g
            by_cases g1 : 0 < bp.size
            · by_cases g2 : aa < ba
              · have g3 : ¬ ba < aa + ac := fun h => g ⟨g1, g2, h⟩
                clear g
                go_wp2
                all_goals
                  go_round
                  case rel => exact ⟨2, .inr (.inr ⟨rfl, hn'.out, hg.out⟩), rfl⟩
                  case measure => simp [intOf]
              · clear g
                go_wp2
                all_goals
                  go_round
                  case rel => exact ⟨2, .inr (.inr ⟨rfl, hn'.out, hg.out⟩), rfl⟩
                  case measure => simp [intOf]
            · clear g
              go_wp2
              all_goals
                go_round
                case rel => exact ⟨2, .inr (.inr ⟨rfl, hn'.out, hg.out⟩), rfl⟩
                case measure => simp [intOf]
        · have hf : r = false := by
            rw [hr.out]
            have e1 : (decide (0 < ap.size) && decide (ba < aa) && decide (aa < ba + bc)) = false := by
              rw [← Bool.not_eq_true]; intro h; simp at h; exact hn ⟨h.1.1, h.1.2, h.2⟩
            have e2 : (decide (0 < bp.size) && decide (aa < ba) && decide (ba < aa + ac)) = false := by
              rw [← Bool.not_eq_true]; intro h; simp at h; exact hm ⟨h.1.1, h.1.2, h.2⟩
            rw [e1, e2]; rfl
          subst hf
          clear hr hn hm
          go_wp2
          go_ret
          exact ⟨rfl, balloc (balloc (balloc (balloc (balloc (Below.refl _ _) _) _) _) _) _⟩

end Go.Proofs.Ytkckhjljindgmaa.EditC
