/-
  Package edit: what Place answers.
-/
import Derived.Test.YtfikolidmpjfcaaChecked
import Derived.Test.YtfikolidmpjfcaaEditMath
import Derived.WalkSpells
namespace Go.Proofs.Ytfikolidmpjfcaa.EditC
open Go.RowKit Kit EditM

theorem idx0 (x y z : Value) (w : World) : (Instr.index 80 (.agg #[x, y, z]) (.int .i64 0)).run Try.prog w = .ok x w := by kernel_rfl
theorem idx1 (x y z : Value) (w : World) : (Instr.index 80 (.agg #[x, y, z]) (.int .i64 1)).run Try.prog w = .ok y w := by kernel_rfl
theorem idx2 (x y z : Value) (w : World) : (Instr.index 80 (.agg #[x, y, z]) (.int .i64 2)).run Try.prog w = .ok z w := by kernel_rfl

set_option maxHeartbeats 2000000 in
theorem place_ok (a c x : Int) (s : ByteArray) (r : Bool) (w : World) (a0 : 0 ≤ a) (a1 : a ≤ 1099511627776) (c0 : 0 ≤ c) (c1 : c ≤ 1099511627776) (x0 : 0 ≤ x) (x1 : x ≤ 1099511627776) (hs : s.size ≤ 140737488351232) :
    Calls Try.prog 51 #[.agg #[.int .i64 a, .int .i64 c, .string s], .int .i64 x, .bool r] w fun e w' => e = .returned (.tuple #[.int .i64 (placed a c s.size x r), .int .i64 0]) ∧ Below w.heap.size w w' := by
  have i0 := idx0
  have i1 := idx1
  have i2 := idx2
  go_enter Try.func51, Try.ntmps51
  go_wp2
  go_loop [9, 16] (fun _ i => ∃ j : Int, (j = 0 ∨ j = 1 ∨ j = 2 ∨ j = 3) ∧ i = .int .i64 j) (fun _ i => (3 - intOf i).toNat)
  case atStart => exact ⟨0, .inl rfl, rfl⟩
  case round =>
    obtain ⟨j, hj, rfl⟩ := hrel
    rcases hj with rfl | rfl | rfl | rfl
    · go_wp2
      go_round
      case rel => exact ⟨1, by omega, rfl⟩
      case measure => simp [intOf]
    · go_wp2
      go_round
      case rel => exact ⟨2, by omega, rfl⟩
      case measure => simp [intOf]
    · go_wp2
      go_round
      case rel => exact ⟨3, by omega, rfl⟩
      case measure => simp [intOf]
    · clear i0 i1 i2
      by_cases h1 : x < a
      · go_wp2
        go_ret2
        exact ⟨ret_two (by unfold placed; rw [if_pos h1]), balloc (Below.refl _ _) _⟩
      · by_cases h2 : x < a + c ∨ (c = 0 ∧ x = a)
        · have hm : x < a + max c 1 := by omega
          have hv : Hid (placed a c s.size x r = if r then a + (s.size : Int) else a) := by
            show _ = _
            unfold placed; rw [if_neg h1, if_pos h2]
          clear h2
          cases r
          · go_wp2
            all_goals (go_ret2; exact ⟨ret_two (by rw [hv.out]; rfl), balloc (Below.refl _ _) _⟩)
          · go_wp2
            all_goals (go_ret2; exact ⟨ret_two (by rw [hv.out]; rfl), balloc (Below.refl _ _) _⟩)
        · have hm : ¬ x < a + max c 1 := by omega
          have hv : Hid (placed a c s.size x r = x + (s.size : Int) - c) := by
            show _ = _
            unfold placed; rw [if_neg h1, if_neg h2]
          have h3 : c ≤ x := by omega
          clear h2
          go_wp2
          all_goals (go_ret2; exact ⟨ret_two (by rw [hv.out]), balloc (Below.refl _ _) _⟩)

set_option maxHeartbeats 2000000 in
theorem place_range (a c x : Int) (s : ByteArray) (r : Bool) (w : World) (h : ¬ ((0 ≤ a ∧ a ≤ 1099511627776) ∧ (0 ≤ c ∧ c ≤ 1099511627776) ∧ 0 ≤ x ∧ x ≤ 1099511627776)) :
    Calls Try.prog 51 #[.agg #[.int .i64 a, .int .i64 c, .string s], .int .i64 x, .bool r] w fun e w' => e = .returned (.tuple #[.int .i64 0, .int .i64 2]) ∧ Below w.heap.size w w' := by
  have i0 := idx0
  have i1 := idx1
  have i2 := idx2
  go_enter Try.func51, Try.ntmps51
  go_wp2
  go_loop [9, 16] (fun _ i => ∃ j : Int, (j = 0 ∨ (j = 1 ∧ 0 ≤ a ∧ a ≤ 1099511627776) ∨ (j = 2 ∧ 0 ≤ a ∧ a ≤ 1099511627776 ∧ 0 ≤ c ∧ c ≤ 1099511627776)) ∧ i = .int .i64 j) (fun _ i => (3 - intOf i).toNat)
  case atStart => exact ⟨0, .inl rfl, rfl⟩
  case round =>
    obtain ⟨j, hj, rfl⟩ := hrel
    rcases hj with rfl | ⟨rfl, h1, h2⟩ | ⟨rfl, h1, h2, h3, h4⟩
    · by_cases g : 0 ≤ a
      · by_cases g2 : a ≤ 1099511627776
        · go_wp2
          go_round
          case rel => exact ⟨1, .inr (.inl ⟨rfl, g, g2⟩), rfl⟩
          case measure => simp [intOf]
        · go_wp2
          go_ret2
          exact ⟨rfl, balloc (Below.refl _ _) _⟩
      · have g' : a < 0 := by omega
        go_wp2
        go_ret2
        exact ⟨rfl, balloc (Below.refl _ _) _⟩
    · by_cases g : 0 ≤ c
      · by_cases g2 : c ≤ 1099511627776
        · go_wp2
          go_round
          case rel => exact ⟨2, .inr (.inr ⟨rfl, h1, h2, g, g2⟩), rfl⟩
          case measure => simp [intOf]
        · go_wp2
          go_ret2
          exact ⟨rfl, balloc (Below.refl _ _) _⟩
      · have g' : c < 0 := by omega
        go_wp2
        go_ret2
        exact ⟨rfl, balloc (Below.refl _ _) _⟩
    · by_cases g : 0 ≤ x
      · have g2 : 1099511627776 < x := by omega
        clear h
        go_wp2
        go_ret2
        exact ⟨rfl, balloc (Below.refl _ _) _⟩
      · have g' : x < 0 := by omega
        clear h
        go_wp2
        go_ret2
        exact ⟨rfl, balloc (Below.refl _ _) _⟩

end Go.Proofs.Ytfikolidmpjfcaa.EditC
