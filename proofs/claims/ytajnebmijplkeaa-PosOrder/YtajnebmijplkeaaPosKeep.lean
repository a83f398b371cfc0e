/-
  Package pos: the laws PosBack and PosOrder.
-/
import Derived.Test.YtajnebmijplkeaaPosFind
import Derived.Test.YtajnebmijplkeaaTexts
namespace Go.Proofs.Ytajnebmijplkeaa.PosC
open Go.ChangeShapes Go.WideShapes Go.ChangeAt Go.RowKit PosM Kit StrC Txt

theorem lns_take_le (l : List UInt8) (k : Nat) : lns (l.take k) ≤ lns l := by
  conv => rhs; rw [← List.take_append_drop k l]
  rw [lns_append]; omega

/-- a place is found by its line and column -/
theorem find_at (s : ByteArray) (k : Nat) (w : World) (hs : s.size ≤ maxLen) (hk : k ≤ s.size) :
    Calls Try.prog 19 #[.string s, .int .i64 (lns (s.data.toList.take k)), .int .i64 (col (s.data.toList.take k))] w fun e w' => e = .returned (.tuple #[.int .i64 k, .int .i64 0]) ∧ w = w' := by
  have hlen : s.data.toList.length = s.size := by simp
  have hL := lns_take_le s.data.toList k
  obtain ⟨h1, h2, h3⟩ := lineAt_spec s.data.toList _ hL
  have hp := (place_iff s.data.toList h1 h2 h3 (at' := k) (by omega)).1 ⟨rfl, rfl⟩
  have := find_yes s _ _ w hs hL hp.2
  rw [← hp.1] at this
  exact this

theorem field0 (v0 v1 v2 : Value) (w : World) : (Instr.field 23 (.agg #[v0, v1, v2]) 0).run Try.prog w = .ok v0 w := by kernel_rfl
theorem field1' (v0 v1 v2 : Value) (w : World) : (Instr.field 23 (.agg #[v0, v1, v2]) 1).run Try.prog w = .ok v1 w := by kernel_rfl

set_option maxHeartbeats 1000000 in
theorem posBack (a : Option Addr) (len cap : Nat) (zs : List Int) (at' : Int) (w : World) (h : Lift.IsRow .i64 w a len cap zs) (_w1 : (Lit.int .i64 at').wf = true) :
    Calls Try.prog 9 #[.slice a len cap, .int .i64 at'] w fun e w' => e = .returned (.bool true) ∧ Below w.heap.size w w' := by
  have HT := Lib.hid (fun w' (e : w = w') => e ▸ textOf a len cap zs 100 w h (by omega))
  have hz := textS_size ((zs.take len).take 100)
  have hs : (textS ((zs.take len).take 100)).size ≤ 100 := by rw [hz, List.length_take]; omega
  clear h hz
  generalize textS ((zs.take len).take 100) = s at *
  have hm : s.size ≤ maxLen := by unfold maxLen; omega
  obtain ⟨k, hk⟩ := Int.eq_ofNat_of_zero_le (Int.emod_nonneg at' (show ((s.size : Int) + 1) ≠ 0 by omega))
  have hk2 : k ≤ s.size := by have := Int.emod_lt_of_pos at' (show (0 : Int) < (s.size : Int) + 1 by omega); omega
  have HP := Lib.hid (fun w => picked at' ((s.size : Int) + 1) w (by omega) (by omega))
  rw [hk] at HP
  clear hk
  have HA := Lib.hid (fun w => at_yes s k w hm hk2)
  have HF := Lib.hid (fun w => find_at s k w hm hk2)
  have hll := lns_col_le s.data.toList
  have hlen : s.data.toList.length = s.size := by simp
  rw [hlen] at hll
  have HG := Lib.hid (fun w => find_range s ((lns s.data.toList : Int) + 1) 0 w hm (by omega) (by omega))
  clear hlen
  have hfl := field1'
  go_enter Try.func9, Try.ntmps9
  go_wp2_with fail
  refine (HT.out _ rfl).mono ?_
  rintro e w1 ⟨rfl, rfl⟩
  go_wp2_with fail
  refine (HP.out _).mono ?_
  rintro e w1 ⟨rfl, rfl⟩
  go_wp2_with fail
  refine (HA.out _).mono ?_
  rintro e w1 ⟨rfl, hb1⟩
  go_wp2_with fail
  refine (HF.out _).mono ?_
  rintro e w1 ⟨rfl, rfl⟩
  go_wp2_with fail
  refine (of s _ hm).mono ?_
  rintro e w2 ⟨rfl, hb2⟩
  obtain ⟨hc2, hf2, _⟩ := bfacts hb2
  go_wp2_with fail
  refine (HG.out _).mono ?_
  rintro e w3 ⟨rfl, rfl⟩
  go_wp2_with fail
  go_ret
  refine ⟨by simp, ?_⟩
  repeat (first | exact Below.refl _ _ | refine balloc ?_ _ | refine Below.setCell ?_ (by simp; omega) _ | refine bstep ?_ (by assumption) | refine Below.drew ?_)

theorem lit3 : (⟨#[98, 10, 97]⟩ : ByteArray).size = 3 := rfl

set_option maxHeartbeats 1000000 in
theorem posOrder (a : Option Addr) (len cap : Nat) (zs : List Int) (x y : Int) (w : World) (h : Lift.IsRow .i64 w a len cap zs) (_w1 : (Lit.int .i64 x).wf = true) (_w2 : (Lit.int .i64 y).wf = true) :
    Calls Try.prog 10 #[.slice a len cap, .int .i64 x, .int .i64 y] w fun e w' => e = .returned (.bool true) ∧ Below w.heap.size w w' := by
  have HT := Lib.hid (fun w' (e : w = w') => e ▸ textOf a len cap zs 100 w h (by omega))
  have hz := textS_size ((zs.take len).take 100)
  have hs : (textS ((zs.take len).take 100)).size ≤ 100 := by rw [hz, List.length_take]; omega
  clear h hz
  generalize textS ((zs.take len).take 100) = s at *
  have hm : s.size ≤ maxLen := by unfold maxLen; omega
  obtain ⟨i, hi⟩ := Int.eq_ofNat_of_zero_le (Int.emod_nonneg x (show ((s.size : Int) + 1) ≠ 0 by omega))
  have hi2 : i ≤ s.size := by have := Int.emod_lt_of_pos x (show (0 : Int) < (s.size : Int) + 1 by omega); omega
  have HP := Lib.hid (fun w => picked x ((s.size : Int) + 1) w (by omega) (by omega))
  rw [hi] at HP
  obtain ⟨k, hk⟩ := Int.eq_ofNat_of_zero_le (Int.emod_nonneg y (show ((s.size : Int) + 1) ≠ 0 by omega))
  have hk2 : k ≤ s.size := by have := Int.emod_lt_of_pos y (show (0 : Int) < (s.size : Int) + 1 by omega); omega
  have HQ := Lib.hid (fun w => picked y ((s.size : Int) + 1) w (by omega) (by omega))
  rw [hk] at HQ
  clear hk hi
  have HO := Lib.hid (fun w => of ⟨#[98, 10, 97]⟩ w (by rw [lit3]; decide))
  have e3 : ((⟨#[98, 10, 97]⟩ : ByteArray).size : Int) = 3 := rfl
  rw [e3] at HO
  clear e3
  have hfl := field0
  have ha := fun w => at_yes s (min i k) w hm (by omega)
  rw [show ((min i k : Nat) : Int) = min (i : Int) (k : Int) by omega] at ha
  have HA := Lib.hid ha
  have hb := fun w => at_yes s (max i k) w hm (by omega)
  rw [show ((max i k : Nat) : Int) = max (i : Int) (k : Int) by omega] at hb
  have HB := Lib.hid hb
  clear ha hb
  by_cases hik : i = k
  · subst hik
    rw [Nat.min_self, Int.min_self] at HA
    rw [Nat.max_self, Int.max_self] at HB
    go_enter Try.func10, Try.ntmps10
    go_wp2_with fail
    refine (HT.out _ rfl).mono ?_
    rintro e w1 ⟨rfl, rfl⟩
    go_wp2_with fail
    refine (HP.out _).mono ?_
    rintro e w1 ⟨rfl, rfl⟩
    go_wp2_with fail
    refine (HQ.out _).mono ?_
    rintro e w1 ⟨rfl, rfl⟩
    go_wp2_with fail
    refine (HA.out _).mono ?_
    rintro e w1 ⟨rfl, hb1⟩
    go_wp2_with fail
    refine (HB.out _).mono ?_
    rintro e w2 ⟨rfl, hb2⟩
    obtain ⟨hc2, hf2, _⟩ := bfacts hb2
    have z2 : w1.heap.size < w2.heap.size := by have := hb2.size; simp at this; omega
    go_wp2_with fail
    refine (HO.out _).mono ?_
    rintro e w3 ⟨rfl, hb3⟩
    obtain ⟨hc3, hf3, _⟩ := bfacts hb3
    go_wp2_with fail
    go_ret
    refine ⟨by simp, ?_⟩
    repeat (first | exact Below.refl _ _ | refine balloc ?_ _ | refine Below.setCell ?_ (by simp; omega) _ | refine bstep ?_ (by assumption) | refine Below.drew ?_)
  · have hlt := pos_lt s.data.toList (show min i k < max i k by omega) (by simp; omega)
    have t0 : ((i : Int) == (k : Int)) = false := by simp; omega
    generalize lns (List.take (min i k) s.data.toList) = l1 at *
    generalize lns (List.take (max i k) s.data.toList) = l2 at *
    generalize col (List.take (min i k) s.data.toList) = c1 at *
    generalize col (List.take (max i k) s.data.toList) = c2 at *
    rcases hlt with hlt | ⟨rfl, hlt⟩
    · clear hik
      go_enter Try.func10, Try.ntmps10
      go_wp2_with fail
      refine (HT.out _ rfl).mono ?_
      rintro e w1 ⟨rfl, rfl⟩
      go_wp2_with fail
      refine (HP.out _).mono ?_
      rintro e w1 ⟨rfl, rfl⟩
      go_wp2_with fail
      refine (HQ.out _).mono ?_
      rintro e w1 ⟨rfl, rfl⟩
      go_wp2_with fail
      refine (HA.out _).mono ?_
      rintro e w1 ⟨rfl, hb1⟩
      go_wp2_with fail
      refine (HB.out _).mono ?_
      rintro e w2 ⟨rfl, hb2⟩
      obtain ⟨hc2, hf2, _⟩ := bfacts hb2
      have z2 : w1.heap.size < w2.heap.size := by have := hb2.size; simp at this; omega
      go_wp2_with fail
      refine (HO.out _).mono ?_
      rintro e w3 ⟨rfl, hb3⟩
      obtain ⟨hc3, hf3, _⟩ := bfacts hb3
      go_wp2_with fail
      go_ret
      refine ⟨by simp, ?_⟩
      repeat (first | exact Below.refl _ _ | refine balloc ?_ _ | refine Below.setCell ?_ (by simp; omega) _ | refine bstep ?_ (by assumption) | refine Below.drew ?_)
    · clear hik
      go_enter Try.func10, Try.ntmps10
      go_wp2_with fail
      refine (HT.out _ rfl).mono ?_
      rintro e w1 ⟨rfl, rfl⟩
      go_wp2_with fail
      refine (HP.out _).mono ?_
      rintro e w1 ⟨rfl, rfl⟩
      go_wp2_with fail
      refine (HQ.out _).mono ?_
      rintro e w1 ⟨rfl, rfl⟩
      go_wp2_with fail
      refine (HA.out _).mono ?_
      rintro e w1 ⟨rfl, hb1⟩
      go_wp2_with fail
      refine (HB.out _).mono ?_
      rintro e w2 ⟨rfl, hb2⟩
      obtain ⟨hc2, hf2, _⟩ := bfacts hb2
      have z2 : w1.heap.size < w2.heap.size := by have := hb2.size; simp at this; omega
      go_wp2_with fail
      refine (HO.out _).mono ?_
      rintro e w3 ⟨rfl, hb3⟩
      obtain ⟨hc3, hf3, _⟩ := bfacts hb3
      go_wp2_with fail
      go_ret
      refine ⟨by simp, ?_⟩
      repeat (first | exact Below.refl _ _ | refine balloc ?_ _ | refine Below.setCell ?_ (by simp; omega) _ | refine bstep ?_ (by assumption) | refine Below.drew ?_)

end Go.Proofs.Ytajnebmijplkeaa.PosC
