/-
  The law LinesJoin, walked.
-/
import Derived.Test.YtfikolidmpjfcaaLineV
import Derived.Test.YtfikolidmpjfcaaLineAppend
import Derived.Test.YtfikolidmpjfcaaTexts
import Derived.RegionTactic
namespace Go.Proofs.Ytfikolidmpjfcaa.LineK
open Go.RowKit Kit EditM LineM Txt Lift

set_option maxRecDepth 100000 in
set_option maxHeartbeats 4000000 in
theorem linesJoin (a0 : Option Addr) (len0 cap0 : Nat) (z0 : List Int) (a1 : Option Addr) (len1 cap1 : Nat) (z1 : List Int) (w : World) (h0 : IsRow .i64 w a0 len0 cap0 z0) (h1 : IsRow .i64 w a1 len1 cap1 z1) :
    Calls Try.prog 8 #[.slice a0 len0 cap0, .slice a1 len1 cap1] w fun e w' => e = .returned (.bool true) ∧ Below w.heap.size w w' := by
  have TA := Lib.hid (textOf a0 len0 cap0 z0 80 w h0 (by omega))
  have TB := Lib.hid (textOf a1 len1 cap1 z1 80 w h1 (by omega))
  have ha : (textS ((z0.take len0).take 80)).size ≤ 80 := by rw [textS_size]; simp only [List.length_take]; omega
  have hb : (textS ((z1.take len1).take 80)).size ≤ 80 := by rw [textS_size]; simp only [List.length_take]; omega
  generalize textS ((z0.take len0).take 80) = s at *
  generalize textS ((z1.take len1).take 80) = t at *
  have hst : (s ++ t).size = s.size + t.size := ByteArray.size_append
  have SA := Lib.hid (fun W => LineC.starts s W (by omega))
  have SB := Lib.hid (fun W => LineC.starts t W (by omega))
  have SC := Lib.hid (fun W => LineC.starts (s ++ t) W (by omega))
  have ej : (s ++ t).data.toList = s.data.toList ++ t.data.toList := by rw [ByteArray.data_append, Array.toList_append]
  rw [ej] at SC
  have JL := join_len s.data.toList t.data.toList
  have JLo := Lib.hid (fun i h => join_low (a := s.data.toList) (b := t.data.toList) (i := i) h)
  have JHi := Lib.hid (fun q y h => join_high (a := s.data.toList) (b := t.data.toList) (q := q) (y := y) h)
  rw [size_list] at JHi
  have fa := LineC.sts_few (t := s.data.toList) (m := 80) (by rw [size_list]; exact ha)
  have fb := LineC.sts_few (t := t.data.toList) (m := 80) (by rw [size_list]; exact hb)
  have na : 1 ≤ (sts s.data.toList).length := by rw [sts_len]; omega
  have nb : 1 ≤ (sts t.data.toList).length := by rw [sts_len]; omega
  have YB : Hid (∀ y ∈ sts t.data.toList, 0 ≤ y ∧ y ≤ 600) := Lib.hid fun y hy => by have := sts_rng hy; rw [size_list] at this; omega
  generalize sts (s.data.toList ++ t.data.toList) = zs at *
  generalize sts s.data.toList = xs at *
  generalize sts t.data.toList = ys at *
  have HX : Hid (∀ i, i < xs.length → xs[i]? = some (xs.getD i 0)) := Lib.hid fun i hi => by simp [List.getD, hi]
  have HY : Hid (∀ i, i < ys.length → ys[i]? = some (ys.getD i 0)) := Lib.hid fun i hi => by simp [List.getD, hi]
  obtain ⟨n, hn⟩ : ∃ n, xs.length = n + 1 := ⟨xs.length - 1, by omega⟩
  obtain ⟨m, hm⟩ : ∃ m, ys.length = m + 1 := ⟨ys.length - 1, by omega⟩
  have hz : zs.length = n + 1 + m := by omega
  have HN := Lib.hid hn
  have HM := Lib.hid hm
  have HZ := Lib.hid hz
  rw [hn] at JLo JHi HX fa
  rw [hm] at HY fb
  clear JL na nb hn hm hz ej h0 h1
  have hn1 : ¬ 9223372036854775807 < s.size + t.size := by omega
  go_enter Try.func8, Try.ntmps8
  go_wp2_with fail
  refine TA.out.mono ?_
  rintro e w1 ⟨rfl, rfl⟩
  go_wp2_with fail
  refine TB.out.mono ?_
  rintro e w1 ⟨rfl, rfl⟩
  clear TA TB
  go_wp2_with fail
  refine (SA.out _).mono ?_
  rintro e w1 ⟨v1, rfl, hk1⟩
  have V1 := Lib.hid hk1.val
  have B1 := Lib.hid hk1.bel
  clear hk1 SA
  go_wp2_with fail
  refine (SB.out _).mono ?_
  rintro e w2 ⟨v2, rfl, hk2⟩
  have V1' := Lib.hid (V1.out.next hk2.bel)
  have V2 := Lib.hid hk2.val
  have B2 := Lib.hid (bstep B1.out hk2.bel)
  clear hk2 SB V1 B1
  go_wp2_with fail
  refine (SC.out _).mono ?_
  rintro e w3 ⟨v3, rfl, hk3⟩
  have VX := Lib.hid (V1'.out.next hk3.bel)
  have VY := Lib.hid (V2.out.next hk3.bel)
  have VZ := Lib.hid hk3.val
  have B3 := Lib.hid (bstep B2.out hk3.bel)
  clear hk3 SC V1' V2 B2
  obtain ⟨ax, cx, rfl, hcx, hax, _⟩ := VX.out
  obtain ⟨ay, cy, rfl, hcy, hay, _⟩ := VY.out
  obtain ⟨az, cz, rfl, hcz, haz, _⟩ := VZ.out
  rw [HN.out] at hcx ⊢
  rw [HM.out] at hcy ⊢
  rw [HZ.out] at hcz ⊢
  have CX := Lib.hid hax
  have CY := Lib.hid hay
  have CZ := Lib.hid haz
  clear VX VY VZ hax hay haz
  have g1 : decide (((n + 1 : Nat) : Int) < 1) = false := decide_eq_false (by omega)
  have g2 : decide (((m + 1 : Nat) : Int) < 1) = false := decide_eq_false (by omega)
  have g3 : decide (n + 1 < 1) = false := decide_eq_false (by omega)
  have g4 : decide (m + 1 < 1) = false := decide_eq_false (by omega)
  have g5 : decide ((n : Int) + 1 < 1) = false := decide_eq_false (by omega)
  have g6 : decide ((m : Int) + 1 < 1) = false := decide_eq_false (by omega)
  have hsz : s.size ≤ 80 := ha
  clear ha hb hst hn1
  go_wp2_with fail
  go_loopw [13] (fun vi wr => ∃ i : Nat, i ≤ n + 1 + m ∧ vi = .int .i64 (i : Int) ∧ ∃ q, wr = w3.drewN q) (fun vi _ => n + 1 + m - (intOf vi).toNat)
  case atStart => exact ⟨0, by omega, rfl, 0, rfl⟩
  case round =>
    obtain ⟨i, hi, rfl, q, rfl⟩ := hrel
    by_cases hlt : i < n + 1 + m
    · have j0 : (0 : Int) ≤ (i : Int) := by omega
      have j1 : (i : Int) < ((n + 1 + m : Nat) : Int) := by omega
      have j1' : (i : Int) < (n : Int) + 1 + (m : Int) := by omega
      by_cases hin : i < n + 1
      · have hx := HX.out i hin
        have hzx := (JLo.out i hin).trans hx
        obtain ⟨gx, ox, rfl, _, c1⟩ := IsAt.get CX.out hx
        obtain ⟨gz, oz, rfl, _, c2⟩ := IsAt.get CZ.out hzx
        generalize xs.getD i 0 = x at *
        clear hx hzx
        have k1 : decide ((i : Int) < ((n + 1 : Nat) : Int)) = true := decide_eq_true (by omega)
        have k2 : decide (i < n + 1) = true := decide_eq_true hin
        have k3 : decide ((i : Int) < (n : Int) + 1) = true := decide_eq_true (by omega)
        have k4 : decide (((n + 1 : Nat) : Int) ≤ (i : Int)) = false := decide_eq_false (by omega)
        have k5 : decide (n + 1 ≤ i) = false := decide_eq_false (by omega)
        have k6 : decide ((n : Int) + 1 ≤ (i : Int)) = false := decide_eq_false (by omega)
        have k7 : (i : Int) < ((n + 1 : Nat) : Int) := by omega
        have k8 : (i : Int) < (n : Int) + 1 := by omega
        go_wp2_with fail
        go_quiet (fail)
        go_wp2_with fail
        go_roundw
        case rel => exact ⟨i + 1, by omega, by go_num, _, rfl⟩
        case measure => simp [intOf]; omega
      · obtain ⟨r, rfl⟩ : ∃ r, i = n + 1 + r := ⟨i - (n + 1), by omega⟩
        have hy := HY.out (r + 1) (by omega)
        have hzy := JHi.out r _ hy
        obtain ⟨gy, oy, rfl, _, c1⟩ := IsAt.get CY.out hy
        obtain ⟨gz, oz, rfl, _, c2⟩ := IsAt.get CZ.out hzy
        have yb : 0 ≤ ys.getD (r + 1) 0 ∧ ys.getD (r + 1) 0 ≤ 600 := YB.out _ (List.mem_of_getElem? hy)
        generalize ys.getD (r + 1) 0 = y at *
        clear hy hzy
        have k1 : decide (((n + 1 + r : Nat) : Int) < ((n + 1 : Nat) : Int)) = false := decide_eq_false (by omega)
        have k2 : decide (n + 1 + r < n + 1) = false := decide_eq_false hin
        have k3 : decide ((n : Int) + 1 + (r : Int) < (n : Int) + 1) = false := decide_eq_false (by omega)
        have k4 : decide (((n + 1 : Nat) : Int) ≤ ((n + 1 + r : Nat) : Int)) = true := decide_eq_true (by omega)
        have k5 : decide (n + 1 ≤ n + 1 + r) = true := decide_eq_true (by omega)
        have k6 : decide ((n : Int) + 1 ≤ (n : Int) + 1 + (r : Int)) = true := decide_eq_true (by omega)
        have r1 : IntKind.i64.wrap (((n + 1 + r : Nat) : Int) - ((n + 1 : Nat) : Int)) = (r : Int) := by rw [show ((n + 1 + r : Nat) : Int) - ((n + 1 : Nat) : Int) = (r : Int) by omega]; exact IntWalk.i64_in _ (by omega)
        have r1' : IntKind.i64.wrap ((n : Int) + 1 + (r : Int) - ((n : Int) + 1)) = (r : Int) := by rw [show (n : Int) + 1 + (r : Int) - ((n : Int) + 1) = (r : Int) by omega]; exact IntWalk.i64_in _ (by omega)
        have r2 : IntKind.i64.wrap ((r : Int) + 1) = (r : Int) + 1 := IntWalk.i64_in _ (by omega)
        have r3 : IntKind.i64.wrap (y + (s.size : Int)) = y + (s.size : Int) := IntWalk.i64_in _ (by omega)
        have k7 : (r : Int) + 1 < ((m + 1 : Nat) : Int) := by omega
        have k8 : (r : Int) + 1 < (m : Int) + 1 := by omega
        have k9 : ((r : Int) + 1).toNat = r + 1 := by omega
        have k10 : (0 : Int) ≤ (r : Int) + 1 := by omega
        go_wp2_with fail
        go_quiet (fail)
        go_wp2_with fail
        go_roundw
        case rel => exact ⟨n + 1 + r + 1, by omega, by go_num, _, rfl⟩
        case measure => simp [intOf]; omega
    · obtain rfl : i = n + 1 + m := by omega
      have j1 : ¬ (((n + 1 + m : Nat) : Int) < ((n + 1 + m : Nat) : Int)) := by omega
      have j2 : ¬ ((n : Int) + 1 + (m : Int) < (n : Int) + 1 + (m : Int)) := by omega
      go_wp2_with fail
      go_ret
      exact ⟨by first | rfl | simp, bdrewN B3.out _⟩
end Go.Proofs.Ytfikolidmpjfcaa.LineK
