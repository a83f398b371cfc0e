/-
  The law LinesPlaces, walked.
-/
import Derived.Test.YtfikolidmpjfcaaLineV
import Derived.Test.YtfikolidmpjfcaaLineAppend
import Derived.Test.YtfikolidmpjfcaaTexts
import Derived.Test.YtfikolidmpjfcaaPosAtC
import Derived.Test.YtfikolidmpjfcaaCopyV
import Derived.RegionTactic
namespace Go.Proofs.Ytfikolidmpjfcaa.LineK
open Go.RowKit Kit EditM LineM Txt Lift PosM

theorem posfield1 (v0 v1 v2 : Value) (w : World) : (Instr.field 44 (.agg #[v0, v1, v2]) 1).run Try.prog w = .ok v1 w := by kernel_rfl
set_option maxRecDepth 100000 in
set_option maxHeartbeats 4000000 in
theorem linesPlaces (a0 : Option Addr) (len0 cap0 : Nat) (z0 : List Int) (x : Int) (w : World) (h0 : IsRow .i64 w a0 len0 cap0 z0) {Y : Prop} (_ : Y) :
    Calls Try.prog 7 #[.slice a0 len0 cap0, .int .i64 x] w fun e w' => e = .returned (.bool true) ∧ Below w.heap.size w w' := by
  have TO := Lib.hid (textOf a0 len0 cap0 z0 120 w h0 (by omega))
  have hs : (textS ((z0.take len0).take 120)).size ≤ 120 := by rw [textS_size]; simp only [List.length_take]; omega
  generalize textS ((z0.take len0).take 120) = s at *
  have PK := Lib.hid (fun W => picked x ((s.size : Int) + 1) W (by omega) (by omega))
  obtain ⟨k, hk⟩ := Int.eq_ofNat_of_zero_le (Int.emod_nonneg x (show (s.size : Int) + 1 ≠ 0 by omega))
  have hkl := Int.emod_lt_of_pos x (show (0 : Int) < (s.size : Int) + 1 by omega)
  rw [hk] at PK hkl
  have hks : k ≤ s.size := by omega
  clear hk hkl h0
  have hsl : s.data.toList.length = s.size := size_list s
  have ST := Lib.hid (fun W => LineC.starts s W (by omega))
  have LV := Lib.hid (fun W v (hv : IsV W v (sts s.data.toList)) => LineC.lineV s.data.toList (k : Int) v W hv (by omega) (by omega))
  have PA := Lib.hid (fun W => PosOfC.at_yes s k W (by unfold maxLen; omega) hks)
  have PO := Lib.hid (fun W => PosOfC.of s W (by unfold maxLen; omega))
  have LP := Lib.hid (fun n (h : UpTo (sts s.data.toList) k (n + 1)) => line_place (t := s.data.toList) (a := k) (n := n) (by omega) h)
  have hcl := lns_col_le (s.data.toList.take k)
  rw [List.length_take] at hcl
  have SL := sts_len s.data.toList
  have fa := LineC.sts_few (t := s.data.toList) (m := 120) (by omega)
  generalize sts s.data.toList = xs at *
  generalize col (s.data.toList.take k) = cc at *
  generalize lns (s.data.toList.take k) = nn at *
  generalize lns s.data.toList = L at *
  generalize col s.data.toList = cs at *
  have HL := Lib.hid SL
  rw [SL] at fa
  obtain ⟨i0, hi, hz0, hz1, hz2⟩ := info_parts infoInt
  have HI := Lib.hid (And.intro hi (And.intro hz0 (And.intro hz1 hz2)))
  clear hi hz0 hz1 hz2 SL hsl
  have hfl := posfield1
  go_enter Try.func7, Try.ntmps7
  go_wp2_with fail
  refine TO.out.mono ?_
  rintro e w1 ⟨rfl, rfl⟩
  clear TO
  go_wp2_with fail
  refine (PK.out _).mono ?_
  rintro e w1 ⟨rfl, rfl⟩
  clear PK
  go_wp2_with fail
  refine (ST.out _).mono ?_
  rintro e w1 ⟨v1, rfl, hk1⟩
  have V1 := Lib.hid hk1.val
  have B1 := Lib.hid hk1.bel
  clear hk1 ST
  go_wp2_with (at_builtin; refine wpList_copyV ic_len ic_one (by omega) rfl _ _ 22 rfl 3 i0 _ 8 Try.underlying22 HI.out.1 HI.out.2.1 HI.out.2.2.1 HI.out.2.2.2 rfl rfl _ rfl xs V1.out (by rw [HL.out]; unfold maxLen; omega) (by rw [HL.out]; omega) ?_; intro v2 w2 hv2 hb2; have V2 := Lib.hid hv2; have V1' := Lib.hid (V1.out.next hb2); have B2 := Lib.hid (bstep B1.out hb2); clear hv2 hb2 V1 B1)
  refine (LV.out _ _ V2.out).mono ?_
  rintro e w3 ⟨n, rfl, hu, hb3⟩
  obtain ⟨rfl, hnz, hnl⟩ := LP.out n hu
  have V3 := Lib.hid (V1'.out.next hb3)
  have B3' := Lib.hid (bstep B2.out hb3)
  rw [HL.out] at hnl
  have HZ := Lib.hid hnz
  clear hu hb3 LV LP V1' B2 V2 hnz
  go_wp2_with fail
  refine (PA.out _).mono ?_
  rintro e w4 ⟨rfl, hb4⟩
  have V4 := Lib.hid (V3.out.next hb4)
  have B4' := Lib.hid (bstep B3'.out hb4)
  clear hb4 PA V3 B3'
  obtain ⟨ax, cx, rfl, hcx, hax, _⟩ := V4.out
  obtain ⟨g, off, rfl, hg, cz⟩ := IsAt.get hax HZ.out
  obtain ⟨z, hz⟩ : ∃ z : Int, z = (k : Int) - (cc : Int) := ⟨_, rfl⟩
  rw [← hz] at cz
  have rz : IntKind.i64.wrap ((k : Int) - z) = (cc : Int) := by rw [show (k : Int) - z = (cc : Int) by omega]; exact IntWalk.i64_in _ (by omega)
  rw [HL.out] at hcx ⊢
  clear V4 HZ hax HL HI i0 hcx hz
  have ga : decide ((0 : Int) ≤ (n : Int)) = true := decide_eq_true (by omega)
  have gb : decide ((n : Int) < ((L + 1 : Nat) : Int)) = true := decide_eq_true (by omega)
  have gb2 : decide (n < L + 1) = true := decide_eq_true hnl
  have gb3 : decide ((n : Int) < (L : Int) + 1) = true := decide_eq_true (by omega)
  have gc : (((L + 1 : Nat) : Int) == (L : Int) + 1) = true := by simp
  have i1 : (n : Int) < ((L + 1 : Nat) : Int) := by omega
  have rL : IntKind.i64.wrap ((L : Int) + 1) = (L : Int) + 1 := IntWalk.i64_in _ (by omega)
  have i1' : (n : Int) < (L : Int) + 1 := by omega
  have i2 : (0 : Int) ≤ (n : Int) := by omega
  have X := Lib.hid (B3.new w4 (.int .i64 (k : Int)) (.int .i64 (n : Int)) (.int .i64 (cc : Int)) 44)
  have b5 : Below w4.heap.size w4 (w4.alloc (.cells #[.int .i64 (k : Int), .int .i64 (n : Int), .int .i64 (cc : Int)] 44)) := balloc (Below.refl _ _) _
  have B5 := Lib.hid (bstep B4'.out b5)
  have cz5 := keep b5 hg cz
  have G5 := Lib.hid (Nat.lt_of_lt_of_le hg b5.size)
  clear cz B4' b5
  go_wp2_with fail
  generalize (w4.alloc (.cells #[.int .i64 (k : Int), .int .i64 (n : Int), .int .i64 (cc : Int)] 44)) = w5 at *
  generalize w4.heap.size = xb at *
  have S0 : Hid (w5.drew.cell? ⟨xb, 1, none⟩ = some (.int .i64 (n : Int)) ∧ w5.drew.cell? ⟨xb, 2, none⟩ = some (.int .i64 (cc : Int)) ∧ w5.drew.cell? ⟨g, off + n, none⟩ = some (.int .i64 z)) := Lib.hid ⟨X.out.c1, X.out.c2, cz5⟩
  have L5 : Hid (xb < w5.drew.heap.size ∧ g < w5.drew.heap.size) := Lib.hid ⟨X.out.lt, G5.out⟩
  clear X G5 cz5
  go_region_held3 (fun W => W.cell? ⟨xb, 1, none⟩ = some (.int .i64 (n : Int)) ∧ W.cell? ⟨xb, 2, none⟩ = some (.int .i64 (cc : Int)) ∧ W.cell? ⟨g, off + n, none⟩ = some (.int .i64 z))
    (first | exact S0.out | exact S1.out)
    (first
      | (go_at_call 23; refine (PO.out _).mono ?_; rintro e w6 ⟨rfl, hb6⟩; have HB6 := Lib.hid hb6; have S1 := Lib.hid (And.intro (keep hb6 L5.out.1 S0.out.1) (And.intro (keep hb6 L5.out.1 S0.out.2.1) (keep hb6 L5.out.2 S0.out.2.2))); clear hb6))
  rename_i hHeld
  clear hHeld
  have B6 := Lib.hid (bstep (bstep B5.out (Below.drew (Below.refl _ _))) HB6.out)
  clear S0 S1 L5 HB6 B5
  go_wp2_with fail
  go_ret
  exact ⟨by first | rfl | simp, B6.out⟩
end Go.Proofs.Ytfikolidmpjfcaa.LineK
