/-
  The law SpansFollow, walked.
-/
import Derived.Test.YtdiogfhbgmkajaaKeepCom
import Derived.Test.YtdiogfhbgmkajaaFollowMath
import Derived.Test.YtdiogfhbgmkajaaEditApplyV
namespace Go.Proofs.Ytdiogfhbgmkajaa.SpanK
open Go.RowKit Kit SpanM SpanC SpanR Lift Txt ChgM EditM EditK

theorem one_at' (w : World) (o : Obj) (e : EdM) : EdsV ((w.alloc o).alloc (.cells #[.int .i64 e.at_, .int .i64 e.cut, .string e.put] 33)) (.slice (some ⟨w.heap.size + 1, 0, none⟩) 1 1) [e] := by
  have := one_at (w.alloc o) e
  rw [show (w.alloc o).heap.size = w.heap.size + 1 by simp] at this
  exact this
theorem shiftV {n a c : Nat} {p : ByteArray} {l : List SpM} (hv : Valid n l) (hl : l.length ≤ 15) (hac : a + c ≤ n) (h6 : n + p.size ≤ 600) (v : Value) (w : World) (h : SpsV w v l) :
    Calls Try.prog 21 #[.int .i64 (n : Int), v, .agg #[.int .i64 (a : Int), .int .i64 (c : Int), .string p]] w (MadePost (atts [] (shiS l a c p.size)) w) := by
  obtain ⟨al, cap, rfl, _, ha, _⟩ := h
  have hln := shi_len l a c p.size
  exact shift_ok n l al cap a c p w ha hv (fault_zero.2 ⟨by omega, by omega, by omega, by omega, by omega, by omega⟩) (by omega) (by omega) _ rfl 0 (by rw [if_neg (by omega)])
set_option maxRecDepth 100000 in
set_option maxHeartbeats 8000000 in
theorem spansFollow (a0 : Option Addr) (len0 cap0 : Nat) (z0 : List Int) (a1 : Option Addr) (len1 cap1 : Nat) (z1 : List Int) (c : ChgM) (w : World) (hz : IsRow .i64 w a0 len0 cap0 z0) (hz' : IsRow .i64 w a1 len1 cap1 z1) (hc : c.has w) :
    Calls Try.prog 11 #[.slice a0 len0 cap0, .slice a1 len1 cap1, .agg #[.int .i64 c.at_, .int .i64 c.cut, .slice c.ta c.tlen c.tcap]] w fun e w' => e = .returned (.bool true) ∧ Below w.heap.size w w' := by
  obtain ⟨wc, hwc⟩ : ∃ wc, wc = w.alloc (.cells #[.int .i64 c.at_, .int .i64 c.cut, .slice c.ta c.tlen c.tcap] 50) := ⟨_, rfl⟩
  have BC : Hid (Below w.heap.size w wc) := Lib.hid (by rw [hwc]; exact balloc (Below.refl _ _) _)
  have XC : Hid (B3 w.heap.size (.int .i64 c.at_) (.int .i64 c.cut) (.slice c.ta c.tlen c.tcap) wc) := Lib.hid (by rw [hwc]; exact B3.new _ _ _ _ _)
  have TO := Lib.hid (textOf a0 len0 cap0 z0 100 wc (isRow_next hz BC.out) (by omega))
  have hts : (textS ((z0.take len0).take 100)).size ≤ 100 := by rw [textS_size]; simp only [List.length_take]; omega
  generalize textS ((z0.take len0).take 100) = s at *
  have SO := Lib.hid (setOfK a1 len1 cap1 z1 15 s.size wc (isRow_next hz' BC.out) (by omega) (by omega))
  have EO := Lib.hid (fun W (hW : Below wc.heap.size wc W) => editOf c (s.size : Int) W (hc.next (bstep BC.out hW)) (by omega) (by omega))
  obtain ⟨F1, F2, F3, F4, F5, F6⟩ := edOf_facts c (n := (s.size : Int)) (by omega)
  have FT := edOf_fits c s.data.toList (by rw [size_list]; omega)
  rw [size_list] at FT
  have OK := edOf_ok c (n := (s.size : Int)) (by omega) (by omega)
  generalize edOf c (s.size : Int) = ed at *
  have AP := Lib.hid (fun W v (h : EdsV W v [ed]) => applyV s [ed] v W h (by simpa using OK) (by simp) (by omega) (by
    show (if ed.fault s.data.toList = 0 then _ else _) = (0 : Int)
    have : ed.fault s.data.toList = 0 := by
      unfold EdM.fault
      rw [size_list]
      exact fault_zero.2 ⟨by omega, by omega, F1, F3, by omega, by omega⟩
    rw [if_pos this]; rfl))
  rw [show apT [ed] s.data.toList = made s.data.toList ed.at_.toNat ed.cut.toNat ed.put.data.toList from rfl] at AP
  clear hz hz' hc FT OK
  obtain ⟨a, k, p⟩ := ed
  dsimp only at *
  obtain ⟨a, rfl⟩ := Int.eq_ofNat_of_zero_le F1
  obtain ⟨k, rfl⟩ := Int.eq_ofNat_of_zero_le F3
  simp only [Int.toNat_natCast] at AP
  have hak : a + k ≤ s.size := by omega
  obtain ⟨t, ht⟩ : ∃ t, t = str (made s.data.toList a k p.data.toList) := ⟨_, rfl⟩
  have hm : t.size + k = s.size + p.size := by
    rw [ht, size_str, made_length (by rw [size_list]; exact hak), size_list, size_list]; omega
  have ML : Hid (∀ i, i < a → t.data.toList[i]? = s.data.toList[i]?) := Lib.hid fun i hi => by rw [ht, list_str]; exact made_low (by rw [size_list]; exact hak) hi
  have MH : Hid (∀ i, a + k ≤ i → t.data.toList[i + p.size - k]? = s.data.toList[i]?) := Lib.hid fun i hi => by
    rw [ht, list_str, ← size_list p]; exact made_high (by rw [size_list]; exact hak) hi
  rw [← ht] at AP
  clear ht
  have OA := Lib.hid (fun (W : World) (o : Obj) => one_at' W o ⟨(a : Int), (k : Int), p⟩)
  have PL := Lib.hid (fun (i : Nat) W (hi : i ≤ 600) => EditC.place_ok (a : Int) (k : Int) (i : Int) p true W (by omega) (by omega) (by omega) (by omega) (by omega) (by omega) (by omega))
  obtain ⟨i0, hi, hz0, hz1, hz2⟩ := info_parts infoSpan
  have HI := Lib.hid (And.intro hi (And.intro hz0 (And.intro hz1 hz2)))
  clear hi hz0 hz1 hz2
  have nn := notNil
  clear F1 F2 F3 F4
  go_enter Try.func11, Try.ntmps11
  go_wp2_with fail
  rw [← hwc]
  clear hwc
  refine TO.out.mono ?_
  rintro e w0 ⟨rfl, rfl⟩
  go_wp2_with fail
  refine SO.out.mono ?_
  rintro e w1 ⟨es, v, rfl, hk1, hv1, hl1⟩
  have V1 := Lib.hid hv1
  have S1 := Lib.hid hk1.val
  have B1 := Lib.hid hk1.bel
  obtain ⟨_, c0, c1, c2, _, _, _⟩ := XC.out.next hk1.bel
  clear hk1 hv1 SO TO XC
  go_wp2_with fail
  refine (EO.out _ B1.out).mono ?_
  rintro e w2 ⟨rfl, hb2⟩
  have S2 := Lib.hid (S1.out.next hb2)
  have B2 := Lib.hid (bstep (bstep BC.out B1.out) hb2)
  clear hb2 EO S1 B1 c0 c1 c2
  go_wp2_with fail
  refine (AP.out _ _ (OA.out _ _)).mono ?_
  rintro e w3 ⟨rfl, hb3⟩
  have X3 := Lib.hid (((B3.new w2 (.int .i64 (a : Int)) (.int .i64 (k : Int)) (.string p) 33).alloc (.cells #[.int .i64 (a : Int), .int .i64 (k : Int), .string p] 33)).next hb3)
  have S3 := Lib.hid ((S2.out.next (balloc (balloc (Below.refl _ _) (.cells #[.int .i64 (a : Int), .int .i64 (k : Int), .string p] 33)) (.cells #[.int .i64 (a : Int), .int .i64 (k : Int), .string p] 33))).next hb3)
  have B3' := Lib.hid (bstep (balloc (balloc B2.out (.cells #[.int .i64 (a : Int), .int .i64 (k : Int), .string p] 33)) (.cells #[.int .i64 (a : Int), .int .i64 (k : Int), .string p] 33)) hb3)
  clear hb3 AP OA S2 B2
  generalize w2.heap.size = eb at *
  have SH := Lib.hid (fun W u (h : SpsV W u es) => shiftV (p := p) V1.out hl1 hak (by omega) u W h)
  obtain ⟨SV1, SV2⟩ := shi_valid V1.out (by omega) hak hm (by omega)
  have V2 := Lib.hid SV1
  have IB := Lib.hid SV2
  have CF := Lib.hid (out_same (l := es) (k := p.size) hak hm)
  clear SV1 SV2
  generalize atts [] (shiS es a k p.size) = af at *
  have N1 := Lib.hid (fun W u (h : SpsV W u es) => withinV s.size es u W h V1.out)
  have N2 := Lib.hid (fun W u (h : SpsV W u af) => withinV t.size af u W h V2.out)
  have DR := fun (W : World) => Below.drew (Below.refl W.heap.size W)
  go_wp2_with fail
  have S0 : Hid (w3.drew.cell? ⟨eb, 0, none⟩ = some (.int .i64 (a : Int)) ∧ w3.drew.cell? ⟨eb, 1, none⟩ = some (.int .i64 (k : Int)) ∧ w3.drew.cell? ⟨eb, 2, none⟩ = some (.string p)) := Lib.hid ⟨X3.out.c0, X3.out.c1, X3.out.c2⟩
  have VD := Lib.hid (S3.out.next (DR w3))
  go_region_held3 (fun W => W.cell? ⟨eb, 0, none⟩ = some (.int .i64 (a : Int)) ∧ W.cell? ⟨eb, 1, none⟩ = some (.int .i64 (k : Int)) ∧ W.cell? ⟨eb, 2, none⟩ = some (.string p))
    (first | exact S0.out | exact Q1.out | exact Q2.out)
    (first
      | (go_at_call 21; refine (SH.out _ _ C4.out).mono ?_; rintro e w5 ⟨v5, rfl, hk5⟩; have K5 := Lib.hid hk5; have Q2 := Lib.hid (And.intro (((X3.out.next (DR _)).next HB4.out).next hk5.bel).c0 (And.intro (((X3.out.next (DR _)).next HB4.out).next hk5.bel).c1 (((X3.out.next (DR _)).next HB4.out).next hk5.bel).c2)); clear hk5)
      | (refine step_copyV SpM.cs_len SpM.cs_one (by omega) (by rfl) _ _ _ (by rfl) 25 i0 _ 16 Try.underlying22 HI.out.1 HI.out.2.1 HI.out.2.2.1 HI.out.2.2.2 rfl (by rfl) _ (by rfl) es VD.out (by unfold maxLen; omega) (by omega) ?_; intro v4 w4 hv4 hb4; have C4 := Lib.hid hv4; have HB4 := Lib.hid hb4; have Q1 := Lib.hid (And.intro ((X3.out.next (DR _)).next hb4).c0 (And.intro ((X3.out.next (DR _)).next hb4).c1 ((X3.out.next (DR _)).next hb4).c2)); clear hv4 hb4))
  rename_i hHeld
  clear hHeld S0 Q1 Q2 C4 VD
  have BX := Lib.hid (bstep (bstep (DR w3) HB4.out) K5.out.bel)
  have X5 := Lib.hid (X3.out.next BX.out)
  have S5 := Lib.hid (S3.out.next BX.out)
  have B5 := Lib.hid (bstep B3'.out BX.out)
  have A5 := Lib.hid K5.out.val
  clear BX K5 HB4 X3 S3 B3' SH
  go_wp2_with fail
  refine (N1.out _ _ S5.out).mono ?_
  rintro e w6 ⟨bp, rfl, hr6, hb6⟩
  have X6 := Lib.hid (X5.out.next hb6)
  have A6 := Lib.hid (A5.out.next hb6)
  have B6 := Lib.hid (bstep B5.out hb6)
  have RP6 := Lib.hid hr6
  clear hr6 hb6 X5 S5 B5 A5 N1
  go_wp2_with fail
  refine (N2.out _ _ A6.out).mono ?_
  rintro e w7 ⟨bq, rfl, hr7, hb7⟩
  have X7 := Lib.hid (X6.out.next hb7)
  have B7 := Lib.hid (bstep B6.out hb7)
  have RP7 := Lib.hid (RP6.out.next hb7)
  have RQ7 := Lib.hid hr7
  clear hr7 hb7 X6 A6 B6 RP6 N2 V1 V2
  go_wp2_with fail
  go_loopw [17, 18] (fun vo vi wr => ∃ i : Nat, i ≤ s.size ∧ vi = .int .i64 (i : Int) ∧ vo = .int .i64 ((cf (fOut es a k) i : Nat) : Int) ∧ Hid (RDk bp (s.size + 1) (fun j => inB es j) wr ∧ RDk bq (t.size + 1) (fun j => inB af j) wr ∧ B3 eb (.int .i64 (a : Int)) (.int .i64 (k : Int)) (.string p) wr ∧ Below w.heap.size w wr)) (fun _ vi _ => s.size - (intOf vi).toNat)
  case atStart => exact ⟨0, by omega, rfl, rfl, Lib.hid ⟨RP7.out, RQ7.out, X7.out, B7.out⟩⟩
  case round =>
    obtain ⟨i, hi, rfl, rfl, HK⟩ := hrel
    clear RP7 RQ7 X7 B7
    have cfl := cf_le (fOut es a k) i
    by_cases hlt : i < s.size
    · have cp := HK.out.1.cell i (by omega)
      obtain ⟨_, x0, x1, x2, _, _, _⟩ := HK.out.2.2.1
      have j0 : (i : Int) < (s.size : Int) := by omega
      have j1 : (i : Int) < ((s.size + 1 : Nat) : Int) := by omega
      have j2 : (0 : Int) ≤ (i : Int) := by omega
      have r1 : IntKind.i64.wrap ((a : Int) + (k : Int)) = (a : Int) + (k : Int) := IntWalk.i64_in _ (by omega)
      cases hin : inB es (i : Int)
      · rw [hin] at cp
        by_cases q : a ≤ i ∧ i < a + k
        · have E : Hid (cf (fOut es a k) (i + 1) = cf (fOut es a k) i) := Lib.hid (by
            show cf (fOut es a k) i + (if fOut es a k i then 1 else 0) = _
            rw [show fOut es a k i = false by unfold fOut; rw [decide_eq_true q.1, decide_eq_true q.2]; simp]; rfl)
          have q1 : (a : Int) ≤ (i : Int) := by omega
          have q2 : (i : Int) < (a : Int) + (k : Int) := by omega
          generalize cf (fOut es a k) i = cc at *
          clear q hin
          go_wp2_with fail
          go_roundw
          case rel => exact ⟨i + 1, by omega, by go_num, by rw [E.out], HK⟩
          case measure => simp [intOf]; omega
        · have E : Hid (cf (fOut es a k) (i + 1) = cf (fOut es a k) i + 1) := Lib.hid (by
            show cf (fOut es a k) i + (if fOut es a k i then 1 else 0) = _
            rw [show fOut es a k i = true by
              unfold fOut
              rw [hin]
              simp; omega]; rfl)
          obtain ⟨x, hx1, hx2, hx3, hx4⟩ : ∃ x : Nat, placed (a : Int) (k : Int) p.size (i : Int) true = (x : Int) ∧ x < t.size ∧ t.data.toList[x]? = s.data.toList[i]? ∧ inB af (x : Int) = false := by
            by_cases q1 : i < a
            · refine ⟨i, placed_low (by omega), by omega, ML.out i q1, ?_⟩
              rw [IB.out i (by omega)]
              have := gOut_low (l := es) (c := k) (k := p.size) q1 hlt
              unfold gOut at this
              rw [hin] at this
              simpa using this
            · refine ⟨i + p.size - k, by rw [placed_behind (by omega) (by omega)]; omega, by omega, MH.out i (by omega), ?_⟩
              rw [IB.out _ (by omega)]
              have := gOut_high (l := es) (k := p.size) (a := a) (c := k) (show a + k ≤ i by omega) hlt
              unfold gOut at this
              rw [hin] at this
              simpa using this
          have PP := Lib.hid (fun W => PL.out i W (by omega))
          rw [hx1] at PP
          have hby : ((t[x].toNat : Int) != (s[i].toNat : Int)) = false := by
            have e1 : t.data.toList[x]? = some t[x] := by rw [List.getElem?_eq_getElem (by simpa using hx2)]; rfl
            have e2 : s.data.toList[i]? = some s[i] := by rw [List.getElem?_eq_getElem (by simpa using hlt)]; rfl
            rw [e1, e2] at hx3
            injection hx3 with hx3
            rw [hx3]; simp
          have QC : Hid (∀ W, Below wr.heap.size wr W → W.cell? ⟨bq, x, none⟩ = some (.bool false)) := Lib.hid fun W hW => by
            have := (HK.out.2.1.next hW).cell x (by omega)
            rw [hx4] at this
            exact this
          have q' : ¬ ((a : Int) ≤ (i : Int) ∧ (i : Int) < (a : Int) + (k : Int)) := by omega
          have y1 : decide ((x : Int) < 0) = false := decide_eq_false (by omega)
          have y2 : decide ((t.size : Int) ≤ (x : Int)) = false := decide_eq_false (by omega)
          have y2n : decide (t.size ≤ x) = false := decide_eq_false (by omega)
          have y3 : (x : Int) < ((t.size + 1 : Nat) : Int) := by omega
          have y4 : (0 : Int) ≤ (x : Int) := by omega
          have y5 : (x : Int) < (t.size : Int) := by omega
          generalize cf (fOut es a k) i = cc at *
          clear hx1 hx3 hx4 hin
          by_cases q1 : a ≤ i
          · have z1 : (a : Int) ≤ (i : Int) := by omega
            have z2 : ¬ (i : Int) < (a : Int) + (k : Int) := by omega
            clear q q'
            go_wp2_with fail
            refine (PP.out _).mono ?_
            rintro e w8 ⟨rfl, hb8⟩
            have qc := QC.out _ hb8
            have FIN := Lib.hid (And.intro (HK.out.1.next hb8) (And.intro (HK.out.2.1.next hb8) (And.intro (HK.out.2.2.1.next hb8) (bstep HK.out.2.2.2 hb8))))
            clear HK hb8 PP QC cp x0 x1 x2
            go_wp2_with fail
            go_quiet (fail)
            go_wp2_with fail
            go_roundw
            case rel => exact ⟨i + 1, by omega, by go_num, by rw [E.out]; first | rfl | go_num, Lib.hid ⟨FIN.out.1.next (bdrewN (Below.refl _ _) _), FIN.out.2.1.next (bdrewN (Below.refl _ _) _), FIN.out.2.2.1.next (bdrewN (Below.refl _ _) _), bdrewN FIN.out.2.2.2 _⟩⟩
            case measure => simp [intOf]; omega
          · have z1 : ¬ (a : Int) ≤ (i : Int) := by omega
            clear q q'
            go_wp2_with fail
            refine (PP.out _).mono ?_
            rintro e w8 ⟨rfl, hb8⟩
            have qc := QC.out _ hb8
            have FIN := Lib.hid (And.intro (HK.out.1.next hb8) (And.intro (HK.out.2.1.next hb8) (And.intro (HK.out.2.2.1.next hb8) (bstep HK.out.2.2.2 hb8))))
            clear HK hb8 PP QC cp x0 x1 x2
            go_wp2_with fail
            go_quiet (fail)
            go_wp2_with fail
            go_roundw
            case rel => exact ⟨i + 1, by omega, by go_num, by rw [E.out]; first | rfl | go_num, Lib.hid ⟨FIN.out.1.next (bdrewN (Below.refl _ _) _), FIN.out.2.1.next (bdrewN (Below.refl _ _) _), FIN.out.2.2.1.next (bdrewN (Below.refl _ _) _), bdrewN FIN.out.2.2.2 _⟩⟩
            case measure => simp [intOf]; omega
      · rw [hin] at cp
        have E : Hid (cf (fOut es a k) (i + 1) = cf (fOut es a k) i) := Lib.hid (by
          show cf (fOut es a k) i + (if fOut es a k i then 1 else 0) = _
          rw [show fOut es a k i = false by unfold fOut; rw [hin]; simp]; rfl)
        generalize cf (fOut es a k) i = cc at *
        clear hin
        go_wp2_with fail
        go_roundw
        case rel => exact ⟨i + 1, by omega, by go_num, by rw [E.out], HK⟩
        case measure => simp [intOf]; omega
    · have hie : i = s.size := by omega
      have HE : Hid (cf (fOut es a k) i = cf (gOut es a k p.size s.size) t.size) := Lib.hid (by rw [hie]; exact CF.out)
      have j0 : ¬ (i : Int) < (s.size : Int) := by omega
      have RQ := Lib.hid HK.out.2.1
      have BF := Lib.hid HK.out.2.2.2
      have E0 : Hid ((cf (fOut es a k) i : Int) = ((cf (gOut es a k p.size s.size) t.size - cf (gOut es a k p.size s.size) 0 : Nat) : Int)) := Lib.hid (by rw [HE.out]; rfl)
      generalize cf (fOut es a k) i = cc at *
      clear HK hie
      go_wp2_with fail
      go_loopw [17, 21] (fun vo vi wr' => ∃ j : Nat, j ≤ t.size ∧ vi = .int .i64 (j : Int) ∧ vo = .int .i64 ((cf (gOut es a k p.size s.size) t.size - cf (gOut es a k p.size s.size) j : Nat) : Int) ∧ wr' = wr) (fun _ vi _ => t.size - (intOf vi).toNat)
      case atStart => exact ⟨0, by omega, rfl, by rw [E0.out], rfl⟩
      case round =>
        obtain ⟨j, hj, rfl, rfl, rfl⟩ := hrel
        by_cases hjl : j < t.size
        · have cq := RQ.out.cell j (by omega)
          have hmn := cf_mono (gOut es a k p.size s.size) (show j + 1 ≤ t.size by omega)
          have hcl := cf_le (gOut es a k p.size s.size) t.size
          have hst : cf (gOut es a k p.size s.size) (j + 1) = cf (gOut es a k p.size s.size) j + (if gOut es a k p.size s.size j then 1 else 0) := rfl
          have hgo : gOut es a k p.size s.size j = !inB af j := by unfold gOut; rw [IB.out j hjl]
          rw [hgo] at hst
          have y0 : (j : Int) < (t.size : Int) := by omega
          have y1 : (j : Int) < ((t.size + 1 : Nat) : Int) := by omega
          have y2 : (0 : Int) ≤ (j : Int) := by omega
          cases hb : inB af (j : Int)
          · rw [hb] at cq hst
            simp only [Bool.not_false, if_true] at hst
            obtain ⟨d, hd, hd2⟩ : ∃ d : Nat, cf (gOut es a k p.size s.size) t.size - cf (gOut es a k p.size s.size) j = d + 1 ∧ cf (gOut es a k p.size s.size) t.size - cf (gOut es a k p.size s.size) (j + 1) = d := ⟨cf (gOut es a k p.size s.size) t.size - cf (gOut es a k p.size s.size) (j + 1), by omega, rfl⟩
            have HD := Lib.hid hd2
            have hdb : d ≤ 600 := by omega
            rw [hd]
            clear hd hd2 hst hmn hcl hgo hb
            have r7 : IntKind.i64.wrap (d : Int) = (d : Int) := IntWalk.i64_in _ (by omega)
            go_wp2_with fail
            go_roundw
            case rel => exact ⟨j + 1, by omega, by go_num, by rw [HD.out]; first | done | rfl | go_num, by first | trivial | rfl⟩
            case measure => simp [intOf]; omega
          · rw [hb] at cq hst
            simp at hst
            have HD : Hid (cf (gOut es a k p.size s.size) t.size - cf (gOut es a k p.size s.size) (j + 1) = cf (gOut es a k p.size s.size) t.size - cf (gOut es a k p.size s.size) j) := Lib.hid (by rw [hst])
            generalize cf (gOut es a k p.size s.size) t.size - cf (gOut es a k p.size s.size) j = d at *
            clear hst hmn hcl hgo hb
            go_wp2_with fail
            go_roundw
            case rel => exact ⟨j + 1, by omega, by go_num, by rw [HD.out], by first | trivial | rfl⟩
            case measure => simp [intOf]; omega
        · have hje : j = t.size := by omega
          rw [show cf (gOut es a k p.size s.size) t.size - cf (gOut es a k p.size s.size) j = 0 by rw [hje]; omega]
          have y0 : ¬ (j : Int) < (t.size : Int) := by omega
          clear hje
          go_wp2_with fail
          go_ret
          exact ⟨by first | rfl | simp, BF.out⟩
end Go.Proofs.Ytdiogfhbgmkajaa.SpanK
