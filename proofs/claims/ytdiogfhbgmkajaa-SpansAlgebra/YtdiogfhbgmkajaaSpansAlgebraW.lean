/-
  The law SpansAlgebra, walked.
-/
import Derived.Test.YtdiogfhbgmkajaaKeepCom
import Derived.Test.YtdiogfhbgmkajaaSpanEq
namespace Go.Proofs.Ytdiogfhbgmkajaa.SpanK
open Go.RowKit Kit SpanM SpanC Lift Txt

theorem add_twice {l : List SpM} {x : SpM} (h : Norm l) : addL (addL l x) x = addL l x := by
  have h1 : Norm (addL l x) := (with_norm h).1
  refine norm_one (with_norm h1).1 h1 fun i => ?_
  show In (addL (addL l x) x) i ↔ _
  rw [add_in h1, add_in h, or_assoc, or_self]
theorem cut_added {l : List SpM} {x : SpM} (h : Norm l) (hx : x.lo ≤ x.hi) : cutL (addL l x) x = cutL l x := by
  have h1 : Norm (addL l x) := (with_norm h).1
  refine norm_one (wo_norm h1 hx).1 (wo_norm h hx).1 fun i => ?_
  show In (cutL (addL l x) x) i ↔ In (cutL l x) i
  rw [cut_in h1 hx, add_in h, cut_in h hx]
  constructor
  · rintro ⟨q | q, r⟩
    · exact ⟨q, r⟩
    · exact absurd q r
  · rintro ⟨q, r⟩; exact ⟨.inl q, r⟩
theorem inB_add {l : List SpM} {x : SpM} (h : Norm l) (i : Int) : inB (addL l x) i = (inB l i || (decide (x.lo ≤ i) && decide (i < x.hi))) := by
  apply Bool.eq_iff_iff.2
  rw [inB_iff, add_in h]
  simp [inB_iff]
theorem inB_cut {l : List SpM} {x : SpM} (h : Norm l) (hx : x.lo ≤ x.hi) (i : Int) : inB (cutL l x) i = (inB l i && !(decide (x.lo ≤ i) && decide (i < x.hi))) := by
  apply Bool.eq_iff_iff.2
  rw [inB_iff, cut_in h hx]
  simp [inB_iff]
  intro _; omega
set_option maxRecDepth 100000 in
set_option maxHeartbeats 8000000 in
theorem spansAlgebra (a0 : Option Addr) (len0 cap0 : Nat) (z0 : List Int) (size a b : Int) (w : World) (hz : IsRow .i64 w a0 len0 cap0 z0) {X : Prop} (_ : X) {Y : Prop} (_ : Y) {X2 : Prop} (_ : X2) :
    Calls Try.prog 9 #[.slice a0 len0 cap0, .int .i64 size, .int .i64 a, .int .i64 b] w fun e w' => e = .returned (.bool true) ∧ Below w.heap.size w w' := by
  have P0 := Lib.hid (fun W => picked size 200 W (by omega) (by omega))
  obtain ⟨N0, e0, hN0⟩ := pick_in size 200 (by omega)
  rw [show ((200 : Nat) : Int) = 200 from rfl] at e0
  rw [e0] at P0
  clear e0
  obtain ⟨N, hN⟩ : ∃ N, N = 1 + N0 := ⟨_, rfl⟩
  have ne : (1 : Int) + (N0 : Int) = (N : Int) := by omega
  have nr : IntKind.i64.wrap ((1 : Int) + (N0 : Int)) = (N : Int) := by rw [ne]; exact IntWalk.i64_in _ (by omega)
  have hNb : N ≤ 200 := by omega
  have hNp : 0 < N := by omega
  clear hN ne hN0
  have SO := Lib.hid (setOfK a0 len0 cap0 z0 20 N w hz (by omega) (by omega))
  have PA := Lib.hid (fun W => picked a N W (by omega) (by omega))
  obtain ⟨xl, ea, hxl⟩ := pick_in a N hNp
  rw [ea] at PA
  have PB := Lib.hid (fun W => picked b ((N : Int) - xl + 1) W (by omega) (by omega))
  obtain ⟨xk, eb, hxk⟩ := pick_in b (N - xl + 1) (by omega)
  rw [show (((N - xl + 1 : Nat) : Int)) = (N : Int) - xl + 1 by omega] at eb
  rw [eb] at PB
  clear ea eb hz
  have r1 : IntKind.i64.wrap ((N : Int) - (xl : Int)) = (N : Int) - (xl : Int) := IntWalk.i64_in _ (by omega)
  have r2 : IntKind.i64.wrap ((N : Int) - (xl : Int) + 1) = (N : Int) - (xl : Int) + 1 := IntWalk.i64_in _ (by omega)
  have r5 : IntKind.i64.wrap ((xl : Int) + (xk : Int)) = (xl : Int) + (xk : Int) := IntWalk.i64_in _ (by omega)
  obtain ⟨i0, hi, hz0, hz1, hz2⟩ := info_parts infoSpan
  have HI := Lib.hid (And.intro hi (And.intro hz0 (And.intro hz1 hz2)))
  clear hi hz0 hz1 hz2
  have WX : Hid (WithinP N ⟨xl, xl + xk⟩) := Lib.hid ⟨by dsimp only; omega, by dsimp only; omega, by dsimp only; omega⟩
  have mixed : Try.prog.follows .mixedOrders = true := by kernel_rfl
  go_enter Try.func9, Try.ntmps9
  go_wp2_with fail
  refine (P0.out _).mono ?_
  rintro e w0 ⟨rfl, rfl⟩
  go_wp2_with fail
  refine SO.out.mono ?_
  rintro e w1 ⟨es, v, rfl, hk1, hv1, hl1⟩
  have K1 := Lib.hid hk1
  have V1 := Lib.hid hv1
  clear hk1 hv1 SO P0
  go_wp2_with fail
  refine (PA.out _).mono ?_
  rintro e w0 ⟨rfl, rfl⟩
  go_wp2_with fail
  refine (PB.out _).mono ?_
  rintro e w0 ⟨rfl, rfl⟩
  have XT : Hid (B2 w1.heap.size (.int .i64 (xl : Int)) (.int .i64 ((xl : Int) + (xk : Int))) (w1.alloc (.cells #[.int .i64 (xl : Int), .int .i64 ((xl : Int) + (xk : Int))] 25))) := Lib.hid (B2.new _ _ _ _)
  have VT : Hid (SpsV (w1.alloc (.cells #[.int .i64 (xl : Int), .int .i64 ((xl : Int) + (xk : Int))] 25)) v es) := Lib.hid (K1.out.val.next (balloc (Below.refl _ _) _))
  have BT : Hid (Below w.heap.size w (w1.alloc (.cells #[.int .i64 (xl : Int), .int .i64 ((xl : Int) + (xk : Int))] 25))) := Lib.hid (bstep K1.out.bel (balloc (Below.refl _ _) _))
  clear K1 PA PB r1 r2 hxk hxl nr
  go_wp2_with fail
  clear r5
  generalize w1.heap.size = xb at *
  generalize (xl : Int) + (xk : Int) = xh at *
  generalize (xl : Int) = xo at *
  have A1 := Lib.hid (fun W u (h : SpsV W u es) => addV (s := ⟨xo, xh⟩) V1.out WX.out (by omega) u W h)
  have V2 := Lib.hid (add_valid V1.out WX.out (by omega))
  have l2 := add_len es ⟨xo, xh⟩
  have A2 := Lib.hid (fun W u (h : SpsV W u (addL es ⟨xo, xh⟩)) => addV (s := ⟨xo, xh⟩) V2.out WX.out (by omega) u W h)
  rw [add_twice V1.out.norm] at A2
  have A3 := Lib.hid (fun W u (h : SpsV W u (addL es ⟨xo, xh⟩)) => cutV (s := ⟨xo, xh⟩) V2.out WX.out (by omega) u W h)
  rw [cut_added V1.out.norm WX.out.2.1] at A3
  have A4 := Lib.hid (fun W u (h : SpsV W u es) => cutV (s := ⟨xo, xh⟩) V1.out WX.out (by omega) u W h)
  have V3 := Lib.hid (cut_valid V1.out WX.out (by omega))
  have IA := Lib.hid (fun i => inB_add (x := ⟨xo, xh⟩) V1.out.norm i)
  have IC := Lib.hid (fun i => inB_cut (x := ⟨xo, xh⟩) V1.out.norm WX.out.2.1 i)
  have l3 := cut_len V1.out.norm WX.out.2.1
  generalize addL es ⟨xo, xh⟩ = p1 at *
  generalize cutL es ⟨xo, xh⟩ = c1 at *
  have N1 := Lib.hid (fun W u (h : SpsV W u es) => withinV N es u W h V1.out)
  have N2 := Lib.hid (fun W u (h : SpsV W u p1) => withinV N p1 u W h V2.out)
  have N3 := Lib.hid (fun W u (h : SpsV W u c1) => withinV N c1 u W h V3.out)
  have lc : c1.length ≤ 40 := by omega
  have lp : p1.length ≤ 40 := by omega
  have hes : es.length ≤ 20 := hl1
  clear V1 V2 V3 l2 l3 WX hl1
  dsimp only at *
  generalize w1.alloc (.cells #[.int .i64 xo, .int .i64 xh] 25) = wB at *
  have DR := fun (W : World) => Below.drew (Below.refl W.heap.size W)
  have S0 : Hid (wB.drew.cell? ⟨xb, 0, none⟩ = some (.int .i64 xo) ∧ wB.drew.cell? ⟨xb, 1, none⟩ = some (.int .i64 xh)) := Lib.hid ⟨XT.out.c0, XT.out.c1⟩
  have VD := Lib.hid (VT.out.next (DR wB))
  go_region_held3 (fun W => W.cell? ⟨xb, 0, none⟩ = some (.int .i64 xo) ∧ W.cell? ⟨xb, 1, none⟩ = some (.int .i64 xh))
    (first | exact S0.out | exact S1.out | exact S2.out)
    (first
      | (go_at_call 17; refine (A1.out _ _ C4.out).mono ?_; rintro e w5 ⟨v5, rfl, hk5⟩; have K5 := Lib.hid hk5; have S2 := Lib.hid (And.intro ((XT.out.next (DR _)).next HB4.out |>.next hk5.bel).c0 ((XT.out.next (DR _)).next HB4.out |>.next hk5.bel).c1); clear hk5)
      | (refine step_copyV SpM.cs_len SpM.cs_one (by omega) (by rfl) _ _ _ (by rfl) 25 i0 _ 16 Try.underlying22 HI.out.1 HI.out.2.1 HI.out.2.2.1 HI.out.2.2.2 rfl (by rfl) _ (by rfl) es VD.out (by unfold maxLen; omega) (by omega) ?_; intro v4 w4 hv4 hb4; have C4 := Lib.hid hv4; have HB4 := Lib.hid hb4; have S1 := Lib.hid (And.intro ((XT.out.next (DR _)).next hb4).c0 ((XT.out.next (DR _)).next hb4).c1); clear hv4 hb4))
  rename_i hHeld
  clear hHeld S0 S1 S2 C4 VD
  have BX := Lib.hid (bstep (bstep (DR wB) HB4.out) K5.out.bel)
  have XU := Lib.hid (XT.out.next BX.out)
  have VU := Lib.hid (VT.out.next BX.out)
  have BU := Lib.hid (bstep BT.out BX.out)
  have PP := Lib.hid K5.out.val
  clear BX K5 HB4 XT VT BT A1
  obtain ⟨_, b0, b1, _, _⟩ := XU.out
  go_wp2_with fail
  refine (A2.out _ _ PP.out).mono ?_
  rintro e w6 ⟨v6, rfl, hk⟩
  have hkb := hk.bel
  have TW := Lib.hid hk.val
  clear hk b0 b1
  have X' := Lib.hid (XU.out.next hkb)
  have B' := Lib.hid (bstep BU.out hkb)
  have PP' := Lib.hid (PP.out.next hkb)
  have VU' := Lib.hid (VU.out.next hkb)
  clear hkb XU BU A2 PP VU
  have XU := X'
  have BU := B'
  clear X' B'
  have PP := PP'
  clear PP'
  have VU := VU'
  clear VU'
  obtain ⟨_, b0, b1, _, _⟩ := XU.out
  go_wp2_with fail
  refine (A3.out _ _ PP.out).mono ?_
  rintro e w7 ⟨v7, rfl, hk⟩
  have hkb := hk.bel
  have OU := Lib.hid hk.val
  clear hk b0 b1
  have X' := Lib.hid (XU.out.next hkb)
  have B' := Lib.hid (bstep BU.out hkb)
  have PP' := Lib.hid (PP.out.next hkb)
  have VU' := Lib.hid (VU.out.next hkb)
  have TW' := Lib.hid (TW.out.next hkb)
  clear hkb XU BU A3 PP VU TW
  have XU := X'
  have BU := B'
  clear X' B'
  have PP := PP'
  clear PP'
  have VU := VU'
  clear VU'
  have TW := TW'
  clear TW'
  obtain ⟨_, b0, b1, _, _⟩ := XU.out
  go_wp2_with fail
  refine (A4.out _ _ VU.out).mono ?_
  rintro e w8 ⟨v8, rfl, hk⟩
  have hkb := hk.bel
  have CU := Lib.hid hk.val
  clear hk b0 b1
  have X' := Lib.hid (XU.out.next hkb)
  have B' := Lib.hid (bstep BU.out hkb)
  have PP' := Lib.hid (PP.out.next hkb)
  have VU' := Lib.hid (VU.out.next hkb)
  have TW' := Lib.hid (TW.out.next hkb)
  have OU' := Lib.hid (OU.out.next hkb)
  clear hkb XU BU A4 PP VU TW OU
  have XU := X'
  have BU := B'
  clear X' B'
  have PP := PP'
  clear PP'
  have VU := VU'
  clear VU'
  have TW := TW'
  clear TW'
  have OU := OU'
  clear OU'
  go_wp2_with fail
  refine (N1.out _ _ VU.out).mono ?_
  rintro e w9 ⟨bp, rfl, hr, hkb⟩
  have RP := Lib.hid hr
  clear hr
  have X' := Lib.hid (XU.out.next hkb)
  have B' := Lib.hid (bstep BU.out hkb)
  have PP' := Lib.hid (PP.out.next hkb)
  have OU' := Lib.hid (OU.out.next hkb)
  have TW' := Lib.hid (TW.out.next hkb)
  have CU' := Lib.hid (CU.out.next hkb)
  clear hkb XU BU N1 PP OU TW CU
  have XU := X'
  have BU := B'
  clear X' B'
  have PP := PP'
  clear PP'
  have OU := OU'
  clear OU'
  have TW := TW'
  clear TW'
  have CU := CU'
  clear CU'
  go_wp2_with fail
  refine (N2.out _ _ PP.out).mono ?_
  rintro e w10 ⟨bq, rfl, hr, hkb⟩
  have RQ := Lib.hid hr
  clear hr
  have X' := Lib.hid (XU.out.next hkb)
  have B' := Lib.hid (bstep BU.out hkb)
  have PP' := Lib.hid (PP.out.next hkb)
  have OU' := Lib.hid (OU.out.next hkb)
  have TW' := Lib.hid (TW.out.next hkb)
  have CU' := Lib.hid (CU.out.next hkb)
  have RP' := Lib.hid (RP.out.next hkb)
  clear hkb XU BU N2 PP OU TW CU RP
  have XU := X'
  have BU := B'
  clear X' B'
  have PP := PP'
  clear PP'
  have OU := OU'
  clear OU'
  have TW := TW'
  clear TW'
  have CU := CU'
  clear CU'
  have RP := RP'
  clear RP'
  go_wp2_with fail
  refine (N3.out _ _ OU.out).mono ?_
  rintro e w11 ⟨br, rfl, hr, hkb⟩
  have RR := Lib.hid hr
  clear hr
  have X' := Lib.hid (XU.out.next hkb)
  have B' := Lib.hid (bstep BU.out hkb)
  have PP' := Lib.hid (PP.out.next hkb)
  have OU' := Lib.hid (OU.out.next hkb)
  have TW' := Lib.hid (TW.out.next hkb)
  have CU' := Lib.hid (CU.out.next hkb)
  have RP' := Lib.hid (RP.out.next hkb)
  have RQ' := Lib.hid (RQ.out.next hkb)
  clear hkb XU BU N3 PP OU TW CU RP RQ
  have XU := X'
  have BU := B'
  clear X' B'
  have PP := PP'
  clear PP'
  have OU := OU'
  clear OU'
  have TW := TW'
  clear TW'
  have CU := CU'
  clear CU'
  have RP := RP'
  clear RP'
  have RQ := RQ'
  clear RQ'
  obtain ⟨ap, cp, rfl, _⟩ := SpsV.at_ PP.out
  obtain ⟨at', ct, rfl, _⟩ := SpsV.at_ TW.out
  obtain ⟨ao, co, rfl, hao⟩ := SpsV.at_ OU.out
  obtain ⟨ac, cc, rfl, hac⟩ := SpsV.at_ CU.out
  have HO := Lib.hid hao
  have HC := Lib.hid hac
  clear hao hac PP TW OU CU
  obtain ⟨np, hnp⟩ : ∃ np, np = p1.length := ⟨_, rfl⟩
  obtain ⟨nc, hnc⟩ : ∃ nc, nc = c1.length := ⟨_, rfl⟩
  have HNC := Lib.hid hnc
  rw [← hnp] at lp ⊢
  rw [← hnc] at lc ⊢
  clear hnp hnc
  obtain ⟨_, b0, b1, _, _⟩ := XU.out
  have nn := notNil
  have ns := neqSpan
  have gs := guardSpan
  go_wp2_with fail
  go_loopw [24] (fun vi wr => ∃ i : Nat, i ≤ N ∧ vi = .int .i64 (i : Int) ∧ ∃ m, wr = w11.drewN m) (fun vi _ => N - (intOf vi).toNat)
  case atStart => exact ⟨0, Nat.zero_le _, rfl, 0, rfl⟩
  case round =>
    obtain ⟨i, hi, rfl, m, rfl⟩ := hrel
    by_cases hlt : i < N
    · have cp' := RP.out.cell i (by omega)
      have cq' := RQ.out.cell i (by omega)
      have cr' := RR.out.cell i (by omega)
      rw [IA.out] at cq'
      rw [IC.out] at cr'
      have j0 : (0 : Int) ≤ (i : Int) := Int.natCast_nonneg _
      have j1 : (i : Int) < ((N + 1 : Nat) : Int) := by omega
      have j2 : (i : Int) < (N : Int) := by omega
      by_cases q1 : xo ≤ (i : Int)
      · rw [decide_eq_true q1] at cq' cr'
        by_cases q2 : (i : Int) < xh
        · rw [decide_eq_true q2] at cq' cr'
          cases hb : inB es (i : Int)
          · rw [hb] at cp' cq' cr'
            simp only [Bool.and_true, Bool.or_true, Bool.not_true, Bool.and_false] at cq' cr'
            clear hb
            go_wp2_with fail
            go_quiet (fail)
            go_wp2_with fail
            go_roundw
            case rel => exact ⟨i + 1, by omega, by go_num, _, rfl⟩
            case measure => simp [intOf]; omega
          · rw [hb] at cp' cq' cr'
            simp only [Bool.and_true, Bool.or_true, Bool.not_true, Bool.and_false] at cq' cr'
            clear hb
            go_wp2_with fail
            go_quiet (fail)
            go_wp2_with fail
            go_roundw
            case rel => exact ⟨i + 1, by omega, by go_num, _, rfl⟩
            case measure => simp [intOf]; omega
        · rw [decide_eq_false q2] at cq' cr'
          cases hb : inB es (i : Int)
          · rw [hb] at cp' cq' cr'
            simp only [Bool.and_false, Bool.or_false, Bool.not_false, Bool.and_true] at cq' cr'
            clear hb
            go_wp2_with fail
            go_quiet (fail)
            go_wp2_with fail
            go_roundw
            case rel => exact ⟨i + 1, by omega, by go_num, _, rfl⟩
            case measure => simp [intOf]; omega
          · rw [hb] at cp' cq' cr'
            simp only [Bool.and_false, Bool.or_false, Bool.not_false, Bool.and_true] at cq' cr'
            clear hb
            go_wp2_with fail
            go_quiet (fail)
            go_wp2_with fail
            go_roundw
            case rel => exact ⟨i + 1, by omega, by go_num, _, rfl⟩
            case measure => simp [intOf]; omega
      · rw [decide_eq_false q1] at cq' cr'
        cases hb : inB es (i : Int)
        · rw [hb] at cp' cq' cr'
          simp only [Bool.false_and, Bool.or_false, Bool.not_false, Bool.and_true] at cq' cr'
          clear hb
          go_wp2_with fail
          go_quiet (fail)
          go_wp2_with fail
          go_roundw
          case rel => exact ⟨i + 1, by omega, by go_num, _, rfl⟩
          case measure => simp [intOf]; omega
        · rw [hb] at cp' cq' cr'
          simp only [Bool.false_and, Bool.or_false, Bool.not_false, Bool.and_true] at cq' cr'
          clear hb
          go_wp2_with fail
          go_quiet (fail)
          go_wp2_with fail
          go_roundw
          case rel => exact ⟨i + 1, by omega, by go_num, _, rfl⟩
          case measure => simp [intOf]; omega
    · obtain rfl : i = N := by omega
      go_wp2_with fail
      go_loopw [26] (fun vi wr => ∃ j : Nat, j ≤ nc ∧ vi = .int .i64 (j : Int) ∧ ∃ m, wr = w11.drewN m) (fun vi _ => nc - (intOf vi).toNat)
      case atStart => exact ⟨0, Nat.zero_le _, rfl, m, rfl⟩
      case round =>
        obtain ⟨j, hj, rfl, m, rfl⟩ := hrel
        by_cases hlt : j < nc
        · obtain ⟨s, hs⟩ : ∃ s, c1[j]? = some s := ⟨c1[j]'(by have := HNC.out; omega), by simp [← HNC.out, hlt]⟩
          obtain ⟨b1', o1, rfl, _, p1', p2⟩ := SpsAt.get HO.out hs
          obtain ⟨b2', o2, rfl, _, q1, q2⟩ := SpsAt.get HC.out hs
          have i0' : (0 : Int) ≤ (j : Int) := Int.natCast_nonneg _
          have i1 : (j : Int) < (nc : Int) := by omega
          clear hs
          obtain ⟨lo, hi'⟩ := s
          dsimp only at *
          go_wp2_with fail
          go_quiet (fail)
          go_wp2_with fail
          go_roundw
          case rel => exact ⟨j + 1, by omega, by go_num, _, rfl⟩
          case measure => simp [intOf]; omega
        · obtain rfl : j = nc := by omega
          go_wp2_with fail
          go_ret
          exact ⟨rfl, bdrewN BU.out _⟩
end Go.Proofs.Ytdiogfhbgmkajaa.SpanK
