/-
  The law SpansTwo, walked.
-/
import Derived.Test.YtdiogfhbgmkajaaKeepCom
import Derived.Test.YtdiogfhbgmkajaaSpanEq
namespace Go.Proofs.Ytdiogfhbgmkajaa.SpanK
open Go.RowKit Kit SpanM SpanC Lift Txt

theorem two_add {l : List SpM} {x y : SpM} (h : Norm l) : addL (addL l x) y = addL (addL l y) x := by
  refine norm_one (with_norm (with_norm h).1).1 (with_norm (with_norm h).1).1 fun i => ?_
  have h1 : Norm (addL l x) := (with_norm h).1
  have h2 : Norm (addL l y) := (with_norm h).1
  show In (addL (addL l x) y) i ↔ In (addL (addL l y) x) i
  rw [add_in h1, add_in h, add_in h2, add_in h, or_assoc, or_assoc]
  exact or_congr Iff.rfl or_comm
theorem two_cut {l : List SpM} {x y : SpM} (h : Norm l) (hx : x.lo ≤ x.hi) (hy : y.lo ≤ y.hi) : cutL (cutL l x) y = cutL (cutL l y) x := by
  refine norm_one (wo_norm (wo_norm h hx).1 hy).1 (wo_norm (wo_norm h hy).1 hx).1 fun i => ?_
  have h1 : Norm (cutL l x) := (wo_norm h hx).1
  have h2 : Norm (cutL l y) := (wo_norm h hy).1
  show In (cutL (cutL l x) y) i ↔ In (cutL (cutL l y) x) i
  rw [cut_in h1 hy, cut_in h hx, cut_in h2 hx, cut_in h hy, and_assoc, and_assoc]
  exact and_congr Iff.rfl and_comm
set_option maxRecDepth 100000 in
set_option maxHeartbeats 8000000 in
theorem spansTwo (a0 : Option Addr) (len0 cap0 : Nat) (z0 : List Int) (size a b c d : Int) (w : World) (hz : IsRow .i64 w a0 len0 cap0 z0) {X : Prop} (_ : X) {Y : Prop} (_ : Y) {X2 : Prop} (_ : X2) {Y2 : Prop} (_ : Y2) {Y3 : Prop} (_ : Y3) :
    Calls Try.prog 13 #[.slice a0 len0 cap0, .int .i64 size, .int .i64 a, .int .i64 b, .int .i64 c, .int .i64 d] w fun e w' => e = .returned (.bool true) ∧ Below w.heap.size w w' := by
  have P0 := Lib.hid (fun W => picked size 200 W (by omega) (by omega))
  obtain ⟨N0, e0, hN0⟩ := pick_in size 200 (by omega)
  rw [show ((200 : Nat) : Int) = 200 from rfl] at e0
  rw [e0] at P0
  clear e0
  obtain ⟨N, hN⟩ : ∃ N, N = 1 + N0 := ⟨_, rfl⟩
  have ne : (1 : Int) + (N0 : Int) = (N : Int) := by omega
  have nr : IntKind.i64.wrap ((1 : Int) + (N0 : Int)) = (N : Int) := by rw [ne]; exact IntWalk.i64_in _ (by omega)
  have hNb : N ≤ 200 := by omega
  have hNp : 0 < N := by omega
  clear hN ne hN0
  have SO := Lib.hid (setOfK a0 len0 cap0 z0 15 N w hz (by omega) (by omega))
  have PA := Lib.hid (fun W => picked a N W (by omega) (by omega))
  have PC := Lib.hid (fun W => picked c N W (by omega) (by omega))
  obtain ⟨xl, ea, hxl⟩ := pick_in a N hNp
  obtain ⟨yl, ec, hyl⟩ := pick_in c N hNp
  rw [ea] at PA
  rw [ec] at PC
  have PB := Lib.hid (fun W => picked b ((N : Int) - xl + 1) W (by omega) (by omega))
  have PD := Lib.hid (fun W => picked d ((N : Int) - yl + 1) W (by omega) (by omega))
  obtain ⟨xk, eb, hxk⟩ := pick_in b (N - xl + 1) (by omega)
  obtain ⟨yk, ed, hyk⟩ := pick_in d (N - yl + 1) (by omega)
  rw [show (((N - xl + 1 : Nat) : Int)) = (N : Int) - xl + 1 by omega] at eb
  rw [show (((N - yl + 1 : Nat) : Int)) = (N : Int) - yl + 1 by omega] at ed
  rw [eb] at PB
  rw [ed] at PD
  clear ea ec eb ed hz
  have r1 : IntKind.i64.wrap ((N : Int) - (xl : Int)) = (N : Int) - (xl : Int) := IntWalk.i64_in _ (by omega)
  have r2 : IntKind.i64.wrap ((N : Int) - (xl : Int) + 1) = (N : Int) - (xl : Int) + 1 := IntWalk.i64_in _ (by omega)
  have r3 : IntKind.i64.wrap ((N : Int) - (yl : Int)) = (N : Int) - (yl : Int) := IntWalk.i64_in _ (by omega)
  have r4 : IntKind.i64.wrap ((N : Int) - (yl : Int) + 1) = (N : Int) - (yl : Int) + 1 := IntWalk.i64_in _ (by omega)
  have r5 : IntKind.i64.wrap ((xl : Int) + (xk : Int)) = (xl : Int) + (xk : Int) := IntWalk.i64_in _ (by omega)
  have r6 : IntKind.i64.wrap ((yl : Int) + (yk : Int)) = (yl : Int) + (yk : Int) := IntWalk.i64_in _ (by omega)
  obtain ⟨i0, hi, hz0, hz1, hz2⟩ := info_parts infoSpan
  have HI := Lib.hid (And.intro hi (And.intro hz0 (And.intro hz1 hz2)))
  clear hi hz0 hz1 hz2
  have WX : Hid (WithinP N ⟨xl, xl + xk⟩) := Lib.hid ⟨by dsimp only; omega, by dsimp only; omega, by dsimp only; omega⟩
  have WY : Hid (WithinP N ⟨yl, yl + yk⟩) := Lib.hid ⟨by dsimp only; omega, by dsimp only; omega, by dsimp only; omega⟩
  have mixed : Try.prog.follows .mixedOrders = true := by kernel_rfl
  go_enter Try.func13, Try.ntmps13
  go_wp2_with fail
  refine (P0.out _).mono ?_
  rintro e w0 ⟨rfl, rfl⟩
  go_wp2_with fail
  refine SO.out.mono ?_
  rintro e w1 ⟨es, v, rfl, hk1, hv1, hl1⟩
  have K1 := Lib.hid hk1
  have V1 := Lib.hid hv1
  clear hk1 hv1 SO P0
  go_wp2_with fail
  refine (PA.out _).mono ?_
  rintro e w0 ⟨rfl, rfl⟩
  go_wp2_with fail
  go_region_held3 (fun W => W.cell? ⟨w1.heap.size, 0, none⟩ = some (.int .i64 (xl : Int)))
    (first | go_keep | simp)
    (first | (go_at_call 27; (with_reducible refine (PB.out _).mono ?_); rintro e wz ⟨rfl, rfl⟩))
  have XS : Hid (B2 w1.heap.size (.int .i64 (xl : Int)) (.int .i64 ((xl : Int) + (xk : Int))) (w1.alloc (.cells #[.int .i64 (xl : Int), .int .i64 ((xl : Int) + (xk : Int))] 25)).drew) := Lib.hid ((B2.new _ _ _ _).next (Below.drew (Below.refl _ _)))
  have VS : Hid (SpsV (w1.alloc (.cells #[.int .i64 (xl : Int), .int .i64 ((xl : Int) + (xk : Int))] 25)).drew v es) := Lib.hid (K1.out.val.next (Below.drew (balloc (Below.refl _ _) _)))
  have BS : Hid (Below w.heap.size w (w1.alloc (.cells #[.int .i64 (xl : Int), .int .i64 ((xl : Int) + (xk : Int))] 25)).drew) := Lib.hid (bstep K1.out.bel (Below.drew (balloc (Below.refl _ _) _)))
  clear K1
  rename_i hHeld
  clear hHeld
  generalize w1.heap.size = xb at *
  go_wp2_with fail
  generalize (w1.alloc (.cells #[.int .i64 (xl : Int), .int .i64 ((xl : Int) + (xk : Int))] 25)).drew = wA at *
  refine (PC.out _).mono ?_
  rintro e w0 ⟨rfl, rfl⟩
  go_wp2_with fail
  go_region_held3 (fun W => W.cell? ⟨wA.heap.size, 0, none⟩ = some (.int .i64 (yl : Int)))
    (first | go_keep | simp)
    (first | (go_at_call 27; (with_reducible refine (PD.out _).mono ?_); rintro e wz ⟨rfl, rfl⟩))
  have YS : Hid (B2 wA.heap.size (.int .i64 (yl : Int)) (.int .i64 ((yl : Int) + (yk : Int))) (wA.alloc (.cells #[.int .i64 (yl : Int), .int .i64 ((yl : Int) + (yk : Int))] 25)).drew) := Lib.hid ((B2.new _ _ _ _).next (Below.drew (Below.refl _ _)))
  have XT := Lib.hid (XS.out.next (Below.drew (balloc (Below.refl _ _) (.cells #[.int .i64 (yl : Int), .int .i64 ((yl : Int) + (yk : Int))] 25))))
  have VT := Lib.hid (VS.out.next (Below.drew (balloc (Below.refl _ _) (.cells #[.int .i64 (yl : Int), .int .i64 ((yl : Int) + (yk : Int))] 25))))
  have BT := Lib.hid (bstep BS.out (Below.drew (balloc (Below.refl _ _) (.cells #[.int .i64 (yl : Int), .int .i64 ((yl : Int) + (yk : Int))] 25))))
  clear XS VS BS
  rename_i hHeld
  clear hHeld
  generalize wA.heap.size = yb at *
  have hes : es.length ≤ 15 := hl1
  clear PA PB PC PD r1 r2 r3 r4 r5 r6 hxk hyk hxl hyl nr
  generalize (xl : Int) + (xk : Int) = xh at *
  generalize (yl : Int) + (yk : Int) = yh at *
  generalize (xl : Int) = xo at *
  generalize (yl : Int) = yo at *
  have nN : (0 : Int) ≤ N := by omega
  have A1 := Lib.hid (fun W u (h : SpsV W u es) => addV (s := ⟨xo, xh⟩) V1.out WX.out (by omega) u W h)
  have V2 := Lib.hid (add_valid V1.out WX.out (by omega))
  have l2 := add_len es ⟨xo, xh⟩
  have A2 := Lib.hid (fun W u (h : SpsV W u (addL es ⟨xo, xh⟩)) => addV (s := ⟨yo, yh⟩) V2.out WY.out (by omega) u W h)
  have V3 := Lib.hid (add_valid V2.out WY.out (by omega))
  have l3 := add_len (addL es ⟨xo, xh⟩) ⟨yo, yh⟩
  have A3 := Lib.hid (fun W u (h : SpsV W u es) => addV (s := ⟨yo, yh⟩) V1.out WY.out (by omega) u W h)
  have V4 := Lib.hid (add_valid V1.out WY.out (by omega))
  have l4 := add_len es ⟨yo, yh⟩
  have A4 := Lib.hid (fun W u (h : SpsV W u (addL es ⟨yo, yh⟩)) => addV (s := ⟨xo, xh⟩) V4.out WX.out (by omega) u W h)
  rw [← two_add V1.out.norm] at A4
  generalize addL (addL es ⟨xo, xh⟩) ⟨yo, yh⟩ = pp at *
  generalize addL es ⟨xo, xh⟩ = p1 at *
  generalize addL es ⟨yo, yh⟩ = q1 at *
  have A5 := Lib.hid (fun W u (h : SpsV W u pp) => cutV (s := ⟨xo, xh⟩) V3.out WX.out (by omega) u W h)
  have V5 := Lib.hid (cut_valid V3.out WX.out (by omega))
  have l5 := cut_len V3.out.norm WX.out.2.1
  have A6 := Lib.hid (fun W u (h : SpsV W u (cutL pp ⟨xo, xh⟩)) => cutV (s := ⟨yo, yh⟩) V5.out WY.out (by omega) u W h)
  have V6 := Lib.hid (cut_valid V5.out WY.out (by omega))
  have l6 := cut_len V5.out.norm WY.out.2.1
  have A7 := Lib.hid (fun W u (h : SpsV W u pp) => cutV (s := ⟨yo, yh⟩) V3.out WY.out (by omega) u W h)
  have V7 := Lib.hid (cut_valid V3.out WY.out (by omega))
  have l7 := cut_len V3.out.norm WY.out.2.1
  have A8 := Lib.hid (fun W u (h : SpsV W u (cutL pp ⟨yo, yh⟩)) => cutV (s := ⟨xo, xh⟩) V7.out WX.out (by omega) u W h)
  rw [← two_cut V3.out.norm WX.out.2.1 WY.out.2.1] at A8
  generalize cutL (cutL pp ⟨xo, xh⟩) ⟨yo, yh⟩ = uu at *
  generalize cutL pp ⟨xo, xh⟩ = u1 at *
  generalize cutL pp ⟨yo, yh⟩ = v1 at *
  have M1 := Lib.hid (fun W a cap (h : SpsAt W a pp) => may N pp a cap W h (by omega))
  have M2 := Lib.hid (fun W a cap (h : SpsAt W a uu) => may N uu a cap W h (by omega))
  rw [mayB_yes V3.out] at M1
  rw [mayB_yes V6.out] at M2
  have lp : pp.length ≤ 40 := by omega
  have lu : uu.length ≤ 40 := by omega
  clear V1 V2 V3 V4 V5 V6 V7 l2 l3 l4 l5 l6 l7 WX WY hl1
  dsimp only at *
  go_wp2_with fail
  generalize (wA.alloc (.cells #[.int .i64 yo, .int .i64 yh] 25)).drew = wB at *
  have DR := fun (W : World) => Below.drew (Below.refl W.heap.size W)
  have S0 : Hid ((wB).drew.cell? ⟨xb, 0, none⟩ = some (.int .i64 xo) ∧ (wB).drew.cell? ⟨xb, 1, none⟩ = some (.int .i64 xh)) := Lib.hid ⟨XT.out.c0, XT.out.c1⟩
  have VD := Lib.hid (VT.out.next (DR wB))
  go_region_held3 (fun W => W.cell? ⟨xb, 0, none⟩ = some (.int .i64 xo) ∧ W.cell? ⟨xb, 1, none⟩ = some (.int .i64 xh))
    (first | exact S0.out | exact S1.out | exact S2.out)
    (first
      | (go_at_call 17; refine (A1.out _ _ C4.out).mono ?_; rintro e w5 ⟨v5, rfl, hk5⟩; have K5 := Lib.hid hk5; have S2 := Lib.hid (And.intro ((XT.out.next (DR _)).next HB4.out |>.next hk5.bel).c0 ((XT.out.next (DR _)).next HB4.out |>.next hk5.bel).c1); clear hk5)
      | (refine step_copyV SpM.cs_len SpM.cs_one (by omega) (by rfl) _ _ _ (by rfl) 25 i0 _ 16 Try.underlying22 HI.out.1 HI.out.2.1 HI.out.2.2.1 HI.out.2.2.2 rfl (by rfl) _ (by rfl) es VD.out (by unfold maxLen; omega) (by omega) ?_; intro v4 w4 hv4 hb4; have C4 := Lib.hid hv4; have HB4 := Lib.hid hb4; have S1 := Lib.hid (And.intro ((XT.out.next (DR _)).next hb4).c0 ((XT.out.next (DR _)).next hb4).c1); clear hv4 hb4))
  rename_i hHeld
  clear hHeld S0 S1 S2 C4 VD
  have BX := Lib.hid (bstep (bstep (DR wB) HB4.out) K5.out.bel)
  have XU := Lib.hid (XT.out.next BX.out)
  have YU := Lib.hid (YS.out.next BX.out)
  have VU := Lib.hid (VT.out.next BX.out)
  have BU := Lib.hid (bstep BT.out BX.out)
  have PP := Lib.hid K5.out.val
  clear BX K5 HB4 XT YS VT BT A1
  obtain ⟨_, x0, x1, _, _⟩ := XU.out
  obtain ⟨_, y0, y1, _, _⟩ := YU.out
  clear x0 x1
  go_wp2_with fail
  refine (A2.out _ _ PP.out).mono ?_
  rintro e w6 ⟨v6, rfl, hk6⟩
  have XT := Lib.hid (XU.out.next hk6.bel)
  have YS := Lib.hid (YU.out.next hk6.bel)
  have VT := Lib.hid (VU.out.next hk6.bel)
  have BT := Lib.hid (bstep BU.out hk6.bel)
  have P2 := Lib.hid hk6.val
  clear hk6 A2 PP XU YU VU BU y0 y1
  go_wp2_with fail
  have S0 : Hid ((w6).drew.cell? ⟨yb, 0, none⟩ = some (.int .i64 yo) ∧ (w6).drew.cell? ⟨yb, 1, none⟩ = some (.int .i64 yh)) := Lib.hid ⟨YS.out.c0, YS.out.c1⟩
  have VD := Lib.hid (VT.out.next (DR w6))
  go_region_held3 (fun W => W.cell? ⟨yb, 0, none⟩ = some (.int .i64 yo) ∧ W.cell? ⟨yb, 1, none⟩ = some (.int .i64 yh))
    (first | exact S0.out | exact S1.out | exact S2.out)
    (first
      | (go_at_call 17; refine (A3.out _ _ C4.out).mono ?_; rintro e w5 ⟨v5, rfl, hk5⟩; have K5 := Lib.hid hk5; have S2 := Lib.hid (And.intro ((YS.out.next (DR _)).next HB4.out |>.next hk5.bel).c0 ((YS.out.next (DR _)).next HB4.out |>.next hk5.bel).c1); clear hk5)
      | (refine step_copyV SpM.cs_len SpM.cs_one (by omega) (by rfl) _ _ _ (by rfl) 25 i0 _ 16 Try.underlying22 HI.out.1 HI.out.2.1 HI.out.2.2.1 HI.out.2.2.2 rfl (by rfl) _ (by rfl) es VD.out (by unfold maxLen; omega) (by omega) ?_; intro v4 w4 hv4 hb4; have C4 := Lib.hid hv4; have HB4 := Lib.hid hb4; have S1 := Lib.hid (And.intro ((YS.out.next (DR _)).next hb4).c0 ((YS.out.next (DR _)).next hb4).c1); clear hv4 hb4))
  rename_i hHeld
  clear hHeld S0 S1 S2 C4 VD
  have BX := Lib.hid (bstep (bstep (DR w6) HB4.out) K5.out.bel)
  have XU := Lib.hid (XT.out.next BX.out)
  have YU := Lib.hid (YS.out.next BX.out)
  have VU := Lib.hid (VT.out.next BX.out)
  have BU := Lib.hid (bstep BT.out BX.out)
  have Q1 := Lib.hid K5.out.val
  have P3 := Lib.hid (P2.out.next BX.out)
  clear P2
  clear BX K5 HB4 XT YS VT BT A3
  clear VU
  obtain ⟨_, b0, b1, _, _⟩ := XU.out
  go_wp2_with fail
  refine (A4.out _ _ Q1.out).mono ?_
  rintro e w8 ⟨v8, rfl, hk⟩
  have X' := Lib.hid (XU.out.next hk.bel)
  have Y' := Lib.hid (YU.out.next hk.bel)
  have B' := Lib.hid (bstep BU.out hk.bel)
  have Q2 := Lib.hid hk.val
  have P3' := Lib.hid (P3.out.next hk.bel)
  clear hk b0 b1 XU YU BU A4 P3
  have XU := X'
  have YU := Y'
  have BU := B'
  clear X' Y' B'
  have P3 := P3'
  clear P3'
  clear Q1
  obtain ⟨_, b0, b1, _, _⟩ := XU.out
  go_wp2_with fail
  refine (A5.out _ _ P3.out).mono ?_
  rintro e w9 ⟨v9, rfl, hk⟩
  have X' := Lib.hid (XU.out.next hk.bel)
  have Y' := Lib.hid (YU.out.next hk.bel)
  have B' := Lib.hid (bstep BU.out hk.bel)
  have U1 := Lib.hid hk.val
  have P3' := Lib.hid (P3.out.next hk.bel)
  have Q2' := Lib.hid (Q2.out.next hk.bel)
  clear hk b0 b1 XU YU BU A5 P3 Q2
  have XU := X'
  have YU := Y'
  have BU := B'
  clear X' Y' B'
  have P3 := P3'
  clear P3'
  have Q2 := Q2'
  clear Q2'
  obtain ⟨_, b0, b1, _, _⟩ := YU.out
  go_wp2_with fail
  refine (A6.out _ _ U1.out).mono ?_
  rintro e w10 ⟨v10, rfl, hk⟩
  have X' := Lib.hid (XU.out.next hk.bel)
  have Y' := Lib.hid (YU.out.next hk.bel)
  have B' := Lib.hid (bstep BU.out hk.bel)
  have U2 := Lib.hid hk.val
  have P3' := Lib.hid (P3.out.next hk.bel)
  have Q2' := Lib.hid (Q2.out.next hk.bel)
  clear hk b0 b1 XU YU BU A6 P3 Q2
  have XU := X'
  have YU := Y'
  have BU := B'
  clear X' Y' B'
  have P3 := P3'
  clear P3'
  have Q2 := Q2'
  clear Q2'
  clear U1
  obtain ⟨_, b0, b1, _, _⟩ := YU.out
  go_wp2_with fail
  refine (A7.out _ _ Q2.out).mono ?_
  rintro e w11 ⟨v11, rfl, hk⟩
  have X' := Lib.hid (XU.out.next hk.bel)
  have Y' := Lib.hid (YU.out.next hk.bel)
  have B' := Lib.hid (bstep BU.out hk.bel)
  have W1 := Lib.hid hk.val
  have P3' := Lib.hid (P3.out.next hk.bel)
  have Q2' := Lib.hid (Q2.out.next hk.bel)
  have U2' := Lib.hid (U2.out.next hk.bel)
  clear hk b0 b1 XU YU BU A7 P3 Q2 U2
  have XU := X'
  have YU := Y'
  have BU := B'
  clear X' Y' B'
  have P3 := P3'
  clear P3'
  have Q2 := Q2'
  clear Q2'
  have U2 := U2'
  clear U2'
  obtain ⟨_, b0, b1, _, _⟩ := XU.out
  go_wp2_with fail
  refine (A8.out _ _ W1.out).mono ?_
  rintro e w12 ⟨v12, rfl, hk⟩
  have X' := Lib.hid (XU.out.next hk.bel)
  have Y' := Lib.hid (YU.out.next hk.bel)
  have B' := Lib.hid (bstep BU.out hk.bel)
  have W2 := Lib.hid hk.val
  have P3' := Lib.hid (P3.out.next hk.bel)
  have Q2' := Lib.hid (Q2.out.next hk.bel)
  have U2' := Lib.hid (U2.out.next hk.bel)
  clear hk b0 b1 XU YU BU A8 P3 Q2 U2
  have XU := X'
  have YU := Y'
  have BU := B'
  clear X' Y' B'
  have P3 := P3'
  clear P3'
  have Q2 := Q2'
  clear Q2'
  have U2 := U2'
  clear U2'
  clear W1
  obtain ⟨ap, cp, rfl, hap⟩ := SpsV.at_ P3.out
  obtain ⟨aq, cq, rfl, haq⟩ := SpsV.at_ Q2.out
  obtain ⟨au, cu, rfl, hau⟩ := SpsV.at_ U2.out
  obtain ⟨av, cv, rfl, hav⟩ := SpsV.at_ W2.out
  have HP := Lib.hid hap
  have HQ := Lib.hid haq
  have HU := Lib.hid hau
  have HV := Lib.hid hav
  have M1' := Lib.hid (M1.out _ _ cp hap)
  have M2' := Lib.hid (fun W (hW : Below w12.heap.size w12 W) => M2.out _ _ cu (hau.next hW))
  clear hap haq hau hav P3 Q2 U2 W2 M1 M2 XU YU
  obtain ⟨np, hnp⟩ : ∃ np, np = pp.length := ⟨_, rfl⟩
  obtain ⟨nu, hnu⟩ : ∃ nu, nu = uu.length := ⟨_, rfl⟩
  have HNP := Lib.hid hnp
  have HNU := Lib.hid hnu
  rw [← hnp] at lp M1' ⊢
  rw [← hnu] at lu M2' ⊢
  clear hnp hnu
  go_wp2_with fail
  refine M1'.out.mono ?_
  rintro e w13 ⟨rfl, hb13⟩
  have MM := Lib.hid (M2'.out _ hb13)
  have B13 := Lib.hid hb13
  clear hb13 M1' M2'
  go_wp2_with fail
  refine MM.out.mono ?_
  rintro e w14 ⟨rfl, hb14⟩
  have B14 := Lib.hid (bstep B13.out hb14)
  have BF := Lib.hid (bstep BU.out B14.out)
  clear hb14 MM B13 BU
  have ns := neqSpan
  have gs := guardSpan
  have HP' := Lib.hid (HP.out.next B14.out)
  have HQ' := Lib.hid (HQ.out.next B14.out)
  have HU' := Lib.hid (HU.out.next B14.out)
  have HV' := Lib.hid (HV.out.next B14.out)
  clear HP HQ HU HV B14
  go_wp2_with fail
  go_loopw [29] (fun vi wr => ∃ k : Nat, k ≤ np ∧ vi = .int .i64 (k : Int) ∧ ∃ m, wr = w14.drewN m) (fun vi _ => np - (intOf vi).toNat)
  case atStart => exact ⟨0, Nat.zero_le _, rfl, 0, rfl⟩
  case round =>
    obtain ⟨k, hk, rfl, m, rfl⟩ := hrel
    by_cases hlt : k < np
    · obtain ⟨s, hs⟩ : ∃ s, pp[k]? = some s := ⟨pp[k]'(by have := HNP.out; omega), by simp [← HNP.out, hlt]⟩
      obtain ⟨b1, o1, rfl, _, p1, p2⟩ := SpsAt.get HP'.out hs
      obtain ⟨b2, o2, rfl, _, q1, q2⟩ := SpsAt.get HQ'.out hs
      have i0' : (0 : Int) ≤ (k : Int) := Int.natCast_nonneg _
      have i1 : (k : Int) < (np : Int) := by omega
      clear hs
      obtain ⟨lo, hi⟩ := s
      dsimp only at *
      go_wp2_with fail
      go_quiet (fail)
      go_wp2_with fail
      go_roundw
      case rel => exact ⟨k + 1, by omega, by go_num, _, rfl⟩
      case measure => simp [intOf]; omega
    · obtain rfl : k = np := by omega
      go_wp2_with fail
      go_loopw [30] (fun vi wr => ∃ j : Nat, j ≤ nu ∧ vi = .int .i64 (j : Int) ∧ ∃ m, wr = w14.drewN m) (fun vi _ => nu - (intOf vi).toNat)
      case atStart => exact ⟨0, Nat.zero_le _, rfl, m, rfl⟩
      case round =>
        obtain ⟨j, hj, rfl, m, rfl⟩ := hrel
        by_cases hlt : j < nu
        · obtain ⟨s, hs⟩ : ∃ s, uu[j]? = some s := ⟨uu[j]'(by have := HNU.out; omega), by simp [← HNU.out, hlt]⟩
          obtain ⟨b1, o1, rfl, _, p1, p2⟩ := SpsAt.get HU'.out hs
          obtain ⟨b2, o2, rfl, _, q1, q2⟩ := SpsAt.get HV'.out hs
          have i0' : (0 : Int) ≤ (j : Int) := Int.natCast_nonneg _
          have i1 : (j : Int) < (nu : Int) := by omega
          clear hs
          obtain ⟨lo, hi⟩ := s
          dsimp only at *
          go_wp2_with fail
          go_quiet (fail)
          go_wp2_with fail
          go_roundw
          case rel => exact ⟨j + 1, by omega, by go_num, _, rfl⟩
          case measure => simp [intOf]; omega
        · obtain rfl : j = nu := by omega
          go_wp2_with fail
          go_ret
          exact ⟨rfl, bdrewN BF.out _⟩
end Go.Proofs.Ytdiogfhbgmkajaa.SpanK
