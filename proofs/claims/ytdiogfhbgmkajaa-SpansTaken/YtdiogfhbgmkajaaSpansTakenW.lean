/-
  The law SpansTaken, walked.
-/
import Derived.Test.YtdiogfhbgmkajaaKeepCom
import Derived.Test.YtdiogfhbgmkajaaRefTake
namespace Go.Proofs.Ytdiogfhbgmkajaa.SpanM
theorem lefts_valid {n : Int} {x : SpM} {r : List SpM} {th : Int} (h : Valid n (x :: r)) (h1 : x.lo < th) (h2 : th ≤ x.hi) : Valid n (lefts x r th) :=
  norm_valid (lefts_norm h.norm) h.n0 h.n1 (Nat.le_trans lefts_len h.len) fun i hi => h.in_ ((lefts_in h.norm h1 h2 i).1 hi).1
theorem lefts_lo {n : Int} {x : SpM} {r : List SpM} {th : Int} (h : Valid n (x :: r)) (h2 : th ≤ x.hi) : ∀ s ∈ lefts x r th, th ≤ s.lo := by
  intro s hs
  have hg := (List.pairwise_cons.1 h.gap).1
  unfold lefts at hs
  split at hs
  · rcases List.mem_cons.1 hs with rfl | hs
    · exact Int.le_refl _
    · have := hg s hs; omega
  · have := hg s hs; omega
end Go.Proofs.Ytdiogfhbgmkajaa.SpanM
namespace Go.Proofs.Ytdiogfhbgmkajaa.SpanK
open Go.RowKit Kit SpanM SpanC SpanR Lift Txt

theorem takeV {n : Int} {x : SpM} {r : List SpM} (h : Valid n (x :: r)) (m th : Int) (h1 : 1 ≤ m) (h2 : m ≤ 1000) (hth : th = if m < x.hi - x.lo then x.lo + m else x.hi) (v : Value) (w : World) (hv : SpsV w v (x :: r)) :
    Calls Try.prog 23 #[.int .i64 n, v, .int .i64 m] w (TakePost 0 ⟨x.lo, th⟩ (lefts x r th) w) := by
  obtain ⟨a, cap, rfl, ha⟩ := SpsV.at_ hv
  have hx := h.rng x (by simp)
  have hc : tkC n (x :: r) m = 0 := by unfold tkC; rw [mayB_yes h, if_pos rfl, if_neg (by omega), if_neg (by simp)]
  have := take_ok n (x :: r) a cap m w ha hc (by omega)
  have e : tkS (x :: r) m = ⟨x.lo, th⟩ := by rw [hth]; rfl
  rw [e, left_is h.norm (by rw [hth]; split <;> omega) (by rw [hth]; split <;> omega)] at this
  exact this
theorem takeNil {n : Int} (h : Valid n []) (m : Int) (h1 : 1 ≤ m) (v : Value) (w : World) (hv : SpsV w v []) :
    Calls Try.prog 23 #[.int .i64 n, v, .int .i64 m] w (TakePost 7 ⟨0, 0⟩ [] w) := by
  obtain ⟨a, cap, rfl, ha⟩ := SpsV.at_ hv
  have hc : tkC n [] m = 7 := by unfold tkC; rw [mayB_yes h, if_pos rfl, if_neg (by omega), if_pos rfl]
  have := take_no n [] a cap m w ha (by simp) (by rw [hc]; decide)
  rw [hc] at this
  exact this
/-- what is left, of what was there -/
structure Rest (N : Nat) (es ls : List SpM) (at_ : Nat) : Prop where
  val : Valid N ls
  same : ∀ p : Int, (at_ : Int) ≤ p → (In es p ↔ In ls p)
  lo : ∀ s ∈ ls, (at_ : Int) ≤ s.lo
theorem inB_false {l : List SpM} {i : Int} (h : ¬ In l i) : inB l i = false := by
  cases q : inB l i
  · rfl
  · exact absurd (inB_iff.1 q) h
set_option maxRecDepth 100000 in
set_option maxHeartbeats 8000000 in
theorem spansTaken (a0 : Option Addr) (len0 cap0 : Nat) (z0 : List Int) (size many : Int) (w : World) (hz : IsRow .i64 w a0 len0 cap0 z0) {X : Prop} (_ : X) {Y : Prop} (_ : Y) :
    Calls Try.prog 10 #[.slice a0 len0 cap0, .int .i64 size, .int .i64 many] w fun e w' => e = .returned (.bool true) ∧ Below w.heap.size w w' := by
  have P0 := Lib.hid (fun W => picked size 200 W (by omega) (by omega))
  obtain ⟨N0, e0, hN0⟩ := pick_in size 200 (by omega)
  rw [show ((200 : Nat) : Int) = 200 from rfl] at e0
  rw [e0] at P0
  clear e0
  obtain ⟨N, hN⟩ : ∃ N, N = 1 + N0 := ⟨_, rfl⟩
  have ne : (1 : Int) + (N0 : Int) = (N : Int) := by omega
  have nr : IntKind.i64.wrap ((1 : Int) + (N0 : Int)) = (N : Int) := by rw [ne]; exact IntWalk.i64_in _ (by omega)
  have hNb : N ≤ 200 := by omega
  have hNp : 0 < N := by omega
  clear hN ne hN0
  have P1 := Lib.hid (fun W => picked many 30 W (by omega) (by omega))
  obtain ⟨M0, e1, hM0⟩ := pick_in many 30 (by omega)
  rw [show ((30 : Nat) : Int) = 30 from rfl] at e1
  rw [e1] at P1
  clear e1
  obtain ⟨K, hK⟩ : ∃ K : Int, K = 1 + M0 := ⟨_, rfl⟩
  have kr : IntKind.i64.wrap ((1 : Int) + (M0 : Int)) = K := by rw [← hK]; exact IntWalk.i64_in _ (by omega)
  have hK1 : 1 ≤ K := by omega
  have hK2 : K ≤ 30 := by omega
  clear hK hM0
  have SO := Lib.hid (setOfK a0 len0 cap0 z0 20 N w hz (by omega) (by omega))
  clear hz
  obtain ⟨i0, hi, hz0, hz1, hz2⟩ := info_parts infoSpan
  have HI := Lib.hid (And.intro hi (And.intro hz0 (And.intro hz1 hz2)))
  clear hi hz0 hz1 hz2
  have nn := notNil
  go_enter Try.func10, Try.ntmps10
  go_wp2_with fail
  refine (P0.out _).mono ?_
  rintro e w0 ⟨rfl, rfl⟩
  go_wp2_with fail
  refine SO.out.mono ?_
  rintro e w1 ⟨es, v, rfl, hk1, hv1, hl1⟩
  have V1 := Lib.hid hv1
  have S1 := Lib.hid hk1.val
  have B1 := Lib.hid hk1.bel
  have N1 := Lib.hid (withinV N es v w1 hk1.val hv1)
  clear hk1 hv1 SO P0
  go_wp2_with fail
  refine (P1.out _).mono ?_
  rintro e w0 ⟨rfl, rfl⟩
  go_wp2_with fail
  refine N1.out.mono ?_
  rintro e w2 ⟨blk, rfl, hr2, hb2⟩
  have R2 := Lib.hid hr2
  have S2 := Lib.hid (S1.out.next hb2)
  have B2 := Lib.hid (bstep B1.out hb2)
  clear hr2 hb2 S1 B1 N1 P1
  go_wp2_with (at_builtin; refine wpList_copyV SpM.cs_len SpM.cs_one (by omega) rfl _ _ 22 rfl 25 i0 _ 16 Try.underlying22 HI.out.1 HI.out.2.1 HI.out.2.2.1 HI.out.2.2.2 rfl rfl _ rfl es S2.out (by unfold maxLen; omega) (by omega) ?_; intro v3 w3 hv3 hb3)
  have R3 := Lib.hid (R2.out.next hb3)
  have L3 := Lib.hid hv3
  have B3 := Lib.hid (bstep B2.out hb3)
  have RS : Hid (Rest N es es 0) := Lib.hid ⟨V1.out, fun p _ => Iff.rfl, fun s hs => by have := V1.out.rng s hs; omega⟩
  clear hv3 hb3 S2 R2 B2 V1
  go_loopw [11, 12, 13] (fun va vl vi wr => ∃ (at_ i : Nat) (ls : List SpM), va = .int .i64 (at_ : Int) ∧ vi = .int .i64 (i : Int) ∧ i ≤ at_ ∧ at_ ≤ N ∧ Hid (SpsV wr vl ls ∧ RDk blk (N + 1) (fun j => inB es j) wr ∧ Below w.heap.size w wr ∧ Rest N es ls at_)) (fun _ _ vi _ => 250 - (intOf vi).toNat)
  case atStart => exact ⟨0, 0, es, rfl, rfl, by omega, by omega, Lib.hid ⟨L3.out, R3.out, B3.out, RS.out⟩⟩
  case round =>
    obtain ⟨at_, i, ls, rfl, rfl, hia, haN, HK⟩ := hrel
    clear L3 R3 B3 RS
    have j250 : (i : Int) < 250 := by omega
    have hlen := HK.out.2.2.2.val.len
    have LS := Lib.hid HK.out.1
    have RR := Lib.hid HK.out.2.1
    have BB := Lib.hid HK.out.2.2.1
    have RT := Lib.hid HK.out.2.2.2
    clear HK
    cases ls with
    | nil =>
      have T := Lib.hid (fun u W (h : SpsV W u []) => takeNil RT.out.val K hK1 u W h)
      obtain ⟨al, cl, rfl, _⟩ := SpsV.at_ LS.out
      go_wp2_with (at_builtin; refine wpList_copyV SpM.cs_len SpM.cs_one (by omega) rfl _ _ 22 rfl 25 i0 _ 16 Try.underlying22 HI.out.1 HI.out.2.1 HI.out.2.2.1 HI.out.2.2.2 rfl rfl _ rfl [] LS.out (by simp) (by simp) ?_; intro v4 w4 hv4 hb4; have C4 := Lib.hid hv4; have R4 := Lib.hid (RR.out.next hb4); have B4 := Lib.hid (bstep BB.out hb4); clear hv4 hb4)
      refine (T.out _ _ C4.out).mono ?_
      rintro e w5 ⟨v5, rfl, hv5, hb5⟩
      have R5 := Lib.hid ((R4.out.next hb5).next (balloc (Below.refl _ _) (.cells #[.int .i64 0, .int .i64 0] 25)))
      have B5 := Lib.hid (balloc (bstep B4.out hb5) (.cells #[.int .i64 0, .int .i64 0] 25))
      clear hv5 hb5 C4 R4 B4 T LS RR BB
      go_wp2_with fail
      go_loopw [11] (fun va wr => ∃ p : Nat, at_ ≤ p ∧ p ≤ N ∧ va = .int .i64 (p : Int) ∧ Hid (RDk blk (N + 1) (fun j => inB es j) wr ∧ Below w.heap.size w wr)) (fun va _ => N - (intOf va).toNat)
      case atStart => exact ⟨at_, by omega, by omega, rfl, Lib.hid ⟨R5.out, B5.out⟩⟩
      case round =>
        obtain ⟨p, hp1, hp2, rfl, HP⟩ := hrel
        clear R5 B5
        by_cases hlt : p < N
        · have cp := HP.out.1.cell p (by omega)
          rw [inB_false (fun q => In.nil ((RT.out.same p (by omega)).1 q))] at cp
          have q0 : (p : Int) < (N : Int) := by omega
          have q1 : (p : Int) < ((N + 1 : Nat) : Int) := by omega
          have q2 : (0 : Int) ≤ (p : Int) := by omega
          go_wp2_with fail
          go_roundw
          case rel => exact ⟨p + 1, by omega, by omega, by go_num, HP⟩
          case measure => simp [intOf]; omega
        · obtain rfl : p = N := by omega
          go_wp2_with fail
          go_ret
          exact ⟨by first | rfl | simp, HP.out.2⟩
    | cons x r =>
      have hx := RT.out.val.rng x (by simp)
      have hxl := RT.out.lo x (by simp)
      obtain ⟨th, hth⟩ : ∃ th : Int, th = if K < x.hi - x.lo then x.lo + K else x.hi := ⟨_, rfl⟩
      have T := Lib.hid (fun u W (h : SpsV W u (x :: r)) => takeV RT.out.val K th hK1 (by omega) hth u W h)
      have t1 : x.lo < th := by rw [hth]; split <;> omega
      have t2 : th ≤ x.hi := by rw [hth]; split <;> omega
      have t3 : th - x.lo ≤ K := by rw [hth]; split <;> omega
      have VN := Lib.hid (lefts_valid RT.out.val t1 t2)
      have LN := Lib.hid (lefts_lo RT.out.val t2)
      have IN := Lib.hid (lefts_in RT.out.val.norm t1 t2)
      have FST : Hid (∀ p : Nat, at_ ≤ p → (p : Int) < th → inB es p = decide (x.lo ≤ (p : Int))) := Lib.hid fun p hp hpt => by
        by_cases q : x.lo ≤ (p : Int)
        · rw [decide_eq_true q]
          exact inB_iff.2 ((RT.out.same p (by omega)).2 (in_cons.2 (.inl ⟨q, by omega⟩)))
        · rw [decide_eq_false q]
          refine inB_false fun h => ?_
          rcases in_cons.1 ((RT.out.same p (by omega)).1 h) with c | c
          · exact q c.1
          · have := RT.out.val.norm.behind c; omega
      clear hth
      generalize lefts x r th = nx at *
      obtain ⟨lo, hi⟩ := x
      dsimp only at *
      obtain ⟨lo, rfl⟩ := Int.eq_ofNat_of_zero_le hx.1
      obtain ⟨th, rfl⟩ := Int.eq_ofNat_of_zero_le (show 0 ≤ th by omega)
      go_wp2_with (at_builtin; refine wpList_copyV SpM.cs_len SpM.cs_one (by omega) rfl _ _ 22 rfl 25 i0 _ 16 Try.underlying22 HI.out.1 HI.out.2.1 HI.out.2.2.1 HI.out.2.2.2 rfl rfl _ rfl _ LS.out (by unfold maxLen; omega) (by omega) ?_; intro v4 w4 hv4 hb4; have C4 := Lib.hid hv4; have R4 := Lib.hid (RR.out.next hb4); have B4 := Lib.hid (bstep BB.out hb4); clear hv4 hb4)
      refine (T.out _ _ C4.out).mono ?_
      rintro e w5 ⟨v5, rfl, hv5, hb5⟩
      have R5 := Lib.hid ((R4.out.next hb5).next (balloc (Below.refl _ _) (.cells #[.int .i64 (lo : Int), .int .i64 (th : Int)] 25)))
      have B5 := Lib.hid (balloc (bstep B4.out hb5) (.cells #[.int .i64 (lo : Int), .int .i64 (th : Int)] 25))
      have L5 := Lib.hid (hv5.next (balloc (Below.refl _ _) (.cells #[.int .i64 (lo : Int), .int .i64 (th : Int)] 25)))
      have X5 := Lib.hid (B2.new w5 (.int .i64 (lo : Int)) (.int .i64 (th : Int)) 25)
      clear hv5 hb5 C4 R4 B4 T LS RR BB
      have g1 : ¬ K < (th : Int) - (lo : Int) := by omega
      have g2 : ¬ (th : Int) ≤ (lo : Int) := by omega
      have g3 : ¬ (lo : Int) < (at_ : Int) := by omega
      have g4 : ¬ (N : Int) < (th : Int) := by omega
      dsimp only at *
      go_wp2_with fail
      obtain ⟨wq, hwq⟩ : ∃ wq, wq = w5.alloc (.cells #[.int .i64 (lo : Int), .int .i64 (th : Int)] 25) := ⟨_, rfl⟩
      obtain ⟨ob, hob⟩ : ∃ ob, ob = w5.heap.size := ⟨_, rfl⟩
      rw [← hwq] at R5 B5 L5 X5 ⊢
      rw [← hob] at X5 ⊢
      clear hwq hob
      go_loopw [11] (fun va wr => ∃ p : Nat, at_ ≤ p ∧ p ≤ th ∧ va = .int .i64 (p : Int) ∧ ∃ m, wr = wq.drewN m) (fun va _ => th - (intOf va).toNat)
      case atStart => exact ⟨at_, by omega, by omega, rfl, 0, rfl⟩
      case round =>
        obtain ⟨p, hp1, hp2, rfl, m, rfl⟩ := hrel
        obtain ⟨_, x0, x1, _, _⟩ := X5.out
        by_cases hlt : p < th
        · have cp := R5.out.cell p (by omega)
          rw [FST.out p hp1 (by omega)] at cp
          have q0 : (p : Int) < (th : Int) := by omega
          have q1 : (p : Int) < ((N + 1 : Nat) : Int) := by omega
          have q2 : (0 : Int) ≤ (p : Int) := by omega
          by_cases q : (lo : Int) ≤ (p : Int)
          · rw [decide_eq_true q] at cp
            go_wp2_with fail
            go_quiet (fail)
            go_wp2_with fail
            go_roundw
            case rel => exact ⟨p + 1, by omega, by omega, by go_num, _, rfl⟩
            case measure => simp [intOf]; omega
          · rw [decide_eq_false q] at cp
            go_wp2_with fail
            go_quiet (fail)
            go_wp2_with fail
            go_roundw
            case rel => exact ⟨p + 1, by omega, by omega, by go_num, _, rfl⟩
            case measure => simp [intOf]; omega
        · obtain rfl : p = th := by omega
          have FIN : Hid (SpsV (wq.drewN m) v5 nx ∧ RDk blk (N + 1) (fun j => inB es j) (wq.drewN m) ∧ Below w.heap.size w (wq.drewN m) ∧ Rest N es nx p) := Lib.hid ⟨L5.out.next (bdrewN (Below.refl _ _) m), R5.out.next (bdrewN (Below.refl _ _) m), bdrewN B5.out m, ⟨VN.out, fun q hq => by
            rw [RT.out.same q (by omega), IN.out]
            exact ⟨fun h => ⟨h, by omega⟩, fun h => h.1⟩, LN.out⟩⟩
          clear L5 R5 B5 X5 RT VN LN IN FST
          go_wp2_with fail
          go_roundw
          case rel => exact ⟨p, i + 1, nx, rfl, by go_num, by omega, by omega, FIN⟩
          case measure => simp [intOf]; omega
end Go.Proofs.Ytdiogfhbgmkajaa.SpanK
