/-
  fustiankeep.SetOf: a valid set of raw numbers; fustiankeep.within: its truths.
-/
import Derived.Test.YtdiogfhbgmkajaaSpanMay
import Derived.Test.YtdiogfhbgmkajaaBoolRow
import Derived.Test.YtdiogfhbgmkajaaChange1
import Derived.Deep.AppendLies
import Derived.Maps.AppendAt
import Derived.Laws.MakeOwn
namespace Go.Proofs.Ytdiogfhbgmkajaa.SpanK
open Go.RowKit Kit SpanM SpanC Lift Txt ChgM

/-- a row of truths that is only read -/
structure RDk (blk n : Nat) (b : Nat → Bool) (W : World) : Prop where
  lt : blk < W.heap.size
  cell : ∀ i, i < n → W.cell? ⟨blk, i, none⟩ = some (.bool (b i))
theorem RDk.next {blk n : Nat} {b : Nat → Bool} {W W' : World} (h : RDk blk n b W) (hb : Below W.heap.size W W') : RDk blk n b W' := ⟨Nat.lt_of_lt_of_le h.lt hb.size, fun i hi => (hb.cell (p := ⟨blk, i, none⟩) h.lt).trans (h.cell i hi)⟩

def SetOfPost (w : World) (n size : Nat) (e : Ending) (w' : World) : Prop := ∃ es v, e = .returned v ∧ SpK w es v w' ∧ Valid size es ∧ es.length ≤ n
theorem row_wf {w : World} {a : Option Addr} {len cap : Nat} {zs : List Int} (h : IsRow .i64 w a len cap zs) : ∃ b off, (0 < len → a = some ⟨b, off, none⟩) ∧ ∀ i, i < len → w.cell? ⟨b, off + i, none⟩ = some (.int .i64 (zs.getD i 0)) := by
  by_cases hl : 0 < len
  · obtain ⟨b, off, e, h1, h2⟩ := row_at h hl
    exact ⟨b, off, fun _ => e, fun i hi => h2 i (by omega)⟩
  · exact ⟨0, 0, fun q => absurd q hl, fun i hi => by omega⟩
set_option maxRecDepth 100000 in
set_option maxHeartbeats 4000000 in
theorem setOfK (a : Option Addr) (len cap : Nat) (zs : List Int) (n size : Nat) (w : World) (h : IsRow .i64 w a len cap zs) (hn : n ≤ 40) (hs : size ≤ 600) :
    Calls Try.prog 28 #[.slice a len cap, .int .i64 (n : Int), .int .i64 (size : Int)] w (SetOfPost w n size) := by
  obtain ⟨h1, h2⟩ := row_len h
  unfold maxLen at h2
  have HR := Lib.hid h
  clear h
  obtain ⟨i0, hi, hz0, hz1, hz2⟩ := info_parts infoSpan
  have HI := Lib.hid (And.intro hi (And.intro hz0 (And.intro hz1 hz2)))
  clear hi hz0 hz1 hz2
  go_enter Try.func28, Try.ntmps28
  go_wp2_with fail
  go_loopw [7, 8, 9] (fun v va vi wr => ∃ (k : Nat) (b : Int) (es : List SpM), (k ≤ len ∧ k = 2 * es.length) ∧ es.length ≤ n ∧ va = .int .i64 b ∧ vi = .int .i64 (k : Int) ∧ Hid (SpK w es v wr ∧ Scan size es b)) (fun _ _ vi _ => len - (intOf vi).toNat)
  case atStart => exact ⟨0, 0, [], ⟨by omega, rfl⟩, by simp, rfl, rfl, Lib.hid ⟨SpK.nil (Below.refl _ _), Scan.nil (by omega)⟩⟩
  case round =>
    obtain ⟨k, b, es, ⟨hk, hke⟩, hes, rfl, rfl, HK⟩ := hrel
    have hb0 := HK.out.2.lo
    have hb1 := HK.out.2.le
    have DONE : Hid (Valid size es) := Lib.hid (HK.out.2.all (by omega) (by omega) (by omega))
    obtain ⟨M, hM⟩ : ∃ M, M = es.length := ⟨_, rfl⟩
    have HM := Lib.hid hM
    rw [← hM] at hes
    have hk40 : k ≤ 80 := by omega
    have HKE := Lib.hid hke
    clear hke
    obtain ⟨va, vc, rfl⟩ := HK.out.1.slice
    have FN : Hid (SetOfPost w n size (.returned (.slice va M vc)) wr) := Lib.hid ⟨es, _, by rw [hM], HK.out.1, DONE.out, by omega⟩
    rw [← hM] at HK ⊢
    clear hM
    by_cases hlt : k + 1 < len
    · have q1 : (k : Int) + 1 < (len : Int) := by omega
      by_cases hlm : M < n
      · have q2 : (M : Int) < (n : Int) := by omega
        obtain ⟨g, off, hga, hc⟩ := row_wf (isRow_next HR.out HK.out.1.bel)
        obtain rfl := hga (by omega)
        have c0 := hc k (by omega)
        have c1 := hc (k + 1) (by omega)
        clear hga hc
        have P1 := Lib.hid (fun W => picked (zs.getD k 0) 9 W (by omega) (by omega))
        have P2 := Lib.hid (fun W => picked (zs.getD (k + 1) 0) 9 W (by omega) (by omega))
        have x1 := Int.emod_nonneg (zs.getD k 0) (show (9 : Int) ≠ 0 by omega)
        have x2 := Int.emod_lt_of_pos (zs.getD k 0) (show (0 : Int) < 9 by omega)
        have y1 := Int.emod_nonneg (zs.getD (k + 1) 0) (show (9 : Int) ≠ 0 by omega)
        have y2 := Int.emod_lt_of_pos (zs.getD (k + 1) 0) (show (0 : Int) < 9 by omega)
        generalize zs.getD k 0 % 9 = x at *
        generalize zs.getD (k + 1) 0 % 9 = y at *
        generalize zs.getD k 0 = z0 at *
        generalize zs.getD (k + 1) 0 = z1 at *
        have i2 : (0 : Int) ≤ (k : Int) := by omega
        have i3 : (k : Int) < (len : Int) := by omega
        have i4 : (0 : Int) ≤ (k : Int) + 1 := by omega
        have i5 : ((k : Int) + 1).toNat = k + 1 := by omega
        by_cases q3 : (size : Int) < b + x + 1 + y
        · clear HK
          go_wp2_with fail
          refine (P1.out _).mono ?_
          rintro e w1 ⟨rfl, rfl⟩
          go_wp2_with fail
          refine (P2.out _).mono ?_
          rintro e w1 ⟨rfl, rfl⟩
          go_wp2_with fail
          go_ret
          exact FN.out
        · have E2 := Lib.hid (HK.out.1.next (balloc (Below.refl _ _) (.cells #[.int .i64 (b + x), .int .i64 (b + x + 1 + y)] 25)))
          have HNEW := Lib.hid (cell_two_new wr (.int .i64 (b + x)) (.int .i64 (b + x + 1 + y)) 25)
          have SC := Lib.hid (HK.out.2.next (s := ⟨b + x, b + x + 1 + y⟩) (by dsimp only; omega) (by dsimp only; omega) (by dsimp only; omega))
          have hzz := HK.out.1.bel.size
          have HROW : Hid ((wr.alloc (.cells #[.int .i64 (b + x), .int .i64 (b + x + 1 + y)] 25)).ownsRow w.heap.size 25 2 (.slice va M vc) M (flatC SpM.cs es)) := Lib.hid (by have := E2.out.row; rw [← HM.out] at this; exact this)
          clear HK FN DONE
          go_wp2_with fail
          refine (P1.out _).mono ?_
          rintro e w1 ⟨rfl, rfl⟩
          go_wp2_with fail
          refine (P2.out _).mono ?_
          rintro e w1 ⟨rfl, rfl⟩
          go_wp2_with (at_builtin; refine wpList_append_lies _ rfl _ _ 22 rfl w.heap.size 25 i0 _ 2 16 Try.underlying22 HI.out.1 HI.out.2.1 HI.out.2.2.1 HI.out.2.2.2 rfl (by decide) _ M (flatC SpM.cs es) rfl HROW.out ⟨wr.heap.size, 0, none⟩ 1 1 [.int .i64 (b + x), .int .i64 (b + x + 1 + y)] rfl rfl HNEW.out (by simp [Value.oneCell']) (by omega) (by unfold maxLen; omega) (by omega) (by simp; omega) _ rfl ?_; intro g4 cap4 w4 hown4 hgrow4 hat4 hlt4; have FIN : Hid (SpK w (es ++ [⟨b + x, b + x + 1 + y⟩]) (.slice (some ⟨g4, 0, none⟩) (M + 1) cap4) w4) := Lib.hid ⟨by rw [flatC_append, flatC_one, List.length_append, ← HM.out]; exact hown4, bgrow E2.out.bel HROW.out hgrow4⟩; clear hown4 hgrow4 hat4 hlt4)
          go_roundw
          case rel => exact ⟨k + 2, b + x + 1 + y + 1, es ++ [⟨b + x, b + x + 1 + y⟩], ⟨by omega, by rw [List.length_append, ← HM.out, HKE.out, ← HM.out]; simp; omega⟩, by rw [List.length_append, ← HM.out]; simp; omega, by first | rfl | go_num, by first | rfl | go_num, Lib.hid ⟨FIN.out, SC.out⟩⟩
          case measure => simp [intOf]; omega
      · have q2 : ¬ (M : Int) < (n : Int) := by omega
        clear HK
        go_wp2_with fail
        go_ret
        exact FN.out
    · have q1 : ¬ (k : Int) + 1 < (len : Int) := by omega
      clear HK
      go_wp2_with fail
      go_ret
      exact FN.out

def WithinPost (w : World) (n : Nat) (l : List SpM) (e : Ending) (w' : World) : Prop := ∃ blk, e = .returned (.slice (some ⟨blk, 0, none⟩) (n + 1) (n + 1)) ∧ RDk blk (n + 1) (fun j => inB l j) w' ∧ Below w.heap.size w w'
set_option maxRecDepth 100000 in
set_option maxHeartbeats 4000000 in
theorem withinK (n : Nat) (l : List SpM) (al : Option Addr) (cap : Nat) (w : World) (hl : SpsAt w al l) (hv : Valid n l) :
    Calls Try.prog 29 #[.int .i64 (n : Int), .slice al l.length cap] w (WithinPost w n l) := by
  have h600 := hv.n1
  have h40 := hv.len
  have HR := Lib.hid hv.rng
  have HL := Lib.hid hl
  have MY := Lib.hid (may n l al cap w hl (by omega))
  rw [mayB_yes hv] at MY
  obtain ⟨N, hN⟩ : ∃ N, N = l.length := ⟨_, rfl⟩
  have HN := Lib.hid hN
  rw [← hN] at h40 MY ⊢
  clear hl hv hN
  obtain ⟨j0, hi, hz0, hz1, hz2⟩ := info_parts infoBool
  have HJ := Lib.hid (And.intro hi (And.intro hz0 (And.intro hz1 hz2)))
  clear hi hz0 hz1 hz2
  have r0 : IntKind.i64.wrap ((n : Int) + 1) = ((n + 1 : Nat) : Int) := IntWalk.i64_in _ (by omega)
  go_enter Try.func29, Try.ntmps29
  go_wp2_with fail
  refine MY.out.mono ?_
  rintro e w1 ⟨rfl, hb1⟩
  have B1 := Lib.hid hb1
  have hz1 := hb1.size
  clear hb1 MY
  go_wp2_with (refine wpList_make_full _ rfl _ _ 45 rfl w.heap.size 4 j0 _ 1 Try.underlying45 HJ.out.1 HJ.out.2.1 HJ.out.2.2.1 .i64 .i64 _ _ (n + 1) rfl rfl rfl rfl (by rw [HJ.out.2.2.2]; omega) (by unfold maxLen; omega) hz1 ?_; intro w2 hown hgrow)
  have R0 : Hid (RB w1 w1.heap.size (n + 1) (fun j => inB (l.take 0) j) w2) := Lib.hid ((RB.made (grows_below hgrow) hown).congr fun i _ => rfl)
  clear hown hgrow HJ
  obtain ⟨blk, hblk⟩ : ∃ blk, blk = w1.heap.size := ⟨_, rfl⟩
  rw [← hblk] at R0 hz1 ⊢
  clear hblk
  have HLW : Hid (∀ W, Below blk w1 W → SpsAt W al l) := Lib.hid fun W hW => HL.out.next (B1.out.trans (hW.mono hz1))
  go_loopw [6] (fun vi wr => ∃ k : Nat, k ≤ N ∧ vi = .int .i64 (k : Int) ∧ Hid (RB w1 blk (n + 1) (fun j => inB (l.take k) j) wr)) (fun vi _ => N - (intOf vi).toNat)
  case atStart => exact ⟨0, by omega, rfl, R0⟩
  case round =>
    obtain ⟨k, hk, rfl, HK⟩ := hrel
    clear R0
    by_cases hlt : k < N
    · obtain ⟨s, hs⟩ : ∃ s, l[k]? = some s := ⟨l[k]'(by have := HN.out; omega), by simp [← HN.out, hlt]⟩
      obtain ⟨g, off, rfl, hg, c0, c1⟩ := SpsAt.get (HLW.out _ HK.out.bel) hs
      obtain ⟨s0, s1, s2⟩ := HR.out s (List.mem_of_getElem? hs)
      have NX := Lib.hid (inB_next hs)
      have i1 : (k : Int) < (N : Int) := by omega
      have i2 : (0 : Int) ≤ (k : Int) := by omega
      have CC : Hid (∀ W, Below blk w1 W → W.cell? ⟨g, off + k * 2 + 1, none⟩ = some (.int .i64 s.hi)) := Lib.hid fun W hW => by
        obtain ⟨g2, off2, e2, _, _, d1⟩ := SpsAt.get (HLW.out _ hW) hs
        simp only [Option.some.injEq, Addr.mk.injEq, and_true] at e2
        obtain ⟨rfl, rfl⟩ := e2
        exact d1
      obtain ⟨lo, hi⟩ := s
      dsimp only at *
      obtain ⟨lo, rfl⟩ := Int.eq_ofNat_of_zero_le s0
      obtain ⟨hi, rfl⟩ := Int.eq_ofNat_of_zero_le (show 0 ≤ hi by omega)
      have I0 : Hid (RB w1 blk (n + 1) (fun j => inB (l.take k) j || (decide (lo ≤ j) && decide (j < lo))) wr) := Lib.hid (HK.out.congr fun j _ => by
        have : (decide (lo ≤ j) && decide (j < lo)) = false := by simp
        rw [this, Bool.or_false])
      clear HK hs
      go_wp2_with fail
      clear c0 c1
      go_loopw [7] (fun vi wr => ∃ i : Nat, lo ≤ i ∧ i ≤ hi ∧ vi = .int .i64 (i : Int) ∧ Hid (RB w1 blk (n + 1) (fun j => inB (l.take k) j || (decide (lo ≤ j) && decide (j < i))) wr)) (fun vi _ => hi - (intOf vi).toNat)
      case atStart => exact ⟨lo, by omega, by omega, rfl, I0⟩
      case round =>
        obtain ⟨i, hi1, hi2, rfl, HI⟩ := hrel
        clear I0
        have c1 := CC.out _ HI.out.bel
        by_cases hil : i < hi
        · have hin : i < n + 1 := by omega
          have sc := HI.out.cell i hin
          have fz := HI.out.free i hin
          have j1 : (i : Int) < ((n + 1 : Nat) : Int) := by omega
          have j2 : (0 : Int) ≤ (i : Int) := by omega
          have FIN : Hid (RB w1 blk (n + 1) (fun j => inB (l.take k) j || (decide (lo ≤ j) && decide (j < i + 1))) (wr.setCell ⟨blk, i, none⟩ (.bool true))) := Lib.hid ((HI.out.set hin true).congr fun j _ => by
            by_cases e : j = i
            · subst e
              simp; exact .inr hi1
            · rw [if_neg e]
              congr 2
              exact decide_eq_decide.2 (by omega))
          generalize (inB (l.take k) (i : Int) || (decide (lo ≤ i) && decide (i < i))) = bv at sc
          clear HI
          go_wp2_with fail
          go_roundw
          case rel => exact ⟨i + 1, by omega, by omega, by go_num, FIN⟩
          case measure => simp [intOf]; omega
        · obtain rfl : i = hi := by omega
          have FIN : Hid (RB w1 blk (n + 1) (fun j => inB (l.take (k + 1)) j) wr) := Lib.hid (HI.out.congr fun j _ => by
            rw [NX.out]
            congr 2
            · exact decide_eq_decide.2 (by omega)
            · exact decide_eq_decide.2 (by omega))
          clear HI
          go_wp2_with fail
          go_roundw
          case rel => exact ⟨k + 1, by omega, by go_num, FIN⟩
          case measure => simp [intOf]; omega
    · obtain rfl : k = N := by omega
      have TK : Hid (l.take k = l) := Lib.hid (by rw [HN.out, List.take_length])
      rw [TK.out] at HK
      go_wp2_with fail
      go_ret
      exact ⟨blk, rfl, ⟨HK.out.lt, HK.out.cell⟩, B1.out.trans (HK.out.bel.mono hz1)⟩
end Go.Proofs.Ytdiogfhbgmkajaa.SpanK
