/-
  The document's answers: spansFault, SpansSet.
-/
import Derived.Test.YtdiogfhbgmkajaaRefSet
import Derived.Test.YtdiogfhbgmkajaaRefSpanMay
namespace Go.Proofs.Ytdiogfhbgmkajaa.SpanR
open Go.RowKit Kit SpanM SpanC

set_option maxHeartbeats 2000000 in
theorem spansFault (n : Int) (l : List SpM) (al : Option Addr) (cap : Nat) (s : SpM) (w : World) (hl : SpsAt w al l) (hmx : l.length ≤ 9223372036854775807) :
    Calls Try.prog 39 #[.int .i64 n, .slice al l.length cap, .agg #[.int .i64 s.lo, .int .i64 s.hi]] w fun e w' => e = .returned (.int .i64 (chkC n l s)) ∧ Below w.heap.size w w' := by
  have A0 := Lib.hid (balloc (Below.refl w.heap.size w) (.cells #[.int .i64 s.lo, .int .i64 s.hi] 25))
  have M := Lib.hid (may_ref n l al cap _ (hl.next A0.out) hmx)
  clear hl
  cases hm : mayB n l
  · rw [show chkC n l s = 4 by unfold chkC; rw [hm]; rfl]
    rw [hm] at M
    clear hm
    generalize l.length = N at *
    go_enter Try.func39, Try.ntmps39
    go_wp2_with fail
    refine M.out.mono ?_
    rintro e w1 ⟨rfl, hb1⟩
    have B := Lib.hid (bstep A0.out hb1)
    go_wp2_with fail
    go_ret
    exact ⟨rfl, B.out⟩
  · rw [hm] at M
    by_cases hw : WithinP n s
    · rw [show chkC n l s = 0 by unfold chkC; rw [hm, if_pos rfl, if_pos hw]]
      obtain ⟨w1, w2, w3⟩ := hw
      have q1 : ¬ s.lo < 0 := by omega
      have q2 : ¬ s.hi < s.lo := by omega
      have q3 : ¬ n < s.hi := by omega
      clear hm w1 w2 w3
      generalize l.length = N at *
      go_enter Try.func39, Try.ntmps39
      go_wp2_with fail
      refine M.out.mono ?_
      rintro e w1 ⟨rfl, hb1⟩
      obtain ⟨_, b0, b1, _, _⟩ := (B2.new w (.int .i64 s.lo) (.int .i64 s.hi) 25).next hb1
      have B := Lib.hid (bstep A0.out hb1)
      clear hb1
      go_wp2_with fail
      go_ret
      exact ⟨rfl, B.out⟩
    · rw [show chkC n l s = 2 by unfold chkC; rw [hm, if_pos rfl, if_neg hw]]
      have hw' : s.lo < 0 ∨ s.hi < s.lo ∨ n < s.hi := by unfold WithinP at hw; omega
      clear hm hw
      generalize l.length = N at *
      by_cases q1 : s.lo < 0
      · clear hw'
        go_enter Try.func39, Try.ntmps39
        go_wp2_with fail
        refine M.out.mono ?_
        rintro e w1 ⟨rfl, hb1⟩
        obtain ⟨_, b0, b1, _, _⟩ := (B2.new w (.int .i64 s.lo) (.int .i64 s.hi) 25).next hb1
        have B := Lib.hid (bstep A0.out hb1)
        clear hb1
        go_wp2_with fail
        go_ret
        exact ⟨rfl, B.out⟩
      by_cases q2 : s.hi < s.lo
      · clear hw'
        go_enter Try.func39, Try.ntmps39
        go_wp2_with fail
        refine M.out.mono ?_
        rintro e w1 ⟨rfl, hb1⟩
        obtain ⟨_, b0, b1, _, _⟩ := (B2.new w (.int .i64 s.lo) (.int .i64 s.hi) 25).next hb1
        have B := Lib.hid (bstep A0.out hb1)
        clear hb1
        go_wp2_with fail
        go_ret
        exact ⟨rfl, B.out⟩
      have q3 : n < s.hi := by omega
      clear hw'
      go_enter Try.func39, Try.ntmps39
      go_wp2_with fail
      refine M.out.mono ?_
      rintro e w1 ⟨rfl, hb1⟩
      obtain ⟨_, b0, b1, _, _⟩ := (B2.new w (.int .i64 s.lo) (.int .i64 s.hi) 25).next hb1
      have B := Lib.hid (bstep A0.out hb1)
      clear hb1
      go_wp2_with fail
      go_ret
      exact ⟨rfl, B.out⟩

/-- the truths behind Add or Cut -/
def setB (l : List SpM) (s : SpM) (add : Bool) (j : Nat) : Bool := if s.lo ≤ j ∧ j < s.hi then add else inB l j
set_option maxRecDepth 100000 in
set_option maxHeartbeats 4000000 in
theorem spansSet (n : Int) (l : List SpM) (al : Option Addr) (cap : Nat) (s : SpM) (add : Bool) (w : World) (hl : SpsAt w al l) (hmx : l.length ≤ 9223372036854775807) :
    Calls Try.prog 18 #[.int .i64 n, .slice al l.length cap, .agg #[.int .i64 s.lo, .int .i64 s.hi], .bool add] w (SetPost (setC n l s (runs (setB l s add) n.toNat).length) (runs (setB l s add) n.toNat) w) := by
  have A0 := Lib.hid (balloc (Below.refl w.heap.size w) (.cells #[.int .i64 s.lo, .int .i64 s.hi] 25))
  have C := Lib.hid (spansFault n l al cap s _ (hl.next A0.out) hmx)
  by_cases hc : chkC n l s = 0
  · obtain ⟨hv, hw⟩ := chkC_zero hc
    have n0 := hv.n0
    have n1 := hv.n1
    obtain ⟨n, rfl⟩ := Int.eq_ofNat_of_zero_le n0
    obtain ⟨s0, s1, s2⟩ := hw
    rw [show setC n l s (runs (setB l s add) (n : Int).toNat).length = if 40 < (runs (setB l s add) n).length then 8 else 0 by unfold setC; rw [if_pos hc]; rfl]
    rw [show (n : Int).toNat = n by omega]
    rw [hc] at C
    have IS := Lib.hid (fun W (hW : Below w.heap.size w W) => inSet n l al cap W (hl.next hW) hv)
    obtain ⟨lo, hi⟩ := s
    dsimp only at *
    obtain ⟨lo, rfl⟩ := Int.eq_ofNat_of_zero_le s0
    obtain ⟨hi, rfl⟩ := Int.eq_ofNat_of_zero_le (show 0 ≤ hi by omega)
    clear hc hv hl
    generalize l.length = N at *
    have SO := Lib.hid (fun W blk (hb : blk < W.heap.size) hc => setOf n blk n (setB l ⟨lo, hi⟩ add) W hb hc (by omega))
    obtain ⟨cd, hcd⟩ : ∃ cd : Int, cd = if 40 < (runs (setB l ⟨lo, hi⟩ add) n).length then 8 else 0 := ⟨_, rfl⟩
    rw [← hcd] at SO ⊢
    clear hcd
    go_enter Try.func18, Try.ntmps18
    go_wp2_with fail
    refine C.out.mono ?_
    rintro e w1 ⟨rfl, hb1⟩
    have BX := Lib.hid ((B2.new w (.int .i64 (lo : Int)) (.int .i64 (hi : Int)) 25).next hb1)
    have B := Lib.hid (bstep A0.out hb1)
    clear hb1 C
    go_wp2_with fail
    refine (IS.out _ B.out).mono ?_
    rintro e w2 ⟨rfl, hr⟩
    have R0 : Hid (RB w1 w1.heap.size n (fun j => if lo ≤ j ∧ j < lo then add else inB l j) w2) := Lib.hid (hr.congr fun j _ => by rw [if_neg (by omega)])
    have BB : Hid (∀ W, Below w1.heap.size w1 W → B2 w.heap.size (.int .i64 (lo : Int)) (.int .i64 (hi : Int)) W) := Lib.hid fun W hW => BX.out.next hW
    have bz : w.heap.size ≤ w1.heap.size := B.out.size
    obtain ⟨_, b0, b1, _, _⟩ := BB.out _ R0.out.bel
    clear hr IS BX
    obtain ⟨blk, hblk⟩ : ∃ blk, blk = w1.heap.size := ⟨_, rfl⟩
    go_wp2_with fail
    rw [← hblk] at R0 BB bz ⊢
    clear hblk
    go_loopw [12] (fun vi wr => ∃ i : Nat, lo ≤ i ∧ i ≤ hi ∧ vi = .int .i64 (i : Int) ∧ Hid (RB w1 blk n (fun j => if lo ≤ j ∧ j < i then add else inB l j) wr)) (fun vi _ => hi - (intOf vi).toNat)
    case atStart => exact ⟨lo, by omega, by omega, rfl, R0⟩
    case round =>
      obtain ⟨i, hi1, hi2, rfl, HI⟩ := hrel
      clear R0 b0 b1
      obtain ⟨_, b0, b1, _, _⟩ := BB.out _ HI.out.bel
      by_cases hil : i < hi
      · have hin : i < n := by omega
        have sc := HI.out.cell i hin
        have fz := HI.out.free i hin
        have j1 : (i : Int) < (n : Int) := by omega
        have j2 : (0 : Int) ≤ (i : Int) := by omega
        have FIN : Hid (RB w1 blk n (fun j => if lo ≤ j ∧ j < i + 1 then add else inB l j) (wr.setCell ⟨blk, i, none⟩ (.bool add))) := Lib.hid ((HI.out.set hin add).congr fun j _ => by
          by_cases e : j = i
          · subst e; rw [if_pos rfl, if_pos (by omega)]
          · rw [if_neg e]
            by_cases e2 : lo ≤ j ∧ j < i
            · rw [if_pos e2, if_pos (by omega)]
            · rw [if_neg e2, if_neg (by omega)])
        generalize (if lo ≤ i ∧ i < i then add else inB l (i : Int)) = bv at sc
        clear HI
        go_wp2_with fail
        go_roundw
        case rel => exact ⟨i + 1, by omega, by omega, by go_num, FIN⟩
        case measure => simp [intOf]; omega
      · obtain rfl : i = hi := by omega
        have FIN : Hid (RB w1 blk n (setB l ⟨lo, i⟩ add) wr) := Lib.hid (HI.out.congr fun j _ => by
          unfold setB
          dsimp only
          by_cases e2 : lo ≤ j ∧ j < i
          · rw [if_pos e2, if_pos (by omega)]
          · rw [if_neg e2, if_neg (by omega)])
        have SS := Lib.hid (SO.out wr blk FIN.out.lt FIN.out.cell)
        clear HI SO
        go_wp2_with fail
        refine SS.out.mono ?_
        rintro e w3 ⟨v, rfl, hk3⟩
        have HV := Lib.hid (SpK.rebase hk3 (FIN.out.from_ B.out bz))
        clear hk3 SS
        go_wp2_with fail
        go_ret2
        exact ⟨v, rfl, HV.out⟩
  · have OL : Hid (outL (chkC n l s) (runs (setB l s add) n.toNat) = []) := Lib.hid (outL_no _ hc)
    rw [show setC n l s (runs (setB l s add) n.toNat).length = chkC n l s by unfold setC; rw [if_neg hc]]
    have g : (chkC n l s != 0) = true := by simpa using hc
    clear hc hl
    generalize chkC n l s = cc at *
    generalize l.length = N at *
    go_enter Try.func18, Try.ntmps18
    go_wp2_with fail
    refine C.out.mono ?_
    rintro e w1 ⟨rfl, hb1⟩
    have B := Lib.hid (bstep A0.out hb1)
    clear hb1 C
    go_wp2_with fail
    go_ret2
    exact ⟨_, rfl, by rw [OL.out]; exact SpK.nil B.out⟩
end Go.Proofs.Ytdiogfhbgmkajaa.SpanR
