/-
  Package spans: what check, Add and Cut answer.
-/
import Derived.Test.YtdiogfhbgmkajaaSpanWith
namespace Go.Proofs.Ytdiogfhbgmkajaa.SpanC
open Go.RowKit Kit SpanM

/-- the code of a check -/
noncomputable def chkC (n : Int) (l : List SpM) (s : SpM) : Int := if mayB n l = true then (if WithinP n s then 0 else 2) else 4
/-- the code of a set that was made -/
noncomputable def setC (n : Int) (l : List SpM) (s : SpM) (m : Nat) : Int := if chkC n l s = 0 then (if 40 < m then 8 else 0) else chkC n l s
def outL (c : Int) (es : List SpM) : List SpM := if c = 0 then es else []
/-- a set, or an error -/
def SetPost (c : Int) (es : List SpM) (w : World) (e : Ending) (w' : World) : Prop := ∃ v, e = .returned (.tuple #[v, .int .i64 c]) ∧ SpK w (outL c es) v w'
theorem outL_no {c : Int} (es : List SpM) (h : c ≠ 0) : outL c es = [] := if_neg h
theorem outL_zero (es : List SpM) : outL 0 es = es := rfl
theorem chkC_zero {n : Int} {l : List SpM} {s : SpM} (h : chkC n l s = 0) : Valid n l ∧ WithinP n s := by
  unfold chkC at h
  split at h
  · split at h
    · refine ⟨?_, by assumption⟩
      rename_i h1 _
      exact Classical.byContradiction fun q => by rw [mayB_no q] at h1; cases h1
    · cases h
  · cases h
theorem chkC_ok {n : Int} {l : List SpM} {s : SpM} (h : Valid n l) (h2 : WithinP n s) : chkC n l s = 0 := by unfold chkC; rw [if_pos (mayB_yes h), if_pos h2]
set_option maxHeartbeats 800000 in
theorem check (n : Int) (l : List SpM) (al : Option Addr) (cap : Nat) (s : SpM) (w : World) (hl : SpsAt w al l) (hmx : l.length ≤ 9223372036854775807) :
    Calls Try.prog 36 #[.int .i64 n, .slice al l.length cap, .agg #[.int .i64 s.lo, .int .i64 s.hi]] w fun e w' => e = .returned (.int .i64 (chkC n l s)) ∧ Below w.heap.size w w' := by
  have M := Lib.hid (fun W (hW : Below w.heap.size w W) => may n l al cap W (hl.next hW) hmx)
  have WI := Lib.hid (fun W => within n s W)
  have A0 := Lib.hid (balloc (Below.refl w.heap.size w) (.cells #[.int .i64 s.lo, .int .i64 s.hi] 25))
  clear hl
  cases hm : mayB n l
  · have E : Hid (chkC n l s = 4) := Lib.hid (by unfold chkC; rw [hm]; rfl)
    rw [E.out]
    rw [hm] at M
    clear hm
    generalize l.length = N at *
    go_enter Try.func36, Try.ntmps36
    go_wp2_with fail
    refine (M.out _ A0.out).mono ?_
    rintro e w1 ⟨rfl, hb1⟩
    have B := Lib.hid (bstep A0.out hb1)
    go_wp2_with fail
    go_ret
    exact ⟨rfl, B.out⟩
  · rw [hm] at M
    by_cases hw : WithinP n s
    · have E : Hid (chkC n l s = 0) := Lib.hid (by unfold chkC; rw [hm, if_pos rfl, if_pos hw])
      rw [decide_eq_true hw] at WI
      rw [E.out]
      clear hm hw
      generalize l.length = N at *
      go_enter Try.func36, Try.ntmps36
      go_wp2_with fail
      refine (M.out _ A0.out).mono ?_
      rintro e w1 ⟨rfl, hb1⟩
      obtain ⟨_, b0, b1, _, _⟩ := (B2.new w (.int .i64 s.lo) (.int .i64 s.hi) 25).next hb1
      have B := Lib.hid (bstep A0.out hb1)
      clear hb1
      go_wp2_with fail
      refine (WI.out _).mono ?_
      rintro e w2 ⟨rfl, hb2⟩
      have B3 := Lib.hid (bstep B.out hb2)
      clear hb2
      go_wp2_with fail
      go_ret
      exact ⟨rfl, B3.out⟩
    · have E : Hid (chkC n l s = 2) := Lib.hid (by unfold chkC; rw [hm, if_pos rfl, if_neg hw])
      rw [decide_eq_false hw] at WI
      rw [E.out]
      clear hm hw
      generalize l.length = N at *
      go_enter Try.func36, Try.ntmps36
      go_wp2_with fail
      refine (M.out _ A0.out).mono ?_
      rintro e w1 ⟨rfl, hb1⟩
      obtain ⟨_, b0, b1, _, _⟩ := (B2.new w (.int .i64 s.lo) (.int .i64 s.hi) 25).next hb1
      have B := Lib.hid (bstep A0.out hb1)
      clear hb1
      go_wp2_with fail
      refine (WI.out _).mono ?_
      rintro e w2 ⟨rfl, hb2⟩
      have B3 := Lib.hid (bstep B.out hb2)
      clear hb2
      go_wp2_with fail
      go_ret
      exact ⟨rfl, B3.out⟩
set_option maxHeartbeats 1000000 in
theorem add (n : Int) (l : List SpM) (al : Option Addr) (cap : Nat) (s : SpM) (w : World) (hl : SpsAt w al l) (hmx : l.length ≤ 9223372036854775807) :
    Calls Try.prog 17 #[.int .i64 n, .slice al l.length cap, .agg #[.int .i64 s.lo, .int .i64 s.hi]] w (SetPost (setC n l s (atts [] (withS l s)).length) (atts [] (withS l s)) w) := by
  have A0 := Lib.hid (balloc (Below.refl w.heap.size w) (.cells #[.int .i64 s.lo, .int .i64 s.hi] 25))
  have C := Lib.hid (check n l al cap s _ (hl.next A0.out) hmx)
  by_cases hc : chkC n l s = 0
  · have hv := chkC_zero hc
    have WT := Lib.hid (fun W (hW : Below w.heap.size w W) => with_ l al cap s W (hl.next hW) hv.1.len)
    rw [show setC n l s (atts [] (withS l s)).length = if 40 < (atts [] (withS l s)).length then 8 else 0 by unfold setC; rw [if_pos hc]]
    rw [hc] at C
    clear hc hv hl
    generalize atts [] (withS l s) = es at *
    generalize l.length = N at *
    by_cases q : 40 < es.length
    · rw [if_pos q]
      have Q := Lib.hid q
      clear q
      go_enter Try.func17, Try.ntmps17
      go_wp2_with fail
      refine C.out.mono ?_
      rintro e w1 ⟨rfl, hb1⟩
      obtain ⟨_, b0, b1, _, _⟩ := (B2.new w (.int .i64 s.lo) (.int .i64 s.hi) 25).next hb1
      have B := Lib.hid (bstep A0.out hb1)
      clear hb1 C
      go_wp2_with fail
      refine (WT.out _ B.out).mono ?_
      rintro e w2 ⟨v, rfl, hk⟩
      have HV := Lib.hid (SpK.rebase hk B.out)
      obtain ⟨a, c, rfl⟩ := hk.slice
      have BO := Lib.hid (fun W => bounded_full a es.length c W Q.out)
      clear hk Q
      obtain ⟨M, hM⟩ : ∃ M, M = es.length := ⟨_, rfl⟩
      rw [← hM] at BO HV ⊢
      clear hM
      go_wp2_with fail
      refine (BO.out _).mono ?_
      rintro e w3 ⟨rfl, rfl⟩
      go_wp2_with fail
      go_ret2
      exact ⟨_, rfl, by rw [outL_no _ (by decide)]; exact SpK.nil HV.out.bel⟩
    · rw [if_neg q]
      have Q := Lib.hid q
      clear q
      go_enter Try.func17, Try.ntmps17
      go_wp2_with fail
      refine C.out.mono ?_
      rintro e w1 ⟨rfl, hb1⟩
      obtain ⟨_, b0, b1, _, _⟩ := (B2.new w (.int .i64 s.lo) (.int .i64 s.hi) 25).next hb1
      have B := Lib.hid (bstep A0.out hb1)
      clear hb1 C
      go_wp2_with fail
      refine (WT.out _ B.out).mono ?_
      rintro e w2 ⟨v, rfl, hk⟩
      have HV := Lib.hid (SpK.rebase hk B.out)
      obtain ⟨a, c, rfl⟩ := hk.slice
      have BO := Lib.hid (fun W => bounded_ok a es.length c W (by have := Q.out; omega))
      clear hk Q
      obtain ⟨M, hM⟩ : ∃ M, M = es.length := ⟨_, rfl⟩
      rw [← hM] at BO HV ⊢
      clear hM
      go_wp2_with fail
      refine (BO.out _).mono ?_
      rintro e w3 ⟨rfl, rfl⟩
      go_wp2_with fail
      go_ret2
      exact ⟨_, rfl, HV.out⟩
  · have OL : Hid (outL (chkC n l s) (atts [] (withS l s)) = []) := Lib.hid (outL_no _ hc)
    rw [show setC n l s (atts [] (withS l s)).length = chkC n l s by unfold setC; rw [if_neg hc]]
    have g : (chkC n l s != 0) = true := by simpa using hc
    clear hc hl
    generalize chkC n l s = cc at *
    generalize l.length = N at *
    go_enter Try.func17, Try.ntmps17
    go_wp2_with fail
    refine C.out.mono ?_
    rintro e w1 ⟨rfl, hb1⟩
    have B := Lib.hid (bstep A0.out hb1)
    clear hb1 C
    go_wp2_with fail
    go_ret2
    exact ⟨_, rfl, by rw [OL.out]; exact SpK.nil B.out⟩
set_option maxHeartbeats 1000000 in
theorem cut (n : Int) (l : List SpM) (al : Option Addr) (cap : Nat) (s : SpM) (w : World) (hl : SpsAt w al l) (hmx : l.length ≤ 9223372036854775807) :
    Calls Try.prog 20 #[.int .i64 n, .slice al l.length cap, .agg #[.int .i64 s.lo, .int .i64 s.hi]] w (SetPost (setC n l s (atts [] (woS l s)).length) (atts [] (woS l s)) w) := by
  have A0 := Lib.hid (balloc (Below.refl w.heap.size w) (.cells #[.int .i64 s.lo, .int .i64 s.hi] 25))
  have C := Lib.hid (check n l al cap s _ (hl.next A0.out) hmx)
  by_cases hc : chkC n l s = 0
  · have hv := chkC_zero hc
    have WT := Lib.hid (fun W (hW : Below w.heap.size w W) => without l al cap s W (hl.next hW) hv.1.len)
    rw [show setC n l s (atts [] (woS l s)).length = if 40 < (atts [] (woS l s)).length then 8 else 0 by unfold setC; rw [if_pos hc]]
    rw [hc] at C
    clear hc hv hl
    generalize atts [] (woS l s) = es at *
    generalize l.length = N at *
    by_cases q : 40 < es.length
    · rw [if_pos q]
      have Q := Lib.hid q
      clear q
      go_enter Try.func20, Try.ntmps20
      go_wp2_with fail
      refine C.out.mono ?_
      rintro e w1 ⟨rfl, hb1⟩
      obtain ⟨_, b0, b1, _, _⟩ := (B2.new w (.int .i64 s.lo) (.int .i64 s.hi) 25).next hb1
      have B := Lib.hid (bstep A0.out hb1)
      clear hb1 C
      go_wp2_with fail
      refine (WT.out _ B.out).mono ?_
      rintro e w2 ⟨v, rfl, hk⟩
      have HV := Lib.hid (SpK.rebase hk B.out)
      obtain ⟨a, c, rfl⟩ := hk.slice
      have BO := Lib.hid (fun W => bounded_full a es.length c W Q.out)
      clear hk Q
      obtain ⟨M, hM⟩ : ∃ M, M = es.length := ⟨_, rfl⟩
      rw [← hM] at BO HV ⊢
      clear hM
      go_wp2_with fail
      refine (BO.out _).mono ?_
      rintro e w3 ⟨rfl, rfl⟩
      go_wp2_with fail
      go_ret2
      exact ⟨_, rfl, by rw [outL_no _ (by decide)]; exact SpK.nil HV.out.bel⟩
    · rw [if_neg q]
      have Q := Lib.hid q
      clear q
      go_enter Try.func20, Try.ntmps20
      go_wp2_with fail
      refine C.out.mono ?_
      rintro e w1 ⟨rfl, hb1⟩
      obtain ⟨_, b0, b1, _, _⟩ := (B2.new w (.int .i64 s.lo) (.int .i64 s.hi) 25).next hb1
      have B := Lib.hid (bstep A0.out hb1)
      clear hb1 C
      go_wp2_with fail
      refine (WT.out _ B.out).mono ?_
      rintro e w2 ⟨v, rfl, hk⟩
      have HV := Lib.hid (SpK.rebase hk B.out)
      obtain ⟨a, c, rfl⟩ := hk.slice
      have BO := Lib.hid (fun W => bounded_ok a es.length c W (by have := Q.out; omega))
      clear hk Q
      obtain ⟨M, hM⟩ : ∃ M, M = es.length := ⟨_, rfl⟩
      rw [← hM] at BO HV ⊢
      clear hM
      go_wp2_with fail
      refine (BO.out _).mono ?_
      rintro e w3 ⟨rfl, rfl⟩
      go_wp2_with fail
      go_ret2
      exact ⟨_, rfl, HV.out⟩
  · have OL : Hid (outL (chkC n l s) (atts [] (woS l s)) = []) := Lib.hid (outL_no _ hc)
    rw [show setC n l s (atts [] (woS l s)).length = chkC n l s by unfold setC; rw [if_neg hc]]
    have g : (chkC n l s != 0) = true := by simpa using hc
    clear hc hl
    generalize chkC n l s = cc at *
    generalize l.length = N at *
    go_enter Try.func20, Try.ntmps20
    go_wp2_with fail
    refine C.out.mono ?_
    rintro e w1 ⟨rfl, hb1⟩
    have B := Lib.hid (bstep A0.out hb1)
    clear hb1 C
    go_wp2_with fail
    go_ret2
    exact ⟨_, rfl, by rw [OL.out]; exact SpK.nil B.out⟩
end Go.Proofs.Ytdiogfhbgmkajaa.SpanC
