/-
  The laws SpansMays, SpansAdds, SpansCuts, walked.
-/
import Derived.Test.YtdiogfhbgmkajaaRefSet2
import Derived.Test.YtdiogfhbgmkajaaSameSp
namespace Go.Proofs.Ytdiogfhbgmkajaa.SpanR
open Go.RowKit Kit SpanM SpanC

set_option maxHeartbeats 800000 in
theorem spansMays (n : Int) (al : Option Addr) (cap : Nat) (l : List SpM) (w : World) {X : Prop} (_ : X) (hl : SpsAt w al l) (_ : ∀ e ∈ l, e.ok) (hlc : l.length ≤ cap) (hmx : cap ≤ maxLen) {Y : Prop} (_ : Y) :
    Calls Try.prog 3 #[.int .i64 n, .slice al l.length cap] w fun e w' => e = .returned (.bool true) ∧ Below w.heap.size w w' := by
  unfold maxLen at hmx
  have M := Lib.hid (may n l al cap w hl (by omega))
  have R := Lib.hid (fun W (hW : Below w.heap.size w W) => may_ref n l al cap W (hl.next hW) (by omega))
  clear hl
  generalize l.length = N at *
  generalize mayB n l = b at *
  go_enter Try.func3, Try.ntmps3
  go_wp2_with fail
  refine M.out.mono ?_
  rintro e w1 ⟨rfl, hb1⟩
  have B := Lib.hid hb1
  clear hb1 M
  go_wp2_with fail
  refine (R.out _ B.out).mono ?_
  rintro e w2 ⟨rfl, hb2⟩
  have B2 := Lib.hid (bstep B.out hb2)
  clear hb2 R
  go_wp2_with fail
  go_ret
  exact ⟨by first | rfl | simp, B2.out⟩

theorem setPost_same {c : Int} {es es' : List SpM} {w : World} (h : outL c es = outL c es') {e : Ending} {w' : World} (hp : SetPost c es w e w') : SetPost c es' w e w' := by
  obtain ⟨v, h1, h2⟩ := hp
  exact ⟨v, h1, by rw [← h]; exact h2⟩
theorem setC_same {n : Int} {l : List SpM} {s : SpM} {es es' : List SpM} (h : chkC n l s = 0 → es = es') : setC n l s es.length = setC n l s es'.length ∧ outL (setC n l s es'.length) es = outL (setC n l s es'.length) es' := by
  by_cases hc : chkC n l s = 0
  · rw [h hc]; exact ⟨rfl, rfl⟩
  · have e : ∀ m, setC n l s m = chkC n l s := fun m => by unfold setC; rw [if_neg hc]
    rw [e, e, outL_no _ hc, outL_no _ hc]; exact ⟨rfl, rfl⟩
theorem setC_len {n : Int} {l : List SpM} {s : SpM} {es : List SpM} : (outL (setC n l s es.length) es).length ≤ 40 := by
  by_cases hc : setC n l s es.length = 0
  · rw [hc]
    unfold setC at hc
    show es.length ≤ 40
    split at hc
    · split at hc
      · cases hc
      · omega
    · contradiction
  · rw [outL_no _ hc]; simp
theorem add_runs {n : Int} {l : List SpM} {s : SpM} (h : chkC n l s = 0) : runs (setB l s true) n.toNat = atts [] (withS l s) := by
  obtain ⟨hv, s0, s1, s2⟩ := chkC_zero h
  have n0 := hv.n0
  obtain ⟨w1, w2⟩ := with_norm (s := s) hv.norm
  refine runs_eq w1 fun j => ?_
  rw [w2]
  constructor
  · rintro (q | q)
    · obtain ⟨x, hx, x1, x2⟩ := q
      have hr := hv.rng x hx
      refine ⟨by omega, by omega, ?_⟩
      unfold setB
      rw [show ((j.toNat : Nat) : Int) = j by omega]
      split
      · rfl
      · exact inB_iff.2 ⟨x, hx, x1, x2⟩
    · refine ⟨by omega, by omega, ?_⟩
      unfold setB
      rw [show ((j.toNat : Nat) : Int) = j by omega, if_pos q]
  · rintro ⟨j0, j1, hb⟩
    unfold setB at hb
    rw [show ((j.toNat : Nat) : Int) = j by omega] at hb
    split at hb
    · right; assumption
    · left; exact inB_iff.1 hb
theorem cut_runs {n : Int} {l : List SpM} {s : SpM} (h : chkC n l s = 0) : runs (setB l s false) n.toNat = atts [] (woS l s) := by
  obtain ⟨hv, s0, s1, s2⟩ := chkC_zero h
  have n0 := hv.n0
  obtain ⟨w1, w2⟩ := wo_norm (s := s) hv.norm s1
  refine runs_eq w1 fun j => ?_
  rw [w2]
  constructor
  · rintro ⟨⟨x, hx, x1, x2⟩, q⟩
    have hr := hv.rng x hx
    refine ⟨by omega, by omega, ?_⟩
    unfold setB
    rw [show ((j.toNat : Nat) : Int) = j by omega, if_neg q]
    exact inB_iff.2 ⟨x, hx, x1, x2⟩
  · rintro ⟨j0, j1, hb⟩
    unfold setB at hb
    rw [show ((j.toNat : Nat) : Int) = j by omega] at hb
    split at hb
    · cases hb
    · exact ⟨inB_iff.1 hb, by assumption⟩
set_option maxHeartbeats 1000000 in
theorem spansAdds (n : Int) (al : Option Addr) (cap : Nat) (l : List SpM) (s : SpM) (w : World) {X : Prop} (_ : X) (hl : SpsAt w al l) (_ : ∀ e ∈ l, e.ok) (hlc : l.length ≤ cap) (hmx : cap ≤ maxLen) {Y : Prop} (_ : Y) {Z : Prop} (_ : Z) :
    Calls Try.prog 4 #[.int .i64 n, .slice al l.length cap, .agg #[.int .i64 s.lo, .int .i64 s.hi]] w fun e w' => e = .returned (.bool true) ∧ Below w.heap.size w w' := by
  unfold maxLen at hmx
  have A0 := Lib.hid (balloc (Below.refl w.heap.size w) (.cells #[.int .i64 s.lo, .int .i64 s.hi] 25))
  have M := Lib.hid (add n l al cap s _ (hl.next A0.out) (by omega))
  obtain ⟨e1, e2⟩ := setC_same (n := n) (l := l) (s := s) (es := runs (setB l s true) n.toNat) (es' := atts [] (withS l s)) add_runs
  have R := Lib.hid (fun W (hW : Below w.heap.size w W) => (spansSet n l al cap s true W (hl.next hW) (by omega)).mono fun e w' h => setPost_same e2 (by rw [e1] at h; exact h))
  have LN := setC_len (n := n) (l := l) (s := s) (es := atts [] (withS l s))
  clear hl e1 e2
  generalize l.length = N at *
  generalize setC n l s (atts [] (withS l s)).length = c at *
  generalize atts [] (withS l s) = es at *
  have SA := Lib.hid (fun v1 v2 W h1 h2 => same v1 v2 (outL c es) W h1 h2 (by omega))
  clear LN
  go_enter Try.func4, Try.ntmps4
  go_wp2_with fail
  refine M.out.mono ?_
  rintro e w1 ⟨v1, rfl, hk1⟩
  have hv1 := hk1.val
  have hb1 := hk1.bel
  clear hk1
  obtain ⟨_, b0, b1, _, _⟩ := (B2.new w (.int .i64 s.lo) (.int .i64 s.hi) 25).next hb1
  have B := Lib.hid (bstep A0.out hb1)
  have V1 := Lib.hid hv1
  clear hb1 hv1 M
  go_wp2_with fail
  refine (R.out _ B.out).mono ?_
  rintro e w2 ⟨v2, rfl, hk2⟩
  have hv2 := hk2.val
  have hb2 := hk2.bel
  clear hk2
  have B2 := Lib.hid (bstep B.out hb2)
  have SS := Lib.hid (SA.out v1 v2 w2 (V1.out.next hb2) hv2)
  clear hb2 hv2 R
  go_wp2_with fail
  refine SS.out.mono ?_
  rintro e w3 ⟨rfl, hb3⟩
  have B3 := Lib.hid (bstep B2.out hb3)
  clear hb3 SS
  go_wp2_with fail
  go_ret
  exact ⟨by first | rfl | simp, B3.out⟩
set_option maxHeartbeats 1000000 in
theorem spansCuts (n : Int) (al : Option Addr) (cap : Nat) (l : List SpM) (s : SpM) (w : World) {X : Prop} (_ : X) (hl : SpsAt w al l) (_ : ∀ e ∈ l, e.ok) (hlc : l.length ≤ cap) (hmx : cap ≤ maxLen) {Y : Prop} (_ : Y) {Z : Prop} (_ : Z) :
    Calls Try.prog 5 #[.int .i64 n, .slice al l.length cap, .agg #[.int .i64 s.lo, .int .i64 s.hi]] w fun e w' => e = .returned (.bool true) ∧ Below w.heap.size w w' := by
  unfold maxLen at hmx
  have A0 := Lib.hid (balloc (Below.refl w.heap.size w) (.cells #[.int .i64 s.lo, .int .i64 s.hi] 25))
  have M := Lib.hid (cut n l al cap s _ (hl.next A0.out) (by omega))
  obtain ⟨e1, e2⟩ := setC_same (n := n) (l := l) (s := s) (es := runs (setB l s false) n.toNat) (es' := atts [] (woS l s)) cut_runs
  have R := Lib.hid (fun W (hW : Below w.heap.size w W) => (spansSet n l al cap s false W (hl.next hW) (by omega)).mono fun e w' h => setPost_same e2 (by rw [e1] at h; exact h))
  have LN := setC_len (n := n) (l := l) (s := s) (es := atts [] (woS l s))
  clear hl e1 e2
  generalize l.length = N at *
  generalize setC n l s (atts [] (woS l s)).length = c at *
  generalize atts [] (woS l s) = es at *
  have SA := Lib.hid (fun v1 v2 W h1 h2 => same v1 v2 (outL c es) W h1 h2 (by omega))
  clear LN
  go_enter Try.func5, Try.ntmps5
  go_wp2_with fail
  refine M.out.mono ?_
  rintro e w1 ⟨v1, rfl, hk1⟩
  have hv1 := hk1.val
  have hb1 := hk1.bel
  clear hk1
  obtain ⟨_, b0, b1, _, _⟩ := (B2.new w (.int .i64 s.lo) (.int .i64 s.hi) 25).next hb1
  have B := Lib.hid (bstep A0.out hb1)
  have V1 := Lib.hid hv1
  clear hb1 hv1 M
  go_wp2_with fail
  refine (R.out _ B.out).mono ?_
  rintro e w2 ⟨v2, rfl, hk2⟩
  have hv2 := hk2.val
  have hb2 := hk2.bel
  clear hk2
  have B2 := Lib.hid (bstep B.out hb2)
  have SS := Lib.hid (SA.out v1 v2 w2 (V1.out.next hb2) hv2)
  clear hb2 hv2 R
  go_wp2_with fail
  refine SS.out.mono ?_
  rintro e w3 ⟨rfl, hb3⟩
  have B3 := Lib.hid (bstep B2.out hb3)
  clear hb3 SS
  go_wp2_with fail
  go_ret
  exact ⟨by first | rfl | simp, B3.out⟩
end Go.Proofs.Ytdiogfhbgmkajaa.SpanR
