/-
  The document's answer: SpansTake; the law SpansTakes, walked.
-/
import Derived.Test.YtdiogfhbgmkajaaRefSet2
import Derived.Test.YtdiogfhbgmkajaaSpanTake
import Derived.Test.YtdiogfhbgmkajaaSameSp
namespace Go.Proofs.Ytdiogfhbgmkajaa.SpanM
/-- what is left behind Take -/
def lefts (x : SpM) (r : List SpM) (th : Int) : List SpM := if th < x.hi then ⟨th, x.hi⟩ :: r else r
theorem lefts_norm {x : SpM} {r : List SpM} {th : Int} (h : Norm (x :: r)) : Norm (lefts x r th) := by
  unfold lefts
  split
  · refine ⟨fun s hs => ?_, List.pairwise_cons.2 ⟨fun s hs => (List.pairwise_cons.1 h.gap).1 s hs, h.tail.gap⟩⟩
    rcases List.mem_cons.1 hs with rfl | hs
    · assumption
    · exact h.some_ s (by simp [hs])
  · exact h.tail
theorem lefts_in {x : SpM} {r : List SpM} {th : Int} (h : Norm (x :: r)) (h1 : x.lo < th) (h2 : th ≤ x.hi) (j : Int) : In (lefts x r th) j ↔ In (x :: r) j ∧ ¬ (x.lo ≤ j ∧ j < th) := by
  unfold lefts
  split
  · rw [in_cons, in_cons]
    dsimp only
    constructor
    · rintro (q | q)
      · exact ⟨.inl (by omega), by omega⟩
      · have := h.behind q; exact ⟨.inr q, by omega⟩
    · rintro ⟨q | q, q2⟩
      · exact .inl (by omega)
      · exact .inr q
  · rw [in_cons]
    constructor
    · intro q; have := h.behind q; exact ⟨.inr q, by omega⟩
    · rintro ⟨q | q, q2⟩
      · omega
      · exact q
theorem left_is {x : SpM} {r : List SpM} {th : Int} (h : Norm (x :: r)) (h1 : x.lo < th) (h2 : th ≤ x.hi) : atts [] (woS (x :: r) ⟨x.lo, th⟩) = lefts x r th := by
  obtain ⟨a, b⟩ := wo_norm (s := ⟨x.lo, th⟩) h (by dsimp only; omega)
  exact norm_one a (lefts_norm h) fun i => by rw [b, lefts_in h h1 h2]
theorem lefts_len {x : SpM} {r : List SpM} {th : Int} : (lefts x r th).length ≤ (x :: r).length := by unfold lefts; split <;> simp
end Go.Proofs.Ytdiogfhbgmkajaa.SpanM
namespace Go.Proofs.Ytdiogfhbgmkajaa.SpanR
open Go.RowKit Kit SpanM SpanC

set_option maxHeartbeats 1000000 in
theorem take_no_ref (n : Int) (l : List SpM) (al : Option Addr) (cap : Nat) (m : Int) (w : World) (hl : SpsAt w al l) (hmx : l.length ≤ 9223372036854775807) (hc : tkC n l m ≠ 0) :
    Calls Try.prog 24 #[.int .i64 n, .slice al l.length cap, .int .i64 m] w (TakePost (tkC n l m) ⟨0, 0⟩ [] w) := by
  have A0 := Lib.hid (balloc (Below.refl w.heap.size w) (.cells #[.int .i64 0, .int .i64 0] 25))
  have M := Lib.hid (may_ref n l al cap _ (hl.next A0.out) hmx)
  have BX := Lib.hid (B2.new w (.int .i64 0) (.int .i64 0) 25)
  clear hl
  cases hm : mayB n l
  · rw [show tkC n l m = 4 by unfold tkC; rw [hm]; rfl]
    rw [hm] at M
    clear hm hc
    generalize l.length = N at *
    go_enter Try.func24, Try.ntmps24
    go_wp2_with fail
    refine M.out.mono ?_
    rintro e w1 ⟨rfl, hb1⟩
    have B := Lib.hid (bstep A0.out hb1)
    obtain ⟨bl, b0, b1, f0, f1⟩ := BX.out.next hb1
    clear hb1 M
    go_wp2_with fail
    refine bodyPost_ret (v := .tuple #[.agg #[.int .i64 0, .int .i64 0], .slice none 0 0, .int .i64 4]) (by simp [results, Try.results24, go_sem, *]) rfl ⟨_, rfl, SlV.nil _, bset2 B.out _ _⟩
  · rw [hm] at M
    by_cases h1 : m < 1
    · rw [show tkC n l m = 2 by unfold tkC; rw [hm, if_pos rfl, if_pos h1]]
      clear hm hc
      generalize l.length = N at *
      go_enter Try.func24, Try.ntmps24
      go_wp2_with fail
      refine M.out.mono ?_
      rintro e w1 ⟨rfl, hb1⟩
      have B := Lib.hid (bstep A0.out hb1)
      obtain ⟨bl, b0, b1, f0, f1⟩ := BX.out.next hb1
      clear hb1 M
      go_wp2_with fail
      refine bodyPost_ret (v := .tuple #[.agg #[.int .i64 0, .int .i64 0], .slice none 0 0, .int .i64 2]) (by simp [results, Try.results24, go_sem, *]) rfl ⟨_, rfl, SlV.nil _, bset2 B.out _ _⟩
    · by_cases h2 : l = []
      · rw [show tkC n l m = 7 by unfold tkC; rw [hm, if_pos rfl, if_neg h1, if_pos h2]]
        subst h2
        rw [show ([] : List SpM).length = 0 from rfl] at M ⊢
        clear hm hc hmx
        go_enter Try.func24, Try.ntmps24
        go_wp2_with fail
        refine M.out.mono ?_
        rintro e w1 ⟨rfl, hb1⟩
        have B := Lib.hid (bstep A0.out hb1)
        obtain ⟨bl, b0, b1, f0, f1⟩ := BX.out.next hb1
        clear hb1 M
        go_wp2_with fail
        refine bodyPost_ret (v := .tuple #[.agg #[.int .i64 0, .int .i64 0], .slice none 0 0, .int .i64 7]) (by simp [results, Try.results24, go_sem, *]) rfl ⟨_, rfl, SlV.nil _, bset2 B.out _ _⟩
      · exact absurd (by unfold tkC; rw [hm, if_pos rfl, if_neg h1, if_neg h2]) hc

set_option maxRecDepth 100000 in
set_option maxHeartbeats 4000000 in
theorem take_ok_ref (n : Int) (l : List SpM) (al : Option Addr) (cap : Nat) (m : Int) (w : World) (hl : SpsAt w al l) (hc : tkC n l m = 0) (hm1 : m ≤ 9223372036854775807) :
    Calls Try.prog 24 #[.int .i64 n, .slice al l.length cap, .int .i64 m] w (TakePost 0 (tkS l m) (atts [] (woS l (tkS l m))) w) := by
  have hm : mayB n l = true := by
    cases h : mayB n l
    · unfold tkC at hc; rw [h] at hc; cases hc
    · rfl
  have hv := valid_of hm
  have h1 : ¬ m < 1 := by intro q; unfold tkC at hc; rw [hm, if_pos rfl, if_pos q] at hc; cases hc
  have hne : l ≠ [] := by intro q; unfold tkC at hc; rw [hm, if_pos rfl, if_neg h1, if_pos q] at hc; cases hc
  have h40 := hv.len
  have A0 := Lib.hid (balloc (Below.refl w.heap.size w) (.cells #[.int .i64 0, .int .i64 0] 25))
  have M := Lib.hid (may_ref n l al cap _ (hl.next A0.out) (by omega))
  rw [hm] at M
  have BX := Lib.hid (B2.new w (.int .i64 0) (.int .i64 0) 25)
  have HL := Lib.hid hl
  obtain ⟨x, r, rfl⟩ : ∃ x r, l = x :: r := by
    cases l with
    | nil => exact absurd rfl hne
    | cons x r => exact ⟨x, r, rfl⟩
  obtain ⟨x0, x1, x2⟩ := hv.rng x (by simp)
  have n0 := hv.n0
  have n1 := hv.n1
  obtain ⟨n, rfl⟩ := Int.eq_ofNat_of_zero_le n0
  have IS := Lib.hid (fun W (hW : Below w.heap.size w W) => inSet n (x :: r) al cap W (hl.next hW) hv)
  obtain ⟨th, hth, ht1, ht2, ht3⟩ : ∃ th : Int, th = (tkS (x :: r) m).hi ∧ x.lo < th ∧ th ≤ x.hi ∧ (th = x.hi ∨ th = x.lo + m) := by
    refine ⟨_, rfl, ?_⟩
    rw [show (tkS (x :: r) m).hi = if m < x.hi - x.lo then x.lo + m else x.hi from rfl]
    by_cases q : m < x.hi - x.lo
    · rw [if_pos q]; omega
    · rw [if_neg q]; omega
  have htm : th ≤ x.lo + m := by
    rw [hth]; show (if m < x.hi - x.lo then x.lo + m else x.hi) ≤ _
    split <;> omega
  have ET : tkS (x :: r) m = ⟨x.lo, th⟩ := by rw [hth]; rfl
  rw [ET, left_is hv.norm ht1 ht2]
  have RE : Hid (runs (setB (x :: r) ⟨x.lo, th⟩ false) n = lefts x r th) := Lib.hid (runs_eq (lefts_norm hv.norm) fun j => by
    rw [lefts_in hv.norm ht1 ht2]
    unfold setB
    dsimp only
    constructor
    · rintro ⟨q, q2⟩
      obtain ⟨y, hy, y1, y2⟩ := q
      have hr := hv.rng y hy
      refine ⟨by omega, by omega, ?_⟩
      rw [show ((j.toNat : Nat) : Int) = j by omega, if_neg q2]
      exact inB_iff.2 ⟨y, hy, y1, y2⟩
    · rintro ⟨j0, j1, hb⟩
      rw [show ((j.toNat : Nat) : Int) = j by omega] at hb
      split at hb
      · cases hb
      · exact ⟨inB_iff.1 hb, by assumption⟩)
  have LL : (lefts x r th).length ≤ 40 := Nat.le_trans lefts_len h40
  have SO : Hid (∀ W blk, blk < W.heap.size → (∀ i, i < n → W.cell? ⟨blk, i, none⟩ = some (.bool (setB (x :: r) ⟨x.lo, th⟩ false i))) → Calls Try.prog 41 #[.slice (some ⟨blk, 0, none⟩) n n] W (SetPost 0 (lefts x r th) W)) := Lib.hid fun W blk hb hc => by
    have := setOf n blk n (setB (x :: r) ⟨x.lo, th⟩ false) W hb hc (by omega)
    rw [RE.out, if_neg (by omega)] at this
    exact this
  clear hl hm hv hc hne hth RE
  obtain ⟨N, hN⟩ : ∃ N, N = (x :: r).length := ⟨_, rfl⟩
  have hNp : 0 < N := by rw [hN]; simp
  have HG : Hid ((x :: r)[0]? = some x) := Lib.hid rfl
  rw [← hN] at M IS h40 ⊢
  clear hN LL ET
  have k0 : ((N : Int) == 0) = false := by simp; omega
  have k1 : (0 : Int) < (N : Int) := by omega
  generalize lefts x r th = es at *
  obtain ⟨lo, hi⟩ := x
  dsimp only at *
  obtain ⟨lo, rfl⟩ := Int.eq_ofNat_of_zero_le x0
  obtain ⟨hi, rfl⟩ := Int.eq_ofNat_of_zero_le (show 0 ≤ hi by omega)
  go_enter Try.func24, Try.ntmps24
  go_wp2_with fail
  refine M.out.mono ?_
  rintro e w1 ⟨rfl, hb1⟩
  have B := Lib.hid (bstep A0.out hb1)
  have BX1 := Lib.hid (BX.out.next hb1)
  obtain ⟨g, off, rfl, hg, _⟩ := SpsAt.get HL.out HG.out
  clear hb1 M
  go_wp2_with fail
  refine (IS.out _ B.out).mono ?_
  rintro e w2 ⟨rfl, hr⟩
  have R0 : Hid (RB w1 w1.heap.size n (setB (⟨lo, hi⟩ :: r) ⟨lo, lo⟩ false) w2) := Lib.hid (hr.congr fun j _ => by unfold setB; rw [if_neg (by dsimp only; omega)])
  have bz : w.heap.size < w1.heap.size := BX1.out.lt
  have CC : Hid (∀ W, Below w1.heap.size w1 W → W.cell? ⟨g, off, none⟩ = some (.int .i64 (lo : Int)) ∧ W.cell? ⟨g, off + 1, none⟩ = some (.int .i64 (hi : Int))) := Lib.hid fun W hW => by
    obtain ⟨g2, off2, e2, _, c0, c1⟩ := SpsAt.get (HL.out.next (bstep B.out hW)) HG.out
    simp only [Option.some.injEq, Addr.mk.injEq, and_true] at e2
    obtain ⟨rfl, rfl⟩ := e2
    exact ⟨by simpa using c0, by simpa using c1⟩
  obtain ⟨c0, c1⟩ := CC.out _ R0.out.bel
  clear hr IS
  obtain ⟨blk, hblk⟩ : ∃ blk, blk = w1.heap.size := ⟨_, rfl⟩
  go_wp2_with fail
  have BX2 : Hid (∀ W, Below w1.heap.size w1 W → B2 w.heap.size (.int .i64 0) (.int .i64 0) W) := Lib.hid fun W hW => BX1.out.next hW
  rw [← hblk] at R0 CC bz BX2 ⊢
  clear hblk BX1
  go_loopw [2, 10] (fun vm vh wr => ∃ j : Nat, (lo : Int) + j ≤ th ∧ vm = .int .i64 (m - j) ∧ vh = .int .i64 ((lo : Int) + j) ∧ Hid (RB w1 blk n (setB (⟨lo, hi⟩ :: r) ⟨lo, (lo : Int) + j⟩ false) wr)) (fun _ vh _ => hi - (intOf vh).toNat)
  case atStart => exact ⟨0, by omega, by simp, by simp, by simpa using R0⟩
  case round =>
    obtain ⟨j, hj, rfl, rfl, HI⟩ := hrel
    clear R0 c0 c1
    obtain ⟨c0, c1⟩ := CC.out _ HI.out.bel
    by_cases hil : (lo : Int) + j < th
    · have hin : lo + j < n := by omega
      have sc := HI.out.cell (lo + j) hin
      have fz := HI.out.free (lo + j) hin
      have j1 : (lo : Int) + (j : Int) < (n : Int) := by omega
      have j2 : (0 : Int) ≤ (lo : Int) + (j : Int) := by omega
      have j3 : ((lo : Int) + (j : Int)).toNat = lo + j := by omega
      have j4 : (lo : Int) + (j : Int) < (hi : Int) := by omega
      have j5 : 0 < m - (j : Int) := by omega
      have FIN : Hid (RB w1 blk n (setB (⟨lo, hi⟩ :: r) ⟨lo, (lo : Int) + ((j + 1 : Nat) : Int)⟩ false) (wr.setCell ⟨blk, lo + j, none⟩ (.bool false))) := Lib.hid ((HI.out.set hin false).congr fun i _ => by
        unfold setB
        dsimp only
        by_cases e : i = lo + j
        · subst e; rw [if_pos rfl, if_pos (by omega)]
        · rw [if_neg e]
          by_cases e2 : (lo : Int) ≤ i ∧ (i : Int) < lo + j
          · rw [if_pos e2, if_pos (by omega)]
          · rw [if_neg e2, if_neg (by omega)])
      generalize setB (⟨lo, hi⟩ :: r) ⟨lo, (lo : Int) + j⟩ false (lo + j) = bv at sc
      clear HI
      go_wp2_with fail
      go_roundw
      case rel => exact ⟨j + 1, by omega, by first | rfl | go_num, by first | rfl | go_num, FIN⟩
      case measure => simp [intOf]; omega
    · have e : (lo : Int) + j = th := by omega
      have SS := Lib.hid (SO.out wr blk HI.out.lt (by rw [← e]; exact HI.out.cell))
      have BW := Lib.hid HI.out.bel
      have BF := Lib.hid (HI.out.from_ B.out (by omega))
      have BXW := Lib.hid (BX2.out wr BW.out)
      have hwrl : blk < wr.heap.size := HI.out.lt
      clear HI SO
      subst e
      by_cases q : (lo : Int) + j < (hi : Int)
      · have j5 : ¬ 0 < m - (j : Int) := by omega
        go_wp2_with fail
        refine SS.out.mono ?_
        rintro e w3 ⟨v, rfl, hk3⟩
        obtain ⟨c03, c13⟩ := CC.out _ (BW.out.trans (hk3.bel.mono (by omega)))
        obtain ⟨bl3, d0, d1, f0, f1⟩ := BXW.out.next hk3.bel
        have FV := Lib.hid (SpK.put2 hk3 (k := w.heap.size) BXW.out.lt (.int .i64 (lo : Int)) (.int .i64 ((lo : Int) + j)))
        have FB := Lib.hid (bstep BF.out hk3.bel)
        clear hk3 SS
        go_wp2_with fail
        refine bodyPost_ret (v := .tuple #[.agg #[.int .i64 (lo : Int), .int .i64 ((lo : Int) + j)], v, .int .i64 0]) (by simp [results, Try.results24, go_sem, *]) rfl ⟨v, rfl, ?_, ?_⟩
        · exact FV.out
        · exact bset2 FB.out _ _
      · go_wp2_with fail
        refine SS.out.mono ?_
        rintro e w3 ⟨v, rfl, hk3⟩
        obtain ⟨c03, c13⟩ := CC.out _ (BW.out.trans (hk3.bel.mono (by omega)))
        obtain ⟨bl3, d0, d1, f0, f1⟩ := BXW.out.next hk3.bel
        have FV := Lib.hid (SpK.put2 hk3 (k := w.heap.size) BXW.out.lt (.int .i64 (lo : Int)) (.int .i64 ((lo : Int) + j)))
        have FB := Lib.hid (bstep BF.out hk3.bel)
        clear hk3 SS
        go_wp2_with fail
        refine bodyPost_ret (v := .tuple #[.agg #[.int .i64 (lo : Int), .int .i64 ((lo : Int) + j)], v, .int .i64 0]) (by simp [results, Try.results24, go_sem, *]) rfl ⟨v, rfl, ?_, ?_⟩
        · exact FV.out
        · exact bset2 FB.out _ _

theorem takes_len (n : Int) (l : List SpM) (m : Int) (h : tkC n l m = 0) : (atts [] (woS l (tkS l m))).length ≤ 40 := by
  have hm : mayB n l = true := by
    cases q : mayB n l
    · unfold tkC at h; rw [q] at h; cases h
    · rfl
  have hv := valid_of hm
  have h1 : ¬ m < 1 := by intro q; unfold tkC at h; rw [hm, if_pos rfl, if_pos q] at h; cases h
  cases l with
  | nil => exact absurd h (by unfold tkC; rw [hm, if_pos rfl, if_neg h1, if_pos rfl]; decide)
  | cons x r =>
    have hx := hv.rng x (by simp)
    have hl := hv.len
    have e : tkS (x :: r) m = ⟨x.lo, (tkS (x :: r) m).hi⟩ := rfl
    have ht : x.lo < (tkS (x :: r) m).hi ∧ (tkS (x :: r) m).hi ≤ x.hi := by
      show x.lo < (if m < x.hi - x.lo then x.lo + m else x.hi) ∧ (if m < x.hi - x.lo then x.lo + m else x.hi) ≤ x.hi
      split <;> omega
    rw [e, left_is hv.norm ht.1 ht.2]
    exact Nat.le_trans lefts_len hl
theorem eqlSpan (a b : Int) (w : World) : (binOp .eql 25 (.agg #[.int .i64 a, .int .i64 b]) (.agg #[.int .i64 a, .int .i64 b])).run Try.prog w = .ok (.bool true) w := by
  have u3 := Try.underlying3
  have a3 := Try.isAgg3
  have z3 := Try.sizeOf3
  have hS : Try.prog.underlying 25 = some (.struct (Try.prog.fieldsOf 25)) := by kernel_rfl
  have hp : Try.prog.stoodInHeld 25 = false := by kernel_rfl
  rw [run_eql_struct, show (10000 : Nat) = 9999 + 1 from rfl, run_equalIn_agg w 9999 25 _ _ hS hp]
  simp only [Program.fieldsOf, Try.underlying25]
  go_simp
  try simp
set_option maxHeartbeats 1000000 in
theorem spansTakes (n : Int) (al : Option Addr) (cap : Nat) (l : List SpM) (m : Int) (w : World) {X : Prop} (_ : X) (hl : SpsAt w al l) (_ : ∀ e ∈ l, e.ok) (hlc : l.length ≤ cap) (hmx : cap ≤ maxLen) {Y : Prop} (_ : Y) (hm : (Lit.int .i64 m).wf = true) :
    Calls Try.prog 7 #[.int .i64 n, .slice al l.length cap, .int .i64 m] w fun e w' => e = .returned (.bool true) ∧ Below w.heap.size w w' := by
  unfold maxLen at hmx
  have hmm := (wf_i64 hm).2
  obtain ⟨c, tk, es, M, R, LN⟩ : ∃ c tk es, Calls Try.prog 23 #[.int .i64 n, .slice al l.length cap, .int .i64 m] w (TakePost c tk es w) ∧ (∀ W, Below w.heap.size w W → Calls Try.prog 24 #[.int .i64 n, .slice al l.length cap, .int .i64 m] W (TakePost c tk es W)) ∧ es.length ≤ 40 := by
    by_cases hc : tkC n l m = 0
    · exact ⟨_, _, _, take_ok n l al cap m w hl hc hmm, fun W hW => take_ok_ref n l al cap m W (hl.next hW) hc hmm, takes_len n l m hc⟩
    · exact ⟨_, _, _, take_no n l al cap m w hl (by omega) hc, fun W hW => take_no_ref n l al cap m W (hl.next hW) (by omega) hc, by simp⟩
  have M' := Lib.hid M
  have R' := Lib.hid R
  have SA := Lib.hid (fun v1 v2 W h1 h2 => same v1 v2 es W h1 h2 (by omega))
  have gs := guardSpan
  have es' := eqlSpan
  clear hl M R LN hm hmm
  generalize l.length = N at *
  obtain ⟨tl, th⟩ := tk
  go_enter Try.func7, Try.ntmps7
  go_wp2_with fail
  refine M'.out.mono ?_
  rintro e w1 ⟨v1, rfl, hv1, hb1⟩
  have A1 := Lib.hid (balloc hb1 (.cells #[.int .i64 tl, .int .i64 th] 25))
  have V1 := Lib.hid (hv1.next (balloc (Below.refl _ _) (.cells #[.int .i64 tl, .int .i64 th] 25)))
  have X1 := Lib.hid (B2.new w1 (.int .i64 tl) (.int .i64 th) 25)
  clear hb1 hv1 M'
  go_wp2_with fail
  refine (R'.out _ A1.out).mono ?_
  rintro e w2 ⟨v2, rfl, hv2, hb2⟩
  have A2 := Lib.hid (balloc (bstep A1.out hb2) (.cells #[.int .i64 tl, .int .i64 th] 25))
  have V2 := Lib.hid (hv2.next (balloc (Below.refl _ _) (.cells #[.int .i64 tl, .int .i64 th] 25)))
  obtain ⟨xl, x0, x1, _, _⟩ := X1.out.next hb2
  have SS := Lib.hid (SA.out v1 v2 _ ((V1.out.next hb2).next (balloc (Below.refl _ _) (.cells #[.int .i64 tl, .int .i64 th] 25))) V2.out)
  have hwn : w1.heap.size ≠ w2.heap.size := by omega
  clear hb2 hv2 R'
  dsimp only at *
  go_wp2_with fail
  refine SS.out.mono ?_
  rintro e w3 ⟨rfl, hb3⟩
  have B3 := Lib.hid (bstep A2.out hb3)
  clear hb3 SS
  go_wp2_with fail
  go_ret
  exact ⟨by first | rfl | simp, B3.out⟩
end Go.Proofs.Ytdiogfhbgmkajaa.SpanR
