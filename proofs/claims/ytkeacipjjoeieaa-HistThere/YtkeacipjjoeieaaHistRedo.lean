/-
  Package hist: redoGroup.
-/
import Derived.Test.YtkeacipjjoeieaaHistUndo
namespace Go.Proofs.Ytkeacipjjoeieaa.HistC
open Go.RowKit Kit EditM EditC EditK HistM

theorem redo_none (s : TL) (k : Nat) (F : Nat → Prop) (N : Nat) (w : World) (h : HOk s k F N w) (hp : s.p + 1 = s.ts.length) :
    Calls Try.prog 27 #[.pointer (some ⟨k, 0, none⟩)] w (ExPost s 7 k F (N + 1) w) := by
  have HH := Lib.hid h
  obtain ⟨gs, vu, vr, vs, hr, hN, hx⟩ := h
  have h0 : gs.length - s.p = 0 := by have := hr.len; omega
  have hxr := hx.r
  rw [h0] at hxr
  obtain ⟨a, cap, rfl⟩ := hxr.form
  obtain ⟨klt, q0, q1, q2, q3, qf⟩ := hx.box
  clear hx hr hN hp qf q0 q1 q3 hxr h0
  go_enter Try.func27, Try.ntmps27
  go_wp2_with fail
  go_ret
  exact ⟨rfl, HH.out.ex (Below.refl _ _) (by omega), Fr.refl _ _⟩

set_option maxRecDepth 100000 in
set_option maxHeartbeats 2000000 in
theorem redo_ok (s : TL) (k : Nat) (F : Nat → Prop) (N : Nat) (w : World) (h : HOk s k F N w) (hN2 : N ≤ 1000) (n : Nat) (hp : s.p = n) (hp2 : n + 1 < s.ts.length) :
    Calls Try.prog 27 #[.pointer (some ⟨k, 0, none⟩)] w (ExPost ⟨s.ts, n + 1, false⟩ 0 k F (N + 1) w) := by
  obtain ⟨i0, hi, hz0, hz1, hz2⟩ := info_parts infoGr
  have HI := Lib.hid (And.intro hi (And.intro hz0 (And.intro hz1 hz2)))
  clear hi hz0 hz1 hz2
  obtain ⟨gs, vu, vr, vs, hr, hN, hx⟩ := h
  have hlt := hr.ok.lt
  have hl := hr.len
  have hle := hr.ok.le
  obtain ⟨gl, hgl⟩ : ∃ gl, gs[n]? = some gl := ⟨gs[n]'(by omega), by simp⟩
  obtain ⟨b, hb⟩ : ∃ b, s.ts[n + 1]? = some b := ⟨s.ts[n + 1]'(by omega), by simp⟩
  obtain ⟨v, hv⟩ : ∃ v, vs[n]? = some v := ⟨vs[n]'(by have := hx.vl; omega), by simp⟩
  have hnow := hr.ok.now
  rw [hp] at hnow hx
  obtain ⟨a, ha⟩ : ∃ a, a = s.now := ⟨_, rfl⟩
  rw [← ha] at hnow hx
  obtain ⟨es, rfl, hc, ht, hok⟩ := hr.g n gl a b hgl hnow hb
  have HR : Hid (Rel ⟨s.ts, n + 1, false⟩ gs) := Lib.hid (hr.mark (by omega))
  have NW : Hid ((⟨s.ts, n + 1, false⟩ : TL).now = b) := by
    show (s.ts.getD (n + 1) []) = b
    rw [List.getD_eq_getElem?_getD, hb]; rfl
  have hlen : (es.zip (invs es a)).length = es.length := by rw [List.length_zip, invs_length]; omega
  have hm : es.length ≤ 1000 := by have := hN _ (List.mem_of_getElem? hgl); omega
  obtain ⟨q, hq⟩ : ∃ q, gs.length = n + q + 1 := ⟨gs.length - (n + 1), by omega⟩
  have hxr := hx.r
  rw [show gs.length - n = q + 1 by omega] at hxr
  obtain ⟨g, off, cap, rfl, hcap, hmx, hgl0, hcs, _⟩ := hxr.pos (by omega)
  obtain ⟨av, cv, hvf⟩ := (hx.g n v _ hv hgl).form
  subst hvf
  have HNN : Hid (∀ g ∈ gs, g.length ≤ N + 1) := Lib.hid fun g hg => Nat.le_succ_of_le (hN g hg)
  obtain ⟨m, hm0⟩ : ∃ m, m = es.length := ⟨_, rfl⟩
  rw [hlen, ← hm0] at hv
  rw [← hm0] at hm
  have HM := Lib.hid hm0
  have HV := Lib.hid hv
  have gv : w.cell? ⟨g, off + q, none⟩ = some (.slice av m cv) := hcs q _ (by
    rw [drop_rev hv, List.getElem?_append_right (by rw [List.length_reverse, List.length_drop, hx.vl]; omega), show q - (vs.drop (n + 1)).reverse.length = 0 by rw [List.length_reverse, List.length_drop, hx.vl]; omega]; rfl)
  have HT : Hid (apT (es.take m) a = b) := Lib.hid (by rw [hm0, List.take_length]; exact ht)
  have HX0 := Lib.hid hx
  have hkF := hx.kF
  have hFlt := Lib.hid hx.lt
  obtain ⟨klt, q0, q1, q2, q3, qf⟩ := hx.box
  have HC := Lib.hid hc
  have hn1 : q < q + 1 := by omega
  have hn2 : (q : Int) < (q : Int) + 1 := by omega
  have hn20 : n < 20 := by omega
  have hq20 : q < 20 := by omega
  have HG := Lib.hid hgl
  obtain ⟨ar, cr, hrf⟩ := hx.u.form
  subst hrf
  have HQ := Lib.hid hq
  obtain ⟨op, hop⟩ : ∃ op, op = s.op := ⟨_, rfl⟩
  rw [← hop] at HX0
  have HL : Hid ((es.zip (invs es a)).length = m) := Lib.hid (hlen.trans hm0.symm)
  clear hx hr hN hnow hc ht hm0 hlen hv ha hgl hcs qf hlt hl hle hgl0 q0 q1 q3 hop hq hxr hb hp2 hp
  go_enter Try.func27, Try.ntmps27
  go_wp2_with fail
  go_loopw [24] (fun i wr => ∃ j : Nat, j ≤ m ∧ i = .int .i64 (j : Int) ∧ UnR k es a gs n op (.slice ar n cr) (.slice (some ⟨g, off, none⟩) (q + 1) cap) vs F w j wr) (fun i _ => m - (intOf i).toNat)
  case atStart => exact ⟨0, by omega, rfl, HX0.out, Fr.refl _ _⟩
  case round =>
    obtain ⟨j, hj, rfl, hun⟩ := hrel
    have HUN := Lib.hid hun
    obtain ⟨hx, hfr⟩ := hun
    by_cases h0 : j < m
    · obtain ⟨i, hij⟩ : ∃ i, i = j := ⟨_, rfl⟩
      subst hij
      obtain ⟨e, he⟩ : ∃ e, es[i]? = some e := ⟨es[i]'(by have := HM.out; omega), by simp⟩
      have hft := apC_fits HC.out he
      have eok := hok e (List.mem_of_getElem? he)
      have row := hx.g n _ _ HV.out HG.out
      rw [HL.out] at row
      obtain ⟨gx, offx, rfl, hgx, hcx⟩ := RX.change row (zip_get he (invs_get he)) (by omega)
      have d0 := hcx 0 _ rfl
      rw [Nat.add_zero] at d0
      have d1 := hcx 1 _ rfl
      have d2 := hcx 2 _ rfl
      have d3 := hcx 3 _ rfl
      have d4 := hcx 4 _ rfl
      have d5 := hcx 5 _ rfl
      have B6 : Hid (Below wr.heap.size wr (wr.alloc (.cells (ccs (e, e.inv (apT (es.take i) a))).toArray 70))) := Lib.hid (balloc (Below.refl _ _) _)
      have AP := Lib.hid (apply k (str (apT (es.take i) a)) e _ _ _ _ (hx.box.next B6.out) eok (by rw [list_str]; exact hft))
      rw [list_str, ← apT_next he] at AP
      obtain ⟨klt, q0, q1, q2, q3, qf⟩ := hx.box
      clear hx hfr row hcx hft he eok qf q0 q1 q2 q3
      generalize e.inv (apT (es.take i) a) = ei at *
      obtain ⟨ai, ci, pi⟩ := ei
      obtain ⟨ae, ce, pe⟩ := e
      simp only [ccs, EdM.cs, List.cons_append, List.nil_append] at AP B6
      dsimp only at *
      go_wp2_with fail
      refine AP.out.mono ?_
      rintro e w1 ⟨rfl, w2, hb2, rfl⟩
      have HB2 := Lib.hid hb2
      clear hb2 AP
      go_wp2_with fail
      go_roundw
      case rel => exact ⟨i + 1, by omega, by go_num, ((HUN.out.1.next B6.out).next HB2.out).text _, (HUN.out.2.trans (Fr.of_below (bstep B6.out HB2.out))).set (.inl hkF) _⟩
      case measure => simp [intOf]; omega
    · obtain rfl : j = m := by omega
      rw [HT.out] at hx
      have HXr : Hid (HX k (.string (str b)) gs n op (.slice ar n cr) (.slice (some ⟨g, off, none⟩) (q + 1) cap) vs F wr) := Lib.hid hx
      obtain ⟨klt, q0, q1, q2, q3, qf⟩ := hx.box
      have qf1 := qf 1
      have qf2 := qf 2
      have qf3 := qf 3
      have hnc : q ≤ cap := by omega
      have hwz := hfr.size
      have HUF : Hid (∀ b, (Value.slice ar n cr).ownBlock = some b → F b ∧ b ≠ k) := Lib.hid fun b e => ⟨(hx.uF b e).1, (hx.uF b e).2.1⟩
      have kne : ¬ k = wr.heap.size := by omega
      have HROW : Hid (RX 1 ((wr.setCell ⟨k, 2, none⟩ (.slice (some ⟨g, off, none⟩) q cap)).alloc (.cells #[.slice av j cv] 73)) (.slice ar n cr) n (vs.take n)) := Lib.hid (by
        have := (hx.kept_rows 2 (.slice (some ⟨g, off, none⟩) q cap)).1
        exact this.kept (by simp) fun b e => Below.heap_alloc _ _ b (this.lt e))
      have HNEW : Hid (∀ (jj : Nat) u, [Value.slice av j cv][jj]? = some u → ((wr.setCell ⟨k, 2, none⟩ (.slice (some ⟨g, off, none⟩) q cap)).alloc (.cells #[.slice av j cv] 73)).cell? ((⟨wr.heap.size, 0, none⟩ : Addr).add jj) = some u) := Lib.hid (by
        have := cells_six_new (wr.setCell ⟨k, 2, none⟩ (.slice (some ⟨g, off, none⟩) q cap)) [Value.slice av j cv] 73
        simpa using this)
      have HWA : Hid (Below (wr.setCell ⟨k, 2, none⟩ (.slice (some ⟨g, off, none⟩) q cap)).heap.size (wr.setCell ⟨k, 2, none⟩ (.slice (some ⟨g, off, none⟩) q cap)) ((wr.setCell ⟨k, 2, none⟩ (.slice (some ⟨g, off, none⟩) q cap)).alloc (.cells #[.slice av j cv] 73))) := Lib.hid (balloc (Below.refl _ _) _)
      have B4a := Lib.hid ((hx.box.set2 (.slice (some ⟨g, off, none⟩) q cap)).next HWA.out)
      clear hx hfr qf
      go_wp2_with (at_builtin; refine wpList_append_rx _ rfl _ _ 52 rfl 73 i0 _ 1 24 Try.underlying52 HI.out.1 HI.out.2.1 HI.out.2.2.1 HI.out.2.2.2 rfl (by decide) (.slice ar n cr) n (vs.take n) rfl HROW.out ⟨wr.heap.size, 0, none⟩ 1 [.slice av j cv] rfl rfl HNEW.out (by simp [Value.oneCell']) (by unfold maxLen; omega) (by omega) ?_; intro a4 cap4 w4 hown4 hgrow4 hat4; have B44 := B4a.out.kept hgrow4.size (hgrow4.block k (by simp; omega) (fun e => (HUF.out k e.symm).2 rfl)); obtain ⟨kl4, _, gx4, gz4, gy4, fr4⟩ := B44; have fr41 := fr4 1; have fr43 := fr4 3; have HO4 := Lib.hid hown4; have HG4 := Lib.hid hgrow4; have HT4 := Lib.hid hat4; clear fr4 hown4 hgrow4 hat4)
      go_ret
      have hz4 := HG4.out.size
      have FIN := HX.redone (w0 := w) HXr.out HQ.out HV.out (by rw [setZ]; exact hwz) HO4.out HWA.out HG4.out HT4.out
      have FR : Fr F w ((w4.setCell ⟨k, 1, none⟩ (.slice a4 (n + 1) cap4)).setCell ⟨k, 3, none⟩ (.bool false)) := (((((HUN.out.2.set (.inl hkF) _).alloc _).grown HG4.out (fun b e => .inl (HUF.out b e).1)).set (.inl hkF) _).set (.inl hkF) _)
      refine ⟨rfl, ⟨gs, .slice a4 (n + 1) cap4, .slice (some ⟨g, off, none⟩) q cap, vs, HR.out, HNN.out, ?_⟩, FR⟩
      rw [NW.out]
      refine FIN.mono (fun b q => q.imp id fun q => ⟨q.1, by rw [setZ, setZ]; exact q.2⟩) (fun b q => ?_)
      rcases q with q | q
      · exact Nat.lt_of_lt_of_le (hFlt.out b q) FR.size
      · exact q.2

end Go.Proofs.Ytkeacipjjoeieaa.HistC
