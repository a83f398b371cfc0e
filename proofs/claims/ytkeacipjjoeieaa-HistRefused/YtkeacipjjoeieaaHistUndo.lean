/-
  Package hist: undoGroup.
-/
import Derived.Test.YtkeacipjjoeieaaHistDo
namespace Go.Proofs.Ytkeacipjjoeieaa.HistC
open Go.RowKit Kit EditM EditC EditK HistM

/-- one change of a group, in memory -/
theorem RX.change {w : World} {a : Option Addr} {m cap : Nat} {gl : List Ch} (h : RX 6 w (.slice a m cap) m (flatC ccs gl)) {j : Nat} {c : Ch} (hj : gl[j]? = some c) (hm : j < m) :
    ∃ g off, a = some ⟨g, off, none⟩ ∧ g < w.heap.size ∧ ∀ i u, (ccs c)[i]? = some u → w.cell? ⟨g, off + j * 6 + i, none⟩ = some u := by
  obtain ⟨g, off, cap', e, _, _, hlt, hc, _⟩ := h.pos (by omega)
  cases e
  refine ⟨g, off, rfl, hlt, fun i u hi => ?_⟩
  have hi6 := (List.getElem?_eq_some_iff.1 hi).1
  rw [ccs_len] at hi6
  rw [Nat.add_assoc]
  exact hc (j * 6 + i) u ((flatC_get ccs_len gl j c i hj hi6).trans hi)
theorem zip_get {α β : Type} {l : List α} {m : List β} {j : Nat} {x : α} {y : β} (h1 : l[j]? = some x) (h2 : m[j]? = some y) : (l.zip m)[j]? = some (x, y) := by
  rw [List.getElem?_zip_eq_some]; exact ⟨h1, h2⟩
theorem apC_fits {es : List EdM} {a : Bs} (h : apC es a = 0) {j : Nat} {e : EdM} (he : es[j]? = some e) : e.fits (apT (es.take j) a) := by
  have h1 : apC (es.take j ++ es.drop j) a = 0 := by rw [List.take_append_drop]; exact h
  have h2 := apC_tail _ _ _ h1
  rw [drop_next he] at h2
  refine EdM.fits_of ?_
  by_cases hf : e.fault (apT (es.take j) a) = 0
  · exact hf
  · simp only [apC, if_neg hf] at h2; exact absurd h2 hf

theorem undo_none (s : TL) (k : Nat) (F : Nat → Prop) (N : Nat) (w : World) (h : HOk s k F N w) (hp : s.p = 0) :
    Calls Try.prog 26 #[.pointer (some ⟨k, 0, none⟩)] w (ExPost s 7 k F (N + 1) w) := by
  have HH := Lib.hid h
  obtain ⟨gs, vu, vr, vs, hr, hN, hx⟩ := h
  rw [hp] at hx
  obtain ⟨a, cap, rfl⟩ := hx.u.form
  obtain ⟨klt, q0, q1, q2, q3, qf⟩ := hx.box
  clear hx hr hN hp qf q0 q2 q3
  go_enter Try.func26, Try.ntmps26
  go_wp2_with fail
  go_ret
  exact ⟨rfl, HH.out.ex (Below.refl _ _) (by omega), Fr.refl _ _⟩

def UnR (k : Nat) (es : List EdM) (a : Bs) (gs : List (List Ch)) (p : Nat) (op : Bool) (vu vr : Value) (vs : List Value) (F : Nat → Prop) (w : World) (j : Nat) (wr : World) : Prop := HX k (.string (str (apT (es.take j) a))) gs p op vu vr vs F wr ∧ Fr F w wr
set_option maxRecDepth 100000 in
set_option maxHeartbeats 2000000 in
theorem undo_ok (s : TL) (k : Nat) (F : Nat → Prop) (N : Nat) (w : World) (h : HOk s k F N w) (hN2 : N ≤ 1000) (n : Nat) (hp : s.p = n + 1) :
    Calls Try.prog 26 #[.pointer (some ⟨k, 0, none⟩)] w (ExPost ⟨s.ts, n, false⟩ 0 k F (N + 1) w) := by
  obtain ⟨i0, hi, hz0, hz1, hz2⟩ := info_parts infoGr
  have HI := Lib.hid (And.intro hi (And.intro hz0 (And.intro hz1 hz2)))
  clear hi hz0 hz1 hz2
  obtain ⟨gs, vu, vr, vs, hr, hN, hx⟩ := h
  have hlt := hr.ok.lt
  have hl := hr.len
  have hle := hr.ok.le
  obtain ⟨gl, hgl⟩ : ∃ gl, gs[n]? = some gl := ⟨gs[n]'(by omega), by simp⟩
  obtain ⟨a, ha⟩ : ∃ a, s.ts[n]? = some a := ⟨s.ts[n]'(by omega), by simp⟩
  obtain ⟨v, hv⟩ : ∃ v, vs[n]? = some v := ⟨vs[n]'(by have := hx.vl; omega), by simp⟩
  have hnow := hr.ok.now
  rw [hp] at hnow hx
  obtain ⟨es, rfl, hc, ht, hok⟩ := hr.g n gl a s.now hgl ha hnow
  have HR : Hid (Rel ⟨s.ts, n, false⟩ gs) := Lib.hid (hr.mark (by omega))
  have NW : Hid ((⟨s.ts, n, false⟩ : TL).now = a) := by
    show (s.ts.getD n []) = a
    rw [List.getD_eq_getElem?_getD, ha]; rfl
  have hlen : (es.zip (invs es a)).length = es.length := by rw [List.length_zip, invs_length]; omega
  have hm : es.length ≤ 1000 := by have := hN _ (List.mem_of_getElem? hgl); omega
  obtain ⟨g, off, cap, rfl, hcap, hmx, hgl0, hcs, _⟩ := hx.u.pos (by omega)
  obtain ⟨av, cv, hvf⟩ := (hx.g n v _ hv hgl).form
  subst hvf
  have GR := Lib.hid (hx.g n _ _ hv hgl)
  have HNN : Hid (∀ g ∈ gs, g.length ≤ N + 1) := Lib.hid fun g hg => Nat.le_succ_of_le (hN g hg)
  obtain ⟨m, hm0⟩ : ∃ m, m = es.length := ⟨_, rfl⟩
  rw [hlen, ← hm0] at hv GR
  rw [← hm0] at hm
  have HM := Lib.hid hm0
  have HV := Lib.hid hv
  have gv : w.cell? ⟨g, off + n, none⟩ = some (.slice av m cv) := hcs n _ (by rw [List.getElem?_take, if_pos (by omega)]; exact hv)
  rw [show s.now = apT (es.take m) a by rw [hm0, List.take_length]; exact ht.symm] at hx
  have HX0 := Lib.hid hx
  have hkF := hx.kF
  have hFlt := Lib.hid hx.lt
  obtain ⟨klt, q0, q1, q2, q3, qf⟩ := hx.box
  have HC := Lib.hid hc
  have hn1 : n < n + 1 := by omega
  have hn2 : (n : Int) < (n : Int) + 1 := by omega
  have hn20 : n < 20 := by omega
  have HG := Lib.hid hgl
  obtain ⟨ar, cr, hrf⟩ := hx.r.form
  subst hrf
  obtain ⟨q, hq⟩ : ∃ q, q = gs.length - (n + 1) := ⟨_, rfl⟩
  have hq20 : q ≤ 20 := by omega
  rw [← hq] at HX0
  have HQ := Lib.hid hq
  obtain ⟨op, hop⟩ : ∃ op, op = s.op := ⟨_, rfl⟩
  rw [← hop] at HX0
  have HL : Hid ((es.zip (invs es a)).length = m) := Lib.hid (hlen.trans hm0.symm)
  clear hx hr hN hnow hc ht hm0 hlen hv ha hgl hcs qf hlt hl hle hgl0 q0 q2 q3 hop hq GR
  go_enter Try.func26, Try.ntmps26
  go_wp2_with fail
  go_loopw [5] (fun i wr => ∃ j : Nat, j ≤ m ∧ i = .int .i64 ((j : Int) - 1) ∧ UnR k es a gs (n + 1) op (.slice (some ⟨g, off, none⟩) (n + 1) cap) (.slice ar q cr) vs F w j wr) (fun i _ => (intOf i + 1).toNat)
  case atStart => exact ⟨m, by omega, rfl, HX0.out, Fr.refl _ _⟩
  case round =>
    obtain ⟨j, hj, rfl, hun⟩ := hrel
    have HUN := Lib.hid hun
    obtain ⟨hx, hfr⟩ := hun
    by_cases h0 : 0 < j
    · obtain ⟨i, rfl⟩ : ∃ i, j = i + 1 := ⟨j - 1, by omega⟩
      have hmi : ((i + 1 : Nat) : Int) - 1 = (i : Int) := by omega
      rw [hmi]
      clear hmi
      obtain ⟨e, he⟩ : ∃ e, es[i]? = some e := ⟨es[i]'(by have := HM.out; omega), by simp⟩
      have hft := apC_fits HC.out he
      have eok := inv_ok hft (hok e (List.mem_of_getElem? he))
      have row := hx.g n _ _ HV.out HG.out
      rw [HL.out] at row
      obtain ⟨gx, offx, rfl, hgx, hcx⟩ := RX.change row (zip_get he (invs_get he)) (by omega)
      have d0 := hcx 3 _ rfl
      have d1 := hcx 4 _ rfl
      have d2 := hcx 5 _ rfl
      have AP := Lib.hid (apply k (str (apT (es.take (i + 1)) a)) (e.inv (apT (es.take i) a)) _ _ _ wr hx.box eok (by rw [list_str, apT_next he]; exact inv_fits hft))
      rw [list_str, apT_next he, inv_step hft] at AP
      obtain ⟨klt, q0, q1, q2, q3, qf⟩ := hx.box
      clear hx hfr row hcx hft he eok qf q0 q1 q2 q3
      generalize e.inv (apT (es.take i) a) = ei at *
      obtain ⟨ai, ci, pi⟩ := ei
      dsimp only at *
      go_wp2_with fail
      refine AP.out.mono ?_
      rintro e w1 ⟨rfl, w2, hb2, rfl⟩
      have HB2 := Lib.hid hb2
      clear hb2 AP
      go_wp2_with fail
      go_roundw
      case rel => exact ⟨i, by omega, rfl, (HUN.out.1.next HB2.out).text _, (HUN.out.2.trans (Fr.of_below HB2.out)).set (.inl hkF) _⟩
      case measure => simp [intOf]
    · obtain rfl : j = 0 := by omega
      have HXr : Hid (HX k (.string (str a)) gs (n + 1) op (.slice (some ⟨g, off, none⟩) (n + 1) cap) (.slice ar q cr) vs F wr) := Lib.hid hx
      obtain ⟨klt, q0, q1, q2, q3, qf⟩ := hx.box
      have qf1 := qf 1
      have qf2 := qf 2
      have qf3 := qf 3
      have hnc : n ≤ cap := by omega
      have hwz := hfr.size
      have HUF : Hid (∀ b, (Value.slice ar q cr).ownBlock = some b → F b ∧ b ≠ k) := Lib.hid hx.rF
      have kne : ¬ k = wr.heap.size := by omega
      have HROW : Hid (RX 1 ((wr.setCell ⟨k, 1, none⟩ (.slice (some ⟨g, off, none⟩) n cap)).alloc (.cells #[.slice av m cv] 73)) (.slice ar q cr) q (vs.drop (n + 1)).reverse) := Lib.hid (by
        have := (hx.kept_rows 1 (.slice (some ⟨g, off, none⟩) n cap)).2.1
        rw [← HQ.out] at this
        exact this.kept (by simp) fun b e => Below.heap_alloc _ _ b (this.lt e))
      have HNEW : Hid (∀ (j : Nat) u, [Value.slice av m cv][j]? = some u → ((wr.setCell ⟨k, 1, none⟩ (.slice (some ⟨g, off, none⟩) n cap)).alloc (.cells #[.slice av m cv] 73)).cell? ((⟨wr.heap.size, 0, none⟩ : Addr).add j) = some u) := Lib.hid (by
        have := cells_six_new (wr.setCell ⟨k, 1, none⟩ (.slice (some ⟨g, off, none⟩) n cap)) [Value.slice av m cv] 73
        simpa using this)
      have HWA : Hid (Below (wr.setCell ⟨k, 1, none⟩ (.slice (some ⟨g, off, none⟩) n cap)).heap.size (wr.setCell ⟨k, 1, none⟩ (.slice (some ⟨g, off, none⟩) n cap)) ((wr.setCell ⟨k, 1, none⟩ (.slice (some ⟨g, off, none⟩) n cap)).alloc (.cells #[.slice av m cv] 73))) := Lib.hid (balloc (Below.refl _ _) _)
      have B4a := Lib.hid ((hx.box.set1 (.slice (some ⟨g, off, none⟩) n cap)).next HWA.out)
      clear hx hfr qf
      go_wp2_with (at_builtin; refine wpList_append_rx _ rfl _ _ 52 rfl 73 i0 _ 1 24 Try.underlying52 HI.out.1 HI.out.2.1 HI.out.2.2.1 HI.out.2.2.2 rfl (by decide) (.slice ar q cr) q (vs.drop (n + 1)).reverse rfl HROW.out ⟨wr.heap.size, 0, none⟩ 1 [.slice av m cv] rfl rfl HNEW.out (by simp [Value.oneCell']) (by unfold maxLen; omega) (by omega) ?_; intro a4 cap4 w4 hown4 hgrow4 hat4; have B44 := B4a.out.kept hgrow4.size (hgrow4.block k (by simp; omega) (fun e => (HUF.out k e.symm).2 rfl)); obtain ⟨kl4, _, gx4, gz4, gy4, fr4⟩ := B44; have fr41 := fr4 2; have fr43 := fr4 3; have HO4 := Lib.hid hown4; have HG4 := Lib.hid hgrow4; have HT4 := Lib.hid hat4; clear fr4 hown4 hgrow4 hat4)
      go_ret
      have hz4 := HG4.out.size
      have FIN := HX.undone (w0 := w) HXr.out HV.out (by rw [setZ]; exact hwz) (by rw [← HQ.out]; exact HO4.out) HWA.out HG4.out HT4.out
      have FR : Fr F w ((w4.setCell ⟨k, 2, none⟩ (.slice a4 (q + 1) cap4)).setCell ⟨k, 3, none⟩ (.bool false)) := (((((HUN.out.2.set (.inl hkF) _).alloc _).grown HG4.out (fun b e => .inl (HUF.out b e).1)).set (.inl hkF) _).set (.inl hkF) _)
      refine ⟨rfl, ⟨gs, .slice (some ⟨g, off, none⟩) n cap, .slice a4 (q + 1) cap4, vs, HR.out, HNN.out, ?_⟩, FR⟩
      rw [NW.out]
      refine FIN.mono (fun b q => q.imp id fun q => ⟨q.1, by rw [setZ, setZ]; exact q.2⟩) (fun b q => ?_)
      rcases q with q | q
      · exact Nat.lt_of_lt_of_le (hFlt.out b q) FR.size
      · exact q.2

end Go.Proofs.Ytkeacipjjoeieaa.HistC
