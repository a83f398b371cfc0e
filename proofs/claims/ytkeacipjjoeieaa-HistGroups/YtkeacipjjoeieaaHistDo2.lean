/-
  Package hist: do, where the edit is valid.
-/
import Derived.Test.YtkeacipjjoeieaaHistDo
namespace Go.Proofs.Ytkeacipjjoeieaa.HistC
open Go.RowKit Kit EditM EditC EditK HistM

def RcPost (s : TL) (k : Nat) (t : Value) (F : Nat → Prop) (N : Nat) (w : World) (x : Ending) (w' : World) : Prop := x = .returned (.tuple #[]) ∧ (∃ gs vu vr vs, Rel s gs ∧ (∀ g ∈ gs, g.length ≤ N) ∧ HX k t gs s.p s.op vu vr vs (grow F w w') w') ∧ Fr F w w'
theorem RecPost.rc {s : TL} {k : Nat} {t : Value} {F : Nat → Prop} {N : Nat} {w : World} {gs : List (List Ch)} {p : Nat} (h1 : Rel s gs) (h2 : ∀ g ∈ gs, g.length ≤ N) (h3 : s.p = p) (h4 : s.op = true) {x : Ending} {w' : World} (h : RecPost k t gs p F w x w') : RcPost s k t F N w x w' := by
  obtain ⟨hx, ⟨vu, vr, vs, hh⟩, hf⟩ := h
  subst h3
  exact ⟨hx, ⟨gs, vu, vr, vs, h1, h2, by rw [h4]; exact hh⟩, hf⟩
theorem edit_op (s : TL) (t : Bs) : (s.edit t).op = true := by
  unfold TL.edit; split
  · rfl
  · split <;> rfl
theorem record_any (s : TL) (k : Nat) (t : Value) (gs : List (List Ch)) (vu vr : Value) (vs : List Value) (F : Nat → Prop) (N : Nat) (e : EdM) (w : World) (hr : Rel s gs) (hN : ∀ g ∈ gs, g.length ≤ N) (hN2 : N ≤ 1000) (h : HX k t gs s.p s.op vu vr vs F w) (eok : e.ok) (hf : e.fault s.now = 0) :
    Calls Try.prog 30 #[.pointer (some ⟨k, 0, none⟩), .agg #[.int .i64 e.at_, .int .i64 e.cut, .string e.put, .int .i64 (e.inv s.now).at_, .int .i64 (e.inv s.now).cut, .string (e.inv s.now).put]] w (RcPost (s.edit (e.step s.now)) k t F (N + 1) w) := by
  have hl := hr.len
  have hlt := hr.ok.lt
  have hle := hr.ok.le
  have hm : ∀ n, ∀ g ∈ gs.take n ++ [[(e, e.inv s.now)]], g.length ≤ N + 1 := by
    intro n g hg
    rcases List.mem_append.1 hg with hg | hg
    · exact Nat.le_succ_of_le (hN g (List.mem_of_mem_take hg))
    · simp at hg; rw [hg]; simp
  cases ho : s.op with
  | true =>
    obtain ⟨n, hn⟩ : ∃ n, s.p = n + 1 := ⟨s.p - 1, by have := hr.ok.op ho; omega⟩
    obtain ⟨gl, hgl⟩ : ∃ gl, gs[n]? = some gl := ⟨gs[n]'(by omega), by simp⟩
    rw [ho, hn] at h
    refine (record_open k t gs n vu vr vs F gl (e, e.inv s.now) w h (by omega) hgl (Nat.le_trans (hN gl (List.mem_of_getElem? hgl)) hN2)).mono fun x w' q => ?_
    refine q.rc (hr.open_ ho hn hgl hf eok) ?_ ?_ (edit_op _ _)
    · intro g hg
      obtain ⟨i, hi⟩ := List.getElem?_of_mem hg
      by_cases e1 : i = n
      · subst e1
        have hlt2 := (List.getElem?_eq_some_iff.1 hi).1
        rw [List.length_set] at hlt2
        rw [List.getElem?_set_self hlt2] at hi
        cases hi
        have := hN gl (List.mem_of_getElem? hgl)
        simp; omega
      · rw [List.getElem?_set_ne (by omega)] at hi
        exact Nat.le_succ_of_le (hN g (List.mem_of_mem_take (List.mem_of_getElem? hi)))
    · unfold TL.edit; rw [if_pos ho]; exact hn
  | false =>
    rw [ho] at h
    by_cases hp : s.p < 20
    · refine (record_new k t gs s.p vu vr vs F (e, e.inv s.now) w h hp).mono fun x w' q => ?_
      refine q.rc (hr.new_ ho hp hf eok) (hm _) ?_ (edit_op _ _)
      unfold TL.edit; rw [if_neg (by rw [ho]; simp), if_pos hp]
    · have hp2 : s.p = 20 := by omega
      rw [hp2] at h
      refine (record_full k t gs vu vr vs F (e, e.inv s.now) w h).mono fun x w' q => ?_
      refine q.rc (hr.full_ ho hp2 hf eok) (fun g hg => hm _ g (List.mem_of_mem_drop hg)) ?_ (edit_op _ _)
      unfold TL.edit; rw [if_neg (by rw [ho]; simp), if_neg hp]; exact hp2
def Iv1Post (ei : EdM) (w : World) (x : Ending) (w' : World) : Prop := ∃ g off cap, x = .returned (.tuple #[.slice (some ⟨g, off, none⟩) 1 cap, .int .i64 0]) ∧ w'.cell? ⟨g, off, none⟩ = some (.int .i64 ei.at_) ∧ w'.cell? ⟨g, off + 1, none⟩ = some (.int .i64 ei.cut) ∧ w'.cell? ⟨g, off + 2, none⟩ = some (.string ei.put) ∧ Below w.heap.size w w'
theorem invert1 (t : Bs) (e : EdM) (v : Value) (w : World) (hl : EdsV w v [e]) (eok : e.ok) (hf : e.fault t = 0) :
    Calls Try.prog 29 #[.string (str t), v] w (Iv1Post (e.inv t) w) := by
  obtain ⟨a, cap, rfl, _, ha, _⟩ := hl
  have h6 := (EdM.fits_of hf).t6
  refine (invert (str t) [e] a cap w ha (by simpa using eok) (by simp) (by rw [size_str]; exact h6)).mono fun x w' q => ?_
  obtain ⟨v, rfl, hv, hb⟩ := q
  rw [list_str] at hv ⊢
  have hc : apC [e] t = 0 := by simp only [apC, if_pos hf]
  rw [hc] at hv ⊢
  rcases hv with ⟨_, hv⟩ | ⟨hv, _⟩
  · obtain ⟨a, cap, rfl, _, ha, _⟩ := hv
    obtain ⟨g, off, rfl, _, c0, c1, c2⟩ := EdsAt.get ha (i := 0) (e := e.inv t) rfl
    exact ⟨g, off, cap, rfl, by simpa using c0, by simpa using c1, by simpa using c2, hb⟩
  · exact absurd rfl hv

set_option maxRecDepth 100000 in
set_option maxHeartbeats 2000000 in
theorem do_ok (s : TL) (k : Nat) (F : Nat → Prop) (N : Nat) (e : EdM) (w : World) (h : HOk s k F N w) (hN2 : N ≤ 1000) (eok : e.ok) (hf : e.fault s.now = 0) :
    Calls Try.prog 25 #[.pointer (some ⟨k, 0, none⟩), .agg #[.int .i64 e.at_, .int .i64 e.cut, .string e.put]] w (ExPost (s.edit (e.step s.now)) 0 k F (N + 1) w) := by
  obtain ⟨gs, vu, vr, vs, hr, hN, hx⟩ := h
  have HF : fault ((str s.now).size : Int) e.at_ e.cut e.put.size = 0 := by rw [size_str]; exact hf
  have CK := Lib.hid (fun W => check ((str s.now).size : Int) e.at_ e.cut e.put W eok.a1 eok.p)
  rw [HF] at CK
  have B0 : Hid (Below w.heap.size w (w.alloc (.cells #[.int .i64 e.at_, .int .i64 e.cut, .string e.put] 43))) := Lib.hid (balloc (Below.refl _ _) _)
  have IV := Lib.hid (fun (W w1 : World) (hW : W = (w1.alloc (.cells #[.int .i64 e.at_, .int .i64 e.cut, .string e.put] 43)).drew ∨ W = w1.alloc (.cells #[.int .i64 e.at_, .int .i64 e.cut, .string e.put] 43)) => invert1 s.now e (.slice (some ⟨w1.heap.size, 0, none⟩) 1 1) W (by rcases hW with hW | hW <;> rw [hW]; exact (one_at w1 e).next (Below.refl _ _).drew; exact one_at w1 e) eok hf)
  have RC := Lib.hid (fun W (hW : HX k (.string (str s.now)) gs s.p s.op vu vr vs F W) => record_any s k (.string (str s.now)) gs vu vr vs F N e W hr hN hN2 hW eok hf)
  have AP := Lib.hid (fun W vb vc vd (hW : B4 k (.string (str s.now)) vb vc vd W) => apply k (str s.now) e vb vc vd W hW eok (by rw [list_str]; exact EdM.fits_of hf))
  have NW : Hid ((s.edit (e.step s.now)).now = e.step s.now) := by
    show _ = _
    have hl := hr.ok.lt
    have hle := hr.ok.le
    unfold TL.now TL.edit
    split
    · show (s.ts.take s.p ++ [e.step s.now]).getD s.p [] = _
      rw [List.getD_eq_getElem?_getD, List.getElem?_append_right (by simp; omega), show s.p - (s.ts.take s.p).length = 0 by simp; omega]; rfl
    · split
      · show (s.ts.take (s.p + 1) ++ [e.step s.now]).getD (s.p + 1) [] = _
        rw [List.getD_eq_getElem?_getD, List.getElem?_append_right (by simp; omega), show s.p + 1 - (s.ts.take (s.p + 1)).length = 0 by simp; omega]; rfl
      · show ((s.ts.take (s.p + 1) ++ [e.step s.now]).drop 1).getD s.p [] = _
        rw [List.getD_eq_getElem?_getD, List.getElem?_drop, List.getElem?_append_right (by simp; omega), show 1 + s.p - (s.ts.take (s.p + 1)).length = 0 by simp; omega]; rfl
  rw [list_str] at AP
  have HX0 := Lib.hid hx
  have c0 := hx.box.c0
  have klt := hx.box.lt
  have kne : ¬ k = w.heap.size := by omega
  clear hx hr hN hf HF
  generalize e.inv s.now = ei at *
  generalize str s.now = t at *
  obtain ⟨a, c, p⟩ := e
  obtain ⟨ai, ci, pi⟩ := ei
  dsimp only at *
  clear eok
  go_enter Try.func25, Try.ntmps25
  have hFlt : Hid (∀ b, F b → b < w.heap.size) := Lib.hid HX0.out.lt
  go_wp2_with fail
  have hz0 : w.heap.size < (w.alloc (.cells #[.int .i64 a, .int .i64 c, .string p] 43)).heap.size := by simp
  have v0 : (w.alloc (.cells #[.int .i64 a, .int .i64 c, .string p] 43)).cell? ⟨k, 0, none⟩ = some (.string t) := keep B0.out klt c0
  have v1 : (w.alloc (.cells #[.int .i64 a, .int .i64 c, .string p] 43)).cell? ⟨w.heap.size, 0, none⟩ = some (.int .i64 a) := by simp
  have v2 : (w.alloc (.cells #[.int .i64 a, .int .i64 c, .string p] 43)).cell? ⟨w.heap.size, 1, none⟩ = some (.int .i64 c) := by simp
  have v3 : (w.alloc (.cells #[.int .i64 a, .int .i64 c, .string p] 43)).cell? ⟨w.heap.size, 2, none⟩ = some (.string p) := by simp
  generalize w.alloc (.cells #[.int .i64 a, .int .i64 c, .string p] 43) = W0 at *
  have hk0 : k < W0.heap.size := by omega
  have KS : Hid (∀ W, Below W0.heap.size W0 W → W.cell? ⟨k, 0, none⟩ = some (.string t) ∧ W.cell? ⟨w.heap.size, 0, none⟩ = some (.int .i64 a) ∧ W.cell? ⟨w.heap.size, 1, none⟩ = some (.int .i64 c) ∧ W.cell? ⟨w.heap.size, 2, none⟩ = some (.string p)) := Lib.hid fun W hW => ⟨keep hW hk0 v0, keep hW hz0 v1, keep hW hz0 v2, keep hW hz0 v3⟩
  have BD : Hid (Below W0.heap.size W0 W0.drew) := Lib.hid (Below.refl _ _).drew
  go_region_with (first | (refine (CK.out _).mono ?_; rintro e w1 ⟨rfl, hb1⟩; have HB1 : Hid (Below W0.heap.size W0 w1) := Lib.hid (bstep BD.out hb1); have KS1 := Lib.hid (KS.out _ HB1.out); clear hb1))
  all_goals
    obtain ⟨x0, x1, x2, x3⟩ := KS1.out
    have hz1 : w.heap.size < w1.heap.size := by have := HB1.out.size; omega
    have BA1 : Hid (Below W0.heap.size W0 (w1.alloc (.cells #[.int .i64 a, .int .i64 c, .string p] 43))) := Lib.hid (balloc HB1.out _)
    have BD1 : Hid (Below W0.heap.size W0 (w1.alloc (.cells #[.int .i64 a, .int .i64 c, .string p] 43)).drew) := Lib.hid (balloc HB1.out _).drew
    have hk1 : k < w1.heap.size := by omega
    clear BD v0 v1 v2 v3
    go_wp2_with fail
    go_region_with (first | (refine (IV.out _ w1 (.inl rfl)).mono ?_; rintro e w2 ⟨g, off, cap, rfl, d0, d1, d2, hb2⟩; have HB2 : Hid (Below W0.heap.size W0 w2) := Lib.hid (bstep BD1.out hb2); have KS2 := Lib.hid (KS.out _ HB2.out); clear hb2) | (refine (IV.out _ w1 (.inr rfl)).mono ?_; rintro e w2 ⟨g, off, cap, rfl, d0, d1, d2, hb2⟩; have HB2 : Hid (Below W0.heap.size W0 w2) := Lib.hid (bstep BA1.out hb2); have KS2 := Lib.hid (KS.out _ HB2.out); clear hb2))
  all_goals
    obtain ⟨y0, y1, y2, y3⟩ := KS2.out
    have hz2 : w.heap.size < w2.heap.size := by have := HB2.out.size; omega
    have HX2 := Lib.hid (HX0.out.next (bstep B0.out HB2.out))
    have HX2d := Lib.hid (HX0.out.next (bstep B0.out HB2.out).drew)
    have FR2 : Hid (Fr F w w2.drew) := Lib.hid (Fr.of_below (bstep B0.out HB2.out)).drew
    clear x0 x1 x2 x3 KS1 KS2 HB1 HB2 BA1 BD1 IV CK
    go_wp2_with fail
    go_region_with (first | (refine (RC.out _ HX2d.out).mono ?_; rintro e w3 ⟨rfl, hx3, hfr3⟩; have H3 := Lib.hid hx3; have FR3 := Lib.hid hfr3; clear hx3 hfr3))
  all_goals
    have e3 : ∀ o, w3.cell? ⟨w.heap.size, o, none⟩ = w2.cell? ⟨w.heap.size, o, none⟩ := fun o => World.cell?_of_block (a := ⟨w.heap.size, o, none⟩) (FR3.out.block w.heap.size hz2 (fun q => by have := hFlt.out _ q; omega))
    have z1 := (e3 0).trans y1
    have z2 := (e3 1).trans y2
    have z3 := (e3 2).trans y3
    obtain ⟨gs3, vu3, vr3, vs3, hr3, hN3, hx3⟩ := H3.out
    have AP3 := Lib.hid (AP.out w3 _ _ _ hx3.box)
    clear e3 y0 y1 y2 y3 d0 d1 d2 RC AP hr3 hN3 hx3
    go_wp2_with fail
    refine AP3.out.mono ?_
    rintro e w4 ⟨rfl, w5, hb5, rfl⟩
    have HB5 := Lib.hid hb5
    clear hb5
    go_wp2_with fail
    go_ret
    obtain ⟨gs3, vu3, vr3, vs3, hr3, hN3, hx3⟩ := H3.out
    have hX := (hx3.next HB5.out).text (.string (str (EdM.step ⟨a, c, p⟩ s.now)))
    have hz5 := HB5.out.size
    have hz3 : w2.heap.size ≤ w3.heap.size := FR3.out.size
    have hz23 : w.heap.size ≤ w2.heap.size := FR2.out.size
    refine ⟨rfl, ⟨gs3, vu3, vr3, vs3, hr3, hN3, ?_⟩, ?_⟩
    · rw [NW.out]
      refine hX.mono (fun b q => ?_) (fun b q => ?_)
      · rcases q with q | q
        · exact .inl q
        · exact .inr ⟨by have := q.1; simp at this; omega, by rw [setZ]; omega⟩
      · rw [setZ]
        rcases q with q | q
        · have := hFlt.out b q; omega
        · have := q.2; rw [setZ] at this; exact this
    · refine Fr.set ?_ (.inl HX0.out.kF) _
      refine (FR2.out.trans (FR3.out.mono (G := grow F w w2.drew) fun b q _ => Or.inl q)).trans (Fr.of_below HB5.out)

end Go.Proofs.Ytkeacipjjoeieaa.HistC
