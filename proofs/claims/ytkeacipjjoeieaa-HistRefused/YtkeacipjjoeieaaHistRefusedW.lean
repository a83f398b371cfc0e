/-
  The law HistRefused.
-/
import Derived.Test.YtkeacipjjoeieaaHistEd
import Derived.Test.YtkeacipjjoeieaaHistLaws
import Derived.Test.YtkeacipjjoeieaaSameTK
namespace Go.Proofs.Ytkeacipjjoeieaa.HistK
open Go.RowKit Kit EditM HistM HistC Lift Txt

theorem Row.at_r {w : World} {a : Option Addr} {n c : Nat} {xs : List Value} (h : Row w (.slice a n c) xs) {i : Nat} {x : Value} (hi : xs[i]? = some x) : ∃ b off, a = some ⟨b, off, none⟩ ∧ b < w.heap.size ∧ w.cell? ⟨b, off + i, none⟩ = some x := by
  obtain ⟨a', c', e, h⟩ := h
  cases e
  have hlt := (List.getElem?_eq_some_iff.1 hi).1
  obtain ⟨b, off, rfl, hb, hc⟩ := h (by omega)
  exact ⟨b, off, rfl, hb, (hc i hlt).trans hi⟩
def oneC (v : Value) : List Value := [v]
theorem flat_one (l : List Value) : flatC oneC l = l := by
  induction l with
  | nil => rfl
  | cons x l ih => rw [flatC_cons, ih]; rfl
/-- two slices of the call's own, each in a block of its own -/
structure RfK (w : World) (ds : List DeedM) (ts : List Bs) (v u : Value) (wr : World) : Prop where
  d : RX 4 wr v ds.length (flatC DeedM.cs ds)
  t : RX 1 wr u ts.length (ts.map strV)
  db : ∀ b, v.ownBlock = some b → w.heap.size ≤ b ∧ u.ownBlock ≠ some b
  tb : ∀ b, u.ownBlock = some b → w.heap.size ≤ b
  bel : Below w.heap.size w wr
section
variable {w wr w' : World} {ds : List DeedM} {ts : List Bs} {v u : Value}
theorem RfK.next (h : RfK w ds ts v u wr) (hb : Below wr.heap.size wr w') : RfK w ds ts v u w' :=
  ⟨h.d.kept hb.size fun b q => hb.block b (h.d.lt q), h.t.kept hb.size fun b q => hb.block b (h.t.lt q), h.db, h.tb, bstep h.bel hb⟩
theorem RfK.deed (h : RfK w ds ts v u wr) {o : DeedM} {v' : Value} (hr : RX 4 w' v' (ds.length + 1) (flatC DeedM.cs ds ++ o.cs)) (hg : wr.grownBy w' v.ownBlock) (hb : ∃ g, v'.ownBlock = some g ∧ (v.ownBlock = some g ∨ (wr.heap.size ≤ g ∧ g < w'.heap.size))) : RfK w (ds ++ [o]) ts v' u w' := by
  obtain ⟨g, e1, e2⟩ := hb
  have hz := h.bel.size
  refine ⟨by rw [List.length_append, flatC_append, flatC_one]; exact hr, h.t.kept hg.size fun b q => hg.block b (h.t.lt q) (fun e => (h.db b e.symm).2 q), fun b q => ?_, h.tb, h.bel.grown hg hz (fun b e => (h.db b e).1)⟩
  rw [e1] at q; cases q
  rcases e2 with e2 | e2
  · exact h.db _ e2
  · exact ⟨by omega, fun e => by have := h.t.lt e; omega⟩
theorem RfK.text (h : RfK w ds ts v u wr) {o : Bs} {u' : Value} (hr : RX 1 w' u' (ts.length + 1) (ts.map strV ++ [strV o])) (hg : wr.grownBy w' u.ownBlock) (hb : ∃ g, u'.ownBlock = some g ∧ (u.ownBlock = some g ∨ (wr.heap.size ≤ g ∧ g < w'.heap.size))) : RfK w ds (ts ++ [o]) v u' w' := by
  obtain ⟨g, e1, e2⟩ := hb
  have hz := h.bel.size
  refine ⟨h.d.kept hg.size fun b q => hg.block b (h.d.lt q) (fun e => (h.db b q).2 e.symm), by rw [List.length_append, List.map_append]; exact hr, fun b q => ⟨(h.db b q).1, ?_⟩, fun b q => ?_, h.bel.grown hg hz h.tb⟩
  · rw [e1]; intro e; cases e
    rcases e2 with e2 | e2
    · exact (h.db _ q).2 e2
    · have := h.d.lt q; omega
  · rw [e1] at q; cases q
    rcases e2 with e2 | e2
    · exact h.tb _ e2
    · omega
end
set_option maxRecDepth 100000 in
set_option maxHeartbeats 2000000 in
theorem histRefused (a0 : Option Addr) (len0 cap0 : Nat) (z0 : List Int) (a1 : Option Addr) (cap1 : Nat) (l : List TurnM) (w : World) (h0 : IsRow .i64 w a0 len0 cap0 z0) (hl : TnsAt w a1 l) (hh : ∀ c ∈ l, c.chg.has w) (hle : l.length ≤ cap1) (hmx : cap1 ≤ maxLen) {X : Prop} (_ : X) :
    Calls Try.prog 7 #[.slice a0 len0 cap0, .slice a1 l.length cap1] w fun e w' => e = .returned (.bool true) ∧ Below w.heap.size w w' := by
  obtain ⟨i0, hi, hz0, hz1, hz2⟩ := info_parts infoDeed
  have HI := Lib.hid (And.intro hi (And.intro hz0 (And.intro hz1 hz2)))
  clear hi hz0 hz1 hz2
  obtain ⟨i1, hi, hz0, hz1, hz2⟩ := info_parts infoStr
  have HJ := Lib.hid (And.intro hi (And.intro hz0 (And.intro hz1 hz2)))
  clear hi hz0 hz1 hz2
  unfold maxLen at hmx
  have TO := Lib.hid (textOf a0 len0 cap0 z0 40 w h0 (by omega))
  have hs : (textS ((z0.take len0).take 40)).size ≤ 40 := by rw [textS_size, List.length_take]; omega
  have HS := Lib.hid (str_list (textS ((z0.take len0).take 40)))
  generalize textS ((z0.take len0).take 40) = s at *
  have DS := Lib.hid (deeds l a1 cap1 60 (s.size + 9) w hl hh (by omega) (by omega) (by omega))
  have hdl := dsOf_len l 60 ((s.size + 9 : Nat) : Int)
  have HOK := Lib.hid (dsOf_ok (n := ((s.size + 9 : Nat) : Int)) (by omega) (by omega) l 60)
  generalize dsOf l 60 ((s.size + 9 : Nat) : Int) = ds at *
  rw [show ((s.size + 9 : Nat) : Int) = (s.size : Int) + 9 by omega] at DS
  have ht : s.data.toList.length ≤ 600 := by rw [size_list]; omega
  have HD := Lib.hid (fun W u (hu : DdsV W u ds) => histed s.data.toList _ u W hu HOK.out ht (by omega))
  have HD2 := Lib.hid (fun W u (hu : DdsV W u ((TL.start s.data.toList).few ds)) => histed s.data.toList _ u W hu (fun d hd => HOK.out d (TL.few_mem _ _ d hd)) ht (by have := TL.few_len (TL.start s.data.toList) ds; omega))
  have hfl := TL.few_len (TL.start s.data.toList) ds
  rw [HS.out] at HD HD2
  unfold HdPost at HD HD2
  have FT := Lib.hid (TL.few_texts (TL.start s.data.toList) ds)
  rw [FT.out] at HD2
  clear h0 hl hh ht
  generalize s.data.toList = sl at *
  obtain ⟨m, hm⟩ : ∃ m, m = ds.length := ⟨_, rfl⟩
  rw [← hm] at hdl HD hfl
  have HM := Lib.hid hm
  clear hm
  have WL : Hid (((TL.start sl).want ds).length = ((TL.start sl).few ds).length) := Lib.hid (by rw [← FT.out, TL.texts_len])
  go_enter Try.func7, Try.ntmps7
  go_wp2_with fail
  refine TO.out.mono ?_
  rintro x w1 ⟨rfl, rfl⟩
  go_wp2_with fail
  refine DS.out.mono ?_
  rintro x w1 ⟨v1, rfl, hv1⟩
  have V1 := Lib.hid (hv1.sl DeedM.cs_len)
  have B1 := Lib.hid hv1.bel
  clear hv1 TO DS
  go_wp2_with fail
  refine (HD.out _ _ V1.out).mono ?_
  rintro x w2 ⟨a2, c2, a3, c3, rfl, ht, hc, hb⟩
  have T2 := Lib.hid ht
  have C2 := Lib.hid hc
  have V2 := Lib.hid (V1.out.next hb)
  have B2 := Lib.hid (bstep B1.out hb)
  obtain ⟨av, cv, rfl, _, hva, _⟩ := V1.out.next hb
  rw [← HM.out] at V2 ⊢
  have VA := Lib.hid hva
  clear ht hc hb HD V1 B1 hva
  go_wp2_with fail
  go_loopw [10, 11, 12] (fun v u i wr => ∃ k : Nat, k ≤ m ∧ i = .int .i64 (k : Int) ∧ RfK w2 ((TL.start sl).few (ds.take k)) ((TL.start sl).want (ds.take k)) v u wr) (fun _ _ i _ => m - (intOf i).toNat)
  case atStart => exact ⟨0, by omega, rfl, RX.nil _ _, RX.nil _ _, fun b q => (by cases q), fun b q => (by cases q), Below.refl _ _⟩
  case round =>
    obtain ⟨k, hk, rfl, hrf⟩ := hrel
    have RF := Lib.hid hrf
    clear hrf
    by_cases hlt : k < m
    · obtain ⟨d, hd⟩ : ∃ d, ds[k]? = some d := ⟨ds[k]'(by have := HM.out; omega), by simp⟩
      obtain ⟨gd, od, rfl, hgd, c0, c1, c2', c3'⟩ := DdsAt.get (VA.out.next RF.out.bel) hd
      obtain ⟨gt, ot, rfl, hgt2, ct2⟩ := Row.at_r T2.out (i := k) (x := strV _) (by rw [List.getElem?_map, TL.texts_at _ hd]; rfl)
      obtain ⟨gc, oc, rfl, hgc, cc⟩ := Row.at_r (C2.out.next RF.out.bel) (i := k) (x := intV _) (by rw [List.getElem?_map, TL.codes_at _ hd]; rfl)
      have ct := keep RF.out.bel hgt2 ct2
      have hgt := Nat.lt_of_lt_of_le hgt2 RF.out.bel.size
      have HGT2 := Lib.hid hgt2
      clear ct2 hgt2
      have NF := Lib.hid (TL.few_next (TL.start sl) hd)
      have NW := Lib.hid (TL.want_next (TL.start sl) hd)
      generalize ((TL.start sl).run (ds.take k)).step d = sd at *
      obtain ⟨s', c'⟩ := sd
      dsimp only at *
      simp only [strV, intV] at ct cc
      have hfl1 : ((TL.start sl).few (ds.take k)).length ≤ 60 := by
        have := TL.few_len (TL.start sl) (ds.take k)
        rw [List.length_take] at this; omega
      have hwl : ((TL.start sl).want (ds.take k)).length ≤ 60 := by
        rw [← TL.few_texts, TL.texts_len]; exact hfl1
      clear hd
      generalize (TL.start sl).few (ds.take k) = fk at *
      generalize (TL.start sl).want (ds.take k) = wk at *
      by_cases h0 : c' = 0
      · subst h0
        rw [if_pos rfl] at NF NW
        obtain ⟨knd, ea, ec, ep⟩ := d
        dsimp only at *
        have E2 := Lib.hid (RF.out.next (balloc (Below.refl _ _) (.cells #[.int .i64 knd, .int .i64 ea, .int .i64 ec, .string ep] 45)))
        have CT4 : Hid (∀ w4, (wr.alloc (.cells #[.int .i64 knd, .int .i64 ea, .int .i64 ec, .string ep] 45)).grownBy w4 u10.ownBlock → w4.cell? ⟨gt, ot + k, none⟩ = some (.string (str s'.now)) ∧ gt < w4.heap.size) := Lib.hid fun w4 q => ⟨(q.cell_far ⟨gt, ot + k, none⟩ (by simp; omega) (fun e => by have h1 : w2.heap.size ≤ gt := (RF.out.db _ e.symm).1; have := HGT2.out; omega)).trans (keep (balloc (Below.refl _ _) _) hgt ct), Nat.lt_of_lt_of_le (by simp; omega) q.size⟩
        go_wp2_with (first | (at_builtin; refine wpList_append_rx _ rfl _ _ 22 rfl 45 i0 _ 4 40 Try.underlying22 HI.out.1 HI.out.2.1 HI.out.2.2.1 HI.out.2.2.2 rfl (by decide) u10 fk.length (flatC DeedM.cs fk) rfl E2.out.d ⟨wr.heap.size, 0, none⟩ 1 [.int .i64 knd, .int .i64 ea, .int .i64 ec, .string ep] rfl rfl (cells_six_new wr [.int .i64 knd, .int .i64 ea, .int .i64 ec, .string ep] _) (by simp [Value.oneCell']) (by unfold maxLen; omega) (by omega) ?_; intro a4 cap4 w4 hown4 hgrow4 hat4; have E3 := Lib.hid ((E2.out.deed (o := ⟨knd, ea, ec, ep⟩) hown4 hgrow4 hat4).next (balloc (Below.refl _ _) (.cells #[.string (str s'.now)] 9))); obtain ⟨ct4, gt4⟩ := CT4.out _ hgrow4; clear hown4 hgrow4 hat4) | (at_builtin; refine wpList_append_rx _ rfl _ _ 23 rfl 9 i1 _ 1 16 Try.underlying23 HJ.out.1 HJ.out.2.1 HJ.out.2.2.1 HJ.out.2.2.2 rfl (by decide) u11 wk.length (wk.map strV) rfl E3.out.t ⟨w4.heap.size, 0, none⟩ 1 [.string (str s'.now)] rfl rfl (cells_six_new w4 [.string (str s'.now)] _) (by simp [Value.oneCell']) (by unfold maxLen; omega) (by omega) ?_; intro a5 cap5 w5 hown5 hgrow5 hat5; have FIN := Lib.hid (E3.out.text (o := s'.now) hown5 hgrow5 hat5); clear hown5 hgrow5 hat5))
        go_roundw
        case rel => exact ⟨k + 1, by omega, by go_num, by rw [NF.out, NW.out]; exact FIN.out⟩
        case measure => simp [intOf]; omega
      · rw [if_neg h0] at NF NW
        have g0 : (c' == 0) = false := by simpa using h0
        clear h0 c0 c1 c2' c3'
        go_wp2_with fail
        go_roundw
        case rel => exact ⟨k + 1, by omega, by go_num, by rw [NF.out, NW.out, List.append_nil, List.append_nil]; exact RF.out⟩
        case measure => simp [intOf]; omega
    · obtain rfl : k = m := by omega
      have e1 : ds.take k = ds := by rw [HM.out]; exact List.take_length
      rw [e1] at RF
      have V3 := Lib.hid (SlV.of_rx (k := 4) (cells := DeedM.cs) DeedM.cs_len RF.out.d)
      have RT := Lib.hid (Row.of_rx RF.out.t)
      have B3 := Lib.hid (bstep B2.out RF.out.bel)
      clear e1 RF
      go_wp2_with fail
      refine (HD2.out _ _ V3.out).mono ?_
      rintro x w3 ⟨a5, c5, a6, c6, rfl, ht, _, hb⟩
      have ST := Lib.hid (SameTK.same (.slice a5 ((TL.start sl).few ds).length c5) u11 (((TL.start sl).want ds).map str) w3 (by rw [List.map_map]; exact ht) (by rw [List.map_map]; exact RT.out.next hb) (by rw [List.length_map, WL.out]; unfold maxLen; omega))
      have B4 := Lib.hid (bstep B3.out hb)
      clear ht hb HD2
      generalize ((TL.start sl).few ds).length = fl at *
      go_wp2_with fail
      refine ST.out.mono ?_
      rintro x w4 ⟨rfl, hb⟩
      have B5 := Lib.hid (bstep B4.out hb)
      clear hb
      go_wp2_with fail
      go_ret
      exact ⟨rfl, B5.out⟩

end Go.Proofs.Ytkeacipjjoeieaa.HistK
