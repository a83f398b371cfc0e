/-
  Package diff: apply (a step that keeps lines).
-/
import Derived.Test.YtcknmaimkodaeaaDiffApply
namespace Go.Proofs.Ytcknmaimkodaeaa.DiffP
open Go.RowKit Kit LineM StrM DiffM DiffA DiffR HistM

set_option maxRecDepth 100000 in
set_option maxHeartbeats 8000000 in
theorem apply_keep (w W : World) (x z : List ByteArray) (bk i k : Nat) (out : List ByteArray) (h : PS w x z bk i k out W) (c : Nat) (hc1 : 1 ≤ c) (hc2 : c ≤ 200) (hle : i + c ≤ x.length) (hout : out.length ≤ 1000) :
    Calls Try.prog 27 #[.pointer (some ⟨bk, 0, none⟩), .agg #[.int .i64 1, .int .i64 (c : Int)]] W (fun e w' => e = .returned (.int .i64 0) ∧ PS w x z bk (i + c) k (out ++ (x.drop i).take c) w') := by
  obtain ⟨i0, hi, hz0, hz1, hz2⟩ := info_parts infoStr
  have HI := Lib.hid (And.intro hi (And.intro hz0 (And.intro hz1 hz2)))
  clear hi hz0 hz1 hz2
  obtain ⟨so, sn, vo, hpb, ⟨sa, na, ca, rfl, hat, hnl, hcap⟩, hz⟩ := h.is
  have hcn : c ≤ na := by omega
  obtain ⟨x0, hx0⟩ : ∃ x0, (x.drop i)[0]? = some x0 := ⟨_, List.getElem?_eq_getElem (by rw [List.length_drop]; omega)⟩
  obtain ⟨g, off, rfl, hg, _⟩ := StAt.get hat hx0
  have hML : ((x.drop i).take c).length = c := by rw [List.length_take, List.length_drop]; omega
  obtain ⟨M, hM⟩ : ∃ M, (x.drop i).take c = M := ⟨_, rfl⟩
  have HAT : Hid (StAt w (some ⟨g, off, none⟩) M) := Lib.hid (by rw [← hM]; exact SlAt.take hat c)
  rw [hM] at hML ⊢
  have HML := Lib.hid hML
  have OFF := Lib.hid (Lf.off hat hnl hcap hcn)
  have HZ := Lib.hid hz
  have HP := Lib.hid (fun n => hpb.next (bdrewN (balloc (Below.refl _ _) (.cells #[.int .i64 1, .int .i64 (c : Int)] 28)) n))
  have HB := Lib.hid (fun n => (B2.new W (.int .i64 1) (.int .i64 (c : Int)) 28).next (bdrewN (Below.refl _ _) n))
  have hvw : vo.ownBlock ≠ some W.heap.size := fun e => by have := (hpb.own.lt _ e).2; omega
  have HVW := Lib.hid hvw
  have hlt := hpb.box.lt
  have c0 := hpb.box.c0
  have q1 : ¬ (c : Int) < 1 := by omega
  have q2 : ¬ (c : Int) > 200 := by omega
  have q3 : ¬ (c : Int) > (na : Int) := by omega
  have q4 : (c : Int) ≤ (na : Int) := by omega
  have q5 : (na : Int) ≤ (ca : Int) := by omega
  have q6 : (0 : Int) ≤ (c : Int) := by omega
  have q7 : (c : Int) ≤ (ca : Int) := by omega
  have hbw : bk ≠ W.heap.size := by omega
  have hbw2 : W.heap.size ≠ bk := by omega
  clear h hpb hat hx0 hz hM hML hvw
  by_cases hcc : ca = c
  · subst hcc
    have hna : na = ca := by omega
    subst hna
    rw [if_pos rfl, Nat.sub_self] at OFF
    go_enter Try.func27, Try.ntmps27
    go_wp2_with fail
    go_quiet (fail)
    have HP2 := Lib.hid (HP.out nq)
    have HB2 := Lib.hid (HB.out nq)
    generalize ((W.alloc (.cells #[.int .i64 1, .int .i64 (na : Int)] 28)).drewN nq) = w4 at *
    have d0 := HP2.out.box.c0
    have d1 := HP2.out.box.f2
    have d2 := HB2.out.c0
    have d3 := HB2.out.c1
    have d4 := HP2.out.box.lt
    have d5 := HP2.out.box.c2
    have HP3 := Lib.hid (HP2.out.next (Below.drew (Below.refl _ _)))
    have HB3 := Lib.hid (HB2.out.next (Below.drew (Below.refl _ _)))
    have AFT := Lib.hid (fun W5 (hg : w4.drew.grownBy W5 vo.ownBlock) => And.intro (B3.kept HP3.out.box hg (own_above HP3.out.own (k := bk) (by omega))) (kept_at hg HB3.out.c1 HVW.out))
    have APP := Lib.hid (fun v' W5 (hg : w4.drew.grownBy W5 vo.ownBlock) (hr : W5.ownsRow (bk + 1) 9 1 v' (out.length + na) (flatC sc out ++ flatC sc M)) => HP3.out.app (M := M) hg (by rw [HML.out]; exact hr))
    have HROW := Lib.hid HP3.out.own
    have HSZ := Lib.hid (show bk + 1 ≤ w4.drew.heap.size from HP3.out.box.lt)
    have HNEW := Lib.hid (SlAt.cells_at sc_len (by omega) (HAT.out.next HP3.out.bel))
    have HNL := Lib.hid (flatC_length sc_len M)
    rw [HML.out] at HNL
    have FIN : Hid (∀ v5 W6, PB w bk (.slice (some ⟨g, off, none⟩) na na) sn (out ++ M) v5 W6 → ∀ v, Lf w x (i + na) v → PS w x z bk (i + na) k (out ++ M) ((W6.setCell ⟨bk, 0, none⟩ v).drew)) := Lib.hid (fun v5 W6 h6 v hv => ⟨v, sn, v5, (h6.put0 v).next (Below.drew (Below.refl _ _)), hv, HZ.out⟩)
    clear HP HB c0 HP2 HB2 HP3 HB3
    go_wp2_with fail
    go_region_law (refine step_append_own (by rfl) _ _ _ (by rfl) (bk + 1) 9 i0 _ 1 16 Try.underlying22 HI.out.1 HI.out.2.1 HI.out.2.2.1 HI.out.2.2.2 rfl (by decide) vo out.length (flatC sc out) (by rfl) HROW.out ⟨g, off, none⟩ na na (flatC sc M) (by rfl) HNL.out HNEW.out (flatC_all (by intro s u hu; simp [sc] at hu; subst hu; rfl) M) (by unfold maxLen; omega) (by omega) HSZ.out ?_; intro v5 w5 hown5 hgrow5; obtain ⟨a5, k5, rfl⟩ := own_slice hown5; obtain ⟨⟨z1, z2, z3, z4, z5, z6, z7⟩, z8⟩ := AFT.out _ hgrow5)
    all_goals
      have HP6 := Lib.hid (APP.out _ _ hgrow5 hown5)
      have s1 := HP6.out.box.c0
      have s2 := HP6.out.box.f0
      have s3 := HP6.out.box.lt
      have s4 := (setO (j := bk) (o := 2) (.inl hbw2) (.slice a5 (out.length + na) k5)).trans z8
      clear hgrow5 hown5 z1 z2 z3 z4 z5 z6 z7 z8
      generalize (w5.setCell ⟨bk, 2, none⟩ (.slice a5 (out.length + na) k5)) = w6 at *
      go_wp2_with fail
      go_big_region
      go_wp2_with fail
      go_ret
      exact ⟨rfl, FIN.out _ _ HP6.out _ OFF.out⟩
  · have hcc2 : ¬ (ca : Int) = (c : Int) := by omega
    rw [if_neg hcc] at OFF
    go_enter Try.func27, Try.ntmps27
    go_wp2_with fail
    go_quiet (fail)
    have HP2 := Lib.hid (HP.out nq)
    have HB2 := Lib.hid (HB.out nq)
    generalize ((W.alloc (.cells #[.int .i64 1, .int .i64 (c : Int)] 28)).drewN nq) = w4 at *
    have d0 := HP2.out.box.c0
    have d1 := HP2.out.box.f2
    have d2 := HB2.out.c0
    have d3 := HB2.out.c1
    have d4 := HP2.out.box.lt
    have d5 := HP2.out.box.c2
    have HP3 := Lib.hid (HP2.out.next (Below.drew (Below.refl _ _)))
    have HB3 := Lib.hid (HB2.out.next (Below.drew (Below.refl _ _)))
    have AFT := Lib.hid (fun W5 (hg : w4.drew.grownBy W5 vo.ownBlock) => And.intro (B3.kept HP3.out.box hg (own_above HP3.out.own (k := bk) (by omega))) (kept_at hg HB3.out.c1 HVW.out))
    have APP := Lib.hid (fun v' W5 (hg : w4.drew.grownBy W5 vo.ownBlock) (hr : W5.ownsRow (bk + 1) 9 1 v' (out.length + c) (flatC sc out ++ flatC sc M)) => HP3.out.app (M := M) hg (by rw [HML.out]; exact hr))
    have HROW := Lib.hid HP3.out.own
    have HSZ := Lib.hid (show bk + 1 ≤ w4.drew.heap.size from HP3.out.box.lt)
    have HNEW := Lib.hid (SlAt.cells_at sc_len (by omega) (HAT.out.next HP3.out.bel))
    have HNL := Lib.hid (flatC_length sc_len M)
    rw [HML.out] at HNL
    have FIN : Hid (∀ v5 W6, PB w bk (.slice (some ⟨g, off, none⟩) na ca) sn (out ++ M) v5 W6 → ∀ v, Lf w x (i + c) v → PS w x z bk (i + c) k (out ++ M) ((W6.setCell ⟨bk, 0, none⟩ v).drew)) := Lib.hid (fun v5 W6 h6 v hv => ⟨v, sn, v5, (h6.put0 v).next (Below.drew (Below.refl _ _)), hv, HZ.out⟩)
    clear HP HB c0 HP2 HB2 HP3 HB3
    go_wp2_with fail
    go_region_law (refine step_append_own (by rfl) _ _ _ (by rfl) (bk + 1) 9 i0 _ 1 16 Try.underlying22 HI.out.1 HI.out.2.1 HI.out.2.2.1 HI.out.2.2.2 rfl (by decide) vo out.length (flatC sc out) (by rfl) HROW.out ⟨g, off, none⟩ c ca (flatC sc M) (by rfl) HNL.out HNEW.out (flatC_all (by intro s u hu; simp [sc] at hu; subst hu; rfl) M) (by unfold maxLen; omega) (by omega) HSZ.out ?_; intro v5 w5 hown5 hgrow5; obtain ⟨a5, k5, rfl⟩ := own_slice hown5; obtain ⟨⟨z1, z2, z3, z4, z5, z6, z7⟩, z8⟩ := AFT.out _ hgrow5)
    all_goals
      have HP6 := Lib.hid (APP.out _ _ hgrow5 hown5)
      have s1 := HP6.out.box.c0
      have s2 := HP6.out.box.f0
      have s3 := HP6.out.box.lt
      have s4 := (setO (j := bk) (o := 2) (.inl hbw2) (.slice a5 (out.length + c) k5)).trans z8
      clear hgrow5 hown5 z1 z2 z3 z4 z5 z6 z7 z8
      generalize (w5.setCell ⟨bk, 2, none⟩ (.slice a5 (out.length + c) k5)) = w6 at *
      go_wp2_with fail
      go_big_region
      go_wp2_with fail
      go_ret
      exact ⟨rfl, FIN.out _ _ HP6.out _ OFF.out⟩
end Go.Proofs.Ytcknmaimkodaeaa.DiffP
