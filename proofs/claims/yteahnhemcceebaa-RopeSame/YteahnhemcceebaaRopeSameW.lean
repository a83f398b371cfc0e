/-
  The law RopeSame.
-/
import Derived.Test.YteahnhemcceebaaOpenMakes
import Derived.Test.YteahnhemcceebaaRopeMeas
namespace Go.Proofs.Yteahnhemcceebaa.KeepC
open Go.RowKit Kit RopeM RopeC Txt Lift PosM PolyM

theorem measV (v : Value) (l : List OpM) (w : World) (h : OpsV w v l) (h80 : l.length ≤ 80) :
    Calls Try.prog 15 #[v] w fun e w' => ∃ pv hv', e = .returned (.tuple #[pv, hv', .int .i64 0]) ∧ Meas w' pv hv' (texts l []) ∧ Below w.heap.size w w' := by
  obtain ⟨a, cap, rfl, _, ha, _⟩ := h
  exact measured l a cap w ha h80
/-- texts and measures, as the end of the law reads them -/
structure SameE (w : World) (ts : Tx) (gt off : Nat) (gp gh : Nat) : Prop where
  txt : ∀ (i : Nat) t, ts[i]? = some t → gt < w.heap.size ∧ w.cell? ⟨gt, off + i, none⟩ = some (.string ⟨t.toArray⟩)
  pos : ∀ (i : Nat) t, ts[i]? = some t → gp < w.heap.size ∧ w.cell? ⟨gp, i * 3, none⟩ = some (.int .i64 (t.length : Int)) ∧ w.cell? ⟨gp, i * 3 + 1, none⟩ = some (.int .i64 (lns t : Int)) ∧ w.cell? ⟨gp, i * 3 + 2, none⟩ = some (.int .i64 (col t : Int))
  hash : ∀ (i : Nat) t, ts[i]? = some t → gh < w.heap.size ∧ w.cell? ⟨gh, i * 2, none⟩ = some (.int .i64 (hv t : Int)) ∧ w.cell? ⟨gh, i * 2 + 1, none⟩ = some (.int .i64 (hs t.length : Int))
theorem SameE.of {w : World} {ts : Tx} {tv pv hv' : Value} (h0 : 0 < ts.length) (ht : Row w tv (ts.map strV)) (hm : Meas w pv hv' ts) : ∃ gt off ct gp cp gh ch, tv = .slice (some ⟨gt, off, none⟩) ts.length ct ∧ pv = .slice (some ⟨gp, 0, none⟩) ts.length cp ∧ hv' = .slice (some ⟨gh, 0, none⟩) ts.length ch ∧ SameE w ts gt off gp gh := by
  obtain ⟨a, ct, rfl, hc⟩ := ht
  obtain ⟨gt, off, rfl, hgt, hcell⟩ := hc (by simp; omega)
  obtain ⟨⟨ap, cp, rfl, hp⟩, ⟨ah, ch, rfl, hh⟩⟩ := hm
  have t0 : ts[0]? = some ts[0] := by simp [h0]
  obtain ⟨gp, rfl, _⟩ := hp 0 _ t0
  obtain ⟨gh, rfl, _⟩ := hh 0 _ t0
  refine ⟨gt, off, ct, gp, cp, gh, ch, by simp, rfl, rfl, ⟨fun i t hi => ⟨hgt, ?_⟩, fun i t hi => ?_, fun i t hi => ?_⟩⟩
  · have hlt := (List.getElem?_eq_some_iff.1 hi).1
    rw [hcell i (by simpa using hlt)]; simp [hi, strV]
  · obtain ⟨g, e, x⟩ := hp i t hi
    simp only [Option.some.injEq, Addr.mk.injEq, and_true] at e
    subst e; exact x
  · obtain ⟨g, e, x⟩ := hh i t hi
    simp only [Option.some.injEq, Addr.mk.injEq, and_true] at e
    subst e; exact x

set_option maxRecDepth 100000 in
set_option maxHeartbeats 2000000 in
theorem ropeSame (al : Option Addr) (cap : Nat) (l : List MakeM) (x y : Int) (w : World) (hl : MksAt w al l) (hlen : l.length ≤ 9223372036854775807) (_hx : (Lit.int .i64 x).wf = true) (_hy : (Lit.int .i64 y).wf = true) :
    Calls Try.prog 9 #[.slice al l.length cap, .int .i64 x, .int .i64 y] w fun e w' => e = .returned (.bool true) ∧ Below w.heap.size w w' := by
  obtain ⟨i0, hi, hz0, hz1, hz2⟩ := info_parts infoOp
  have HI := Lib.hid (And.intro hi (And.intro hz0 (And.intro hz1 hz2)))
  clear hi hz0 hz1 hz2
  have MK := Lib.hid (makes l al cap w hl hlen)
  clear hl hlen
  generalize l.length = nl at *
  go_enter Try.func9, Try.ntmps9
  go_wp2_with fail
  refine MK.out.mono ?_
  rintro e w1 ⟨v, ops, rfl, h40, hops, hb1⟩
  have RO := Lib.hid (roped v ops w1 hops (by omega))
  have HB1 := Lib.hid hb1
  have HOPS := Lib.hid hops
  clear hb1 hops MK
  go_wp2_with fail
  refine RO.out.mono ?_
  rintro e w2 ⟨tv, rfl, ht, hb2⟩
  have HF := Lib.hid (Fine.nil.texts (l := ops))
  have MV : Hid (∀ v W, OpsV W v ops → Calls Try.prog 15 #[v] W fun e w' => ∃ pv hv', e = .returned (.tuple #[pv, hv', .int .i64 0]) ∧ Meas w' pv hv' (texts ops []) ∧ Below W.heap.size W w') := Lib.hid fun v W h => measV v ops W h (by omega)
  have HO2 := Lib.hid (HOPS.out.next hb2)
  have HB2 := Lib.hid (bstep HB1.out hb2)
  have HT2 := Lib.hid ht.1
  clear hb2 RO HB1 HOPS ht
  have HTN : Hid (ops = [] → (texts ops []).length = 0) := Lib.hid (by rintro rfl; rfl)
  generalize texts ops [] = ts at *
  obtain ⟨mo, hmo⟩ : ∃ mo, ops.length = mo := ⟨_, rfl⟩
  have HMO := Lib.hid hmo
  have hlo := hmo
  obtain ⟨ao, co, rfl, hco, hat, hshape⟩ := HO2.out
  rw [hmo] at h40 ⊢
  have HC : Hid (∀ g off, ao = some ⟨g, off, none⟩ → ∀ j u, (opCells ops)[j]? = some u → w2.cell? ((⟨g, off, none⟩ : Addr).add j) = some u) := Lib.hid (by rintro g off rfl; exact ops_cells hat)
  have HCL : Hid ((opCells ops).length = mo * 6) := Lib.hid (by rw [opCells_length, hmo])
  have HSH := Lib.hid hshape
  clear hat hshape hmo hlo
  rcases HSH.out with ⟨rfl, rfl, hnil⟩ | ⟨go, offo, rfl⟩
  · have hm0 : mo = 0 := by rw [← HMO.out, hnil]; rfl
    subst hm0
    have V3 : Hid (OpsV w2 (.slice none 0 0) ops) := Lib.hid (by rw [hnil]; exact ⟨none, 0, rfl, by simp, ⟨fun i o hi => by simp at hi⟩, .inl ⟨rfl, rfl, rfl⟩⟩)
    have hn0 : ts.length = 0 := HTN.out hnil
    clear hnil HC HCL
    go_wp2_with (at_builtin; refine wpList_append_own_none rfl _ _ 22 rfl w2.heap.size 50 i0 6 Try.underlying22 HI.out.1 _ 0 [] rfl (World.ownsRow_nil _ _ _ _) rfl ?_)
    refine (MV.out _ _ V3.out).mono ?_
    rintro e w4 ⟨pv, hv', rfl, hm, hb⟩
    have B4 := Lib.hid (bstep HB2.out hb)
    obtain ⟨a', ct, rfl, _⟩ := HT2.out.next hb
    obtain ⟨⟨ap, cp, rfl, _⟩, ⟨ah, ch, rfl, _⟩⟩ := hm
    simp only [List.length_map]
    rw [hn0]
    clear hb MV V3 HT2
    go_wp2_with fail
    go_ret
    exact ⟨rfl, B4.out⟩
  · go_wp2_with (at_builtin; refine wpList_append_own _ rfl _ _ 22 rfl w2.heap.size 50 i0 _ 6 56 Try.underlying22 HI.out.1 HI.out.2.1 HI.out.2.2.1 HI.out.2.2.2 rfl (by decide) _ 0 [] rfl (World.ownsRow_nil _ _ _ _) ⟨go, offo, none⟩ mo co (opCells ops) rfl HCL.out (HC.out _ _ rfl) (opCells_one ops) (by unfold maxLen; omega) (by omega) (by simp) ?_; intro v3 w3 hown3 hgrow3 _)
    have V3 : Hid (OpsV w3 v3 ops) := Lib.hid (OpsV.of_owns (base := w2.heap.size) (by rw [HMO.out]; simpa using hown3))
    have B3 : Hid (Below w2.heap.size w2 w3) := Lib.hid (grows_below hgrow3)
    clear hown3 hgrow3
    go_wp2_with fail
    refine (MV.out _ _ V3.out).mono ?_
    rintro e w4 ⟨pv, hv', rfl, hm, hb⟩
    have B4 := Lib.hid (bstep HB2.out (bstep B3.out hb))
    have HM := Lib.hid hm
    have HT4 := Lib.hid (HT2.out.next (bstep B3.out hb))
    clear hm hb V3 B3 MV HT2 HC HCL
    by_cases hn0 : ts.length = 0
    · obtain ⟨a', ct, rfl, _⟩ := HT4.out
      obtain ⟨⟨ap, cp, rfl, _⟩, ⟨ah, ch, rfl, _⟩⟩ := HM.out
      simp only [List.length_map]
      rw [hn0]
      go_wp2_with fail
      go_ret
      exact ⟨rfl, B4.out⟩
    · obtain ⟨gt, off, ct, gp, cp, gh, ch, rfl, rfl, rfl, hE⟩ := SameE.of (by omega) HT4.out HM.out
      have HE := Lib.hid hE
      clear hE HM HT4
      have hn60 : ts.length ≤ 60 := HF.out.1
      obtain ⟨n, hn⟩ : ∃ n, ts.length = n := ⟨_, rfl⟩
      have HN := Lib.hid hn
      rw [hn] at hn0 hn60 ⊢
      clear hn
      have PK := Lib.hid (picked x (n : Int) w4 (by omega) (by omega))
      obtain ⟨ia, hia⟩ := Int.eq_ofNat_of_zero_le (Int.emod_nonneg x (show ((n : Int)) ≠ 0 by omega))
      have la := Int.emod_lt_of_pos x (show (0 : Int) < (n : Int) by omega)
      rw [hia] at PK la
      have PK2 := Lib.hid (picked y (n : Int) w4 (by omega) (by omega))
      obtain ⟨ib, hib⟩ := Int.eq_ofNat_of_zero_le (Int.emod_nonneg y (show ((n : Int)) ≠ 0 by omega))
      have lb := Int.emod_lt_of_pos y (show (0 : Int) < (n : Int) by omega)
      rw [hib] at PK2 lb
      obtain ⟨ta, hta⟩ : ∃ t, ts[ia]? = some t := ⟨ts[ia]'(by rw [HN.out]; omega), by simp [HN.out, show ia < n by omega]⟩
      obtain ⟨tb, htb⟩ : ∃ t, ts[ib]? = some t := ⟨ts[ib]'(by rw [HN.out]; omega), by simp [HN.out, show ib < n by omega]⟩
      obtain ⟨hgt, ca⟩ := HE.out.txt ia ta hta
      obtain ⟨-, cb⟩ := HE.out.txt ib tb htb
      obtain ⟨hgp, pa0, pa1, pa2⟩ := HE.out.pos ia ta hta
      obtain ⟨-, pb0, pb1, pb2⟩ := HE.out.pos ib tb htb
      obtain ⟨hgh, ha0, ha1⟩ := HE.out.hash ia ta hta
      obtain ⟨-, hb0, hb1⟩ := HE.out.hash ib tb htb
      have hla := HF.out.2 ta (List.mem_of_getElem? hta)
      have hlb := HF.out.2 tb (List.mem_of_getElem? htb)
      have hsa : (⟨ta.toArray⟩ : ByteArray).size = ta.length := by simp [ByteArray.size]
      have hsb : (⟨tb.toArray⟩ : ByteArray).size = tb.length := by simp [ByteArray.size]
      clear hia hib hta htb HE HF
      by_cases heq : ta = tb
      · subst heq
        generalize (⟨ta.toArray⟩ : ByteArray) = sa at *
        clear hsa hsb hla hlb
        generalize (ta.length : Int) = q0 at *
        generalize (lns ta : Int) = q1 at *
        generalize (col ta : Int) = q2 at *
        generalize (hv ta : Int) = q3 at *
        generalize (hs ta.length : Int) = q4 at *
        go_wp2_with fail
        refine PK.out.mono ?_
        rintro e w5 ⟨rfl, rfl⟩
        go_wp2_with fail
        refine PK2.out.mono ?_
        rintro e w5 ⟨rfl, rfl⟩
        clear PK PK2
        go_upto_region 10 with fail
        go_quiet (fail)
        go_upto_region 11 with fail
        go_quiet (fail)
        go_wp2_with fail
        go_ret
        exact ⟨by simp, bdrewN (bdrewN B4.out _) _⟩
      · have hne : (⟨ta.toArray⟩ : ByteArray) ≠ (⟨tb.toArray⟩ : ByteArray) := by
          intro h
          apply heq
          have := congrArg (fun b : ByteArray => b.data.toList) h
          simpa using this
        have hne2 : ((⟨ta.toArray⟩ : ByteArray).toList == (⟨tb.toArray⟩ : ByteArray).toList) = false := by
          rw [beq_eq_false_iff_ne, Lib.toList_data, Lib.toList_data]; simpa using heq
        have OF : Hid (∀ W : World, Calls Try.prog 24 #[.string ⟨ta.toArray⟩] W fun e w' => e = .returned (.agg #[.int .i64 (ta.length : Int), .int .i64 (lns ta : Int), .int .i64 (col ta : Int)]) ∧ Below W.heap.size W w') := Lib.hid fun W => by
          have := posOf ⟨ta.toArray⟩ W (by omega)
          simpa [posL] using this
        have hs0 : Hid (∀ W, Below w4.heap.size w4 W → Below w4.heap.size w4 W ∧ (W.cell? ⟨gt, off + ia, none⟩ = some (.string ⟨ta.toArray⟩) ∧ W.cell? ⟨gt, off + ib, none⟩ = some (.string ⟨tb.toArray⟩)) ∧ (W.cell? ⟨gp, ia * 3, none⟩ = some (.int .i64 (ta.length : Int)) ∧ W.cell? ⟨gp, ia * 3 + 1, none⟩ = some (.int .i64 (lns ta : Int)) ∧ W.cell? ⟨gp, ia * 3 + 2, none⟩ = some (.int .i64 (col ta : Int))) ∧ W.cell? ⟨gp, ib * 3, none⟩ = some (.int .i64 (tb.length : Int))) := Lib.hid fun W hW => ⟨hW, ⟨keep hW hgt ca, keep hW hgt cb⟩, ⟨keep hW hgp pa0, keep hW hgp pa1, keep hW hgp pa2⟩, keep hW hgp pb0⟩
        clear heq hla hlb pa1 pa2 pb1 pb2 ha0 ha1 hb0 hb1 hgh
        generalize (⟨ta.toArray⟩ : ByteArray) = sa at *
        generalize (⟨tb.toArray⟩ : ByteArray) = sb at *
        generalize ta.length = la' at *
        generalize tb.length = lb' at *
        generalize (lns ta : Int) = q1 at *
        generalize (col ta : Int) = q2 at *
        go_wp2_with fail
        refine PK.out.mono ?_
        rintro e w5 ⟨rfl, rfl⟩
        go_wp2_with fail
        refine PK2.out.mono ?_
        rintro e w5 ⟨rfl, rfl⟩
        clear PK PK2
        go_upto_region 10 with fail
        go_quiet (fail)
        go_upto_region 12 with fail
        clear ca cb pa0 pb0
        go_region_held3 (fun W => Below w4.heap.size w4 W ∧ (W.cell? ⟨gt, off + ia, none⟩ = some (.string sa) ∧ W.cell? ⟨gt, off + ib, none⟩ = some (.string sb)) ∧ (W.cell? ⟨gp, ia * 3, none⟩ = some (.int .i64 (la' : Int)) ∧ W.cell? ⟨gp, ia * 3 + 1, none⟩ = some (.int .i64 q1) ∧ W.cell? ⟨gp, ia * 3 + 2, none⟩ = some (.int .i64 q2)) ∧ W.cell? ⟨gp, ib * 3, none⟩ = some (.int .i64 (lb' : Int)))
          (first | exact hs0.out _ ((bdrewN (Below.refl _ _) _).drew) | exact hs0.out _ (by assumption))
          ((go_at_call 24; refine (OF.out _).mono ?_; rintro e w6 ⟨rfl, hb⟩; have hb6 : Below w4.heap.size w4 w6 := bstep ((bdrewN (Below.refl _ _) _).drew) hb))
        have B6 := Lib.hid (bstep B4.out hb6)
        clear hb6 hb
        go_wp2_with fail
        go_ret
        exact ⟨by simp, B6.out⟩

end Go.Proofs.Yteahnhemcceebaa.KeepC
