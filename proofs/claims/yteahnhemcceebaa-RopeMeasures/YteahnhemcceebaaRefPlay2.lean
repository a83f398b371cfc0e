/-
  The document's answer for Play, its loop.
-/
import Derived.Test.YteahnhemcceebaaRefPlayed
namespace Go.Proofs.Yteahnhemcceebaa.RefC
open Go.RowKit Kit RopeM RopeC

theorem by_false {b : Bool} (h : ¬ b = true) : b = false := by simpa using h
theorem cat_str (a b : List UInt8) : (⟨a.toArray⟩ : ByteArray) ++ (⟨b.toArray⟩ : ByteArray) = ⟨(a ++ b).toArray⟩ := by apply ByteArray.ext; simp
theorem take_str (a : List UInt8) (k : Nat) : (⟨a.toArray⟩ : ByteArray).extract 0 k = ⟨(a.take k).toArray⟩ := by
  apply ByteArray.ext; apply Array.toList_inj.1; rw [Lib.extract_data]; simp
theorem drop_str (a : List UInt8) (k : Nat) : (⟨a.toArray⟩ : ByteArray).extract k a.length = ⟨(a.drop k).toArray⟩ := by
  apply ByteArray.ext; apply Array.toList_inj.1; rw [Lib.extract_data]; simp [List.take_of_length_le]

set_option maxRecDepth 100000 in
set_option maxHeartbeats 4000000 in
theorem played (l : List OpM) (al : Option Addr) (cap : Nat) (w : World) (hl : OpsAt w al l) (h80 : l.length ≤ 80) :
    Calls Try.prog 12 #[.slice al l.length cap] w fun e w' => ∃ tv cv, e = .returned (.tuple #[tv, cv, .int .i64 0]) ∧ Row w' tv ((texts l []).map strV) ∧ Row w' cv (ints (codes l [])) ∧ Below w.heap.size w w' := by
  obtain ⟨i0, hi, hz0, hz1, hz2⟩ := info_parts infoStr
  have HI := Lib.hid (And.intro hi (And.intro hz0 (And.intro hz1 hz2)))
  clear hi hz0 hz1 hz2
  obtain ⟨i1, hi, hz0, hz1, hz2⟩ := info_parts infoErr
  have HJ := Lib.hid (And.intro hi (And.intro hz0 (And.intro hz1 hz2)))
  clear hi hz0 hz1 hz2
  have hgt : decide ((80 : Int) < (l.length : Int)) = false := by simp; omega
  have HL := Lib.hid hl
  clear hl
  obtain ⟨n, hn⟩ : ∃ n, l.length = n := ⟨_, rfl⟩
  rw [hn] at h80 hgt ⊢
  go_enter Try.func12, Try.ntmps12
  go_wp2_with fail
  go_loopw [6, 19] (fun cv m wr => ∃ (i : Nat) (tv : Value), i ≤ n ∧ m = .int .i64 (i : Int) ∧ RA w l i tv cv wr) (fun _ m _ => n - (intOf m).toNat)
  case atStart => exact ⟨0, .slice none 0 0, by omega, rfl, Boxed.new _ _ _, World.ownsRow_nil _ _ _ _, World.ownsRow_nil _ _ _ _, balloc (Below.refl _ _) _⟩
  case round =>
    obtain ⟨i, tv, hin, rfl, hra⟩ := hrel
    by_cases hlt : i < n
    · obtain ⟨o, ho⟩ : ∃ o, l[i]? = some o := ⟨l[i]'(by omega), by simp [hn, hlt]⟩
      obtain ⟨g, off, rfl, hx, c0, c1, c2, c3, c4, c5⟩ := (HL.out.next hra.bel).cell i o ho
      have hfine : Fine (texts (l.take i) []) := Fine.nil.texts
      have HO := Lib.hid ho
      obtain ⟨p, cap', rfl, htx⟩ := hra.opened
      have hbox := hra.box.cell
      have hblt := hra.box.lt
      have hbne := Nat.ne_of_lt hblt
      obtain ⟨k, s, a, b, at_, cnt⟩ := o
      simp only at c0 c1 c2 c3 c4 c5
      obtain ⟨ts, hts⟩ : ∃ ts, texts (l.take i) [] = ts := ⟨_, rfl⟩
      rw [hts] at hfine htx hbox
      have hra : RA w l i (.slice p ts.length cap') u6 wr := by rw [← hts]; exact hra
      have HTX := Lib.hid (htx.next (balloc (Below.refl _ _) (.cells #[.int .i64 k, .string s, .int .i64 a, .int .i64 b, .int .i64 at_, .int .i64 cnt] 50)))
      have HRA := Lib.hid (hra.next (balloc (Below.refl _ _) (.cells #[.int .i64 k, .string s, .int .i64 a, .int .i64 b, .int .i64 at_, .int .i64 cnt] 50)))
      have HTS := Lib.hid hts
      have hcb : (wr.alloc (.cells #[.int .i64 k, .string s, .int .i64 a, .int .i64 b, .int .i64 at_, .int .i64 cnt] 50)).cell? ⟨w.heap.size, 0, none⟩ = some (.slice p ts.length cap') := keep (balloc (Below.refl _ _) _) hblt hbox
      have y0 : (wr.alloc (.cells #[.int .i64 k, .string s, .int .i64 a, .int .i64 b, .int .i64 at_, .int .i64 cnt] 50)).cell? ⟨wr.heap.size, 0, none⟩ = some (.int .i64 k) := by simp
      have y1 : (wr.alloc (.cells #[.int .i64 k, .string s, .int .i64 a, .int .i64 b, .int .i64 at_, .int .i64 cnt] 50)).cell? ⟨wr.heap.size, 1, none⟩ = some (.string s) := by simp
      have y2 : (wr.alloc (.cells #[.int .i64 k, .string s, .int .i64 a, .int .i64 b, .int .i64 at_, .int .i64 cnt] 50)).cell? ⟨wr.heap.size, 2, none⟩ = some (.int .i64 a) := by simp
      have y3 : (wr.alloc (.cells #[.int .i64 k, .string s, .int .i64 a, .int .i64 b, .int .i64 at_, .int .i64 cnt] 50)).cell? ⟨wr.heap.size, 3, none⟩ = some (.int .i64 b) := by simp
      have y4 : (wr.alloc (.cells #[.int .i64 k, .string s, .int .i64 a, .int .i64 b, .int .i64 at_, .int .i64 cnt] 50)).cell? ⟨wr.heap.size, 4, none⟩ = some (.int .i64 at_) := by simp
      have y5 : (wr.alloc (.cells #[.int .i64 k, .string s, .int .i64 a, .int .i64 b, .int .i64 at_, .int .i64 cnt] 50)).cell? ⟨wr.heap.size, 5, none⟩ = some (.int .i64 cnt) := by simp
      clear hra htx ho hbox hts
      go_upto_block 2 with fail
      clear c0 c1 c2 c3 c4 c5 hx
      generalize wr.alloc (.cells #[.int .i64 k, .string s, .int .i64 a, .int .i64 b, .int .i64 at_, .int .i64 cnt] 50) = W0 at *
      have EA := Lib.hid (has1 a w.heap.size p ts.length cap' W0 hcb)
      have EB := Lib.hid (has1 b w.heap.size p ts.length cap' W0 hcb)
      go_cut [10, 11] (fun e out wx => e = .int .i64 (code0 ⟨k, s, a, b, at_, cnt⟩ ts) ∧ out = .string ⟨(out0 ⟨k, s, a, b, at_, cnt⟩ ts).toArray⟩ ∧ Below W0.heap.size W0 wx)
      case first =>
        by_cases h1 : k < 1
        · have HC0 := Lib.hid (show code0 ⟨k, s, a, b, at_, cnt⟩ ts = 3 by unfold code0; rw [if_pos (.inl h1)])
          have HO0 := Lib.hid (show out0 ⟨k, s, a, b, at_, cnt⟩ ts = [] from out0_no (by rw [HC0.out]; decide))
          clear EA EB
          go_wp2_with fail
          go_meet
          exact ⟨by rw [HC0.out], by rw [HO0.out], Below.refl _ _⟩
        · by_cases h5 : 5 < k
          · have HC0 := Lib.hid (show code0 ⟨k, s, a, b, at_, cnt⟩ ts = 3 by unfold code0; rw [if_pos (.inr h5)])
            have HO0 := Lib.hid (show out0 ⟨k, s, a, b, at_, cnt⟩ ts = [] from out0_no (by rw [HC0.out]; decide))
            clear EA EB
            go_wp2_with fail
            go_meet
            exact ⟨by rw [HC0.out], by rw [HO0.out], Below.refl _ _⟩
          · by_cases hk1 : k = 1
            · as_aux_lemma =>
                subst hk1
                by_cases h60 : 60 ≤ ts.length
                · have HC0 := Lib.hid (show code0 ⟨1, s, a, b, at_, cnt⟩ ts = 8 by unfold code0; rw [if_neg (by simp), if_neg (by simp), if_neg (by simp), if_neg (by simp [inR]), if_pos h60])
                  have HO0 := Lib.hid (show out0 ⟨1, s, a, b, at_, cnt⟩ ts = [] from out0_no (by rw [HC0.out]; decide))
                  clear EA EB
                  go_upto_region 21 with fail
                  go_quiet (fail)
                  go_wp2_with fail
                  go_meet
                  exact ⟨by rw [HC0.out], by rw [HO0.out], bdrewN (Below.refl _ _) _⟩
                · have HC0 := Lib.hid (show code0 ⟨1, s, a, b, at_, cnt⟩ ts = 0 by unfold code0; rw [if_neg (by simp), if_neg (by simp), if_neg (by simp), if_neg (by simp [inR]), if_neg h60])
                  have HO0 := Lib.hid (show out0 ⟨1, s, a, b, at_, cnt⟩ ts = s.data.toList by rw [out0_of HC0.out]; simp [newT])
                  clear EA EB
                  have h60 := Nat.lt_of_not_le h60
                  go_upto_region 21 with fail
                  go_quiet (fail)
                  go_wp2_with fail
                  go_meet
                  exact ⟨by rw [HC0.out], by rw [HO0.out], bdrewN (Below.refl _ _) _⟩
            · by_cases hA : has a ts.length = true
              · by_cases hk2 : k = 2
                · as_aux_lemma =>
                    subst hk2
                    by_cases hB : has b ts.length = true
                    · by_cases h60 : 60 ≤ ts.length
                      · have HC0 := Lib.hid (show code0 ⟨2, s, a, b, at_, cnt⟩ ts = 8 by unfold code0; rw [if_neg (by simp), if_neg (by simp [hA]), if_neg (by simp [hB]), if_neg (by simp [inR]), if_pos h60])
                        have HO0 := Lib.hid (show out0 ⟨2, s, a, b, at_, cnt⟩ ts = [] from out0_no (by rw [HC0.out]; decide))
                        rw [hA] at EA
                        rw [hB] at EB
                        go_wp2_with fail
                        refine EA.out.mono ?_
                        rintro e wzA ⟨rfl, rfl⟩
                        clear EA
                        go_wp2_with fail
                        refine EB.out.mono ?_
                        rintro e wzB ⟨rfl, rfl⟩
                        clear EB
                        go_upto_region 21 with fail
                        go_quiet (fail)
                        go_wp2_with fail
                        go_meet
                        exact ⟨by rw [HC0.out], by rw [HO0.out], bdrewN (Below.refl _ _) _⟩
                      · obtain ⟨ia, ta, rfl, hia, hta, hna⟩ := has_text hA
                        obtain ⟨gt, rfl, hgt1, hca⟩ := HTX.out ia ta hta
                        have hla : (⟨ta.toArray⟩ : ByteArray).size = ta.length := by simp [ByteArray.size]
                        have hlm : ta.length ≤ 600 := hfine.2 ta (List.mem_of_getElem? hta)
                        obtain ⟨ib, tb, rfl, hib, htb, hnb⟩ := has_text hB
                        obtain ⟨gt2, hg2, _, hcb2⟩ := HTX.out ib tb htb
                        cases hg2
                        have hlb : (⟨tb.toArray⟩ : ByteArray).size = tb.length := by simp [ByteArray.size]
                        have hlmb : tb.length ≤ 600 := hfine.2 tb (List.mem_of_getElem? htb)
                        have HC0 := Lib.hid (show code0 ⟨2, s, (ia : Int), (ib : Int), at_, cnt⟩ ts = 0 by unfold code0; rw [if_neg (by simp), if_neg (by simp [hA]), if_neg (by simp [hB]), if_neg (by simp [inR]), if_neg h60])
                        have HO0 := Lib.hid (show out0 ⟨2, s, (ia : Int), (ib : Int), at_, cnt⟩ ts = ta ++ tb by rw [out0_of HC0.out]; unfold newT; rw [if_pos rfl]; simp only [hna, hnb])
                        rw [hA] at EA
                        rw [hB] at EB
                        go_wp2_with fail
                        refine EA.out.mono ?_
                        rintro e wzA ⟨rfl, rfl⟩
                        clear EA
                        go_wp2_with fail
                        refine EB.out.mono ?_
                        rintro e wzB ⟨rfl, rfl⟩
                        clear EB
                        have h60 := Nat.lt_of_not_le h60
                        generalize hsa : (⟨ta.toArray⟩ : ByteArray) = sa at *
                        generalize hsb : (⟨tb.toArray⟩ : ByteArray) = sb at *
                        have hnl : ¬ 9223372036854775807 < sa.size + sb.size := by omega
                        go_upto_region 21 with fail
                        go_quiet (fail)
                        go_upto_region 30 with fail
                        go_quiet (fail)
                        go_wp2_with fail
                        go_meet
                        exact ⟨by rw [HC0.out], by rw [HO0.out]; rw [← hsa, ← hsb, cat_str], bdrewN (bdrewN (Below.refl _ _) _) _⟩
                    · have hB := by_false hB
                      have HC0 := Lib.hid (show code0 ⟨2, s, a, b, at_, cnt⟩ ts = 7 by unfold code0; rw [if_neg (by simp), if_neg (by simp [hA]), if_pos ⟨rfl, hB⟩])
                      have HO0 := Lib.hid (show out0 ⟨2, s, a, b, at_, cnt⟩ ts = [] from out0_no (by rw [HC0.out]; decide))
                      rw [hA] at EA
                      rw [hB] at EB
                      go_wp2_with fail
                      refine EA.out.mono ?_
                      rintro e wzA ⟨rfl, rfl⟩
                      clear EA
                      go_wp2_with fail
                      refine EB.out.mono ?_
                      rintro e wzB ⟨rfl, rfl⟩
                      clear EB
                      go_wp2_with fail
                      go_meet
                      exact ⟨by rw [HC0.out], by rw [HO0.out], Below.refl _ _⟩
                · by_cases hk3 : k = 3
                  · as_aux_lemma =>
                      subst hk3
                      by_cases h0 : 0 ≤ at_
                      · obtain ⟨q, rfl⟩ := Int.eq_ofNat_of_zero_le h0
                        by_cases hq0 : (q : Int) ≤ ((nth ts a).length : Int)
                        · obtain ⟨ia, ta, rfl, hia, hta, hna⟩ := has_text hA
                          rw [hna] at hq0
                          obtain ⟨gt, rfl, hgt1, hca⟩ := HTX.out ia ta hta
                          have hla : (⟨ta.toArray⟩ : ByteArray).size = ta.length := by simp [ByteArray.size]
                          have hlm : ta.length ≤ 600 := hfine.2 ta (List.mem_of_getElem? hta)
                          by_cases h60 : 60 ≤ ts.length
                          · have HC0 := Lib.hid (show code0 ⟨3, s, (ia : Int), b, (q : Int), cnt⟩ ts = 8 by unfold code0; rw [if_neg (by simp), if_neg (by simp [hA]), if_neg (by simp), if_neg (by simp [inR, hna]; omega), if_pos h60])
                            have HO0 := Lib.hid (show out0 ⟨3, s, (ia : Int), b, (q : Int), cnt⟩ ts = [] from out0_no (by rw [HC0.out]; decide))
                            rw [hA] at EA
                            clear EB
                            go_wp2_with fail
                            refine EA.out.mono ?_
                            rintro e wzA ⟨rfl, rfl⟩
                            clear EA
                            generalize hsa : (⟨ta.toArray⟩ : ByteArray) = sa at *
                            have hd : decide ((q : Int) < 0) = false := by rw [decide_eq_false_iff_not]; omega
                            have hd3 : decide ((sa.size : Int) < (q : Int)) = false := by rw [decide_eq_false_iff_not]; omega
                            go_upto_region 21 with fail
                            go_quiet (fail)
                            go_wp2_with fail
                            go_meet
                            exact ⟨by rw [HC0.out], by rw [HO0.out], bdrewN (Below.refl _ _) _⟩
                          · have HC0 := Lib.hid (show code0 ⟨3, s, (ia : Int), b, (q : Int), cnt⟩ ts = 0 by unfold code0; rw [if_neg (by simp), if_neg (by simp [hA]), if_neg (by simp), if_neg (by simp [inR, hna]; omega), if_neg h60])
                            have HO0 := Lib.hid (show out0 ⟨3, s, (ia : Int), b, (q : Int), cnt⟩ ts = ta.take q by rw [out0_of HC0.out]; unfold newT; simp [hna])
                            rw [hA] at EA
                            clear EB
                            go_wp2_with fail
                            refine EA.out.mono ?_
                            rintro e wzA ⟨rfl, rfl⟩
                            clear EA
                            generalize hsa : (⟨ta.toArray⟩ : ByteArray) = sa at *
                            have h60 := Nat.lt_of_not_le h60
                            have hd : decide ((q : Int) < 0) = false := by rw [decide_eq_false_iff_not]; omega
                            have hd3 : decide ((sa.size : Int) < (q : Int)) = false := by rw [decide_eq_false_iff_not]; omega
                            have hq : q ≤ sa.size := by omega
                            go_upto_region 21 with fail
                            go_quiet (fail)
                            go_upto_region 32 with fail
                            go_quiet (fail)
                            go_wp2_with fail
                            go_meet
                            exact ⟨by rw [HC0.out], by rw [HO0.out]; rw [← hsa, take_str], bdrewN (bdrewN (Below.refl _ _) _) _⟩
                        · obtain ⟨ia, ta, rfl, hia, hta, hna⟩ := has_text hA
                          rw [hna] at hq0
                          obtain ⟨gt, rfl, hgt1, hca⟩ := HTX.out ia ta hta
                          have hla : (⟨ta.toArray⟩ : ByteArray).size = ta.length := by simp [ByteArray.size]
                          have HC0 := Lib.hid (show code0 ⟨3, s, (ia : Int), b, (q : Int), cnt⟩ ts = 2 by unfold code0; rw [if_neg (by simp), if_neg (by simp [hA]), if_neg (by simp), if_pos (by simp [inR, hna]; omega)])
                          have HO0 := Lib.hid (show out0 ⟨3, s, (ia : Int), b, (q : Int), cnt⟩ ts = [] from out0_no (by rw [HC0.out]; decide))
                          rw [hA] at EA
                          clear EB
                          go_wp2_with fail
                          refine EA.out.mono ?_
                          rintro e wzA ⟨rfl, rfl⟩
                          clear EA
                          generalize hsa : (⟨ta.toArray⟩ : ByteArray) = sa at *
                          have hd : decide ((q : Int) < 0) = false := by rw [decide_eq_false_iff_not]; omega
                          have hd2 : sa.size < q := by omega
                          have hd3 : decide ((sa.size : Int) < (q : Int)) = true := by simp; omega
                          go_upto_region 21 with fail
                          go_quiet (fail)
                          go_wp2_with fail
                          go_meet
                          exact ⟨by rw [HC0.out], by rw [HO0.out], bdrewN (Below.refl _ _) _⟩
                      · have HC0 := Lib.hid (show code0 ⟨3, s, a, b, at_, cnt⟩ ts = 2 by unfold code0; rw [if_neg (by simp), if_neg (by simp [hA]), if_neg (by simp), if_pos (by simp [inR]; omega)])
                        have HO0 := Lib.hid (show out0 ⟨3, s, a, b, at_, cnt⟩ ts = [] from out0_no (by rw [HC0.out]; decide))
                        rw [hA] at EA
                        clear EB
                        go_wp2_with fail
                        refine EA.out.mono ?_
                        rintro e wzA ⟨rfl, rfl⟩
                        clear EA
                        have hd : decide (at_ < 0) = true := by simp; omega
                        go_upto_region 21 with fail
                        go_quiet (fail)
                        go_wp2_with fail
                        go_meet
                        exact ⟨by rw [HC0.out], by rw [HO0.out], bdrewN (Below.refl _ _) _⟩
                  · by_cases hk4 : k = 4
                    · as_aux_lemma =>
                        subst hk4
                        by_cases h0 : 0 ≤ at_
                        · obtain ⟨q, rfl⟩ := Int.eq_ofNat_of_zero_le h0
                          by_cases hq0 : (q : Int) ≤ ((nth ts a).length : Int)
                          · obtain ⟨ia, ta, rfl, hia, hta, hna⟩ := has_text hA
                            rw [hna] at hq0
                            obtain ⟨gt, rfl, hgt1, hca⟩ := HTX.out ia ta hta
                            have hla : (⟨ta.toArray⟩ : ByteArray).size = ta.length := by simp [ByteArray.size]
                            have hlm : ta.length ≤ 600 := hfine.2 ta (List.mem_of_getElem? hta)
                            by_cases h60 : 60 ≤ ts.length
                            · have HC0 := Lib.hid (show code0 ⟨4, s, (ia : Int), b, (q : Int), cnt⟩ ts = 8 by unfold code0; rw [if_neg (by simp), if_neg (by simp [hA]), if_neg (by simp), if_neg (by simp [inR, hna]; omega), if_pos h60])
                              have HO0 := Lib.hid (show out0 ⟨4, s, (ia : Int), b, (q : Int), cnt⟩ ts = [] from out0_no (by rw [HC0.out]; decide))
                              rw [hA] at EA
                              clear EB
                              go_wp2_with fail
                              refine EA.out.mono ?_
                              rintro e wzA ⟨rfl, rfl⟩
                              clear EA
                              generalize hsa : (⟨ta.toArray⟩ : ByteArray) = sa at *
                              have hd : decide ((q : Int) < 0) = false := by rw [decide_eq_false_iff_not]; omega
                              have hd3 : decide ((sa.size : Int) < (q : Int)) = false := by rw [decide_eq_false_iff_not]; omega
                              go_upto_region 21 with fail
                              go_quiet (fail)
                              go_wp2_with fail
                              go_meet
                              exact ⟨by rw [HC0.out], by rw [HO0.out], bdrewN (Below.refl _ _) _⟩
                            · have HC0 := Lib.hid (show code0 ⟨4, s, (ia : Int), b, (q : Int), cnt⟩ ts = 0 by unfold code0; rw [if_neg (by simp), if_neg (by simp [hA]), if_neg (by simp), if_neg (by simp [inR, hna]; omega), if_neg h60])
                              have HO0 := Lib.hid (show out0 ⟨4, s, (ia : Int), b, (q : Int), cnt⟩ ts = ta.drop q by rw [out0_of HC0.out]; unfold newT; simp [hna])
                              rw [hA] at EA
                              clear EB
                              go_wp2_with fail
                              refine EA.out.mono ?_
                              rintro e wzA ⟨rfl, rfl⟩
                              clear EA
                              generalize hsa : (⟨ta.toArray⟩ : ByteArray) = sa at *
                              have h60 := Nat.lt_of_not_le h60
                              have hd : decide ((q : Int) < 0) = false := by rw [decide_eq_false_iff_not]; omega
                              have hd3 : decide ((sa.size : Int) < (q : Int)) = false := by rw [decide_eq_false_iff_not]; omega
                              have hq : q ≤ sa.size := by omega
                              go_upto_region 21 with fail
                              go_quiet (fail)
                              go_upto_region 34 with fail
                              go_quiet (fail)
                              go_wp2_with fail
                              go_meet
                              exact ⟨by rw [HC0.out], by rw [HO0.out]; rw [← hsa, drop_str], bdrewN (bdrewN (Below.refl _ _) _) _⟩
                          · obtain ⟨ia, ta, rfl, hia, hta, hna⟩ := has_text hA
                            rw [hna] at hq0
                            obtain ⟨gt, rfl, hgt1, hca⟩ := HTX.out ia ta hta
                            have hla : (⟨ta.toArray⟩ : ByteArray).size = ta.length := by simp [ByteArray.size]
                            have HC0 := Lib.hid (show code0 ⟨4, s, (ia : Int), b, (q : Int), cnt⟩ ts = 2 by unfold code0; rw [if_neg (by simp), if_neg (by simp [hA]), if_neg (by simp), if_pos (by simp [inR, hna]; omega)])
                            have HO0 := Lib.hid (show out0 ⟨4, s, (ia : Int), b, (q : Int), cnt⟩ ts = [] from out0_no (by rw [HC0.out]; decide))
                            rw [hA] at EA
                            clear EB
                            go_wp2_with fail
                            refine EA.out.mono ?_
                            rintro e wzA ⟨rfl, rfl⟩
                            clear EA
                            generalize hsa : (⟨ta.toArray⟩ : ByteArray) = sa at *
                            have hd : decide ((q : Int) < 0) = false := by rw [decide_eq_false_iff_not]; omega
                            have hd2 : sa.size < q := by omega
                            have hd3 : decide ((sa.size : Int) < (q : Int)) = true := by simp; omega
                            go_upto_region 21 with fail
                            go_quiet (fail)
                            go_wp2_with fail
                            go_meet
                            exact ⟨by rw [HC0.out], by rw [HO0.out], bdrewN (Below.refl _ _) _⟩
                        · have HC0 := Lib.hid (show code0 ⟨4, s, a, b, at_, cnt⟩ ts = 2 by unfold code0; rw [if_neg (by simp), if_neg (by simp [hA]), if_neg (by simp), if_pos (by simp [inR]; omega)])
                          have HO0 := Lib.hid (show out0 ⟨4, s, a, b, at_, cnt⟩ ts = [] from out0_no (by rw [HC0.out]; decide))
                          rw [hA] at EA
                          clear EB
                          go_wp2_with fail
                          refine EA.out.mono ?_
                          rintro e wzA ⟨rfl, rfl⟩
                          clear EA
                          have hd : decide (at_ < 0) = true := by simp; omega
                          go_upto_region 21 with fail
                          go_quiet (fail)
                          go_wp2_with fail
                          go_meet
                          exact ⟨by rw [HC0.out], by rw [HO0.out], bdrewN (Below.refl _ _) _⟩
                    · as_aux_lemma =>
                        have hk5 : k = 5 := by omega
                        subst hk5
                        by_cases h0 : 0 ≤ cnt
                        · by_cases h4 : cnt ≤ 4
                          · obtain ⟨q, rfl⟩ := Int.eq_ofNat_of_zero_le h0
                            by_cases h60 : 60 ≤ ts.length
                            · have HC0 := Lib.hid (show code0 ⟨5, s, a, b, at_, (q : Int)⟩ ts = 8 by unfold code0; rw [if_neg (by simp), if_neg (by simp [hA]), if_neg (by simp), if_neg (by simp [inR]; omega), if_pos h60])
                              have HO0 := Lib.hid (show out0 ⟨5, s, a, b, at_, (q : Int)⟩ ts = [] from out0_no (by rw [HC0.out]; decide))
                              rw [hA] at EA
                              clear EB
                              go_wp2_with fail
                              refine EA.out.mono ?_
                              rintro e wzA ⟨rfl, rfl⟩
                              clear EA
                              have hd : decide ((q : Int) < 0) = false := by rw [decide_eq_false_iff_not]; omega
                              have hd2 : decide (4 < (q : Int)) = false := by rw [decide_eq_false_iff_not]; omega
                              go_upto_region 21 with fail
                              go_quiet (fail)
                              go_wp2_with fail
                              go_meet
                              exact ⟨by rw [HC0.out], by rw [HO0.out], bdrewN (Below.refl _ _) _⟩
                            · obtain ⟨ia, ta, rfl, hia, hta, hna⟩ := has_text hA
                              obtain ⟨gt, rfl, hgt1, hca⟩ := HTX.out ia ta hta
                              have hla : (⟨ta.toArray⟩ : ByteArray).size = ta.length := by simp [ByteArray.size]
                              have hlm : ta.length ≤ 600 := hfine.2 ta (List.mem_of_getElem? hta)
                              have HC0 := Lib.hid (show code0 ⟨5, s, (ia : Int), b, at_, (q : Int)⟩ ts = 0 by unfold code0; rw [if_neg (by simp), if_neg (by simp [hA]), if_neg (by simp), if_neg (by simp [inR]; omega), if_neg h60])
                              have HO0 := Lib.hid (show out0 ⟨5, s, (ia : Int), b, at_, (q : Int)⟩ ts = cop ta q by rw [out0_of HC0.out]; unfold newT; simp [hna])
                              rw [hA] at EA
                              clear EB
                              go_wp2_with fail
                              refine EA.out.mono ?_
                              rintro e wzA ⟨rfl, rfl⟩
                              clear EA
                              generalize hsa : (⟨ta.toArray⟩ : ByteArray) = sa at *
                              have h60 := Nat.lt_of_not_le h60
                              have hd : decide ((q : Int) < 0) = false := by rw [decide_eq_false_iff_not]; omega
                              have hd2 : decide (4 < (q : Int)) = false := by rw [decide_eq_false_iff_not]; omega
                              go_upto_region 21 with fail
                              go_quiet (fail)
                              go_wp2_with fail
                              go_loopw [11, 12] (fun out m wx => ∃ j : Nat, j ≤ q ∧ m = .int .i64 (j : Int) ∧ out = .string ⟨(cop ta j).toArray⟩ ∧ wx = W0.drewN nq) (fun _ m _ => q - (intOf m).toNat)
                              case atStart => exact ⟨0, by omega, rfl, rfl, rfl⟩
                              case round =>
                                obtain ⟨j, hj, rfl, rfl, rfl⟩ := hrel
                                by_cases hjq : j < q
                                · have hzj : (⟨(cop ta j).toArray⟩ : ByteArray).size ≤ 2400 := by
                                    have e : (⟨(cop ta j).toArray⟩ : ByteArray).size = (cop ta j).length := by simp [ByteArray.size]
                                    rw [e, cop_length]
                                    have : j * ta.length ≤ 4 * 600 := Nat.mul_le_mul (by omega) hlm
                                    omega
                                  have hnl : ¬ 9223372036854775807 < (⟨(cop ta j).toArray⟩ : ByteArray).size + sa.size := by omega
                                  have HSC := Lib.hid (show (⟨(cop ta j).toArray⟩ : ByteArray) ++ sa = ⟨(cop ta (j + 1)).toArray⟩ by rw [← hsa, cat_str, cop])
                                  generalize (⟨(cop ta j).toArray⟩ : ByteArray) = sj at *
                                  go_wp2_with fail
                                  go_roundw
                                  case rel => exact ⟨j + 1, by omega, rfl, by rw [HSC.out], trivial⟩
                                  case measure => simp [intOf]; omega
                                · obtain rfl : j = q := by omega
                                  go_wp2_with fail
                                  go_meet
                                  exact ⟨by rw [HC0.out], by rw [HO0.out], bdrewN (Below.refl _ _) _⟩
                          · have HC0 := Lib.hid (show code0 ⟨5, s, a, b, at_, cnt⟩ ts = 2 by unfold code0; rw [if_neg (by simp), if_neg (by simp [hA]), if_neg (by simp), if_pos (by simp [inR]; omega)])
                            have HO0 := Lib.hid (show out0 ⟨5, s, a, b, at_, cnt⟩ ts = [] from out0_no (by rw [HC0.out]; decide))
                            rw [hA] at EA
                            clear EB
                            go_wp2_with fail
                            refine EA.out.mono ?_
                            rintro e wzA ⟨rfl, rfl⟩
                            clear EA
                            have hd : decide (cnt < 0) = false := by rw [decide_eq_false_iff_not]; omega
                            have hd2 : decide (4 < cnt) = true := by simp; omega
                            go_upto_region 21 with fail
                            go_quiet (fail)
                            go_wp2_with fail
                            go_meet
                            exact ⟨by rw [HC0.out], by rw [HO0.out], bdrewN (Below.refl _ _) _⟩
                        · have HC0 := Lib.hid (show code0 ⟨5, s, a, b, at_, cnt⟩ ts = 2 by unfold code0; rw [if_neg (by simp), if_neg (by simp [hA]), if_neg (by simp), if_pos (by simp [inR]; omega)])
                          have HO0 := Lib.hid (show out0 ⟨5, s, a, b, at_, cnt⟩ ts = [] from out0_no (by rw [HC0.out]; decide))
                          rw [hA] at EA
                          clear EB
                          go_wp2_with fail
                          refine EA.out.mono ?_
                          rintro e wzA ⟨rfl, rfl⟩
                          clear EA
                          have hd : decide (cnt < 0) = true := by simp; omega
                          go_upto_region 21 with fail
                          go_quiet (fail)
                          go_wp2_with fail
                          go_meet
                          exact ⟨by rw [HC0.out], by rw [HO0.out], bdrewN (Below.refl _ _) _⟩
              · have hA := by_false hA
                have HC0 := Lib.hid (show code0 ⟨k, s, a, b, at_, cnt⟩ ts = 7 by unfold code0; rw [if_neg (by simp only; omega), if_pos ⟨by simp only; omega, hA⟩])
                have HO0 := Lib.hid (show out0 ⟨k, s, a, b, at_, cnt⟩ ts = [] from out0_no (by rw [HC0.out]; decide))
                rw [hA] at EA
                clear EB
                go_wp2_with fail
                refine EA.out.mono ?_
                rintro e wzA ⟨rfl, rfl⟩
                clear EA
                go_wp2_with fail
                go_meet
                exact ⟨by rw [HC0.out], by rw [HO0.out], Below.refl _ _⟩
      case rest =>
        obtain ⟨rfl, rfl, hbc⟩ := hcut
        have HRC := Lib.hid (HRA.out.next hbc)
        have hz := HRC.out.bel.size
        have hzt : ts.length ≤ 60 := hfine.1
        have hcode := code_of0 ⟨k, s, a, b, at_, cnt⟩ ts
        have hsl : (⟨(out0 ⟨k, s, a, b, at_, cnt⟩ ts).toArray⟩ : ByteArray).size = (out0 ⟨k, s, a, b, at_, cnt⟩ ts).length := by simp [ByteArray.size]
        have hnew : code0 ⟨k, s, a, b, at_, cnt⟩ ts = 0 → out0 ⟨k, s, a, b, at_, cnt⟩ ts = newT ⟨k, s, a, b, at_, cnt⟩ ts := fun h => out0_of h
        have HNEW := Lib.hid hnew
        have HCODE := Lib.hid hcode
        clear EA EB hbc hcb y0 y1 y2 y3 y4 y5 HTX hfine HRA hcode hnew
        by_cases hc0 : code0 ⟨k, s, a, b, at_, cnt⟩ ts = 0
        · by_cases h600 : 600 < (out0 ⟨k, s, a, b, at_, cnt⟩ ts).length
          · have hce : code ⟨k, s, a, b, at_, cnt⟩ (texts (l.take i) []) = 1 := by rw [HTS.out, HCODE.out, if_pos hc0, if_pos h600]
            have HA := Lib.hid (HRC.out.next (balloc (Below.refl _ _) (.cells #[.int .i64 1] 25)))
            rw [hc0]
            generalize (⟨(out0 ⟨k, s, a, b, at_, cnt⟩ ts).toArray⟩ : ByteArray) = sx at *
            have hg6 : decide ((600 : Int) < (sx.size : Int)) = true := by simp; omega
            have hq6 : 600 < sx.size := by omega
            clear h600 hc0
            go_wp2_with (at_builtin; refine wpList_append_lies _ rfl _ _ 24 rfl w.heap.size 25 i1 _ 1 8 Try.underlying24 HJ.out.1 HJ.out.2.1 HJ.out.2.2.1 HJ.out.2.2.2 rfl (by decide) _ i (ints (codes (l.take i) [])) rfl HA.out.crow ⟨wc.heap.size, 0, none⟩ 1 1 [.int .i64 1] rfl rfl (cell_one_new _ _ _) (by simp [Value.oneCell']) (by omega) (by unfold maxLen; omega) (by omega) (by simp; omega) _ rfl ?_; intro g4 cap4 w4 hown4 hgrow4 _ _; have FIN := Lib.hid (HA.out.mid HO.out (by rw [hce]; exact hown4) hgrow4); clear hown4 hgrow4)
            go_roundw
            case rel => exact ⟨i + 1, .slice p ts.length cap', by omega, rfl, FIN.out.1, by rw [texts_no HO.out (by rw [hce]; decide)]; exact FIN.out.2.1, FIN.out.2.2.1, FIN.out.2.2.2⟩
            case measure => simp [intOf]; omega
          · have hce : code ⟨k, s, a, b, at_, cnt⟩ (texts (l.take i) []) = 0 := by rw [HTS.out, HCODE.out, if_pos hc0, if_neg h600]
            have HA := Lib.hid (HRC.out.next (balloc (Below.refl _ _) (.cells #[.int .i64 0] 25)))
            have hxo := HNEW.out hc0
            rw [hc0]
            have HSX := Lib.hid (show Value.string ⟨(out0 ⟨k, s, a, b, at_, cnt⟩ ts).toArray⟩ = strV (newT ⟨k, s, a, b, at_, cnt⟩ ts) by rw [hxo]; rfl)
            generalize (⟨(out0 ⟨k, s, a, b, at_, cnt⟩ ts).toArray⟩ : ByteArray) = sx at *
            have hg6 : decide ((600 : Int) < (sx.size : Int)) = false := by rw [decide_eq_false_iff_not]; omega
            have hq6 : sx.size ≤ 600 := by omega
            clear h600 hc0 hxo
            go_wp2_with (first
              | (at_builtin; refine wpList_append_lies _ rfl _ _ 24 rfl w.heap.size 25 i1 _ 1 8 Try.underlying24 HJ.out.1 HJ.out.2.1 HJ.out.2.2.1 HJ.out.2.2.2 rfl (by decide) _ i (ints (codes (l.take i) [])) rfl HA.out.crow ⟨wc.heap.size, 0, none⟩ 1 1 [.int .i64 0] rfl rfl (cell_one_new _ _ _) (by simp [Value.oneCell']) (by omega) (by unfold maxLen; omega) (by omega) (by simp; omega) _ rfl ?_; intro g4 cap4 w4 hown4 hgrow4 _ _; have M := Lib.hid (HA.out.mid HO.out (by rw [hce]; exact hown4) hgrow4); have hcx := M.out.1.cell; have hsz4 := M.out.2.2.2.size; have hbl4 := Nat.ne_of_lt M.out.1.lt; clear hown4 hgrow4)
              | (at_builtin; refine wpList_append_lies _ rfl _ _ 23 rfl w.heap.size 9 i0 _ 1 16 Try.underlying23 HI.out.1 HI.out.2.1 HI.out.2.2.1 HI.out.2.2.2 rfl (by decide) _ ts.length ((texts (l.take i) []).map strV) rfl (by have := M.out.2.1.alloc (.cells #[.string sx] 9); rw [HTS.out] at this ⊢; exact this) ⟨w4.heap.size, 0, none⟩ 1 1 [.string sx] rfl rfl (cell_one_new _ _ _) (by simp [Value.oneCell']) (by omega) (by unfold maxLen; omega) (by omega) (by simp; omega) _ rfl ?_; intro g5 cap5 w5 hown5 hgrow5 _ _; obtain ⟨q1, q2, FIN⟩ := RA.last M.out.1 (by have := M.out.2.1; rw [HTS.out] at this; exact this) M.out.2.2.1 M.out.2.2.2 HTS.out HO.out hce HSX.out hown5 hgrow5; clear hown5 hgrow5))
            go_roundw
            case rel => exact ⟨i + 1, _, by omega, rfl, FIN.out⟩
            case measure => simp [intOf]; omega
        · have hce : code ⟨k, s, a, b, at_, cnt⟩ (texts (l.take i) []) = code0 ⟨k, s, a, b, at_, cnt⟩ ts := by rw [HTS.out, HCODE.out, if_neg hc0]
          have hd0 : (code0 ⟨k, s, a, b, at_, cnt⟩ ts == 0) = false := by simpa using hc0
          generalize code0 ⟨k, s, a, b, at_, cnt⟩ ts = cc at *
          have HA := Lib.hid (HRC.out.next (balloc (Below.refl _ _) (.cells #[.int .i64 cc] 25)))
          have HC1 := Lib.hid hc0
          generalize (⟨(out0 ⟨k, s, a, b, at_, cnt⟩ ts).toArray⟩ : ByteArray) = sx at *
          clear hc0
          go_wp2_with (at_builtin; refine wpList_append_lies _ rfl _ _ 24 rfl w.heap.size 25 i1 _ 1 8 Try.underlying24 HJ.out.1 HJ.out.2.1 HJ.out.2.2.1 HJ.out.2.2.2 rfl (by decide) _ i (ints (codes (l.take i) [])) rfl HA.out.crow ⟨wc.heap.size, 0, none⟩ 1 1 [.int .i64 cc] rfl rfl (cell_one_new _ _ _) (by simp [Value.oneCell']) (by omega) (by unfold maxLen; omega) (by omega) (by simp; omega) _ rfl ?_; intro g4 cap4 w4 hown4 hgrow4 _ _; have FIN := Lib.hid (HA.out.mid HO.out (by rw [hce]; exact hown4) hgrow4); clear hown4 hgrow4)
          go_roundw
          case rel => exact ⟨i + 1, .slice p ts.length cap', by omega, rfl, FIN.out.1, by rw [texts_no HO.out (by rw [hce]; exact HC1.out)]; exact FIN.out.2.1, FIN.out.2.2.1, FIN.out.2.2.2⟩
          case measure => simp [intOf]; omega
    · obtain rfl : i = n := by omega
      have e1 : l.take i = l := by rw [← hn]; exact List.take_length
      have hr1 := hra.trow
      have hr2 := hra.crow
      have hcx := hra.box.cell
      rw [e1] at hr1 hr2
      have FIN := Lib.hid (show Row wr tv ((texts l []).map strV) ∧ Row wr u6 (ints (codes l [])) ∧ Below w.heap.size w wr from ⟨Row.of_owns hr1, Row.of_owns hr2, hra.bel⟩)
      obtain ⟨p, cap', rfl, -⟩ := hra.opened
      clear hra hr1 hr2 e1
      generalize (texts (l.take i) []).length = mt at *
      go_wp2_with fail
      refine bodyPost_ret (v := .tuple #[.slice p mt cap', u6, .int .i64 0]) (by simp [results, Try.results12]) rfl ⟨_, _, rfl, FIN.out⟩

end Go.Proofs.Yteahnhemcceebaa.RefC
