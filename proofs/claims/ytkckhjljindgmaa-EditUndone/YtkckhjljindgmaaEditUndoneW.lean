/-
  The laws EditUndone and EditParts.
-/
import Derived.Test.YtkckhjljindgmaaEditsW
import Derived.Test.YtkckhjljindgmaaCopyV
namespace Go.Proofs.Ytkckhjljindgmaa.EditK
open Go.RowKit Kit EditM EditC ChgM Txt Lift

set_option maxRecDepth 100000 in
set_option maxHeartbeats 2000000 in
theorem editUndone (a0 : Option Addr) (len0 cap0 : Nat) (z0 : List Int) (al : Option Addr) (cap : Nat) (l : List ChgM) (w : World) (hz : IsRow .i64 w a0 len0 cap0 z0) (hl : ChsAt w al l) (hh : ∀ c ∈ l, c.has w) (hle : l.length ≤ cap) (hmx : cap ≤ maxLen) {S : Prop} (_ : S) :
    Calls Try.prog 8 #[.slice a0 len0 cap0, .slice al l.length cap] w fun e w' => e = .returned (.bool true) ∧ Below w.heap.size w w' := by
  have hlen : l.length ≤ 9223372036854775807 := by unfold maxLen at hmx; omega
  have TO := Lib.hid (textOf a0 len0 cap0 z0 100 w hz (by omega))
  have hs100 : (textS ((z0.take len0).take 100)).size ≤ 100 := by rw [textS_size]; simp only [List.length_take]; omega
  generalize textS ((z0.take len0).take 100) = s at *
  have ES := Lib.hid (edits l al cap 15 s.size w hl hh hlen (by omega) (by omega))
  have HC := edsOf_code l 15 s.data.toList (by rw [size_list]; omega)
  have HLn := edsOf_len l 15 (s.size : Int)
  rw [size_list] at HC
  generalize edsOf l 15 (s.size : Int) = es at *
  obtain ⟨hc, hok⟩ := HC
  obtain ⟨⟨uc, ut⟩, uok⟩ := undone es s.data.toList hc hok
  have hsz : (apT es s.data.toList).length ≤ 600 := apT_len hc (by rw [size_list]; omega)
  have E1 := Lib.hid (fun W v (hv : EdsV W v es) => edited s es v W hv hok (by omega) (by omega) hc)
  have I1 := Lib.hid (fun W v (hv : EdsV W v es) => invertV s es v W hv hok (by omega) (by omega) hc)
  obtain ⟨t, ht⟩ : ∃ t, t = str (apT es s.data.toList) := ⟨_, rfl⟩
  obtain ⟨bk, hbk⟩ : ∃ bk, bk = (invs es s.data.toList).reverse := ⟨_, rfl⟩
  have hbl : bk.length = es.length := by rw [hbk, List.length_reverse, invs_length]
  have htl : t.data.toList = apT es s.data.toList := by rw [ht, list_str]
  have hts : t.size ≤ 600 := by rw [ht, size_str]; exact hsz
  rw [← hbk, ← htl] at uc ut
  rw [← hbk] at uok I1
  rw [← ht] at E1
  obtain ⟨⟨vc, vt⟩, vok⟩ := undone bk t.data.toList uc uok
  have E2 := Lib.hid (fun W v (hv : EdsV W v bk) => edited t bk v W hv uok (by omega) hts uc)
  have I2 := Lib.hid (fun W v (hv : EdsV W v bk) => invertV t bk v W hv uok (by omega) hts uc)
  rw [ut, str_list] at E2
  rw [ut] at vc vt
  have E3 := Lib.hid (fun W v (hv : EdsV W v (invs bk t.data.toList).reverse) => edited s _ v W hv vok (by rw [List.length_reverse, invs_length]; omega) (by omega) vc)
  rw [vt, str_list] at E3
  have hl3 : (invs bk t.data.toList).reverse.length = bk.length := by rw [List.length_reverse, invs_length]
  generalize (invs bk t.data.toList).reverse = ag at *
  obtain ⟨i0, hi, hz0, hz1, hz2⟩ := info_parts infoEdit
  have HI := Lib.hid (And.intro hi (And.intro hz0 (And.intro hz1 hz2)))
  have hb60 : bk.length ≤ 15 := by omega
  have HBL := Lib.hid hbl
  clear hi hz0 hz1 hz2 hc hok uc ut uok hsz ht hbk htl vc vt vok hz hl hh hle hmx hlen hbl hl3
  generalize l.length = N at *
  go_enter Try.func8, Try.ntmps8
  go_wp2_with fail
  refine TO.out.mono ?_
  rintro e w1 ⟨rfl, rfl⟩
  go_wp2_with fail
  refine ES.out.mono ?_
  rintro e w1 ⟨v1, rfl, hv1, hb1⟩
  have V1 := Lib.hid hv1
  obtain ⟨ae, ce, hve, _⟩ := hv1
  have HVE := Lib.hid hve
  have B1 := Lib.hid hb1
  clear hb1 TO ES hve
  go_wp2_with fail
  refine (E1.out _ _ V1.out).mono ?_
  rintro e w2 ⟨rfl, hb2⟩
  have V2 := Lib.hid (V1.out.next hb2)
  have B2 := Lib.hid (bstep B1.out hb2)
  clear hb2 V1 B1 E1
  go_wp2_with (at_builtin; refine wpList_copyV EdM.cs_len EdM.cs_one (by omega) rfl _ _ 27 rfl 23 i0 _ 32 Try.underlying27 HI.out.1 HI.out.2.1 HI.out.2.2.1 HI.out.2.2.2 rfl rfl _ rfl es V2.out (by unfold maxLen; omega) (by omega) ?_; intro v3 w3 hv3 hb3; have V3 := Lib.hid hv3; have V2' := Lib.hid (V2.out.next hb3); have B3 := Lib.hid (bstep B2.out hb3); clear hv3 hb3 V2 B2)
  refine (I1.out _ _ V3.out).mono ?_
  rintro e w4 ⟨v4, rfl, hv4, hb4⟩
  have V4 := Lib.hid hv4
  obtain ⟨ab, cb, hvb, _⟩ := hv4
  have HVB := Lib.hid hvb
  have B4 := Lib.hid (bstep B3.out hb4)
  clear hb4 V3 B3 I1 hvb V2'
  go_wp2_with fail
  refine (E2.out _ _ V4.out).mono ?_
  rintro e w5 ⟨rfl, hb5⟩
  have V5 := Lib.hid (V4.out.next hb5)
  have B5 := Lib.hid (bstep B4.out hb5)
  clear hb5 V4 B4 E2
  go_wp2_with (at_builtin; refine wpList_copyV EdM.cs_len EdM.cs_one (by omega) rfl _ _ 27 rfl 23 i0 _ 32 Try.underlying27 HI.out.1 HI.out.2.1 HI.out.2.2.1 HI.out.2.2.2 rfl rfl _ rfl bk V5.out (by unfold maxLen; omega) (by omega) ?_; intro v6 w6 hv6 hb6; have V6 := Lib.hid hv6; have B6 := Lib.hid (bstep B5.out hb6); clear hv6 hb6 V5 B5)
  refine (I2.out _ _ V6.out).mono ?_
  rintro e w7 ⟨v7, rfl, hv7, hb7⟩
  have V7 := Lib.hid hv7
  have B7 := Lib.hid (bstep B6.out hb7)
  clear hb7 V6 B6 I2 hv7
  go_wp2_with fail
  refine (E3.out _ _ V7.out).mono ?_
  rintro e w8 ⟨rfl, hb8⟩
  have B8 := Lib.hid (bstep B7.out hb8)
  clear hb8 V7 B7 E3
  rw [HVE.out, HVB.out, HBL.out]
  go_wp2_with fail
  go_ret
  exact ⟨rfl, B8.out⟩

end Go.Proofs.Ytkckhjljindgmaa.EditK
