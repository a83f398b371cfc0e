/-
  The law HistGroups.
-/
import Derived.Test.YtkeacipjjoeieaaHistBeginW
import Derived.Test.YtkeacipjjoeieaaHistRefusedW
import Derived.Test.YtkeacipjjoeieaaHistGrp
import Derived.Test.YtkeacipjjoeieaaEditsA
import Derived.Test.YtkeacipjjoeieaaEditReplace
import Derived.Deep.DeepCutAuto
namespace Go.Proofs.Ytkeacipjjoeieaa.HistK
open Go.RowKit Kit EditM EditC HistM HistC Lift Txt

theorem RfK.start (w : World) (t : Bs) (ty : TypeId) : RfK w [] [t] (.slice none 0 0) (.slice (some ⟨w.heap.size, 0, none⟩) 1 1) (w.alloc (.cells #[.string (str t)] ty)) := by
  refine ⟨RX.nil _ _, ⟨rfl, .inr ⟨w.heap.size, 0, 1, rfl, by simp, by unfold maxLen; omega, by simp, fun j u hj => ?_, fun j hj => ?_⟩⟩, fun b q => (by cases q), fun b q => ?_, balloc (Below.refl _ _) _⟩
  · rcases j with _ | j
    · simp [strV] at hj ⊢; exact hj
    · simp at hj
  · obtain rfl : j = 0 := by omega
    simp
  · cases q; exact Nat.le_refl _
set_option maxRecDepth 100000 in
set_option maxHeartbeats 4000000 in
theorem histGroups (a0 : Option Addr) (len0 cap0 : Nat) (z0 : List Int) (a1 : Option Addr) (cap1 : Nat) (l : List ChgM.ChgM) (nn : Int) (w : World) (h0 : IsRow .i64 w a0 len0 cap0 z0) (hl : ChgM.ChsAt w a1 l) (hh : ∀ c ∈ l, c.has w) (hle : l.length ≤ cap1) (hmx : cap1 ≤ maxLen) {X Y : Prop} (_ : X) (_ : Y) :
    Calls Try.prog 8 #[.slice a0 len0 cap0, .slice a1 l.length cap1, .int .i64 nn] w fun e w' => e = .returned (.bool true) ∧ Below w.heap.size w w' := by
  obtain ⟨i0, hi, hz0, hz1, hz2⟩ := info_parts infoDeed
  have HI := Lib.hid (And.intro hi (And.intro hz0 (And.intro hz1 hz2)))
  clear hi hz0 hz1 hz2
  obtain ⟨i1, hi, hz0, hz1, hz2⟩ := info_parts infoStr
  have HJ := Lib.hid (And.intro hi (And.intro hz0 (And.intro hz1 hz2)))
  clear hi hz0 hz1 hz2
  unfold maxLen at hmx
  have TO := Lib.hid (textOf a0 len0 cap0 z0 40 w h0 (by omega))
  have hs : (textS ((z0.take len0).take 40)).size ≤ 40 := by rw [textS_size, List.length_take]; omega
  have HS := Lib.hid (str_list (textS ((z0.take len0).take 40)))
  generalize textS ((z0.take len0).take 40) = s at *
  have ES := Lib.hid (EditK.edits l a1 cap1 15 s.size w hl hh (by omega) (by omega) (by omega))
  have hel := EditK.edsOf_len l 15 (s.size : Int)
  have ecode := EditK.edsOf_code l 15 s.data.toList (by rw [size_list]; omega)
  rw [size_list] at ecode
  have ht : s.data.toList.length ≤ 600 := by rw [size_list]; omega
  generalize EditK.edsOf l 15 (s.size : Int) = es at *
  obtain ⟨hc, hok⟩ := ecode
  obtain ⟨kn, hkn⟩ : ∃ kn : Nat, (kn : Int) = nn % 5 := ⟨(nn % 5).toNat, Int.toNat_of_nonneg (Int.emod_nonneg _ (by omega))⟩
  have hkn5 : kn < 5 := by have := Int.emod_lt_of_pos nn (show (0 : Int) < 5 by omega); omega
  have PK := Lib.hid (fun W => picked nn 5 W (by omega) (by omega))
  rw [← hkn] at PK
  clear hkn
  have GE := Lib.hid (gEnd (k := kn + 1) hc hel)
  obtain ⟨n, hn⟩ : ∃ n, n = es.length := ⟨_, rfl⟩
  rw [← hn] at hel GE
  have HN := Lib.hid hn
  have DL := Lib.hid (gD_len (kn + 1) n es)
  have WL := Lib.hid (gW_len (kn + 1) n es s.data.toList)
  have DOK : Hid (∀ d ∈ gD (kn + 1) n es n, d.ed.ok) := Lib.hid (gD_ok hok n (by omega))
  have hdl : (gD (kn + 1) n es n).length ≤ 30 := by have := DL.out n; omega
  have hwl : (gW (kn + 1) n es s.data.toList n).length ≤ 16 := by have := (WL.out n).1; omega
  have hw0 : 0 < (gW (kn + 1) n es s.data.toList n).length := (WL.out n).2
  have CT := Lib.hid (fun W u (hu : DdsV W u (gD (kn + 1) n es n)) => countsV s.data.toList _ u W hu DOK.out ht (by omega))
  have HD := Lib.hid (fun W u (hu : DdsV W u (gD (kn + 1) n es n ++ List.replicate ((gW (kn + 1) n es s.data.toList n).length - 1) uD)) => histed s.data.toList _ u W hu (fun d hd => mem_rep DOK.out (plain_ok 3) hd) ht (by simp; omega))
  have GU : Hid (∀ i, i < (gW (kn + 1) n es s.data.toList n).length - 1 → ((TL.start s.data.toList).codes (gD (kn + 1) n es n ++ List.replicate ((gW (kn + 1) n es s.data.toList n).length - 1) uD))[(gD (kn + 1) n es n).length + i]? = some 0 ∧ ((TL.start s.data.toList).texts (gD (kn + 1) n es n ++ List.replicate ((gW (kn + 1) n es s.data.toList n).length - 1) uD))[(gD (kn + 1) n es n).length + i]? = some ((gW (kn + 1) n es s.data.toList n).getD ((gW (kn + 1) n es s.data.toList n).length - 1 - 1 - i) [])) := Lib.hid fun i hi => gUndo GE.out hi
  unfold CtPost at CT
  rw [GE.out] at CT
  dsimp only at CT
  unfold HdPost at HD
  rw [HS.out] at HD CT
  have ST := Lib.hid (fun W => RfK.start W s.data.toList 9)
  rw [HS.out] at ST
  have T0 : Hid (str (apT (es.take 0) s.data.toList) = s) := HS
  have AC := Lib.hid hc
  have TLEN : Hid (∀ i, (str (apT (es.take i) s.data.toList)).size ≤ 600) := Lib.hid fun i => by
    rw [size_str]
    refine apT_len (apC_head _ (es.drop i) _ ?_) ht
    rw [List.take_append_drop]; exact hc
  have FIT : Hid (∀ (i : Nat) (e : EdM), es[i]? = some e → e.fits (apT (es.take i) s.data.toList)) := Lib.hid fun i e he => apC_fits hc he
  clear h0 hl hh ht hc hn
  generalize s.data.toList = sl at *
  go_enter Try.func8, Try.ntmps8
  go_wp2_with fail
  refine TO.out.mono ?_
  rintro x w1 ⟨rfl, rfl⟩
  go_wp2_with fail
  refine ES.out.mono ?_
  rintro x w1 ⟨v1, rfl, hv1, hb1⟩
  have V1 := Lib.hid hv1
  have B1 := Lib.hid hb1
  obtain ⟨ae, ce, rfl, _, hea, _⟩ := hv1
  rw [← HN.out] at V1 ⊢
  have EA := Lib.hid hea
  clear hb1 hea TO ES
  go_wp2_with fail
  refine (PK.out _).mono ?_
  rintro x w2 ⟨rfl, rfl⟩
  clear PK
  go_wp2_with fail
  go_loopw [10, 11, 12, 13] (fun v u t i wr => ∃ k : Nat, k ≤ n ∧ i = .int .i64 (k : Int) ∧ t = .string (str (apT (es.take k) sl)) ∧ RfK w1 (gD (kn + 1) n es k) (gW (kn + 1) n es sl k) v u wr) (fun _ _ _ i _ => n - (intOf i).toNat)
  case atStart => exact ⟨0, by omega, rfl, by rw [T0.out], ST.out w1⟩
  case round =>
    obtain ⟨k, hk, rfl, rfl, hrf⟩ := hrel
    have RF := Lib.hid hrf
    clear hrf
    by_cases hlt : k < n
    · obtain ⟨e, he⟩ : ∃ e, es[k]? = some e := ⟨es[k]'(by have := HN.out; omega), by simp⟩
      have hf := FIT.out k e he
      have hfn := hf.nat
      have hf6 := TLEN.out k
      obtain ⟨ge, oe, rfl, hge2, c02, c12, c22⟩ := EdsAt.get EA.out he
      have hge : ge < wr.heap.size := Nat.lt_of_lt_of_le hge2 RF.out.bel.size
      have c0 := keep RF.out.bel hge2 c02
      have c1 := keep RF.out.bel hge2 c12
      have c2 := keep RF.out.bel hge2 c22
      have HGE := Lib.hid hge2
      have ND : Hid (gD (kn + 1) n es (k + 1) = gD (kn + 1) n es k ++ [⟨1, e⟩] ++ (if closeB (kn + 1) n k = true then [cD] else [])) := Lib.hid (by
        show gD (kn + 1) n es k ++ [⟨1, es.getD k ⟨0, 0, ⟨#[]⟩⟩⟩] ++ _ = _
        rw [List.getD_eq_getElem?_getD, he]; rfl)
      have NW : Hid (gW (kn + 1) n es sl (k + 1) = gW (kn + 1) n es sl k ++ (if closeB (kn + 1) n k = true then [apT (es.take (k + 1)) sl] else [])) := Lib.hid rfl
      have hdk : (gD (kn + 1) n es k).length ≤ 30 := by have := DL.out k; omega
      have hwk : (gW (kn + 1) n es sl k).length ≤ 16 := by have := (WL.out k).1; omega
      have NX : Hid (∀ a c : Nat, e.at_ = (a : Int) → e.cut = (c : Int) → (str (apT (es.take k) sl)).extract 0 a ++ e.put ++ (str (apT (es.take k) sl)).extract (a + c) (str (apT (es.take k) sl)).size = str (apT (es.take (k + 1)) sl)) := Lib.hid fun a c ha hc => by
        rw [made_str, apT_next he, list_str]
        unfold EdM.step
        rw [ha, hc]; rfl
      clear he c02 c12 c22 hge2
      obtain ⟨f1, f2, f3, f4, f5⟩ := hf
      rw [← size_str] at hfn f3 f4 f5
      generalize gD (kn + 1) n es k = dk at *
      generalize gW (kn + 1) n es sl k = wk at *
      obtain ⟨T, hT⟩ : ∃ T, T = str (apT (es.take k) sl) := ⟨_, rfl⟩
      rw [← hT] at hfn f3 f4 f5 hf6 NX ⊢
      clear hT
      obtain ⟨a, c, p⟩ := e
      dsimp only at *
      obtain ⟨a, rfl⟩ := Int.eq_ofNat_of_zero_le f1
      obtain ⟨c, rfl⟩ := Int.eq_ofNat_of_zero_le f2
      have NX2 := Lib.hid (NX.out a c rfl rfl)
      obtain ⟨t', ht'⟩ : ∃ t', t' = apT (es.take (k + 1)) sl := ⟨_, rfl⟩
      rw [← ht'] at NX2 NW
      have HT' : Hid (apT (es.take (k + 1)) sl = t') := Lib.hid ht'.symm
      clear ht'
      simp only [Int.toNat_natCast] at hfn
      have E2 := Lib.hid (RF.out.next (balloc (Below.refl _ _) (.cells #[.int .i64 1, .int .i64 (a : Int), .int .i64 (c : Int), .string p] 45)))
      have CE : Hid (∀ w4, (wr.alloc (.cells #[.int .i64 1, .int .i64 (a : Int), .int .i64 (c : Int), .string p] 45)).grownBy w4 u10.ownBlock → w4.cell? ⟨ge, oe + k * 3, none⟩ = some (.int .i64 (a : Int)) ∧ w4.cell? ⟨ge, oe + k * 3 + 1, none⟩ = some (.int .i64 (c : Int)) ∧ w4.cell? ⟨ge, oe + k * 3 + 2, none⟩ = some (.string p) ∧ ge < w4.heap.size) := Lib.hid fun w4 q => by
        have hne : some ge ≠ u10.ownBlock := fun e => by have h1 := (RF.out.db _ e.symm).1; have := HGE.out; omega
        have far : ∀ o v, wr.cell? ⟨ge, o, none⟩ = some v → w4.cell? ⟨ge, o, none⟩ = some v := fun o v h => (q.cell_far ⟨ge, o, none⟩ (by simp; omega) hne).trans (keep (balloc (Below.refl _ _) _) hge h)
        exact ⟨far _ _ c0, far _ _ c1, far _ _ c2, Nat.lt_of_lt_of_le (by simp; omega) q.size⟩
      go_wp2_with (at_builtin; refine wpList_append_rx _ rfl _ _ 22 rfl 45 i0 _ 4 40 Try.underlying22 HI.out.1 HI.out.2.1 HI.out.2.2.1 HI.out.2.2.2 rfl (by decide) u10 dk.length (flatC DeedM.cs dk) rfl E2.out.d ⟨wr.heap.size, 0, none⟩ 1 [.int .i64 1, .int .i64 (a : Int), .int .i64 (c : Int), .string p] rfl rfl (cells_six_new wr [.int .i64 1, .int .i64 (a : Int), .int .i64 (c : Int), .string p] _) (by simp [Value.oneCell']) (by unfold maxLen; omega) (by omega) ?_; intro a4 cap4 w4 hown4 hgrow4 hat4; have E3 := Lib.hid (E2.out.deed (o := ⟨1, (a : Int), (c : Int), p⟩) hown4 hgrow4 hat4); obtain ⟨d0, d1, d2, ge4⟩ := CE.out _ hgrow4; clear hown4 hgrow4 hat4 c0 c1 c2 CE E2 hge)
      have hw : IntKind.i64.wrap ((a : Int) + (c : Int)) = (a : Int) + (c : Int) := IntWalk.i64_in _ (by omega)
      have h0 : (0 : Int) ≤ (a : Int) + (c : Int) := by omega
      have hta : ((a : Int) + (c : Int)).toNat = a + c := by omega
      have hz : (T.extract 0 a).size = a := by simp; omega
      have hn1 : ¬ 9223372036854775807 < a + p.size := by omega
      have hkn : k < n := hlt
      have hki : (k : Int) < (n : Int) := by omega
      go_quiet (fail)
      rw [NX2.out]
      have E4 := Lib.hid (E3.out.next (bdrewN (Below.refl _ _) nq))
      generalize w4.drewN nq = w5 at *
      clear hw h0 hta hz hn1 d0 d1 d2 E3 NX2 NX RF
      have MC : ((k % (kn + 1) : Nat) : Int) = (k : Int) % (1 + (kn : Int)) := by rw [Int.natCast_emod, Int.natCast_add, Int.add_comm]; rfl
      by_cases hc1 : k % (kn + 1) = kn
      · have hcl : closeB (kn + 1) n k = true := by simp [closeB, hc1]
        have g1 : ((k : Int) % (1 + (kn : Int)) == 1 + (kn : Int) - 1) = true := by rw [← MC, hc1]; simp; omega
        clear MC hc1
        all_goals
          rw [if_pos hcl] at ND NW
          clear hcl
          have E5 := Lib.hid (E4.out.next (balloc (Below.refl _ _) (.cells #[.int .i64 2, .int .i64 0, .int .i64 0, .string ⟨#[]⟩] 45)))
          have HLN : Hid ((dk ++ [(⟨1, (a : Int), (c : Int), p⟩ : DeedM)]).length = dk.length + 1) := Lib.hid (by simp)
          have hdk2 : (dk ++ [(⟨1, (a : Int), (c : Int), p⟩ : DeedM)]).length ≤ 31 := by simp; omega
          go_wp2_with (first | (at_builtin; refine wpList_append_rx _ rfl _ _ 22 rfl 45 i0 _ 4 40 Try.underlying22 HI.out.1 HI.out.2.1 HI.out.2.2.1 HI.out.2.2.2 rfl (by decide) _ _ _ rfl E5.out.d ⟨w5.heap.size, 0, none⟩ 1 [.int .i64 2, .int .i64 0, .int .i64 0, .string ⟨#[]⟩] rfl rfl (cells_six_new w5 [.int .i64 2, .int .i64 0, .int .i64 0, .string ⟨#[]⟩] _) (by simp [Value.oneCell']) (by unfold maxLen; omega) (by omega) ?_; intro a6 cap6 w6 hown6 hgrow6 hat6; have E6 := Lib.hid ((E5.out.deed (o := cD) hown6 hgrow6 hat6).next (balloc (Below.refl _ _) (.cells #[.string (str t')] 9))); clear hown6 hgrow6 hat6) | (at_builtin; refine wpList_append_rx _ rfl _ _ 23 rfl 9 i1 _ 1 16 Try.underlying23 HJ.out.1 HJ.out.2.1 HJ.out.2.2.1 HJ.out.2.2.2 rfl (by decide) u11 wk.length (wk.map strV) rfl E6.out.t ⟨w6.heap.size, 0, none⟩ 1 [.string (str t')] rfl rfl (cells_six_new w6 [.string (str t')] _) (by simp [Value.oneCell']) (by unfold maxLen; omega) (by omega) ?_; intro a7 cap7 w7 hown7 hgrow7 hat7; have FIN := Lib.hid (E6.out.text (o := t') hown7 hgrow7 hat7); clear hown7 hgrow7 hat7))
          go_roundw
          case rel => exact ⟨k + 1, by omega, by go_num, by rw [HT'.out], by
            have := FIN.out
            rw [HLN.out] at this
            rw [ND.out, NW.out]; exact this⟩
          case measure => simp [intOf]; omega
      · have g1 : ((k : Int) % (1 + (kn : Int)) == 1 + (kn : Int) - 1) = false := by
          rw [← MC, beq_eq_false_iff_ne]
          intro h
          exact hc1 (by omega)
        clear MC
        by_cases hc2 : k = n - 1
        · have hcl : closeB (kn + 1) n k = true := by simp [closeB, hc2]
          have g2 : ((k : Int) == (n : Int) - 1) = true := by simp; omega
          clear hc1 hc2
          rw [if_pos hcl] at ND NW
          clear hcl
          have E5 := Lib.hid (E4.out.next (balloc (Below.refl _ _) (.cells #[.int .i64 2, .int .i64 0, .int .i64 0, .string ⟨#[]⟩] 45)))
          have HLN : Hid ((dk ++ [(⟨1, (a : Int), (c : Int), p⟩ : DeedM)]).length = dk.length + 1) := Lib.hid (by simp)
          have hdk2 : (dk ++ [(⟨1, (a : Int), (c : Int), p⟩ : DeedM)]).length ≤ 31 := by simp; omega
          go_wp2_with (first | (at_builtin; refine wpList_append_rx _ rfl _ _ 22 rfl 45 i0 _ 4 40 Try.underlying22 HI.out.1 HI.out.2.1 HI.out.2.2.1 HI.out.2.2.2 rfl (by decide) _ _ _ rfl E5.out.d ⟨w5.heap.size, 0, none⟩ 1 [.int .i64 2, .int .i64 0, .int .i64 0, .string ⟨#[]⟩] rfl rfl (cells_six_new w5 [.int .i64 2, .int .i64 0, .int .i64 0, .string ⟨#[]⟩] _) (by simp [Value.oneCell']) (by unfold maxLen; omega) (by omega) ?_; intro a6 cap6 w6 hown6 hgrow6 hat6; have E6 := Lib.hid ((E5.out.deed (o := cD) hown6 hgrow6 hat6).next (balloc (Below.refl _ _) (.cells #[.string (str t')] 9))); clear hown6 hgrow6 hat6) | (at_builtin; refine wpList_append_rx _ rfl _ _ 23 rfl 9 i1 _ 1 16 Try.underlying23 HJ.out.1 HJ.out.2.1 HJ.out.2.2.1 HJ.out.2.2.2 rfl (by decide) u11 wk.length (wk.map strV) rfl E6.out.t ⟨w6.heap.size, 0, none⟩ 1 [.string (str t')] rfl rfl (cells_six_new w6 [.string (str t')] _) (by simp [Value.oneCell']) (by unfold maxLen; omega) (by omega) ?_; intro a7 cap7 w7 hown7 hgrow7 hat7; have FIN := Lib.hid (E6.out.text (o := t') hown7 hgrow7 hat7); clear hown7 hgrow7 hat7))
          go_roundw
          case rel => exact ⟨k + 1, by omega, by go_num, by rw [HT'.out], by
            have := FIN.out
            rw [HLN.out] at this
            rw [ND.out, NW.out]; exact this⟩
          case measure => simp [intOf]; omega
        · have hcl : ¬ closeB (kn + 1) n k = true := by simp [closeB]; omega
          have g2 : ((k : Int) == (n : Int) - 1) = false := by simp; omega
          rw [if_neg hcl] at ND NW
          clear hc1 hc2 hcl
          go_wp2_with fail
          go_roundw
          case rel => exact ⟨k + 1, by omega, by go_num, by rw [HT'.out], by rw [ND.out, NW.out, List.append_nil, List.append_nil]; exact E4.out⟩
          case measure => simp [intOf]; omega
    · obtain rfl : k = n := by omega
      have V3 := Lib.hid (SlV.of_rx (k := 4) (cells := DeedM.cs) DeedM.cs_len RF.out.d)
      obtain ⟨ad, cd, hud, _⟩ := V3.out
      subst hud
      obtain ⟨aw, cw, huw⟩ := RF.out.t.form
      subst huw
      generalize gD (kn + 1) k es k = dk at *
      generalize gW (kn + 1) k es sl k = wk at *
      obtain ⟨m, hm⟩ : ∃ m, wk.length = m + 1 := ⟨wk.length - 1, by omega⟩
      rw [hm] at CT HD GU hwl
      simp only [Nat.add_sub_cancel] at CT HD GU
      have RF2 := RF.out
      rw [show (Value.slice aw wk.length cw) = .slice aw (m + 1) cw by rw [hm]] at RF2 ⊢
      have RF3 := Lib.hid RF2
      have HM := Lib.hid hm
      rw [show (((m + 1 : Nat) : Int) - 1 - (m : Int)) = 0 by omega] at CT
      clear RF RF2 hm hw0
      obtain ⟨q, hq⟩ : ∃ q, dk.length = q := ⟨_, rfl⟩
      have HQ := Lib.hid hq
      rw [hq] at hdl GU V3 ⊢
      clear hq
      go_wp2_with (at_builtin; refine wpList_copyO DeedM.cs_len DeedM.cs_one (by omega) rfl _ _ 22 rfl 45 i0 _ 40 Try.underlying22 HI.out.1 HI.out.2.1 HI.out.2.2.1 HI.out.2.2.2 rfl rfl _ rfl dk V3.out (by rw [HQ.out]; unfold maxLen; omega) (by rw [HQ.out]; omega) ?_; intro v4 w4 hv4; have V4 := Lib.hid (hv4.sl DeedM.cs_len); have R4 := Lib.hid (RF3.out.next hv4.bel); clear hv4)
      refine (CT.out _ _ V4.out).mono ?_
      rintro x w5 ⟨rfl, hb⟩
      have R5 := Lib.hid (R4.out.next hb)
      clear hb CT V4 R4 RF3 V3
      go_wp2_with fail
      go_loopw [10, 18] (fun v i wr => ∃ j : Nat, j ≤ m ∧ i = .int .i64 (j : Int) ∧ RfK w1 (dk ++ List.replicate j uD) wk v (.slice aw (m + 1) cw) wr) (fun _ i _ => m - (intOf i).toNat)
      case atStart => exact ⟨0, by omega, rfl, by simpa [HQ.out] using R5.out⟩
      case round =>
        obtain ⟨j, hj, rfl, hds⟩ := hrel
        clear R5
        by_cases hlt2 : j < m
        · have E2 := Lib.hid (hds.next (balloc (Below.refl _ _) (.cells #[.int .i64 3, .int .i64 0, .int .i64 0, .string ⟨#[]⟩] 45)))
          have hlen : (dk ++ List.replicate j uD).length ≤ 80 := by rw [List.length_append, HQ.out]; simp; omega
          have NX : Hid (dk ++ List.replicate (j + 1) uD = dk ++ List.replicate j uD ++ [uD]) := Lib.hid (by rw [List.replicate_succ', List.append_assoc])
          clear hds
          generalize dk ++ List.replicate j uD = dj at *
          go_wp2_with (at_builtin; refine wpList_append_rx _ rfl _ _ 22 rfl 45 i0 _ 4 40 Try.underlying22 HI.out.1 HI.out.2.1 HI.out.2.2.1 HI.out.2.2.2 rfl (by decide) u10 dj.length (flatC DeedM.cs dj) rfl E2.out.d ⟨wr.heap.size, 0, none⟩ 1 [.int .i64 3, .int .i64 0, .int .i64 0, .string ⟨#[]⟩] rfl rfl (cells_six_new wr [.int .i64 3, .int .i64 0, .int .i64 0, .string ⟨#[]⟩] _) (by simp [Value.oneCell']) (by unfold maxLen; omega) (by omega) ?_; intro a4 cap4 w4 hown4 hgrow4 hat4; have FIN := Lib.hid (E2.out.deed (o := uD) hown4 hgrow4 hat4); clear hown4 hgrow4 hat4)
          go_roundw
          case rel => exact ⟨j + 1, by omega, by go_num, by rw [NX.out]; exact FIN.out⟩
          case measure => simp [intOf]; omega
        · obtain rfl : j = m := by omega
          have V6 := Lib.hid (SlV.of_rx (k := 4) (cells := DeedM.cs) DeedM.cs_len hds.d)
          have R6 := Lib.hid hds
          obtain ⟨ad2, cd2, hud2, _⟩ := V6.out
          have hl6 : (dk ++ List.replicate j uD).length = q + j := by rw [List.length_append, HQ.out]; simp
          rw [hl6] at hud2 HD
          subst hud2
          clear hds hl6
          go_wp2_with fail
          refine (HD.out _ _ V6.out).mono ?_
          rintro x w8 ⟨a5, c5, a6, c6, rfl, ht, hc, hb⟩
          have T8 := Lib.hid ht
          have C8 := Lib.hid hc
          have R8 := Lib.hid (R6.out.next hb)
          have B8 := Lib.hid (bstep B1.out R8.out.bel)
          clear ht hc hb HD V6 R6
          have hjj : ((j : Int) != (j : Int)) = false := by simp
          go_wp2_with fail
          go_loopw [22] (fun i wx => ∃ ii : Nat, ii ≤ j ∧ i = .int .i64 (ii : Int) ∧ Below w8.heap.size w8 wx) (fun i _ => j - (intOf i).toNat)
          case atStart => exact ⟨0, by omega, rfl, Below.refl _ _⟩
          case round =>
            obtain ⟨ii, hii, rfl, hbx⟩ := hrel
            have BX := Lib.hid hbx
            by_cases hlt3 : ii < j
            · obtain ⟨gc, gt⟩ := GU.out ii hlt3
              obtain ⟨bc, oc, rfl, hbc, cc⟩ := Row.at_ (C8.out.next hbx) (i := q + ii) (x := .int .i64 0) (by rw [List.getElem?_map, gc]; rfl)
              obtain ⟨bt, ot, rfl, hbt, ct⟩ := Row.at_ (T8.out.next hbx) (i := q + ii) (x := .string (str (wk.getD (j - 1 - ii) []))) (by rw [List.getElem?_map, gt]; rfl)
              obtain ⟨x, hx⟩ : ∃ x, j = ii + 1 + x := ⟨j - 1 - ii, by omega⟩
              have hxe : j - 1 - ii = x := by omega
              rw [hxe] at ct
              have hwx : wk[x]? = some (wk.getD x []) := by
                have hxl : x < wk.length := by rw [HM.out]; omega
                rw [List.getD_eq_getElem?_getD, List.getElem?_eq_getElem hxl]; rfl
              have RW := Row.of_rx (R8.out.next hbx).t
              obtain ⟨bw, ow, rfl, hbw, cw'⟩ := Row.at_ RW (i := x) (x := .string (str (wk.getD x []))) (by rw [List.getElem?_map, hwx]; rfl)
              generalize str (wk.getD x []) = tx at *
              have x1 : IntKind.i64.wrap ((j : Int) - 1) = (j : Int) - 1 := IntWalk.i64_in _ (by omega)
              have x2 : IntKind.i64.wrap ((j : Int) - 1 - (ii : Int)) = (x : Int) := by rw [IntWalk.i64_in _ (by omega)]; omega
              have x3 : (x : Int) < (j : Int) + 1 := by omega
              have x4 : x < j + 1 := by omega
              have x5 : (q : Int) + (ii : Int) < (q : Int) + (j : Int) := by omega
              have x6 : q + ii < q + j := by omega
              clear hx hxe hwx RW gc gt
              go_wp2_with fail
              go_quiet (fail)
              go_wp2_with fail
              go_roundw
              case rel => exact ⟨ii + 1, by omega, by go_num, bdrewN BX.out _⟩
              case measure => simp [intOf]; omega
            · obtain rfl : ii = j := by omega
              have FB := Lib.hid (bstep B8.out hbx)
              clear hbx
              go_wp2_with fail
              go_ret
              exact ⟨rfl, FB.out⟩

end Go.Proofs.Ytkeacipjjoeieaa.HistK
