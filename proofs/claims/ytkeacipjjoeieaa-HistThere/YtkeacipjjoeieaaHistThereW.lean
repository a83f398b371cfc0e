/-
  The law HistThere.
-/
import Derived.Test.YtkeacipjjoeieaaHistBeginW
import Derived.Deep.DeepCutAuto
namespace Go.Proofs.Ytkeacipjjoeieaa.HistK
open Go.RowKit Kit EditM HistM HistC Lift Txt

theorem more_run (s0 : TL) (h : s0.ok) (l : List DeedM) {k : Nat} (hk : k ≤ (s0.run l).p) : (s0.run (moreOf l k)).ts = (s0.run l).ts ∧ (s0.run (moreOf l k)).p = (s0.run l).p := by
  unfold moreOf
  rw [TL.run_append, TL.run_append]
  by_cases h0 : k = 0
  · subst h0; exact ⟨rfl, rfl⟩
  · rw [there_run (h.run l) hk (by omega)]; exact ⟨rfl, rfl⟩
theorem more_now (s0 : TL) (h : s0.ok) (l : List DeedM) {k : Nat} (hk : k ≤ (s0.run l).p) : (s0.run (moreOf l k)).now = (s0.run l).now := by
  obtain ⟨h1, h2⟩ := more_run s0 h l hk
  unfold TL.now; rw [h1, h2]
theorem more_len (l : List DeedM) (k : Nat) : (moreOf l k).length = l.length + k + k := by simp [moreOf]; omega
theorem more_code (s0 : TL) (h : s0.ok) (l : List DeedM) {k : Nat} (hk : k ≤ (s0.run l).p) {i : Nat} (h1 : l.length ≤ i) (h2 : i < l.length + k + k) : (s0.codes (moreOf l k))[i]? = some 0 := by
  unfold moreOf
  rw [List.append_assoc, TL.codes_append, List.getElem?_append_right (by rw [TL.codes_len]; exact h1), TL.codes_len]
  have hlt : i - l.length < ((s0.run l).codes (List.replicate k uD ++ List.replicate k rD)).length := by rw [TL.codes_len]; simp; omega
  rw [List.getElem?_eq_getElem hlt, there_codes (h.run l) hk _ (List.getElem_mem hlt)]
theorem more_ok {l : List DeedM} (hl : ∀ d ∈ l, d.ed.ok) (k : Nat) : ∀ d ∈ moreOf l k, d.ed.ok := by
  intro d hd
  exact mem_rep (fun d hd => mem_rep hl (plain_ok 3) hd) (plain_ok 4) hd

set_option maxRecDepth 100000 in
set_option maxHeartbeats 4000000 in
theorem histThere (a0 : Option Addr) (len0 cap0 : Nat) (z0 : List Int) (a1 : Option Addr) (cap1 : Nat) (l : List TurnM) (nn : Int) (w : World) (h0 : IsRow .i64 w a0 len0 cap0 z0) (hl : TnsAt w a1 l) (hh : ∀ c ∈ l, c.chg.has w) (hle : l.length ≤ cap1) (hmx : cap1 ≤ maxLen) {X Y : Prop} (_ : X) (_ : Y) :
    Calls Try.prog 5 #[.slice a0 len0 cap0, .slice a1 l.length cap1, .int .i64 nn] w fun e w' => e = .returned (.bool true) ∧ Below w.heap.size w w' := by
  obtain ⟨i0, hi, hz0, hz1, hz2⟩ := info_parts infoDeed
  have HI := Lib.hid (And.intro hi (And.intro hz0 (And.intro hz1 hz2)))
  clear hi hz0 hz1 hz2
  unfold maxLen at hmx
  have TO := Lib.hid (textOf a0 len0 cap0 z0 40 w h0 (by omega))
  have hs : (textS ((z0.take len0).take 40)).size ≤ 40 := by rw [textS_size, List.length_take]; omega
  have HS := Lib.hid (str_list (textS ((z0.take len0).take 40)))
  generalize textS ((z0.take len0).take 40) = s at *
  have DS := Lib.hid (deeds l a1 cap1 40 s.size w hl hh (by omega) (by omega) (by omega))
  have hdl := dsOf_len l 40 (s.size : Int)
  have HOK := Lib.hid (dsOf_ok (n := (s.size : Int)) (by omega) (by omega) l 40)
  generalize dsOf l 40 (s.size : Int) = ds at *
  have ht : s.data.toList.length ≤ 600 := by rw [size_list]; omega
  have SOK := Lib.hid (TL.start_ok ht)
  have HD := Lib.hid (fun W u (hu : DdsV W u ds) => histed s.data.toList _ u W hu HOK.out ht (by omega))
  have CT := Lib.hid (fun W u (hu : DdsV W u ds) => countsV s.data.toList _ u W hu HOK.out ht (by omega))
  have hq1 := (SOK.out.run ds).lt
  have hq2 := (SOK.out.run ds).le
  obtain ⟨k, hk⟩ : ∃ k : Nat, (k : Int) = nn % ((((TL.start s.data.toList).run ds).p : Int) + 1) := ⟨(nn % ((((TL.start s.data.toList).run ds).p : Int) + 1)).toNat, Int.toNat_of_nonneg (Int.emod_nonneg _ (by omega))⟩
  have hkp : k ≤ ((TL.start s.data.toList).run ds).p := by
    have := Int.emod_lt_of_pos nn (show 0 < (((TL.start s.data.toList).run ds).p : Int) + 1 by omega)
    omega
  have PK := Lib.hid (fun W => picked nn ((((TL.start s.data.toList).run ds).p : Int) + 1) W (by omega) (by omega))
  rw [← hk] at PK
  have HD2 := Lib.hid (fun W u (hu : DdsV W u (moreOf ds k)) => histed s.data.toList _ u W hu (more_ok HOK.out k) ht (by rw [more_len]; omega))
  have CT2 := Lib.hid (fun W u (hu : DdsV W u (moreOf ds k)) => countsV s.data.toList _ u W hu (more_ok HOK.out k) ht (by rw [more_len]; omega))
  have MC : Hid (∀ i, ds.length ≤ i → i < ds.length + k + k → ((TL.start s.data.toList).codes (moreOf ds k))[i]? = some 0) := Lib.hid fun i h1 h2 => more_code _ SOK.out ds hkp h1 h2
  have MN := Lib.hid (more_now _ SOK.out ds hkp)
  have LST : Hid (∀ n, ds.length = n + 1 → ((TL.start s.data.toList).texts ds)[n]? = some ((TL.start s.data.toList).run ds).now) := Lib.hid fun n h => TL.texts_last _ h
  have LST2 : Hid (∀ n, ds.length + k + k = n + 1 → ((TL.start s.data.toList).texts (moreOf ds k))[n]? = some ((TL.start s.data.toList).run ds).now) := Lib.hid fun n h => by rw [← MN.out]; exact TL.texts_last _ (by rw [more_len]; exact h)
  have EMP : Hid (ds.length = 0 → ((TL.start s.data.toList).run ds).now = s.data.toList) := Lib.hid fun h => by
    obtain rfl : ds = [] := List.eq_nil_of_length_eq_zero h
    rfl
  unfold CtPost at CT CT2
  rw [(more_run _ SOK.out ds hkp).1, (more_run _ SOK.out ds hkp).2] at CT2
  unfold HdPost at HD HD2
  rw [HS.out] at HD HD2 CT CT2
  rw [more_len] at HD2
  have MO : Hid (moreOf ds k = ds ++ List.replicate k uD ++ List.replicate k rD) := Lib.hid rfl
  have ML := Lib.hid (more_len ds k)
  generalize moreOf ds k = more at *
  generalize ((TL.start s.data.toList).run ds).now = nw at *
  generalize ((TL.start s.data.toList).run ds).p = q at *
  generalize ((TL.start s.data.toList).run ds).ts.length = tl at *
  clear h0 hl hh ht MN hk
  obtain ⟨m, hm⟩ : ∃ m, m = ds.length := ⟨_, rfl⟩
  rw [← hm] at hdl HD LST LST2 HD2 MC EMP ML
  have HM := Lib.hid hm
  clear hm
  go_enter Try.func5, Try.ntmps5
  go_wp2_with fail
  refine TO.out.mono ?_
  rintro x w1 ⟨rfl, rfl⟩
  go_wp2_with fail
  refine DS.out.mono ?_
  rintro x w1 ⟨v1, rfl, hv1⟩
  have V1 := Lib.hid (hv1.sl DeedM.cs_len)
  have B1 := Lib.hid hv1.bel
  clear hv1 TO DS
  go_wp2_with fail
  refine (HD.out _ _ V1.out).mono ?_
  rintro x w2 ⟨a2, c2, a3, c3, rfl, ht, hc, hb⟩
  have T2 := Lib.hid ht
  have V2 := Lib.hid (V1.out.next hb)
  have B2 := Lib.hid (bstep B1.out hb)
  obtain ⟨av, cv, rfl, _, hva, _⟩ := V1.out.next hb
  rw [← HM.out] at V2 ⊢
  clear ht hc hb HD V1 B1 hva
  have gm : Hid ((0 : Int) < (m : Int) ∨ m = 0) := Lib.hid (by omega)
  go_upto_if 45 with fail
  go_cut [12] from 45 to 51 (fun x wx => x = .string (str nw) ∧ wx = w2)
  case first =>
    by_cases hm0 : m = 0
    · have E := EMP.out hm0
      have hm1 : ¬ (0 : Int) < (m : Int) := by omega
      have hm2 : ¬ 0 < m := by omega
      have E2 := Lib.hid E
      clear E hm0
      go_wp2_with fail
      go_meet
      exact ⟨by rw [E2.out, HS.out], rfl⟩
    · obtain ⟨j, hj⟩ : ∃ j, m = j + 1 := ⟨m - 1, by omega⟩
      obtain ⟨b, off, rfl, hbl, hcell⟩ := Row.at_ T2.out (i := j) (x := .string (str nw)) (by rw [List.getElem?_map, LST.out j hj]; rfl)
      have hm1 : (0 : Int) < (m : Int) := by omega
      have hm2 : 0 < m := by omega
      have hmj : (m : Int) - 1 = (j : Int) := by omega
      have hji : (j : Int) < (m : Int) := by omega
      clear hj hm0
      go_wp2_with fail
      go_meet
      exact ⟨rfl, rfl⟩
  case rest =>
    obtain ⟨rfl, rfl⟩ := hcut
    clear T2 LST EMP gm HOK
    have hqi : ¬ (20 : Int) < (q : Int) := by omega
    have hr0 : ¬ (tl : Int) - 1 - (q : Int) < 0 := by omega
    obtain ⟨r, hr⟩ : ∃ r : Int, r = (tl : Int) - 1 - (q : Int) := ⟨_, rfl⟩
    rw [← hr] at CT CT2 hr0
    clear hr
    have q0 : ¬ (q : Int) < 0 := by omega
    go_wp2_with (at_builtin; refine wpList_copyO DeedM.cs_len DeedM.cs_one (by omega) rfl _ _ 22 rfl 45 i0 _ 40 Try.underlying22 HI.out.1 HI.out.2.1 HI.out.2.2.1 HI.out.2.2.2 rfl rfl _ rfl ds V2.out (by rw [← HM.out]; unfold maxLen; omega) (by rw [← HM.out]; omega) ?_; intro v3 w3 hv3; have V3 := Lib.hid (hv3.sl DeedM.cs_len); have V2b := Lib.hid (V2.out.next hv3.bel); have B3 := Lib.hid (bstep B2.out hv3.bel); clear hv3)
    refine (CT.out _ _ V3.out).mono ?_
    rintro x w4 ⟨rfl, hb⟩
    have V4 := Lib.hid (V2b.out.next hb)
    have B4 := Lib.hid (bstep B3.out hb)
    clear hb CT V3 V2b B3 V2 B2
    go_wp2_with fail
    refine (PK.out _).mono ?_
    rintro x w5 ⟨rfl, rfl⟩
    clear PK
    go_wp2_with (at_builtin; refine wpList_copyO DeedM.cs_len DeedM.cs_one (by omega) rfl _ _ 22 rfl 45 i0 _ 40 Try.underlying22 HI.out.1 HI.out.2.1 HI.out.2.2.1 HI.out.2.2.2 rfl rfl _ rfl ds V4.out (by rw [← HM.out]; unfold maxLen; omega) (by rw [← HM.out]; omega) ?_; intro v5 w5 hv5; have V5 := Lib.hid (hv5.ahead B4.out); clear hv5 V4 B4)
    go_loopw [17, 18] (fun v i wr => ∃ j : Nat, j ≤ k ∧ i = .int .i64 (j : Int) ∧ DsO w (ds ++ List.replicate j uD) v wr) (fun _ i _ => k - (intOf i).toNat)
    case atStart => exact ⟨0, by omega, rfl, by simpa using V5.out⟩
    case round =>
      obtain ⟨j, hj, rfl, hds⟩ := hrel
      clear V5
      by_cases hlt : j < k
      · have E2 := Lib.hid (hds.next (balloc (Below.refl _ _) (.cells #[.int .i64 3, .int .i64 0, .int .i64 0, .string ⟨#[]⟩] 45)))
        have hlen : (ds ++ List.replicate j uD).length ≤ 80 := by rw [List.length_append, ← HM.out]; simp; omega
        have NX : Hid (ds ++ List.replicate (j + 1) uD = ds ++ List.replicate j uD ++ [uD]) := Lib.hid (by rw [List.replicate_succ', List.append_assoc])
        clear hds
        generalize ds ++ List.replicate j uD = dk at *
        go_wp2_with (at_builtin; refine wpList_append_rx _ rfl _ _ 22 rfl 45 i0 _ 4 40 Try.underlying22 HI.out.1 HI.out.2.1 HI.out.2.2.1 HI.out.2.2.2 rfl (by decide) u17 dk.length (flatC DeedM.cs dk) rfl E2.out.row ⟨wr.heap.size, 0, none⟩ 1 [.int .i64 3, .int .i64 0, .int .i64 0, .string ⟨#[]⟩] rfl rfl (cells_six_new wr [.int .i64 3, .int .i64 0, .int .i64 0, .string ⟨#[]⟩] _) (by simp [Value.oneCell']) (by unfold maxLen; omega) (by omega) ?_; intro a4 cap4 w4 hown4 hgrow4 hat4; have FIN := Lib.hid (RO.push E2.out (o := uD) hown4 hgrow4 hat4); clear hown4 hgrow4 hat4)
        go_roundw
        case rel => exact ⟨j + 1, by omega, by go_num, by rw [NX.out]; exact FIN.out⟩
        case measure => simp [intOf]; omega
      · obtain rfl : j = k := by omega
        have V6 := Lib.hid hds
        clear hds
        go_wp2_with fail
        go_loopw [17, 19] (fun v i wx => ∃ jj : Nat, jj ≤ j ∧ i = .int .i64 (jj : Int) ∧ DsO w (ds ++ List.replicate j uD ++ List.replicate jj rD) v wx) (fun _ i _ => j - (intOf i).toNat)
        case atStart => exact ⟨0, by omega, rfl, by simpa using V6.out⟩
        case round =>
          obtain ⟨jj, hjj, rfl, hds⟩ := hrel
          clear V6
          by_cases hlt2 : jj < j
          · have E2 := Lib.hid (hds.next (balloc (Below.refl _ _) (.cells #[.int .i64 4, .int .i64 0, .int .i64 0, .string ⟨#[]⟩] 45)))
            have hlen : (ds ++ List.replicate j uD ++ List.replicate jj rD).length ≤ 80 := by rw [List.length_append, List.length_append, ← HM.out]; simp; omega
            have NX : Hid (ds ++ List.replicate j uD ++ List.replicate (jj + 1) rD = ds ++ List.replicate j uD ++ List.replicate jj rD ++ [rD]) := Lib.hid (by rw [List.replicate_succ', ← List.append_assoc])
            clear hds
            generalize ds ++ List.replicate j uD ++ List.replicate jj rD = dk at *
            go_wp2_with (at_builtin; refine wpList_append_rx _ rfl _ _ 22 rfl 45 i0 _ 4 40 Try.underlying22 HI.out.1 HI.out.2.1 HI.out.2.2.1 HI.out.2.2.2 rfl (by decide) u17 dk.length (flatC DeedM.cs dk) rfl E2.out.row ⟨wr.heap.size, 0, none⟩ 1 [.int .i64 4, .int .i64 0, .int .i64 0, .string ⟨#[]⟩] rfl rfl (cells_six_new wr [.int .i64 4, .int .i64 0, .int .i64 0, .string ⟨#[]⟩] _) (by simp [Value.oneCell']) (by unfold maxLen; omega) (by omega) ?_; intro a4 cap4 w4 hown4 hgrow4 hat4; have FIN := Lib.hid (RO.push E2.out (o := rD) hown4 hgrow4 hat4); clear hown4 hgrow4 hat4)
            go_roundw
            case rel => exact ⟨jj + 1, by omega, by go_num, by rw [NX.out]; exact FIN.out⟩
            case measure => simp [intOf]; omega
          · obtain rfl : jj = j := by omega
            rw [← MO.out] at hds
            have V7 := Lib.hid (hds.sl DeedM.cs_len)
            have B7 := Lib.hid hds.bel
            obtain ⟨am, cm, hum, _⟩ := hds.sl DeedM.cs_len
            rw [ML.out] at hum
            subst hum
            clear hds
            go_wp2_with fail
            refine (HD2.out _ _ V7.out).mono ?_
            rintro x w8 ⟨a5, c5, a6, c6, rfl, ht, hc, hb⟩
            have T8 := Lib.hid ht
            have C8 := Lib.hid hc
            have V8 := Lib.hid (V7.out.next hb)
            have B8 := Lib.hid (bstep B7.out hb)
            clear ht hc hb HD2 V7 B7
            go_wp2_with fail
            go_loop [23] (fun i => ∃ ii : Nat, m ≤ ii ∧ ii ≤ m + jj + jj ∧ i = .int .i64 (ii : Int)) (fun i => m + jj + jj - (intOf i).toNat)
            case atStart => exact ⟨m, by omega, by omega, rfl⟩
            case round =>
              obtain ⟨ii, h1, h2, rfl⟩ := hrel
              by_cases hlt3 : ii < m + jj + jj
              · obtain ⟨b, off, rfl, hbl, hcell⟩ := Row.at_ C8.out (i := ii) (x := .int .i64 0) (by rw [List.getElem?_map, MC.out ii h1 hlt3]; rfl)
                go_wp2_with fail
                go_round
                case rel => exact ⟨ii + 1, by omega, by omega, by go_num⟩
                case measure => simp [intOf]; omega
              · obtain rfl : ii = m + jj + jj := by omega
                go_wp2_with fail
                refine (CT2.out _ _ V8.out).mono ?_
                rintro x w9 ⟨rfl, hb⟩
                have T9 := Lib.hid (T8.out.next hb)
                have B9 := Lib.hid (bstep B8.out hb)
                clear hb CT2 V8 T8 B8
                by_cases hj0 : jj = 0
                · have g0 : ((jj : Int) == 0) = true := by simpa using hj0
                  clear hj0
                  go_wp2_with fail
                  go_ret
                  exact ⟨rfl, B9.out⟩
                · have g0 : ((jj : Int) == 0) = false := by simpa using hj0
                  obtain ⟨nl, hnl⟩ : ∃ nl, m + jj + jj = nl + 1 := ⟨m + jj + jj - 1, by omega⟩
                  obtain ⟨b, off, rfl, hbl, hcell⟩ := Row.at_ T9.out (i := nl) (x := .string (str nw)) (by rw [List.getElem?_map, LST2.out nl hnl]; rfl)
                  have e1 : ((m + jj + jj : Nat) : Int) - 1 = (nl : Int) := by omega
                  have e2 : (nl : Int) < ((m + jj + jj : Nat) : Int) := by omega
                  have e3 : nl < m + jj + jj := by omega
                  have e4 : (m : Int) + (jj : Int) + (jj : Int) - 1 = (nl : Int) := by omega
                  have e5 : (nl : Int) < (m : Int) + (jj : Int) + (jj : Int) := by omega
                  clear hnl hj0
                  go_wp2_with fail
                  go_ret
                  exact ⟨rfl, B9.out⟩

end Go.Proofs.Ytkeacipjjoeieaa.HistK
