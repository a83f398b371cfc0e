/-
  The law TopMerge, walked, where package merge keeps its contracts.
-/
import Derived.Test.YtokfnajgjhkepaaMergeLawsW
import Derived.Test.YtokfnajgjhkepaaTopMergeM
import Derived.Test.YtokfnajgjhkepaaTopCut
import Derived.Test.YtokfnajgjhkepaaSameTop
import Derived.Test.YtokfnajgjhkepaaEditApplyV
import Derived.Test.YtokfnajgjhkepaaTexts
import Derived.Test.YtokfnajgjhkepaaFew
import Derived.Test.YtokfnajgjhkepaaDiffFaces
namespace Go.Proofs.Ytokfnajgjhkepaa.MergeT
open Go.RowKit Kit Lift Txt LineM StrM DiffM DiffA DiffR DiffP DiffL FewT EditM EditK TopMM

theorem cutV (s : ByteArray) (w : World) (hs : s.size ≤ 600) : Calls Try.prog 18 #[.string s] w fun e w' => ∃ v, e = .returned v ∧ SlV 1 sc w' v (linesS s.data.toList) ∧ Below w.heap.size w w' := by
  refine (TopCut.cutText s w hs).mono ?_
  rintro e w' ⟨v, rfl, hr, hb⟩
  refine ⟨v, rfl, SlV.of_owns sc_len (base := w.heap.size) (e := 9) ?_, hb⟩
  unfold linesS
  rw [flat_sc, List.length_map]
  exact hr
theorem few_lns (zs : List Int) : PosM.lns (fewS zs).data.toList = 0 := by
  rw [fewS_list]
  unfold PosM.lns
  rw [List.count_eq_zero]
  intro h
  rcases few_ab h with h | h <;> simp at h
set_option maxRecDepth 100000 in
set_option maxHeartbeats 8000000 in
theorem topMerge (P : MergeProg) (a0 : Option Addr) (len0 cap0 : Nat) (zs : List Int) (x : Int) (a1 : Option Addr) (len1 cap1 : Nat) (ys : List Int) (w : World) (h0 : IsRow .i64 w a0 len0 cap0 zs) {X : Prop} (_ : X) (h1 : IsRow .i64 w a1 len1 cap1 ys) :
    Calls Try.prog 7 #[.slice a0 len0 cap0, .int .i64 x, .slice a1 len1 cap1] w fun e w' => e = .returned (.bool true) ∧ Below w.heap.size w w' := by
  have TO := Lib.hid (textOf a0 len0 cap0 zs 80 w h0 (by omega))
  have hts : (textS ((zs.take len0).take 80)).size ≤ 80 := by rw [textS_size]; simp only [List.length_take]; omega
  generalize textS ((zs.take len0).take 80) = s at *
  have FW := Lib.hid (few a1 len1 cap1 ys 5 w h1 (by omega))
  have hps : (fewS ((ys.take len1).take 5)).size ≤ 5 := by rw [fewS_size]; simp only [List.length_take]; omega
  have hpl := few_lns ((ys.take len1).take 5)
  generalize fewS ((ys.take len1).take 5) = p at *
  have PK := Lib.hid (fun W => picked x ((s.size : Int) + 1) W (by omega) (by omega))
  obtain ⟨k, hk⟩ := Int.eq_ofNat_of_zero_le (Int.emod_nonneg x (show ((s.size : Int) + 1) ≠ 0 by omega))
  have hk2 := Int.emod_lt_of_pos x (show (0 : Int) < (s.size : Int) + 1 by omega)
  rw [hk] at hk2 PK
  clear hk h0 h1
  have hks : k ≤ s.size := by omega
  have AP := Lib.hid (fun W v (h : EdsV W v [⟨(k : Int), 0, p⟩]) => applyV s [⟨(k : Int), 0, p⟩] v W h (by
      intro e he
      rw [List.mem_singleton] at he
      subst he
      exact ⟨by dsimp only; omega, by dsimp only; omega, by dsimp only; omega, by dsimp only; omega, by dsimp only; omega⟩) (by simp) (by omega) (by
    show (if EdM.fault ⟨(k : Int), 0, p⟩ s.data.toList = 0 then _ else _) = (0 : Int)
    have : EdM.fault ⟨(k : Int), 0, p⟩ s.data.toList = 0 := by
      unfold EdM.fault
      rw [size_list]
      exact fault_zero.2 ⟨by omega, by omega, by dsimp only; omega, by dsimp only; omega, by dsimp only; omega, by dsimp only; omega⟩
    rw [if_pos this]; rfl))
  have TF := topF s p k hpl
  rw [show apT [⟨(k : Int), 0, p⟩] s.data.toList = made s.data.toList k 0 p.data.toList by show made s.data.toList (k : Int).toNat (0 : Int).toNat p.data.toList = _; rw [Int.toNat_natCast]; rfl] at AP
  have hml : (made s.data.toList k 0 p.data.toList).length ≤ 85 := by
    rw [made_length (by rw [size_list]; omega), size_list, size_list]; omega
  have hme : (str (made s.data.toList k 0 p.data.toList)).data.toList = made s.data.toList k 0 p.data.toList := list_str _
  have hms : (str (made s.data.toList k 0 p.data.toList)).size ≤ 85 := by rw [size_str]; exact hml
  rw [← hme] at TF
  generalize str (made s.data.toList k 0 p.data.toList) = t at *
  clear hme hml hpl
  have CA := Lib.hid (fun W => cutV s W (by omega))
  have CB := Lib.hid (fun W => cutV t W (by omega))
  have OKA := Lib.hid (fun h => linesS_ok (l := s.data.toList) h (by rw [size_list]; omega))
  have OKB := Lib.hid (fun h => linesS_ok (l := t.data.toList) h (by rw [size_list]; omega))
  generalize linesS s.data.toList = la at *
  generalize linesS t.data.toList = lb at *
  have OA := Lib.hid (fun (W : World) => one_at W ⟨(k : Int), 0, p⟩)
  obtain ⟨F1, F2, F3, F4⟩ := TF
  have r0 : IntKind.i64.wrap ((s.size : Int) + 1) = (s.size : Int) + 1 := IntWalk.i64_in _ (by omega)
  obtain ⟨n, hn⟩ : ∃ n, la.length = n := ⟨_, rfl⟩
  have hm : lb.length = n := F1.symm.trans hn
  rw [hn] at F2
  have HN := Lib.hid hn
  have HM := Lib.hid hm
  have HF3 := Lib.hid F3
  have HF4 := Lib.hid F4
  clear F1 F3 F4 hn hm
  go_enter Try.func7, Try.ntmps7
  go_wp2_with fail
  refine TO.out.mono ?_
  rintro e w0 ⟨rfl, rfl⟩
  clear TO
  go_wp2_with fail
  refine (PK.out _).mono ?_
  rintro e w0 ⟨rfl, rfl⟩
  clear PK
  go_wp2_with fail
  refine FW.out.mono ?_
  rintro e w2 ⟨rfl, hb2⟩
  have B2 := Lib.hid hb2
  clear hb2 FW
  go_wp2_with fail
  refine (AP.out _ _ (OA.out _)).mono ?_
  rintro e w3 ⟨rfl, hb3⟩
  have B3 := Lib.hid (bstep (balloc B2.out _) hb3)
  clear hb3 AP OA B2
  go_wp2_with fail
  refine (CA.out _).mono ?_
  rintro e w4 ⟨v1, rfl, hv1, hb4⟩
  have B4 := Lib.hid (bstep B3.out hb4)
  have V1 := Lib.hid (fun W (hW : Below w4.heap.size w4 W) => hv1.next hW)
  clear hv1 hb4 CA B3
  go_wp2_with fail
  refine (CB.out _).mono ?_
  rintro e w5 ⟨v2, rfl, hv2, hb5⟩
  have B5 := Lib.hid (bstep B4.out hb5)
  obtain ⟨a3, c3, rfl, hc3, hs3, _⟩ := V1.out w5 hb5
  have ST := Lib.hid (fun v W (h : SlV 1 sc W v lb) (hW : Below w5.heap.size w5 W) => SameTop.same v v2 lb W (texts_row h) (texts_row (hv2.next hW)) (by rw [HM.out]; unfold maxLen; omega))
  obtain ⟨a4, c4, rfl, hc4, hs4, _⟩ := hv2
  rw [HN.out] at hc3
  rw [HM.out] at hc4
  rw [HM.out] at ST
  rw [HN.out, HM.out]
  have S3 := Lib.hid (fun W (hW : Below w5.heap.size w5 W) => hs3.next hW)
  have S4 := Lib.hid (fun W (hW : Below w5.heap.size w5 W) => hs4.next hW)
  clear hb5 CB B4 V1 hs3 hs4
  by_cases hbig : 80 < n
  · have e1 : n = s.size + 1 := by omega
    have g1 : (80 : Int) < (n : Int) := by omega
    have g2 : (n : Int) = (s.size : Int) + 1 := by omega
    go_wp2_with fail
    go_ret
    exact ⟨by first | rfl | simp, B5.out⟩
  · have g1 : ¬ (80 : Int) < (n : Int) := by omega
    have CO := Lib.hid (costF ⟨a3, la, c3⟩ ⟨a4, lb, c4⟩ w5 (S3.out _ (Below.refl _ _)) (S4.out _ (Below.refl _ _)) (OKA.out (by rw [HN.out]; omega)) (OKB.out (by rw [HM.out]; omega)))
    have MG := Lib.hid (fun W (hW : Below w5.heap.size w5 W) => P.merge ⟨a3, la, c3⟩ ⟨a4, lb, c4⟩ ⟨a3, la, c3⟩ W (S3.out _ hW) (S4.out _ hW) (S3.out _ hW) (OKA.out (by rw [HN.out]; omega)) (OKB.out (by rw [HM.out]; omega)) (OKA.out (by rw [HN.out]; omega)) (by dsimp only; rw [HN.out]; exact hc3) (by dsimp only; rw [HM.out]; exact hc4) (by dsimp only; rw [HN.out]; exact hc3))
    dsimp only at CO MG
    rw [mrg_left] at MG
    rw [HN.out, HM.out] at CO MG
    clear S3 S4 OKA OKB HN HM P
    by_cases hst : s = t
    · have HC := HF3.out hst
      have HE := (same_iff s t).2 hst
      rw [HC] at CO
      clear HF3 HF4 HC hst
      go_wp2_with fail
      refine CO.out.mono ?_
      rintro e w6 ⟨rfl, hb6⟩
      have B6 := Lib.hid hb6
      have MM := Lib.hid (MG.out w6 hb6)
      clear hb6 CO MG
      go_wp2_with fail
      refine MM.out.mono ?_
      rintro e w7 ⟨v7, rfl, hv7, hb7⟩
      have B7 := Lib.hid (bstep B6.out hb7)
      have SS := Lib.hid (ST.out v7 w7 hv7 B7.out)
      clear hv7 hb7 MM ST
      go_wp2_with fail
      refine SS.out.mono ?_
      rintro e w8 ⟨rfl, hb8⟩
      have B8 := Lib.hid (bstep B5.out (bstep B7.out hb8))
      clear hb8 SS
      go_wp2_with fail
      go_ret
      exact ⟨by first | rfl | simp, B8.out⟩
    · have HC := HF4.out hst
      have HE := same_not hst
      rw [HC] at CO
      clear HF3 HF4 HC hst
      go_wp2_with fail
      refine CO.out.mono ?_
      rintro e w6 ⟨rfl, hb6⟩
      have B6 := Lib.hid hb6
      have MM := Lib.hid (MG.out w6 hb6)
      clear hb6 CO MG
      go_wp2_with fail
      refine MM.out.mono ?_
      rintro e w7 ⟨v7, rfl, hv7, hb7⟩
      have B7 := Lib.hid (bstep B6.out hb7)
      have SS := Lib.hid (ST.out v7 w7 hv7 B7.out)
      clear hv7 hb7 MM ST
      go_wp2_with fail
      refine SS.out.mono ?_
      rintro e w8 ⟨rfl, hb8⟩
      have B8 := Lib.hid (bstep B5.out (bstep B7.out hb8))
      clear hb8 SS
      go_wp2_with fail
      go_ret
      exact ⟨by first | rfl | simp, B8.out⟩
end Go.Proofs.Ytokfnajgjhkepaa.MergeT
