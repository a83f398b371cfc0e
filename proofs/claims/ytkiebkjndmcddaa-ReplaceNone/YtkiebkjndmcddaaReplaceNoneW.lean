/-
  The law ReplaceNone, walked.
-/
import Derived.Test.YtkiebkjndmcddaaReplaceBackW
namespace Go.Proofs.Ytkiebkjndmcddaa.FindK
open Go.RowKit Kit LineM FindM FindR FindP EditM FewT Lift Txt

theorem size_ab (F : ByteArray) : (F ++ ⟨#[97, 98]⟩ : ByteArray).size = F.size + 2 := by rw [ByteArray.size_append]; rfl
/-- what is replaced by itself, and by a sign -/
structure NoneF (s f : ByteArray) (U : ByteArray) (n m : Nat) : Prop where
  self : ∀ W, Calls Try.prog 17 #[.string s, .string f, .string f] W (RqPost W s n 0)
  sign : ∀ W, Calls Try.prog 17 #[.string s, .string f, .string ⟨#[35]⟩] W (RqPost W U n 0)
  left : ∀ W, Calls Try.prog 12 #[.string U, .string f] W (LnPost 0 W)
  all : ∀ W, Calls Try.prog 12 #[.string s, .string f] W (LnPost m W)
  le : n ≤ m
  pos : 0 < m → 0 < n
  m80 : m ≤ 80
theorem noneF (s f : ByteArray) (hs : s.size ≤ 80) (hf : f.size ≤ 20) (h0 : 0 < f.size) (hno : (35 : UInt8) ∉ f.data.toList) : ∃ U n m, NoneF s f U n m := by
  have hne : f.data.toList ≠ [] := fun e => by have := size_list f; rw [e] at this; simp at this; omega
  have hl := rep_len (p := [35]) hne s.data.toList
  have hle := rep_le (p := [35]) hne s.data.toList
  have hps := rep_pos (p := [35]) hne s.data.toList
  have hhl := hits_len s.data.toList f.data.toList
  have hct := rep_count hne f.data.toList [35] s.data.toList
  have hsf := rep_self hne s.data.toList
  have hnn := rep_none (h := 35) hne hno s.data.toList
  rw [size_list] at hhl
  rw [size_list, size_list] at hl
  obtain ⟨R, n, hR⟩ : ∃ R n, rep f.data.toList [35] s.data.toList = (R, n) := ⟨_, _, rfl⟩
  rw [hR] at hl hle hps hct hnn
  dsimp only at hl hle hps hct hnn
  have hTl : (str R).data.toList = R := list_str R
  have hTs : (str R).size = R.length := by rw [← size_list, hTl]
  have hnf : n ≤ n * f.size := Nat.le_mul_of_pos_right n h0
  simp only [List.length_singleton, Nat.mul_one] at hl
  have h35 : (⟨#[35]⟩ : ByteArray).data.toList = [35] := rfl
  refine ⟨str R, n, _, fun W => ?_, fun W => ?_, fun W => ?_, fun W => all_len s f W (by omega) hf h0, hle, hps, by omega⟩
  · have := rep_ok s f f W (by omega) hf h0 (by omega) (by rw [hsf, size_list]; omega)
    rw [hsf, hct, str_self] at this
    exact this
  · have := rep_ok s f ⟨#[35]⟩ W (by omega) hf h0 (by decide) (by rw [h35, hR]; dsimp only; omega)
    rw [h35, hR] at this
    exact this
  · have := all_len (str R) f W (by rw [hTs]; omega) hf h0
    have hz : hits R f.data.toList = [] := by
      rw [List.eq_nil_iff_forall_not_mem]
      intro i hi
      have h1 := (mem_hits hne).1 hi
      rw [hnn i] at h1; cases h1
    rw [hTl, hz] at this
    exact this
set_option maxRecDepth 100000 in
set_option maxHeartbeats 8000000 in
theorem replaceNone (a0 : Option Addr) (len0 cap0 : Nat) (zs : List Int) (a1 : Option Addr) (len1 cap1 : Nat) (ys : List Int) (w : World) (h0 : IsRow .i64 w a0 len0 cap0 zs) (h1 : IsRow .i64 w a1 len1 cap1 ys) :
    Calls Try.prog 11 #[.slice a0 len0 cap0, .slice a1 len1 cap1] w fun e w' => e = .returned (.bool true) ∧ Below w.heap.size w w' := by
  have FW := Lib.hid (few a0 len0 cap0 zs 80 w h0 (by omega))
  have FV := Lib.hid (fun W (hW : Below w.heap.size w W) => few a1 len1 cap1 ys 3 W (row_next' h1 hW) (by omega))
  have hsz : (fewS ((zs.take len0).take 80)).size ≤ 80 := by rw [fewS_size]; simp only [List.length_take]; omega
  have hfz : (fewS ((ys.take len1).take 3)).size ≤ 3 := by rw [fewS_size]; simp only [List.length_take]; omega
  have hno : (35 : UInt8) ∉ (fewS ((ys.take len1).take 3) ++ ⟨#[97, 98]⟩ : ByteArray).data.toList := fun h => by
    rw [ByteArray.data_append, Array.toList_append] at h
    rcases List.mem_append.1 h with h | h
    · exact no_sign h
    · simp at h
  clear h0 h1
  generalize fewS ((zs.take len0).take 80) = s at *
  generalize fewS ((ys.take len1).take 3) = F at *
  have hf1 : F.size + 2 ≤ 140737488355328 := by omega
  have hF1 : 0 < (F ++ ⟨#[97, 98]⟩ : ByteArray).size := by rw [size_ab]; omega
  have hF2 : (F ++ ⟨#[97, 98]⟩ : ByteArray).size ≤ 5 := by rw [size_ab]; omega
  have SU := Lib.hid (fun W => findSure W)
  go_enter Try.func11, Try.ntmps11
  go_wp2_with fail
  refine FW.out.mono ?_
  rintro e w1 ⟨rfl, hb1⟩
  have B1 := Lib.hid hb1
  have FV1 := Lib.hid (FV.out w1 hb1)
  clear hb1 FW FV
  go_wp2_with fail
  refine FV1.out.mono ?_
  rintro e w2 ⟨rfl, hb2⟩
  have B2 := Lib.hid (bstep B1.out hb2)
  clear hb2 FV1 B1
  go_wp2_with fail
  generalize (F ++ ⟨#[97, 98]⟩ : ByteArray) = f at *
  obtain ⟨U, n, m, hF⟩ := noneF s f hsz (by omega) hF1 hno
  have P1 := Lib.hid hF.self
  have P2 := Lib.hid hF.sign
  have P3 := Lib.hid hF.left
  have P4 := Lib.hid hF.all
  have hle := hF.le
  have hpos := hF.pos
  have m80 := hF.m80
  have q1 : (n : Int) ≤ (m : Int) := by omega
  have q2 : decide ((n : Int) ≤ (m : Int)) = true := decide_eq_true q1
  clear hF
  refine (P1.out _).mono ?_
  rintro e w3 ⟨rfl, hb3⟩
  have B3 := Lib.hid (bstep B2.out hb3)
  clear hb3 P1 B2
  go_wp2_with fail
  refine (P2.out _).mono ?_
  rintro e w4 ⟨rfl, hb4⟩
  have B4 := Lib.hid (bstep B3.out hb4)
  clear hb4 P2 B3
  go_wp2_with fail
  refine (P3.out _).mono ?_
  rintro e w5 ⟨a5, c5, rfl, hb5⟩
  have B5 := Lib.hid (bstep B4.out hb5)
  clear hb5 P3 B4
  go_wp2_with fail
  refine (P4.out _).mono ?_
  rintro e w6 ⟨a6, c6, rfl, hb6⟩
  have B6 := Lib.hid (bstep B5.out hb6)
  clear hb6 P4 B5
  go_wp2_with fail
  refine (SU.out _).mono ?_
  rintro e w7 ⟨rfl, hb7⟩
  have B7 := Lib.hid (bstep B6.out hb7)
  clear hb7 SU B6
  by_cases hm : 0 < m
  · have hn := hpos hm
    have q3 : decide ((n : Int) > 0) = true := decide_eq_true (by omega)
    have q4 : decide ((m : Int) > 0) = true := decide_eq_true (by omega)
    clear hpos
    go_wp2_with fail
    go_ret
    exact ⟨by first | rfl | simp, B7.out⟩
  · have hn : ¬ 0 < n := by omega
    have q3 : decide ((n : Int) > 0) = false := decide_eq_false (by omega)
    have q4 : decide ((m : Int) > 0) = false := decide_eq_false (by omega)
    clear hpos
    go_wp2_with fail
    go_ret
    exact ⟨by first | rfl | simp, B7.out⟩
end Go.Proofs.Ytkiebkjndmcddaa.FindK
