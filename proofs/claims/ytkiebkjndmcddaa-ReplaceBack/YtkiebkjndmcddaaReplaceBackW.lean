/-
  The law ReplaceBack, walked.
-/
import Derived.Test.YtkiebkjndmcddaaFindJustW
import Derived.Test.YtkiebkjndmcddaaFindLawsB
namespace Go.Proofs.Ytkiebkjndmcddaa.FindK
open Go.RowKit Kit LineM FindM FindR FindP EditM FewT Lift Txt

theorem size_b (F : ByteArray) : (F ++ ⟨#[98]⟩ : ByteArray).size = F.size + 1 := by rw [ByteArray.size_append]; rfl
theorem str_self (s : ByteArray) : str s.data.toList = s := str_list s
/-- replaced within the bounds -/
theorem rep_ok (t f p : ByteArray) (W : World) (ht : t.size ≤ 600) (hf : f.size ≤ 20) (h0 : 0 < f.size) (hp : p.size ≤ 1000) (hr : (rep f.data.toList p.data.toList t.data.toList).1.length ≤ 600) : Calls Try.prog 17 #[.string t, .string f, .string p] W (RqPost W (str (rep f.data.toList p.data.toList t.data.toList).1) (rep f.data.toList p.data.toList t.data.toList).2 0) :=
  (replace t f p W (by unfold ffault; rw [if_neg (by omega), if_neg (by omega)]) (by omega)).mono fun _ _ h => h.ok hr
/-- what is put and taken back -/
structure BackF (s f : ByteArray) (T : ByteArray) (n : Nat) (M : Int) : Prop where
  put : ∀ W, Calls Try.prog 17 #[.string s, .string f, .string ⟨#[35]⟩] W (RqPost W T n 0)
  back : ∀ W, Calls Try.prog 17 #[.string T, .string ⟨#[35]⟩, .string f] W (RqPost W s n 0)
  left : ∀ W, Calls Try.prog 12 #[.string T, .string ⟨#[35]⟩] W (LnPost n W)
  n60 : n ≤ 60
  mul : (n : Int) * ((f.size : Int) - 1) = M
  size : (s.size : Int) - M = (T.size : Int)
  t60 : T.size ≤ 60
theorem backF (s f : ByteArray) (hs : s.size ≤ 60) (hf : f.size ≤ 20) (h0 : 0 < f.size) (hno : (35 : UInt8) ∉ s.data.toList) : ∃ T n M, BackF s f T n M := by
  have hne : f.data.toList ≠ [] := fun e => by have := size_list f; rw [e] at this; simp at this; omega
  have hl := rep_len (p := [35]) hne s.data.toList
  have hle := rep_le (p := [35]) hne s.data.toList
  have hhl := hits_len s.data.toList f.data.toList
  have hb := rep_back (h := 35) hne s.data.toList hno
  have hsg := rep_signs (h := 35) hne s.data.toList hno
  rw [size_list] at hhl
  rw [size_list, size_list] at hl
  obtain ⟨R, n, hR⟩ : ∃ R n, rep f.data.toList [35] s.data.toList = (R, n) := ⟨_, _, rfl⟩
  rw [hR] at hl hle hb hsg
  dsimp only at hl hle hb hsg
  have hTl : (str R).data.toList = R := list_str R
  have hTs : (str R).size = R.length := by rw [← size_list, hTl]
  have hnf : n ≤ n * f.size := Nat.le_mul_of_pos_right n h0
  simp only [List.length_singleton, Nat.mul_one] at hl
  refine ⟨str R, n, (n : Int) * ((f.size : Int) - 1), fun W => ?_, fun W => ?_, fun W => ?_, by omega, rfl, ?_, by rw [hTs]; omega⟩
  · have h35 : (⟨#[35]⟩ : ByteArray).data.toList = [35] := rfl
    have := rep_ok s f ⟨#[35]⟩ W (by omega) hf h0 (by decide) (by rw [h35, hR]; dsimp only; omega)
    rw [h35, hR] at this
    exact this
  · have h35 : (⟨#[35]⟩ : ByteArray).data.toList = [35] := rfl
    have := rep_ok (str R) ⟨#[35]⟩ f W (by rw [hTs]; omega) (by decide) (by decide) (by omega) (by rw [h35, hTl, hb]; dsimp only; rw [size_list]; omega)
    rw [h35, hTl, hb] at this
    dsimp only at this
    rw [str_self] at this
    exact this
  · have h35 : (⟨#[35]⟩ : ByteArray).data.toList = [35] := rfl
    have := all_len (str R) ⟨#[35]⟩ W (by rw [hTs]; omega) (by decide) (by decide)
    rw [h35, hTl, hits_one, hsg] at this
    exact this
  · rw [hTs, Int.mul_sub, Int.mul_one]
    have h1 : (R.length : Int) + (n : Int) * (f.size : Int) = (s.size : Int) + (n : Int) := by exact_mod_cast hl
    generalize (n : Int) * (f.size : Int) = a at *
    omega
theorem no_sign {zs : List Int} : (35 : UInt8) ∉ (fewS zs).data.toList := fun h => by
  rw [fewS_list] at h
  rcases few_ab h with h | h <;> cases h
set_option maxRecDepth 100000 in
set_option maxHeartbeats 8000000 in
theorem replaceBack (a0 : Option Addr) (len0 cap0 : Nat) (zs : List Int) (a1 : Option Addr) (len1 cap1 : Nat) (ys : List Int) (w : World) (h0 : IsRow .i64 w a0 len0 cap0 zs) (h1 : IsRow .i64 w a1 len1 cap1 ys) :
    Calls Try.prog 9 #[.slice a0 len0 cap0, .slice a1 len1 cap1] w fun e w' => e = .returned (.bool true) ∧ Below w.heap.size w w' := by
  have FW := Lib.hid (few a0 len0 cap0 zs 60 w h0 (by omega))
  have FV := Lib.hid (fun W (hW : Below w.heap.size w W) => few a1 len1 cap1 ys 3 W (row_next' h1 hW) (by omega))
  have hsz : (fewS ((zs.take len0).take 60)).size ≤ 60 := by rw [fewS_size]; simp only [List.length_take]; omega
  have hfz : (fewS ((ys.take len1).take 3)).size ≤ 3 := by rw [fewS_size]; simp only [List.length_take]; omega
  have hno : (35 : UInt8) ∉ (fewS ((zs.take len0).take 60)).data.toList := no_sign
  clear h0 h1
  generalize fewS ((zs.take len0).take 60) = s at *
  generalize fewS ((ys.take len1).take 3) = F at *
  have hf1 : F.size + 1 ≤ 140737488355328 := by omega
  have hF1 : 0 < (F ++ ⟨#[98]⟩ : ByteArray).size := by rw [size_b]; omega
  have hF2 : (F ++ ⟨#[98]⟩ : ByteArray).size ≤ 4 := by rw [size_b]; omega
  have SU := Lib.hid (fun W => findSure W)
  go_enter Try.func9, Try.ntmps9
  go_wp2_with fail
  refine FW.out.mono ?_
  rintro e w1 ⟨rfl, hb1⟩
  have B1 := Lib.hid hb1
  have FV1 := Lib.hid (FV.out w1 hb1)
  clear hb1 FW FV
  go_wp2_with fail
  refine FV1.out.mono ?_
  rintro e w2 ⟨rfl, hb2⟩
  have B2 := Lib.hid (bstep B1.out hb2)
  clear hb2 FV1 B1
  go_wp2_with fail
  generalize (F ++ ⟨#[98]⟩ : ByteArray) = f at *
  obtain ⟨T, n, M, hF⟩ := backF s f hsz (by omega) hF1 hno
  have P1 := Lib.hid hF.put
  have P2 := Lib.hid hF.back
  have P3 := Lib.hid hF.left
  have n60 := hF.n60
  have mul := hF.mul
  have hsi := hF.size
  have t60 := hF.t60
  have r1 : IntKind.i64.wrap ((f.size : Int) - 1) = (f.size : Int) - 1 := IntWalk.i64_in _ (by omega)
  have r2 : IntKind.i64.wrap ((n : Int) * ((f.size : Int) - 1)) = M := by rw [mul]; exact IntWalk.i64_in _ (by omega)
  have r3 : IntKind.i64.wrap ((s.size : Int) - M) = (T.size : Int) := by rw [hsi]; exact IntWalk.i64_in _ (by omega)
  clear hF mul hsi
  refine (P1.out _).mono ?_
  rintro e w3 ⟨rfl, hb3⟩
  have B3 := Lib.hid (bstep B2.out hb3)
  clear hb3 P1 B2
  go_wp2_with fail
  refine (P2.out _).mono ?_
  rintro e w4 ⟨rfl, hb4⟩
  have B4 := Lib.hid (bstep B3.out hb4)
  clear hb4 P2 B3
  go_wp2_with fail
  refine (P3.out _).mono ?_
  rintro e w5 ⟨a5, c5, rfl, hb5⟩
  have B5 := Lib.hid (bstep B4.out hb5)
  clear hb5 P3 B4
  go_wp2_with fail
  refine (SU.out _).mono ?_
  rintro e w6 ⟨rfl, hb6⟩
  have B6 := Lib.hid (bstep B5.out hb6)
  clear hb6 SU B5
  go_wp2_with fail
  go_ret
  exact ⟨by first | rfl | simp, B6.out⟩
end Go.Proofs.Ytkiebkjndmcddaa.FindK
