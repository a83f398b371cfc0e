/-
  The laws FindAlls and FindBorders, walked.
-/
import Derived.Test.YtkiebkjndmcddaaFindAllP
import Derived.Test.YtkiebkjndmcddaaRefBorder
import Derived.Test.YtkiebkjndmcddaaSameL
namespace Go.Proofs.Ytkiebkjndmcddaa.FindP
open Go.RowKit Kit LineM FindM FindR EditM

theorem same (v1 v2 : Value) (zs : List Int) (w : World) (h1 : IsV w v1 zs) (h2 : IsV w v2 zs) (hl : zs.length ≤ 100000) :
    Calls Try.prog 14 #[v1, v2] w fun e w' => e = .returned (.bool true) ∧ Below w.heap.size w w' :=
  SameL.same v1 v2 zs w (IsV.row h1) (IsV.row h2) (by unfold maxLen; omega)
set_option maxHeartbeats 1000000 in
theorem findAlls (t f : ByteArray) (w : World) (_ : t.size ≤ maxLen) (_ : f.size ≤ maxLen) :
    Calls Try.prog 3 #[.string t, .string f] w fun e w' => e = .returned (.bool true) ∧ Below w.heap.size w w' := by
  obtain ⟨R, c, M, D, LN⟩ : ∃ R c, (∀ W, Calls Try.prog 12 #[.string t, .string f] W (IrPost W R c)) ∧ (∀ W, Calls Try.prog 13 #[.string t, .string f] W (IsPost W R c)) ∧ R.length ≤ 100000 := by
    by_cases h : ffault t.size f.size = 0
    · refine ⟨_, _, fun W => all_ok t f W h, fun W => findAll t f W h, ?_⟩
      have h1 := hits_len t.data.toList f.data.toList
      rw [size_list] at h1
      have h2 := (ffault_ok h).1
      simp only [ints, List.length_map]; omega
    · exact ⟨_, _, fun W => all_no t f W h, fun W => findAll_no t f W h, by simp⟩
  have M' := Lib.hid M
  have D' := Lib.hid D
  have SA := Lib.hid (fun v1 v2 W h1 h2 => same v1 v2 R W h1 h2 LN)
  clear M D LN
  go_enter Try.func3, Try.ntmps3
  go_wp2_with fail
  refine (M'.out _).mono ?_
  rintro e w1 ⟨v1, rfl, hv1, hb1⟩
  have B1 := Lib.hid hb1
  have V1 := Lib.hid hv1
  clear hv1 hb1 M'
  go_wp2_with fail
  refine (D'.out _).mono ?_
  rintro e w2 ⟨v2, rfl, hk2⟩
  have B2 := Lib.hid (bstep B1.out hk2.bel)
  have SS := Lib.hid (SA.out v1 v2 w2 (V1.out.next hk2.bel) hk2.val)
  clear hk2 D' SA V1
  go_wp2_with fail
  refine SS.out.mono ?_
  rintro e w3 ⟨rfl, hb3⟩
  have B3 := Lib.hid (bstep B2.out hb3)
  clear hb3 SS
  go_wp2_with fail
  go_ret
  exact ⟨by first | rfl | simp, B3.out⟩
set_option maxHeartbeats 1000000 in
theorem findBorders (s : ByteArray) (w : World) (_ : s.size ≤ maxLen) :
    Calls Try.prog 4 #[.string s] w fun e w' => e = .returned (.bool true) ∧ Below w.heap.size w w' := by
  obtain ⟨R, c, M, D, LN⟩ : ∃ R c, (∀ W, Calls Try.prog 15 #[.string s] W (IrPost W R c)) ∧ (∀ W, Calls Try.prog 16 #[.string s] W (IsPost W R c)) ∧ R.length ≤ 100000 := by
    by_cases h : 600 < s.size
    · exact ⟨_, _, fun W => border_no s W h, fun W => findBorder_no s W h, by simp⟩
    · refine ⟨_, _, fun W => border s W (by omega), fun W => findBorder s W (by omega), ?_⟩
      simp only [ints, List.length_map, bords_len]; omega
  have M' := Lib.hid M
  have D' := Lib.hid D
  have SA := Lib.hid (fun v1 v2 W h1 h2 => same v1 v2 R W h1 h2 LN)
  clear M D LN
  go_enter Try.func4, Try.ntmps4
  go_wp2_with fail
  refine (M'.out _).mono ?_
  rintro e w1 ⟨v1, rfl, hv1, hb1⟩
  have B1 := Lib.hid hb1
  have V1 := Lib.hid hv1
  clear hv1 hb1 M'
  go_wp2_with fail
  refine (D'.out _).mono ?_
  rintro e w2 ⟨v2, rfl, hk2⟩
  have B2 := Lib.hid (bstep B1.out hk2.bel)
  have SS := Lib.hid (SA.out v1 v2 w2 (V1.out.next hk2.bel) hk2.val)
  clear hk2 D' SA V1
  go_wp2_with fail
  refine SS.out.mono ?_
  rintro e w3 ⟨rfl, hb3⟩
  have B3 := Lib.hid (bstep B2.out hb3)
  clear hb3 SS
  go_wp2_with fail
  go_ret
  exact ⟨by first | rfl | simp, B3.out⟩
end Go.Proofs.Ytkiebkjndmcddaa.FindP
