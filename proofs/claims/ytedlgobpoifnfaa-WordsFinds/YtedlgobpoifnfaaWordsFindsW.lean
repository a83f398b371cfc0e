/-
  The law WordsFinds, walked.
-/
import Derived.Test.YtedlgobpoifnfaaRefFind
import Derived.Test.YtedlgobpoifnfaaSameL
namespace Go.Proofs.Ytedlgobpoifnfaa.WordR
open Go.RowKit Kit WordM LineM WordC

theorem same (v1 v2 : Value) (zs : List Int) (w : World) (h1 : IsV w v1 zs) (h2 : IsV w v2 zs) (hl : zs.length ≤ 100000) :
    Calls Try.prog 14 #[v1, v2] w fun e w' => e = .returned (.bool true) ∧ Below w.heap.size w w' :=
  SameL.same v1 v2 zs w (IsV.row h1) (IsV.row h2) (by unfold maxLen; omega)
set_option maxHeartbeats 1000000 in
theorem wordsFinds (s q : ByteArray) (w : World) (_hs : s.size ≤ 140737488351232) (hq : q.size ≤ 140737488351232) :
    Calls Try.prog 4 #[.string s, .string q] w fun e w' => e = .returned (.bool true) ∧ Below w.heap.size w w' := by
  obtain ⟨R, c, M, D, LN⟩ : ∃ R c, (∀ W, Calls Try.prog 12 #[.string s, .string q] W (IsPost W R c)) ∧ (∀ W, Calls Try.prog 13 #[.string s, .string q] W (IsPost W R c)) ∧ R.length ≤ 100000 := by
    cases hw : isWord q.data.toList
    · exact ⟨_, _, fun W => find_form s q W hq hw, fun W => wfind_form s q W hq hw, by simp⟩
    · by_cases h : 600 < s.size
      · exact ⟨_, _, fun W => find_size s q W hq hw h, fun W => wfind_size s q W hq hw h, by simp⟩
      · refine ⟨_, _, fun W => find s q W hq hw (by omega), fun W => wfind s q W hq hw (by omega), ?_⟩
        have h1 := pos_len (occ s.data.toList) q.data.toList
        have h2 := occ_len s.data.toList
        simp at h2
        omega
  have M' := Lib.hid M
  have D' := Lib.hid D
  have SA := Lib.hid (fun v1 v2 W h1 h2 => same v1 v2 R W h1 h2 LN)
  clear M D LN
  go_enter Try.func4, Try.ntmps4
  go_wp2_with fail
  refine (M'.out _).mono ?_
  rintro e w1 ⟨v1, rfl, hk1⟩
  have B1 := Lib.hid hk1.bel
  have V1 := Lib.hid hk1.val
  clear hk1 M'
  go_wp2_with fail
  refine (D'.out _).mono ?_
  rintro e w2 ⟨v2, rfl, hk2⟩
  have B2 := Lib.hid (bstep B1.out hk2.bel)
  have SS := Lib.hid (SA.out v1 v2 w2 (V1.out.next hk2.bel) hk2.val)
  clear hk2 D' SA V1
  go_wp2_with fail
  refine SS.out.mono ?_
  rintro e w3 ⟨rfl, hb3⟩
  have B3 := Lib.hid (bstep B2.out hb3)
  clear hb3 SS
  go_wp2_with fail
  go_ret
  exact ⟨by first | rfl | simp, B3.out⟩
end Go.Proofs.Ytedlgobpoifnfaa.WordR
