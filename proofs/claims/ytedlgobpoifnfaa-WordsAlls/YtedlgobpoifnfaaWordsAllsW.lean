/-
  The law WordsAlls, walked.
-/
import Derived.Test.YtedlgobpoifnfaaWordAll
import Derived.Test.YtedlgobpoifnfaaRefAll
import Derived.Test.YtedlgobpoifnfaaRefSameW
namespace Go.Proofs.Ytedlgobpoifnfaa.WordR
open Go.RowKit Kit WordM LineM WordC

theorem ix_small (s : ByteArray) (h : s.size ≤ 600) : (ix s.data.toList).length ≤ 600 ∧ ∀ p ∈ ix s.data.toList, p.2.length ≤ 600 := by
  have hs : s.data.toList.length ≤ 600 := by simpa using h
  exact ⟨Nat.le_trans (ix_len _) hs, fun p hp => Nat.le_trans (ix_places _ p hp) hs⟩
theorem sameWords_self (va vb : Value) (l : List (List UInt8 × List Int)) (w : World) (h1 : WsV w va l) (h2 : WsV w vb l) (hl : l.length ≤ 600) (hp : ∀ p ∈ l, p.2.length ≤ 600) :
    Calls Try.prog 11 #[va, vb] w fun e w' => e = .returned (.bool true) ∧ Below w.heap.size w w' := by
  have h := sameWords va vb l l w h1.weak h2.weak hl hp
  have e1 : decide (l = l) = true := decide_eq_true rfl
  rw [e1] at h
  exact h
set_option maxHeartbeats 1000000 in
theorem wordsAlls (s : ByteArray) (w : World) (_hs : s.size ≤ maxLen) :
    Calls Try.prog 3 #[.string s] w fun e w' => e = .returned (.bool true) ∧ Below w.heap.size w w' := by
  obtain ⟨R, c, M, D, LN, LP⟩ : ∃ R c, (∀ W, Calls Try.prog 9 #[.string s] W (WcPost W R c)) ∧ (∀ W, Calls Try.prog 10 #[.string s] W (WcPost W R c)) ∧ R.length ≤ 600 ∧ ∀ p ∈ R, p.2.length ≤ 600 := by
    by_cases h : 600 < s.size
    · exact ⟨_, _, fun W => all_size s W h, fun W => wall_size s W h, by simp, fun p hp => by simp at hp⟩
    · obtain ⟨h1, h2⟩ := ix_small s (by omega)
      exact ⟨_, _, fun W => all s W (by omega), fun W => wall s W (by omega), h1, h2⟩
  have M' := Lib.hid M
  have D' := Lib.hid D
  have SA := Lib.hid (fun v1 v2 W h1 h2 => sameWords_self v1 v2 R W h1 h2 LN LP)
  clear M D LN LP
  go_enter Try.func3, Try.ntmps3
  go_wp2_with fail
  refine (M'.out _).mono ?_
  rintro e w1 ⟨v1, rfl, hk1, hb1⟩
  have B1 := Lib.hid hb1
  have V1 := Lib.hid hk1
  clear hk1 hb1 M'
  go_wp2_with fail
  refine (D'.out _).mono ?_
  rintro e w2 ⟨v2, rfl, hk2, hb2⟩
  have B2 := Lib.hid (bstep B1.out hb2)
  have SS := Lib.hid (SA.out v1 v2 w2 (V1.out.next hb2) hk2)
  clear hk2 hb2 D' SA V1
  go_wp2_with fail
  refine SS.out.mono ?_
  rintro e w3 ⟨rfl, hb3⟩
  have B3 := Lib.hid (bstep B2.out hb3)
  clear hb3 SS
  go_wp2_with fail
  go_ret
  exact ⟨by first | rfl | simp, B3.out⟩
end Go.Proofs.Ytedlgobpoifnfaa.WordR
