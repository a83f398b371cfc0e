/-
  The law FindReplaces, walked.
-/
import Derived.Test.YtkiebkjndmcddaaFindRepl
namespace Go.Proofs.Ytkiebkjndmcddaa.FindP
open Go.RowKit Kit LineM FindM FindR EditM

theorem replaced (t f p : ByteArray) (hp : p.size ≤ 140737488351232) : ∃ (s : List UInt8) (n c : Int), (∀ W, Calls Try.prog 17 #[.string t, .string f, .string p] W (RpPost W s n c)) ∧ ∀ W, Calls Try.prog 18 #[.string t, .string f, .string p] W (RpPost W s n c) := by
  by_cases h : ffault t.size f.size = 0
  · by_cases hb : 600 < (rep f.data.toList p.data.toList t.data.toList).1.length
    · exact ⟨_, _, _, fun W => (replace t f p W h hp).mono fun e w' h => h.big hb, fun W => (findReplace t f p W h hp).mono fun e w' h => h.big hb⟩
    · exact ⟨_, _, _, fun W => (replace t f p W h hp).mono fun e w' h => h.ok (by omega), fun W => (findReplace t f p W h hp).mono fun e w' h => h.ok (by omega)⟩
  · exact ⟨_, _, _, fun W => replace_no t f p W h, fun W => findReplace_no t f p W h⟩
def RqPost (w : World) (x : ByteArray) (n c : Int) (e : Ending) (w' : World) : Prop := e = .returned (.tuple #[.string x, .int .i64 n, .int .i64 c]) ∧ Below w.heap.size w w'
theorem replaced_q (t f p : ByteArray) (hp : p.size ≤ 140737488351232) : ∃ (x : ByteArray) (n c : Int), (∀ W, Calls Try.prog 17 #[.string t, .string f, .string p] W (RqPost W x n c)) ∧ ∀ W, Calls Try.prog 18 #[.string t, .string f, .string p] W (RqPost W x n c) := by
  obtain ⟨s, n, c, M, D⟩ := replaced t f p hp
  exact ⟨str s, n, c, M, D⟩
set_option maxHeartbeats 1000000 in
theorem findReplaces (t f p : ByteArray) (w : World) (_ : t.size ≤ maxLen) (_ : f.size ≤ maxLen) (hp : p.size ≤ 140737488351232) :
    Calls Try.prog 5 #[.string t, .string f, .string p] w fun e w' => e = .returned (.bool true) ∧ Below w.heap.size w w' := by
  obtain ⟨x, n, c, M, D⟩ := replaced_q t f p hp
  have M' := Lib.hid M
  have D' := Lib.hid D
  clear M D hp
  go_enter Try.func5, Try.ntmps5
  go_wp2_with fail
  refine (M'.out _).mono ?_
  rintro e w1 ⟨rfl, hb1⟩
  have B1 := Lib.hid hb1
  clear hb1 M'
  go_wp2_with fail
  refine (D'.out _).mono ?_
  rintro e w2 ⟨rfl, hb2⟩
  have B2 := Lib.hid (bstep B1.out hb2)
  clear hb2 D'
  go_wp2_with fail
  go_ret
  exact ⟨by first | rfl | simp, B2.out⟩
end Go.Proofs.Ytkiebkjndmcddaa.FindP
