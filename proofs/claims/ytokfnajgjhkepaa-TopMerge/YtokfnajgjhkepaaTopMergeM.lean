/-
  What the law TopMerge says on plain data: letters put into a text, its lines before and after. The program is not named.
-/
import Derived.Test.YtokfnajgjhkepaaCutPut
import Derived.Test.YtokfnajgjhkepaaBnd2
namespace Go.Proofs.Ytokfnajgjhkepaa.TopMM
open LinesM PosM EditM DiffM DiffA StrM Go.RowKit Kit

/-- the lines of a text, as strings -/
def linesS (l : List UInt8) : List ByteArray := (cut l).map str
theorem linesS_len (l : List UInt8) : (linesS l).length = lns l + 1 := by unfold linesS; rw [List.length_map, cut_length]
theorem linesS_ok {l : List UInt8} (h : (linesS l).length ≤ 80) (hl : l.length ≤ 600) : okL (linesS l) := ⟨h, fun s hs => by
  obtain ⟨x, hx, rfl⟩ := List.mem_map.1 hs
  rw [size_str]
  have := cut_small l x hx
  omega⟩
theorem flat_sc : ∀ l : List (List UInt8), flatC sc (l.map str) = l.map fun x => Value.string ⟨x.toArray⟩
  | [] => rfl
  | x :: l => by
    have := flat_sc l
    rw [List.map_cons, flatC_cons, this]; rfl
/-- with letters put in, the lines are as many, and one of them is another, if any letter is put in -/
theorem put_lines (S P : List UInt8) (k : Nat) (hp : lns P = 0) : (linesS (made S k 0 P)).length = (linesS S).length ∧ (P ≠ [] → cost (linesS S) (linesS (made S k 0 P)) = 2) := by
  have hm : made S k 0 P = S.take k ++ P ++ S.drop k := rfl
  obtain ⟨i, r, z, y, h1, h2⟩ := cut_put (cut_clean hp) (S.take k) (S.drop k)
  rw [List.take_append_drop] at h1
  rw [← hm] at h2
  unfold linesS
  rw [h1, h2]
  refine ⟨by simp, fun hP => ?_⟩
  simp only [List.map_append, List.map_cons, List.map_nil]
  apply cost_mid
  intro e
  have := congrArg List.length (str_inj e)
  simp only [List.length_append] at this
  have h0 : P.length ≠ 0 := fun h => hP (List.length_eq_zero_iff.1 h)
  omega
theorem put_self (s : ByteArray) (k : Nat) : str (made s.data.toList k 0 []) = s := by
  have : made s.data.toList k 0 [] = s.data.toList := by
    show s.data.toList.take k ++ [] ++ s.data.toList.drop (k + 0) = _
    simp
  rw [this, str_list]
/-- all that the law says of a text, its letters put in, and the two lists of lines -/
structure TopF (s t : ByteArray) (la lb : List ByteArray) : Prop where
  len : la.length = lb.length
  alen : la.length ≤ s.size + 1
  same : s = t → cost la lb = 0
  other : s ≠ t → cost la lb = 2
theorem topF (s p : ByteArray) (k : Nat) (hp : lns p.data.toList = 0) : TopF s (str (made s.data.toList k 0 p.data.toList)) (linesS s.data.toList) (linesS (made s.data.toList k 0 p.data.toList)) := by
  have h := put_lines s.data.toList p.data.toList k hp
  refine ⟨h.1.symm, ?_, fun e => ?_, fun e => h.2 fun e2 => e ?_⟩
  · rw [linesS_len]
    have : lns s.data.toList ≤ s.data.toList.length := by unfold lns; exact List.count_le_length
    rw [size_list] at this
    omega
  · have h2 : s.data.toList = (str (made s.data.toList k 0 p.data.toList)).data.toList := by rw [← e]
    rw [list_str] at h2
    rw [← h2]
    exact cost_self _
  · rw [e2, put_self]
end Go.Proofs.Ytokfnajgjhkepaa.TopMM
