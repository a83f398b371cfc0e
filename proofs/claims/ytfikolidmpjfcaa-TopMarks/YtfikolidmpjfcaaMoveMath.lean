/-
  Marks moved by edits, on plain data. No program is named.
-/
import Derived.Test.YtfikolidmpjfcaaMarkAt
namespace Go.Proofs.Ytfikolidmpjfcaa.MarkM
open Go.RowKit Kit EditM

/-- where a mark is behind an edit -/
def plc (e : EdM) (m : MkM) : MkM := ⟨placed e.at_ e.cut e.put.size m.at_ m.right, m.right⟩
/-- .. behind some edits -/
def mvd (l : List EdM) (m : MkM) : MkM := l.foldl (fun m e => plc e m) m
/-- the size behind some edits -/
def szN (l : List EdM) (n : Int) : Int := l.foldl (fun n e => n - e.cut + e.put.size) n
/-- the first error -/
def szC : List EdM → Int → Int
  | [], _ => 0
  | e :: l, n => if fault n e.at_ e.cut e.put.size = 0 then szC l (n - e.cut + e.put.size) else fault n e.at_ e.cut e.put.size
theorem mvd_append (l m : List EdM) (x : MkM) : mvd (l ++ m) x = mvd m (mvd l x) := by simp [mvd]
theorem szN_append (l m : List EdM) (n : Int) : szN (l ++ m) n = szN m (szN l n) := by simp [szN]
theorem szC_append (l m : List EdM) (n : Int) (h : szC l n = 0) : szC (l ++ m) n = szC m (szN l n) := by
  induction l generalizing n with
  | nil => rfl
  | cons e l ih =>
    by_cases h0 : fault n e.at_ e.cut e.put.size = 0
    · simp only [szC, if_pos h0, List.cons_append] at h ⊢
      exact ih _ h
    · simp only [szC, if_neg h0] at h; exact absurd h h0
theorem szC_at {l : List EdM} {i : Nat} {e : EdM} {n : Int} (h : l[i]? = some e) (h0 : szC (l.take i) n = 0) (hf : fault (szN (l.take i) n) e.at_ e.cut e.put.size ≠ 0) : szC l n = fault (szN (l.take i) n) e.at_ e.cut e.put.size := by
  conv => lhs; rw [← List.take_append_drop i l]
  rw [szC_append _ _ _ h0, drop_next h]
  simp only [szC, if_neg hf]
theorem szC_next {l : List EdM} {i : Nat} {e : EdM} {n : Int} (h : l[i]? = some e) (h0 : szC (l.take i) n = 0) (hf : fault (szN (l.take i) n) e.at_ e.cut e.put.size = 0) : szC (l.take (i + 1)) n = 0 := by
  rw [take_next h, szC_append _ _ _ h0]
  simp only [szC, if_pos hf]
theorem szN_next {l : List EdM} {i : Nat} {e : EdM} {n : Int} (h : l[i]? = some e) : szN (l.take (i + 1)) n = szN (l.take i) n - e.cut + e.put.size := by
  rw [take_next h, szN_append]; rfl
theorem mvd_next {l : List EdM} {i : Nat} {e : EdM} (h : l[i]? = some e) (m : MkM) : mvd (l.take (i + 1)) m = plc e (mvd (l.take i) m) := by
  rw [take_next h, mvd_append]; rfl
/-- a mark in a text of n bytes -/
def MkM.in_ (m : MkM) (n : Int) : Prop := 0 ≤ m.at_ ∧ m.at_ ≤ n
theorem plc_in {e : EdM} {m : MkM} {n : Int} (hf : fault n e.at_ e.cut e.put.size = 0) (hm : m.in_ n) : (plc e m).in_ (n - e.cut + e.put.size) := by
  obtain ⟨h1, h2, h3, h4, h5, h6⟩ := fault_zero.1 hf
  obtain ⟨m1, m2⟩ := hm
  unfold MkM.in_ plc placed
  dsimp only
  split
  · omega
  · split
    · cases m.right <;> simp <;> omega
    · omega
theorem szN_ok {l : List EdM} {n : Int} (h : szC l n = 0) (h0 : 0 ≤ n) (h1 : n ≤ 600) : 0 ≤ szN l n ∧ szN l n ≤ 600 := by
  induction l generalizing n with
  | nil => exact ⟨h0, h1⟩
  | cons e l ih =>
    by_cases hf : fault n e.at_ e.cut e.put.size = 0
    · simp only [szC, if_pos hf] at h
      obtain ⟨_, _, _, _, _, _⟩ := fault_zero.1 hf
      exact ih (n := n - e.cut + e.put.size) h (by omega) (by omega)
    · simp only [szC, if_neg hf] at h; exact absurd h hf
theorem mvd_in {l : List EdM} {n : Int} {m : MkM} (h : szC l n = 0) (hm : m.in_ n) : (mvd l m).in_ (szN l n) := by
  induction l generalizing n m with
  | nil => exact hm
  | cons e l ih =>
    by_cases hf : fault n e.at_ e.cut e.put.size = 0
    · simp only [szC, if_pos hf] at h
      exact ih h (plc_in hf hm)
    · simp only [szC, if_neg hf] at h; exact absurd h hf
theorem mvd_right (l : List EdM) (m : MkM) : (mvd l m).right = m.right := by
  induction l generalizing m with
  | nil => rfl
  | cons e l ih => exact (ih (plc e m)).trans rfl
/-- the code of edits of a text -/
theorem szC_apC (l : List EdM) (t : Bs) : szC l t.length = apC l t := by
  induction l generalizing t with
  | nil => rfl
  | cons e l ih =>
    by_cases hf : e.fault t = 0
    · have hf2 : fault (t.length : Int) e.at_ e.cut e.put.size = 0 := hf
      simp only [szC, apC, if_pos hf, if_pos hf2]
      rw [← ih]
      congr 1
      have := (EdM.fits_of hf).len
      obtain ⟨g1, g2, g3, g4, g5⟩ := EdM.fits_of hf
      rw [this]; omega
    · have hf2 : ¬ fault (t.length : Int) e.at_ e.cut e.put.size = 0 := hf
      simp only [szC, apC, if_neg hf, if_neg hf2]; rfl
/-- some mark is outside -/
def anyOut (ms : List MkM) (n : Int) : Bool := ms.any fun m => decide (m.at_ < 0) || decide (n < m.at_)
theorem anyOut_iff {ms : List MkM} {n : Int} : anyOut ms n = false ↔ ∀ m ∈ ms, m.in_ n := by
  simp [anyOut, MkM.in_]
def badIn (ms : List MkM) (n : Int) : Bool := decide (n < 0) || decide (600 < n) || anyOut ms n
/-- what Move answers -/
def mvCode (ms : List MkM) (l : List EdM) (n : Int) : Int := if badIn ms n then 2 else szC l n

theorem flat_set2 : ∀ (L : List MkM) (j : Nat) (m : MkM) (a : Int), L[j]? = some m → (flatC MkM.cs L).set (j * 2) (.int .i64 a) = flatC MkM.cs (L.set j ⟨a, m.right⟩)
  | [], j, m, a, h => by simp at h
  | x :: L, 0, m, a, h => by simp at h; subst h; rfl
  | x :: L, j + 1, m, a, h => by
    simp at h
    have e1 : (j + 1) * 2 = j * 2 + 1 + 1 := by omega
    rw [flatC_cons, e1]
    show Value.int .i64 x.at_ :: Value.bool x.right :: (flatC MkM.cs L).set (j * 2) (.int .i64 a) = _
    rw [flat_set2 L j m a h]; rfl
/-- the marks up to k are moved -/
def half (e : EdM) (l : List MkM) (k : Nat) : List MkM := (l.take k).map (plc e) ++ l.drop k
theorem half_get {e : EdM} {l : List MkM} {k : Nat} {m : MkM} (h : l[k]? = some m) : (half e l k)[k]? = some m := by
  have hlt := (List.getElem?_eq_some_iff.1 h).1
  unfold half
  rw [List.getElem?_append_right (by simp; omega)]
  simp only [List.length_map, List.length_take]
  rw [show k - min k l.length = 0 by omega, drop_next h]; rfl
theorem half_next {e : EdM} {l : List MkM} {k : Nat} {m : MkM} (h : l[k]? = some m) : (half e l k).set k (plc e m) = half e l (k + 1) := by
  have hlt := (List.getElem?_eq_some_iff.1 h).1
  unfold half
  rw [drop_next h, take_next h, List.map_append, List.set_append_right _ _ (by simp; omega)]
  simp only [List.length_map, List.length_take]
  rw [show k - min k l.length = 0 by omega]
  simp
theorem half_len (e : EdM) (l : List MkM) (k : Nat) : (half e l k).length = l.length := by unfold half; simp; omega
theorem half_zero (e : EdM) (l : List MkM) : half e l 0 = l := by simp [half]
theorem half_all (e : EdM) (l : List MkM) : half e l l.length = l.map (plc e) := by simp [half]

end Go.Proofs.Ytfikolidmpjfcaa.MarkM
