/-
  Occurrences of the call's own, and how many there can be. No function is named.
-/
import Derived.Test.YtkiebkjndmcddaaStrAt
import Derived.Test.YtkiebkjndmcddaaManyMath
namespace Go.Proofs.Ytkiebkjndmcddaa.HitM
open Go.RowKit Kit LineM FindM StrM

/-- the cells of an occurrence -/
def hc (p : Nat × Nat) : List Value := [.int .i64 (p.1 : Int), .int .i64 (p.2 : Int)]
theorem hc_len (p : Nat × Nat) : (hc p).length = 2 := rfl
theorem infoHit : (Try.prog.info? 38).map (fun i => (i.zero, i.size, i.bytes)) = some (some (.agg #[.int .i64 0, .int .i64 0]), 2, 16) := by kernel_rfl
structure HK (w : World) (xs : List (Nat × Nat)) (v : Value) (wr : World) : Prop where
  row : wr.ownsRow w.heap.size 38 2 v xs.length (flatC hc xs)
  bel : Below w.heap.size w wr
section
variable {w w1 w2 : World} {xs : List (Nat × Nat)} {v : Value}
theorem HK.next (h : HK w xs v w1) (hb : Below w1.heap.size w1 w2) : HK w xs v w2 := ⟨row_next h.row hb, bstep h.bel hb⟩
theorem HK.val (h : HK w xs v w1) : SlV 2 hc w1 v xs := SlV.of_owns hc_len h.row
theorem HK.nil (hb : Below w.heap.size w w1) : HK w [] (.slice none 0 0) w1 := ⟨World.ownsRow_nil _ _ _ _, hb⟩
theorem HK.rebase (h : HK w1 xs v w2) (hb : Below w.heap.size w w1) : HK w xs v w2 := ⟨h.row.mono hb.size, bstep hb h.bel⟩
end
theorem rowI_len (t : List UInt8) (fs : List (List UInt8)) (e long n : Nat) : (rowI t fs e long n).length ≤ n := by
  unfold rowI
  rw [List.length_map]
  have := List.length_filter_le (fun i => decide (fl fs i = long ∧ long ≤ e) && stands t (fs.getD i []) (e - long)) (List.range n)
  rwa [List.length_range] at this
theorem rowL_len (t : List UInt8) (fs : List (List UInt8)) (e : Nat) (hf : fs.length ≤ 20) : ∀ m, (rowL t fs e m).length ≤ m * 20
  | 0 => by simp [rowL]
  | m + 1 => by
    rw [rowL_succ, List.length_append]
    have := rowL_len t fs e hf m
    have := rowI_len t fs e (20 - m) fs.length
    omega
theorem manyTo_len (t : List UInt8) (fs : List (List UInt8)) (hf : fs.length ≤ 20) : ∀ n, (manyTo t fs n).length ≤ n * 400
  | 0 => by simp [manyTo]
  | n + 1 => by
    rw [manyTo_succ, List.length_append]
    have := manyTo_len t fs hf n
    have := rowL_len t fs (n + 1) hf 20
    omega
/-- the answer: occurrences and a code -/
def HsPost (w : World) (xs : List (Nat × Nat)) (c : Int) (e : Ending) (w' : World) : Prop := ∃ v, e = .returned (.tuple #[v, .int .i64 c]) ∧ HK w xs v w'

/-- what is refused of many strings: the first n of them -/
noncomputable def mfTo (T : Nat) (fs : List ByteArray) (ff : Nat → Nat → Int) : Nat → Int
  | 0 => 0
  | n + 1 => if mfTo T fs ff n ≠ 0 then mfTo T fs ff n else if ff T (fs.getD n ByteArray.empty).size ≠ 0 then ff T (fs.getD n ByteArray.empty).size else open Classical in if fs.getD n ByteArray.empty ∈ fs.take n then 4 else 0
section
variable {T : Nat} {fs : List ByteArray} {ff : Nat → Nat → Int}
theorem mfTo_stop {n : Nat} {c : Int} (h : mfTo T fs ff n = c) (hc : c ≠ 0) : ∀ m, n ≤ m → mfTo T fs ff m = c
  | 0, hm => by obtain rfl : n = 0 := by omega
                exact h
  | m + 1, hm => by
    by_cases e : n = m + 1
    · rw [← e]; exact h
    · have := mfTo_stop h hc m (by omega)
      rw [mfTo, this, if_pos hc]
theorem mfTo_fault {n : Nat} {s : ByteArray} (h : mfTo T fs ff n = 0) (hs : fs[n]? = some s) (hf : ff T s.size ≠ 0) : mfTo T fs ff (n + 1) = ff T s.size := by
  have e : fs.getD n ByteArray.empty = s := by simp [List.getD, hs]
  rw [mfTo, if_neg (by rw [h]; simp), e, if_pos hf]
theorem mfTo_twice {n : Nat} {s : ByteArray} (h : mfTo T fs ff n = 0) (hs : fs[n]? = some s) (hf : ff T s.size = 0) (hm : s ∈ fs.take n) : mfTo T fs ff (n + 1) = 4 := by
  have e : fs.getD n ByteArray.empty = s := by simp [List.getD, hs]
  rw [mfTo, if_neg (by rw [h]; simp), e, if_neg (by rw [hf]; simp), if_pos hm]
theorem mfTo_ok {n : Nat} {s : ByteArray} (h : mfTo T fs ff n = 0) (hs : fs[n]? = some s) (hf : ff T s.size = 0) (hm : s ∉ fs.take n) : mfTo T fs ff (n + 1) = 0 := by
  have e : fs.getD n ByteArray.empty = s := by simp [List.getD, hs]
  rw [mfTo, if_neg (by rw [h]; simp), e, if_neg (by rw [hf]; simp), if_neg hm]
/-- none is refused: each is right, and none comes twice -/
theorem mfTo_all {n : Nat} (h : mfTo T fs ff n = 0) : ∀ i, i < n → ∀ s, fs[i]? = some s → ff T s.size = 0 ∧ s ∉ fs.take i := by
  induction n with
  | zero => intro i hi; omega
  | succ n ih =>
    have h0 : mfTo T fs ff n = 0 := by
      by_cases hc : mfTo T fs ff n = 0
      · exact hc
      · exact (mfTo_stop rfl hc (n + 1) (by omega)).symm.trans h
    intro i hi s hs
    by_cases e : i = n
    · subst e
      have hf : ff T s.size = 0 := by
        by_cases hf : ff T s.size = 0
        · exact hf
        · exact (mfTo_fault h0 hs hf).symm.trans h
      refine ⟨hf, fun hm => ?_⟩
      have := mfTo_twice h0 hs hf hm
      rw [h] at this; cases this
    · exact ih h0 i (by omega) s hs
end
/-- what is refused of many strings -/
noncomputable def mfault (T : Nat) (fs : List ByteArray) (ff : Nat → Nat → Int) : Int := if 600 < T ∨ 20 < fs.length then 1 else mfTo T fs ff fs.length
end Go.Proofs.Ytkiebkjndmcddaa.HitM
