/-
  Borders of a text, and how far a string has been met: plain lists. No program is named.
-/
import Derived.Test.YtkiebkjndmcddaaFindMath
namespace Go.Proofs.Ytkiebkjndmcddaa.FindM

/-- the first k bytes of f end at place i of t -/
def isM (f t : List UInt8) (i k : Nat) : Prop := k ≤ i ∧ ∀ x, x < k → f[x]? = t[i - k + x]?
/-- k is a proper border of the first n bytes -/
def isB (s : List UInt8) (n k : Nat) : Prop := k < n ∧ isM s s n k
theorem isM_zero (f t : List UInt8) (i : Nat) : isM f t i 0 := ⟨Nat.zero_le _, fun x hx => by omega⟩
theorem isB_zero (s : List UInt8) {n : Nat} (h : 0 < n) : isB s n 0 := ⟨h, isM_zero s s n⟩
/-- of two that end at a place the shorter one is a border of the longer one -/
theorem isM.chain {f t : List UInt8} {i j k : Nat} (hk : isM f t i k) (hj : isM f t i j) (h : j < k) : isB f k j := by
  refine ⟨h, by omega, fun x hx => ?_⟩
  rw [hj.2 x hx, hk.2 (k - j + x) (by omega)]
  have h1 := hk.1
  congr 1; omega
/-- a border of one that ends at a place ends there -/
theorem isM.comp {f t : List UInt8} {i j k : Nat} (hk : isM f t i k) (hj : isB f k j) : isM f t i j := by
  obtain ⟨h, h1, h2⟩ := hj
  have hki := hk.1
  refine ⟨by omega, fun x hx => ?_⟩
  rw [h2 x hx, hk.2 (k - j + x) (by omega)]
  congr 1; omega
/-- one byte more -/
theorem isM.succ {f t : List UInt8} {i k : Nat} (h : isM f t i k) (e : f[k]? = t[i]?) : isM f t (i + 1) (k + 1) := by
  have h1 := h.1
  refine ⟨by omega, fun x hx => ?_⟩
  by_cases hxk : x < k
  · rw [h.2 x hxk]; congr 1; omega
  · obtain rfl : x = k := by omega
    rw [e]; congr 1; omega
theorem isM.pred {f t : List UInt8} {i k : Nat} (h : isM f t (i + 1) (k + 1)) : isM f t i k ∧ f[k]? = t[i]? := by
  have h1 := h.1
  refine ⟨⟨by omega, fun x hx => ?_⟩, ?_⟩
  · rw [h.2 x (by omega)]; congr 1; omega
  · rw [h.2 k (by omega)]; congr 1; omega
theorem isB.succ {s : List UInt8} {n k : Nat} (h : isB s n k) (e : s[k]? = s[n]?) : isB s (n + 1) (k + 1) := ⟨by have := h.1; omega, h.2.succ e⟩
theorem isB.pred {s : List UInt8} {n k : Nat} (h : isB s (n + 1) (k + 1)) : isB s n k ∧ s[k]? = s[n]? := ⟨⟨by have := h.1; omega, h.2.pred.1⟩, h.2.pred.2⟩

open Classical in
/-- the greatest number below n that has a property; nought: none but it does -/
noncomputable def top (P : Nat → Prop) : Nat → Nat
  | 0 => 0
  | n + 1 => if P n then n else top P n
theorem top_is {P : Nat → Prop} (h0 : P 0) : ∀ n, P (top P n)
  | 0 => h0
  | n + 1 => by
    unfold top
    split
    · assumption
    · exact top_is h0 n
theorem top_max {P : Nat → Prop} : ∀ {n k : Nat}, k < n → P k → k ≤ top P n
  | 0, k, h, _ => by omega
  | n + 1, k, h, hp => by
    unfold top
    split
    · omega
    · rename_i hn
      have : k ≠ n := fun e => hn (e ▸ hp)
      exact top_max (by omega) hp
theorem top_lt {P : Nat → Prop} : ∀ {n : Nat}, 0 < n → top P n < n
  | n + 1, _ => by
    unfold top
    split
    · omega
    · by_cases h : 0 < n
      · have := top_lt (P := P) h; omega
      · obtain rfl : n = 0 := by omega
        simp [top]
/-- the longest proper border of the first n bytes -/
noncomputable def bord (s : List UInt8) (n : Nat) : Nat := top (isM s s n) n
theorem bord_is (s : List UInt8) {n : Nat} (h : 0 < n) : isB s n (bord s n) := ⟨top_lt h, top_is (isM_zero s s n) n⟩
theorem bord_max {s : List UInt8} {n k : Nat} (h : isB s n k) : k ≤ bord s n := top_max h.1 h.2
theorem bord_of {s : List UInt8} {n k : Nat} (h : isB s n k) (hm : ∀ j, isB s n j → j ≤ k) : bord s n = k :=
  Nat.le_antisymm (hm _ (bord_is s (by have := h.1; omega))) (bord_max h)
/-- the search for the next border: what holds at each step -/
def Cand (s : List UInt8) (n k : Nat) : Prop := isB s n k ∧ ∀ j, isB s n j → s[j]? = s[n]? → j ≤ k
theorem cand_start (s : List UInt8) {n : Nat} (h : 0 < n) : Cand s n (bord s n) := ⟨bord_is s h, fun _ hj _ => bord_max hj⟩
theorem Cand.back {s : List UInt8} {n k : Nat} (h : Cand s n k) (hk : 0 < k) (hne : s[k]? ≠ s[n]?) : Cand s n (bord s k) := by
  have hb := bord_is s hk
  refine ⟨⟨by have := hb.1; have := h.1.1; omega, h.1.2.comp hb⟩, fun j hj he => ?_⟩
  have hjk := h.2 j hj he
  have : j ≠ k := fun e => hne (e ▸ he)
  exact bord_max (h.1.2.chain hj.2 (by omega))
theorem Cand.hit {s : List UInt8} {n k : Nat} (h : Cand s n k) (e : s[k]? = s[n]?) : bord s (n + 1) = k + 1 := by
  refine bord_of (h.1.succ e) (fun j hj => ?_)
  match j, hj with
  | 0, _ => omega
  | j + 1, hj =>
    have := h.2 j hj.pred.1 hj.pred.2
    omega
theorem Cand.miss {s : List UInt8} {n : Nat} (h : Cand s n 0) (hne : s[0]? ≠ s[n]?) : bord s (n + 1) = 0 := by
  refine bord_of (isB_zero s (by omega)) (fun j hj => ?_)
  match j, hj with
  | 0, _ => omega
  | j + 1, hj =>
    have h1 := h.2 j hj.pred.1 hj.pred.2
    obtain rfl : j = 0 := by omega
    exact absurd hj.pred.2 hne
theorem bord_one (s : List UInt8) : bord s 1 = 0 := by
  have := (bord_is s (n := 1) (by omega)).1
  omega
/-- all borders, by length -/
noncomputable def bords (s : List UInt8) (n : Nat) : List Nat := (List.range n).map (fun i => bord s (i + 1))
theorem bords_succ (s : List UInt8) (n : Nat) : bords s (n + 1) = bords s n ++ [bord s (n + 1)] := by
  unfold bords; rw [List.range_succ, List.map_append]; rfl
theorem bords_len (s : List UInt8) (n : Nat) : (bords s n).length = n := by simp [bords]
theorem bords_get (s : List UInt8) {n i : Nat} (h : i < n) : (bords s n)[i]? = some (bord s (i + 1)) := by simp [bords, h]

/-- a border, said by slices of the text -/
theorem isB_slices {s : List UInt8} {n k : Nat} (hn : n ≤ s.length) (hk : k ≤ n) : isM s s n k ↔ s.take k = (s.take n).drop (n - k) := by
  constructor
  · rintro ⟨_, h⟩
    apply List.ext_getElem?
    intro x
    by_cases hx : x < k
    · rw [List.getElem?_take_of_lt hx, List.getElem?_drop, List.getElem?_take_of_lt (by omega), h x hx]
    · rw [List.getElem?_eq_none (by simp; omega), List.getElem?_eq_none (by simp; omega)]
  · intro h
    refine ⟨hk, fun x hx => ?_⟩
    have := congrArg (fun l => l[x]?) h
    rw [List.getElem?_take_of_lt hx, List.getElem?_drop, List.getElem?_take_of_lt (by omega)] at this
    exact this
/-- a border is a period -/
theorem isB.period {s : List UInt8} {n k : Nat} (h : isB s n k) {i : Nat} (h1 : n - k ≤ i) (h2 : i < n) : s[i]? = s[i - (n - k)]? := by
  have := h.2.2 (i - (n - k)) (by have := h.1; omega)
  rw [this]; congr 1; have := h.1; omega

/-- how far f has been met at place i, and that f stands in t -/
theorem stands_isM {t f : List UInt8} {i : Nat} (h : i ≤ t.length) (hf : f.length ≤ i) : stands t f (i - f.length) = true ↔ isM f t i f.length := by
  rw [stands_get]
  constructor
  · rintro ⟨_, h2⟩
    exact ⟨hf, fun x hx => (h2 x hx).symm⟩
  · rintro ⟨_, h2⟩
    exact ⟨by omega, fun x hx => (h2 x hx).symm⟩
/-- the longest beginning of f, not longer than m, that ends at place i -/
def Met (f t : List UInt8) (m i k : Nat) : Prop := isM f t i k ∧ k ≤ m ∧ ∀ j, isM f t i j → j ≤ m → j ≤ k
/-- the search for the next one: what holds at each step -/
def CandM (f t : List UInt8) (m i k : Nat) : Prop := isM f t i k ∧ k ≤ m ∧ ∀ j, isM f t i j → j ≤ m → f[j]? = t[i]? → j ≤ k
theorem Met.cand {f t : List UInt8} {m i k : Nat} (h : Met f t m i k) : CandM f t m i k := ⟨h.1, h.2.1, fun j hj hm _ => h.2.2 j hj hm⟩
theorem CandM.back {f t : List UInt8} {m i k : Nat} (h : CandM f t m i k) (hk : 0 < k) (hne : f[k]? ≠ t[i]?) : CandM f t m i (bord f k) := by
  have hb := bord_is f hk
  refine ⟨h.1.comp hb, by have := hb.1; have := h.2.1; omega, fun j hj hm he => ?_⟩
  have hjk := h.2.2 j hj hm he
  have : j ≠ k := fun e => hne (e ▸ he)
  exact bord_max (h.1.chain hj (by omega))
theorem CandM.hit {f t : List UInt8} {m i k : Nat} (h : CandM f t m i k) (e : f[k]? = t[i]?) : Met f t (m + 1) (i + 1) (k + 1) := by
  refine ⟨h.1.succ e, by have := h.2.1; omega, fun j hj hm => ?_⟩
  match j, hj with
  | 0, _ => omega
  | j + 1, hj =>
    have := h.2.2 j hj.pred.1 (by omega) hj.pred.2
    omega
theorem CandM.miss {f t : List UInt8} {m i : Nat} (h : CandM f t m i 0) (hne : f[0]? ≠ t[i]?) : Met f t (m + 1) (i + 1) 0 := by
  refine ⟨isM_zero _ _ _, by omega, fun j hj hm => ?_⟩
  match j, hj with
  | 0, _ => omega
  | j + 1, hj =>
    have h1 := h.2.2 j hj.pred.1 (by omega) hj.pred.2
    obtain rfl : j = 0 := by omega
    exact absurd hj.pred.2 hne
theorem met_start (f t : List UInt8) (m : Nat) : Met f t m 0 0 := ⟨isM_zero _ _ _, by omega, fun j hj _ => by have := hj.1; omega⟩
/-- behind a whole f: its longest border -/
theorem Met.cut {f t : List UInt8} {i : Nat} (h : Met f t f.length i f.length) (hf : 0 < f.length) : Met f t (f.length - 1) i (bord f f.length) := by
  have hb := bord_is f hf
  refine ⟨h.1.comp hb, by have := hb.1; omega, fun j hj hm => bord_max (h.1.chain hj (by omega))⟩
theorem Met.less {f t : List UInt8} {m i k : Nat} (h : Met f t (m + 1) i k) (hk : k ≤ m) : Met f t m i k := ⟨h.1, hk, fun j hj hm => h.2.2 j hj (by omega)⟩
/-- f ends at place i if it is met whole there -/
theorem Met.whole {f t : List UInt8} {i k : Nat} (h : Met f t f.length i k) (hi : i ≤ t.length) (hf : f.length ≤ i) : stands t f (i - f.length) = true ↔ k = f.length := by
  rw [stands_isM hi hf]
  constructor
  · intro h1
    have := h.2.2 _ h1 (Nat.le_refl _)
    have := h.2.1
    omega
  · rintro rfl; exact h.1
end Go.Proofs.Ytkiebkjndmcddaa.FindM
