/-
  How many places are out of a set, ahead of an edit and behind it; where the bytes are. No function is named.
-/
import Derived.Test.YtdiogfhbgmkajaaRefShift
namespace Go.Proofs.Ytdiogfhbgmkajaa.SpanM
open EditM
/-- how many of the first n are true -/
def cf (f : Nat → Bool) : Nat → Nat
  | 0 => 0
  | i + 1 => cf f i + if f i then 1 else 0
theorem cf_congr {f g : Nat → Bool} : ∀ {n : Nat}, (∀ i, i < n → f i = g i) → cf f n = cf g n
  | 0, _ => rfl
  | n + 1, h => by
    show cf f n + _ = cf g n + _
    rw [cf_congr (n := n) fun i hi => h i (by omega), h n (by omega)]
theorem cf_add (f : Nat → Bool) (a : Nat) : ∀ b, cf f (a + b) = cf f a + cf (fun i => f (a + i)) b
  | 0 => rfl
  | b + 1 => by
    show cf f (a + b) + (if f (a + b) then 1 else 0) = cf f a + (cf (fun i => f (a + i)) b + if f (a + b) then 1 else 0)
    rw [cf_add f a b, Nat.add_assoc]
theorem cf_none {f : Nat → Bool} : ∀ {n : Nat}, (∀ i, i < n → f i = false) → cf f n = 0
  | 0, _ => rfl
  | n + 1, h => by
    show cf f n + _ = 0
    rw [cf_none (n := n) fun i hi => h i (by omega), h n (by omega)]; rfl
theorem cf_le (f : Nat → Bool) : ∀ n, cf f n ≤ n
  | 0 => Nat.le_refl _
  | n + 1 => by
    have := cf_le f n
    show cf f n + _ ≤ _
    split <;> omega
theorem cf_mono (f : Nat → Bool) {i n : Nat} (h : i ≤ n) : cf f i ≤ cf f n := by
  obtain ⟨k, rfl⟩ : ∃ k, n = i + k := ⟨n - i, by omega⟩
  rw [cf_add]; omega
/-- a place that is out of the set, and not cut -/
def fOut (l : List SpM) (a c i : Nat) : Bool := !(inB l i || (decide (a ≤ i) && decide (i < a + c)))
def gOut (l : List SpM) (a c k n j : Nat) : Bool := !shA l a c k n j
theorem gOut_low {l : List SpM} {a c k n j : Nat} (h : j < a) (hn : j < n) : gOut l a c k n j = !inB l j := by
  unfold gOut shA shB
  rw [if_pos h, decide_eq_true hn, decide_eq_false (show ¬ a ≤ j by omega)]; simp
theorem gOut_put {l : List SpM} {a c k n j : Nat} (h : a ≤ j) (h2 : j < a + k) : gOut l a c k n j = false := by
  unfold gOut shA
  rw [decide_eq_true h, decide_eq_true h2]; simp
theorem gOut_high {l : List SpM} {a c k n i : Nat} (h : a + c ≤ i) (hn : i < n) : gOut l a c k n (i + k - c) = !inB l i := by
  unfold gOut shA shB
  rw [if_neg (by omega), if_pos (by omega), decide_eq_true (show i + k - c + c < n + k by omega), decide_eq_false (show ¬ i + k - c < a + k by omega), show ((i + k - c : Nat) : Int) - k + c = i by omega]; simp
theorem out_same {l : List SpM} {a c k n m : Nat} (h : a + c ≤ n) (hm : m + c = n + k) : cf (fOut l a c) n = cf (gOut l a c k n) m := by
  obtain ⟨r, hr⟩ : ∃ r, n = a + c + r := ⟨n - (a + c), by omega⟩
  have e2 : m = a + k + r := by omega
  have e1 : cf (fOut l a c) n = cf (fOut l a c) (a + c + r) := by rw [hr]
  rw [e1, e2, cf_add, cf_add, cf_add, cf_add]
  rw [cf_none (f := fun i => fOut l a c (a + i)) fun i hi => by
    unfold fOut
    rw [decide_eq_true (show a ≤ a + i by omega), decide_eq_true (show a + i < a + c by omega)]; simp]
  rw [cf_none (f := fun i => gOut l a c k n (a + i)) fun i hi => gOut_put (by omega) (by omega)]
  rw [cf_congr (f := fOut l a c) (g := gOut l a c k n) fun i hi => by
    rw [gOut_low hi (by omega)]
    unfold fOut
    rw [decide_eq_false (show ¬ a ≤ i by omega)]; simp]
  rw [cf_congr (f := fun i => fOut l a c (a + c + i)) (g := fun i => gOut l a c k n (a + k + i)) fun i hi => by
    have := gOut_high (l := l) (k := k) (a := a) (c := c) (n := n) (i := a + c + i) (by omega) (by omega)
    rw [show a + c + i + k - c = a + k + i by omega] at this
    rw [this]
    unfold fOut
    rw [decide_eq_false (show ¬ a + c + i < a + c by omega)]; simp]
theorem made_low {t : Bs} {a c : Nat} {p : Bs} {i : Nat} (h : a + c ≤ t.length) (h1 : i < a) : (made t a c p)[i]? = t[i]? := by
  have e1 : (t.take a).length = a := by rw [List.length_take]; omega
  unfold made
  rw [List.append_assoc, List.getElem?_append_left (by omega), List.getElem?_take, if_pos h1]
theorem made_high {t : Bs} {a c : Nat} {p : Bs} {i : Nat} (h : a + c ≤ t.length) (h1 : a + c ≤ i) : (made t a c p)[i + p.length - c]? = t[i]? := by
  have e1 : (t.take a).length = a := by rw [List.length_take]; omega
  unfold made
  have e2 : (t.take a ++ p).length = a + p.length := by rw [List.length_append, e1]
  rw [List.getElem?_append_right (by rw [e2]; omega), e2, List.getElem?_drop]
  congr 1; omega
theorem shi_len (l : List SpM) (a c k : Int) : (atts [] (shiS l a c k)).length ≤ 2 * l.length + 1 := by
  have := atts_len [] (shiS l a c k)
  unfold shiS at this ⊢
  simp only [List.length_append, List.length_map, List.length_cons, List.length_nil] at this
  omega
theorem norm_valid' {n : Int} {l : List SpM} (h : Norm l) (n0 : 0 ≤ n) (n1 : n ≤ 600) (hl : l.length ≤ 40) (hin : ∀ i, In l i → 0 ≤ i ∧ i < n) : Valid n l := by
  refine ⟨n0, n1, hl, fun s hs => ?_, h.gap⟩
  have hs' := h.some_ s hs
  have h1 := hin s.lo ⟨s, hs, by omega, hs'⟩
  have h2 := hin (s.hi - 1) ⟨s, hs, by omega, by omega⟩
  omega
theorem shi_valid {l : List SpM} {a c k n m : Nat} (hv : Valid n l) (hl : l.length ≤ 19) (hac : a + c ≤ n) (hm : m + c = n + k) (h6 : m ≤ 600) : Valid m (atts [] (shiS l a c k)) ∧ ∀ j : Nat, j < m → inB (atts [] (shiS l a c k)) j = shA l a c k n j := by
  have e := shA_runs hv hac hm
  have hr := runs_norm (shA l a c k n) m
  have hln := shi_len l a c k
  rw [e] at hr
  refine ⟨norm_valid' hr.1 (by omega) (by omega) (by omega) fun i hi => by have := (hr.2 i).1 hi; omega, fun j hj => ?_⟩
  apply Bool.eq_iff_iff.2
  rw [inB_iff, hr.2]
  simp; omega
end Go.Proofs.Ytdiogfhbgmkajaa.SpanM
