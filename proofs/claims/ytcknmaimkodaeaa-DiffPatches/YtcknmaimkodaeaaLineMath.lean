/-
  Starts of lines, on plain lists of bytes and of integers. No program is named.
-/
import Derived.Test.YtcknmaimkodaeaaLinesMath
import Derived.Test.YtcknmaimkodaeaaEditMath
namespace Go.Proofs.Ytcknmaimkodaeaa.LineM
open PosM EditM LinesM

/-- the offsets behind the feeds of a text that lies at n -/
def fts : Int → Bs → List Int
  | _, [] => []
  | n, c :: l => if c = 10 then (n + 1) :: fts (n + 1) l else fts (n + 1) l
/-- the starts of a text's lines -/
def sts (l : Bs) : List Int := 0 :: fts 0 l
theorem fts_app (a b : Bs) : ∀ n, fts n (a ++ b) = fts n a ++ fts (n + a.length) b := by
  induction a with
  | nil => intro n; simp [fts]
  | cons c a ih =>
    intro n
    simp only [List.cons_append, fts, ih, List.length_cons]
    have e : n + 1 + (a.length : Int) = n + ((a.length + 1 : Nat) : Int) := by omega
    rw [e]
    split <;> simp
theorem fts_feed (n : Int) (l : Bs) : fts n (l ++ [10]) = fts n l ++ [n + l.length + 1] := by rw [fts_app]; simp [fts]
theorem fts_other (n : Int) (l : Bs) {c : UInt8} (h : c ≠ 10) : fts n (l ++ [c]) = fts n l := by rw [fts_app]; simp [fts, h]
theorem fts_shift (l : Bs) : ∀ n k : Int, fts (n + k) l = (fts n l).map (· + k) := by
  induction l with
  | nil => intro n k; rfl
  | cons c l ih =>
    intro n k
    simp only [fts]
    have e : n + k + 1 = n + 1 + k := by omega
    rw [e, ih]
    split <;> simp
theorem fts_len (l : Bs) : ∀ n, (fts n l).length = lns l := by
  induction l with
  | nil => intro n; rfl
  | cons c l ih =>
    intro n
    simp only [fts]
    split
    · rename_i h; subst h; simp [ih, lns]
    · rename_i h
      rw [ih]
      have : (c == 10) = false := by simpa using h
      simp [lns, List.count_cons, this]
theorem sts_len (l : Bs) : (sts l).length = lns l + 1 := by simp [sts, fts_len]
theorem mem_fts (l : Bs) : ∀ n x, x ∈ fts n l ↔ ∃ i : Nat, l[i]? = some 10 ∧ x = n + i + 1 := by
  induction l with
  | nil => intro n x; simp [fts]
  | cons c l ih =>
    intro n x
    have tail : (∃ i : Nat, l[i]? = some 10 ∧ x = n + 1 + i + 1) ↔ ∃ i : Nat, i ≠ 0 ∧ (c :: l)[i]? = some 10 ∧ x = n + i + 1 := by
      constructor
      · rintro ⟨i, h1, h2⟩; exact ⟨i + 1, by omega, by simpa using h1, by omega⟩
      · rintro ⟨i, h0, h1, h2⟩
        obtain ⟨j, rfl⟩ : ∃ j, i = j + 1 := ⟨i - 1, by omega⟩
        exact ⟨j, by simpa using h1, by omega⟩
    simp only [fts]
    split
    · rename_i h; subst h
      rw [List.mem_cons, ih, tail]
      constructor
      · rintro (h | ⟨i, _, h1, h2⟩)
        · exact ⟨0, by simp, by omega⟩
        · exact ⟨i, h1, h2⟩
      · rintro ⟨i, h1, h2⟩
        by_cases h0 : i = 0
        · left; subst h0; omega
        · exact .inr ⟨i, h0, h1, h2⟩
    · rename_i h
      rw [ih, tail]
      constructor
      · rintro ⟨i, _, h1, h2⟩; exact ⟨i, h1, h2⟩
      · rintro ⟨i, h1, h2⟩
        refine ⟨i, fun h0 => ?_, h1, h2⟩
        subst h0; simp at h1; exact h h1
theorem fts_rng {l : Bs} {n x : Int} (h : x ∈ fts n l) : n < x ∧ x ≤ n + l.length := by
  obtain ⟨i, h1, h2⟩ := (mem_fts l n x).1 h
  have := (List.getElem?_eq_some_iff.1 h1).1
  omega
theorem fts_sorted (l : Bs) : ∀ n, (fts n l).Pairwise (· < ·) := by
  induction l with
  | nil => intro n; simp [fts]
  | cons c l ih =>
    intro n
    simp only [fts]
    split
    · exact List.pairwise_cons.2 ⟨fun x hx => (fts_rng hx).1, ih _⟩
    · exact ih _
theorem sts_sorted (l : Bs) : (sts l).Pairwise (· < ·) := List.pairwise_cons.2 ⟨fun _ hx => (fts_rng hx).1, fts_sorted l 0⟩
theorem sts_rng {l : Bs} {x : Int} (h : x ∈ sts l) : 0 ≤ x ∧ x ≤ l.length := by
  rcases List.mem_cons.1 h with rfl | h
  · omega
  · have := fts_rng h; omega

/-- two increasing lists of the same numbers -/
theorem sorted_one : ∀ {a b : List Int}, a.Pairwise (· < ·) → b.Pairwise (· < ·) → (∀ x, x ∈ a ↔ x ∈ b) → a = b
  | [], [], _, _, _ => rfl
  | [], y :: _, _, _, h => absurd ((h y).2 (by simp)) (by simp)
  | x :: _, [], _, _, h => absurd ((h x).1 (by simp)) (by simp)
  | x :: a, y :: b, ha, hb, h => by
    obtain ⟨ha1, ha2⟩ := List.pairwise_cons.1 ha
    obtain ⟨hb1, hb2⟩ := List.pairwise_cons.1 hb
    have exy : x = y := by
      rcases List.mem_cons.1 ((h x).1 (by simp)) with e | e
      · exact e
      · rcases List.mem_cons.1 ((h y).2 (by simp)) with e2 | e2
        · exact e2.symm
        · have := hb1 x e; have := ha1 y e2; omega
    subst exy
    rw [sorted_one ha2 hb2 fun z => ?_]
    constructor
    · intro hz
      rcases List.mem_cons.1 ((h z).1 (by simp [hz])) with e | e
      · have := ha1 z hz; omega
      · exact e
    · intro hz
      rcases List.mem_cons.1 ((h z).2 (by simp [hz])) with e | e
      · have := hb1 z hz; omega
      · exact e

/-- a list of starts that is valid for a size -/
structure Vld (size : Int) (zs : List Int) : Prop where
  head : zs[0]? = some 0
  inc : zs.Pairwise (· < ·)
  le : ∀ x ∈ zs, x ≤ size ∧ x ≤ 600
theorem Vld.ne {size : Int} {zs : List Int} (h : Vld size zs) : 0 < zs.length := (List.getElem?_eq_some_iff.1 h.head).1
theorem Vld.size0 {size : Int} {zs : List Int} (h : Vld size zs) : 0 ≤ size := (h.le 0 (List.mem_of_getElem? h.head)).1
theorem Vld.split {size : Int} {zs : List Int} (h : Vld size zs) : ∃ r, zs = 0 :: r ∧ r.Pairwise (· < ·) ∧ ∀ x ∈ r, 0 < x ∧ x ≤ size ∧ x ≤ 600 := by
  cases zs with
  | nil => have := h.head; simp at this
  | cons z r =>
    have := h.head
    simp at this; subst this
    obtain ⟨h1, h2⟩ := List.pairwise_cons.1 h.inc
    exact ⟨r, rfl, h2, fun x hx => ⟨h1 x hx, h.le x (by simp [hx])⟩⟩
theorem Vld.len {size : Int} {zs : List Int} (h : Vld size zs) : zs.length ≤ 601 := by
  obtain ⟨r, rfl, h1, h2⟩ := h.split
  have key : ∀ (r : List Int) (lo : Int), r.Pairwise (· < ·) → (∀ x ∈ r, lo < x ∧ x ≤ 600) → lo ≤ 600 → (r.length : Int) ≤ 600 - lo := by
    intro r
    induction r with
    | nil => intro lo _ _ h; simp; omega
    | cons x r ih =>
      intro lo hp hb _
      obtain ⟨hp1, hp2⟩ := List.pairwise_cons.1 hp
      have hx := hb x (by simp)
      have := ih x hp2 (fun y hy => ⟨hp1 y hy, (hb y (by simp [hy])).2⟩) hx.2
      simp only [List.length_cons]; omega
  have := key r 0 h1 (fun x hx => ⟨(h2 x hx).1, (h2 x hx).2.2⟩) (by omega)
  simp only [List.length_cons]; omega
theorem sts_good {t : Bs} {n : Int} (h : (t.length : Int) ≤ n) (h6 : t.length ≤ 600) : Vld n (sts t) := ⟨rfl, sts_sorted t, fun x hx => by have := sts_rng hx; omega⟩
/-- a text with just these lines -/
def txt (zs : List Int) (n : Nat) : Bs := (List.range n).map fun (i : Nat) => if ((i : Int) + 1) ∈ zs then 10 else 120
theorem txt_len (zs : List Int) (n : Nat) : (txt zs n).length = n := by simp [txt]
theorem txt_get (zs : List Int) {n i : Nat} (h : i < n) : (txt zs n)[i]? = some (if ((i : Int) + 1) ∈ zs then 10 else 120) := by
  unfold txt; rw [List.getElem?_map, List.getElem?_range h]; rfl
theorem txt_succ (zs : List Int) (n : Nat) : txt zs (n + 1) = txt zs n ++ [if ((n : Int) + 1) ∈ zs then 10 else 120] := by
  unfold txt; rw [List.range_succ, List.map_append]; rfl
theorem sts_txt {size : Int} {zs : List Int} (h : Vld size zs) {n : Nat} (hn : size ≤ n) : sts (txt zs n) = zs := by
  obtain ⟨r, rfl, h1, h2⟩ := h.split
  unfold sts
  congr 1
  refine sorted_one (fts_sorted _ _) h1 fun x => ?_
  rw [mem_fts]
  constructor
  · rintro ⟨i, h3, rfl⟩
    have hi := (List.getElem?_eq_some_iff.1 h3).1
    rw [txt_len] at hi
    rw [txt_get _ hi] at h3
    split at h3
    · rename_i h4
      rcases List.mem_cons.1 h4 with h4 | h4
      · omega
      · rw [show (0 : Int) + (i : Int) + 1 = (i : Int) + 1 by omega]; exact h4
    · simp at h3
  · intro hx
    obtain ⟨x0, x1, x2⟩ := h2 x hx
    have e : ((x.toNat - 1 : Nat) : Int) + 1 = x := by omega
    refine ⟨x.toNat - 1, ?_, by omega⟩
    rw [txt_get _ (by omega), e, if_pos (by simp [hx])]

/-- where the numbers above a bound begin -/
theorem cut_at {A B : List Int} {a : Int} (hA : ∀ x ∈ A, x ≤ a) (hB : ∀ x ∈ B, a < x) {i : Nat} (hi : i ≤ (A ++ B).length) (h1 : ∀ j x, j < i → (A ++ B)[j]? = some x → x ≤ a) (h2 : ∀ x, (A ++ B)[i]? = some x → a < x) : i = A.length := by
  rw [List.length_append] at hi
  rcases Nat.lt_trichotomy i A.length with h | h | h
  · have e : (A ++ B)[i]? = some A[i] := by rw [List.getElem?_append_left h, List.getElem?_eq_getElem h]
    have := h2 _ e
    have := hA A[i] (List.getElem_mem _)
    omega
  · exact h
  · have hb : 0 < B.length := by omega
    have e : (A ++ B)[A.length]? = some B[0] := by rw [List.getElem?_append_right (Nat.le_refl _), Nat.sub_self, List.getElem?_eq_getElem hb]
    have := h1 _ _ h e
    have := hB B[0] (List.getElem_mem _)
    omega
/-- what a search in an increasing row has found -/
structure UpTo (zs : List Int) (a : Int) (i : Nat) : Prop where
  le : i ≤ zs.length
  low : 0 < i → ∀ x, zs[i - 1]? = some x → x ≤ a
  high : ∀ x, zs[i]? = some x → a < x
theorem UpTo.all {zs : List Int} {a : Int} {i : Nat} (h : UpTo zs a i) (hs : zs.Pairwise (· < ·)) : ∀ j x, j < i → zs[j]? = some x → x ≤ a := by
  intro j x hj hx
  have hl : i - 1 < zs.length := by have := h.le; omega
  have h1 := h.low (by omega) zs[i - 1] (List.getElem?_eq_getElem hl)
  obtain ⟨hjl, rfl⟩ := List.getElem?_eq_some_iff.1 hx
  rcases Nat.lt_or_ge j (i - 1) with c | c
  · have := List.pairwise_iff_getElem.1 hs j (i - 1) hjl hl c; omega
  · obtain rfl : j = i - 1 := by omega
    exact h1
theorem UpTo.up {zs : List Int} {a : Int} {i : Nat} (h : UpTo zs a i) (hs : zs.Pairwise (· < ·)) : ∀ j x, i ≤ j → zs[j]? = some x → a < x := by
  intro j x hj hx
  obtain ⟨hjl, rfl⟩ := List.getElem?_eq_some_iff.1 hx
  have h1 := h.high zs[i] (List.getElem?_eq_getElem (by omega))
  rcases Nat.lt_or_ge i j with c | c
  · have := List.pairwise_iff_getElem.1 hs i j (by omega) hjl c; omega
  · obtain rfl : j = i := by omega
    exact h1
theorem sts_split (t : Bs) {a : Nat} (h : a ≤ t.length) : sts t = (0 :: fts 0 (t.take a)) ++ fts a (t.drop a) := by
  have e : fts 0 t = fts 0 (t.take a ++ t.drop a) := by rw [List.take_append_drop]
  unfold sts
  rw [e, fts_app, List.length_take, Nat.min_eq_left h]
  simp
theorem upto_sts {t : Bs} {a i : Nat} (h : a ≤ t.length) (hu : UpTo (sts t) a i) : i = (0 :: fts 0 (t.take a)).length := by
  have hs := sts_sorted t
  have h1 := hu.all hs
  have h2 := hu.high
  have h0 := hu.le
  rw [sts_split t h] at h1 h2 h0
  refine cut_at (fun x hx => ?_) (fun x hx => (fts_rng hx).1) h0 h1 h2
  rcases List.mem_cons.1 hx with rfl | hx
  · omega
  · have := fts_rng hx
    rw [List.length_take] at this; omega
/-- what Update makes, of the old starts -/
theorem sts_made {t : Bs} {a c i j : Nat} {p : Bs} (h : a + c ≤ t.length) (hi : UpTo (sts t) a i) (hj : UpTo (sts t) ((a : Int) + c) j) :
    sts (made t a c p) = (sts t).take i ++ fts a p ++ ((sts t).drop j).map fun x => x + (p.length : Int) - c := by
  have ei := upto_sts (by omega) hi
  have ej := upto_sts (a := a + c) h (by simpa using hj)
  have e1 : (sts t).take i = 0 :: fts 0 (t.take a) := by rw [sts_split t (show a ≤ t.length by omega), ei, List.take_left']; rfl
  have e2 : (sts t).drop j = fts ((a + c : Nat) : Int) (t.drop (a + c)) := by rw [sts_split t h, ej, List.drop_left']; rfl
  rw [e1, e2]
  unfold sts made
  rw [fts_app, fts_app]
  simp only [List.length_append, List.length_take, Nat.min_eq_left (show a ≤ t.length by omega), List.cons_append]
  congr 2
  · congr 1; simp
  · rw [show (0 : Int) + ((a + p.length : Nat) : Int) = ((a + c : Nat) : Int) + ((p.length : Int) - c) by omega, fts_shift]
    congr 1; funext x; omega
theorem upto_ex (a : Int) : ∀ zs : List Int, ∃ i, UpTo zs a i
  | [] => ⟨0, ⟨by simp, fun h => by omega, fun x hx => by simp at hx⟩⟩
  | z :: r => by
    by_cases h : z ≤ a
    · obtain ⟨i, h1, h2, h3⟩ := upto_ex a r
      refine ⟨i + 1, ⟨by simp; omega, fun _ x hx => ?_, fun x hx => h3 x (by simpa using hx)⟩⟩
      rw [Nat.add_sub_cancel] at hx
      cases i with
      | zero => simp at hx; subst hx; exact h
      | succ i => exact h2 (by omega) x (by simpa using hx)
    · exact ⟨0, ⟨by simp, fun h => by omega, fun x hx => by simp at hx; subst hx; omega⟩⟩
/-- the line of an offset -/
theorem upto_pos {zs : List Int} {n a : Int} {i : Nat} (hg : Vld n zs) (ha : 0 ≤ a) (h : UpTo zs a i) : 0 < i := by
  rcases Nat.eq_zero_or_pos i with rfl | h0
  · have := h.high 0 hg.head; omega
  · exact h0
theorem upto_one {zs : List Int} {a : Int} {i j : Nat} (hs : zs.Pairwise (· < ·)) (hi : UpTo zs a i) (hj : UpTo zs a j) : i = j := by
  rcases Nat.lt_trichotomy i j with h | h | h
  · have hl : i < zs.length := by have := hj.le; omega
    have h1 := hi.high _ (List.getElem?_eq_getElem hl)
    have h2 := hj.all hs i _ h (List.getElem?_eq_getElem hl)
    omega
  · exact h
  · have hl : j < zs.length := by have := hi.le; omega
    have h1 := hj.high _ (List.getElem?_eq_getElem hl)
    have h2 := hi.all hs j _ h (List.getElem?_eq_getElem hl)
    omega

/-- the offsets at which lines start that lie one behind the other -/
def offs : Int → List Bs → List Int
  | _, [] => []
  | n, s :: r => n :: offs (n + s.length + 1) r
theorem offs_app (a b : List Bs) : ∀ n, ∃ m, offs n (a ++ b) = offs n a ++ offs m b := by
  induction a with
  | nil => intro n; exact ⟨n, rfl⟩
  | cons s a ih => intro n; obtain ⟨m, h⟩ := ih (n + s.length + 1); exact ⟨m, by simp [offs, h]⟩
/-- where the line behind these begins -/
def ends : Int → List Bs → Int
  | n, [] => n
  | n, s :: r => ends (n + s.length + 1) r
theorem ends_snoc (a : List Bs) (s : Bs) : ∀ n, ends n (a ++ [s]) = ends n a + s.length + 1 := by
  induction a with
  | nil => intro n; rfl
  | cons x a ih => intro n; exact ih _
theorem offs_snoc (a : List Bs) (s : Bs) : ∀ n, offs n (a ++ [s]) = offs n a ++ [ends n a] := by
  induction a with
  | nil => intro n; rfl
  | cons x a ih => intro n; simp [offs, ends, ih]
theorem offs_cut (l : Bs) : ∀ n, offs n (cut l) = n :: fts n l := by
  induction l with
  | nil => intro n; simp [cut, offs, fts]
  | cons c l ih =>
    intro n
    unfold cut
    split
    · rename_i h
      simp [offs, ih, fts, h]
    · rename_i h
      have hi := ih (n + 1)
      cases hc : cut l with
      | nil => exact absurd hc (cut_ne l)
      | cons x r =>
        rw [hc] at hi
        simp only [offs, List.cons.injEq, true_and] at hi
        simp only [put, offs, fts, h, if_false, List.length_cons]
        rw [← hi]
        congr 2; omega
theorem offs_sts (l : Bs) : offs 0 (cut l) = sts l := offs_cut l 0
theorem ends_small (l : Bs) (k : Nat) (hk : k < (cut l).length) : ∀ n, ends n ((cut l).take k) ≤ n + l.length := by
  intro n
  have h := offs_cut l n
  have e : (offs n (cut l))[k]? = some (ends n ((cut l).take k)) := by
    have key : ∀ (a : List Bs) (k : Nat) (n : Int), k < a.length → (offs n a)[k]? = some (ends n (a.take k)) := by
      intro a
      induction a with
      | nil => intro k n h; simp at h
      | cons s a ih =>
        intro k n h
        cases k with
        | zero => simp [offs, ends]
        | succ k => simp only [offs, List.getElem?_cons_succ, List.take_succ_cons, ends]; exact ih k _ (by simpa using h)
    exact key _ _ _ hk
  rw [h] at e
  have hm := List.mem_of_getElem? e
  rcases List.mem_cons.1 hm with e | e
  · omega
  · exact (fts_rng e).2
theorem ends_ge (a : List Bs) : ∀ n, n ≤ ends n a := by
  induction a with
  | nil => intro n; exact Int.le_refl _
  | cons s a ih => intro n; have := ih (n + s.length + 1); simp only [ends]; omega
/-- each of the first k is less than the next one -/
def Inc (zs : List Int) (k : Nat) : Prop := ∀ j x y, j < k → zs[j]? = some x → zs[j + 1]? = some y → x < y
theorem Inc.zero (zs : List Int) : Inc zs 0 := fun j _ _ h => by omega
theorem Inc.next {zs : List Int} {k : Nat} {x y : Int} (h : Inc zs k) (hx : zs[k]? = some x) (hy : zs[k + 1]? = some y) (hxy : x < y) : Inc zs (k + 1) := fun j u v hj hu hv => by
  by_cases e : j = k
  · subst e; rw [hx] at hu; rw [hy] at hv; cases hu; cases hv; exact hxy
  · exact h j u v (by omega) hu hv
theorem Inc.pair : ∀ {zs : List Int}, (∀ k, k < zs.length → Inc zs k) → zs.Pairwise (· < ·)
  | [], _ => List.Pairwise.nil
  | [x], _ => by simp
  | x :: y :: r, h => by
    have hr : (y :: r).Pairwise (· < ·) := Inc.pair fun k hk j u v hj hu hv => h (k + 1) (by simp at hk ⊢; omega) (j + 1) u v (by omega) (by simpa using hu) (by simpa using hv)
    have hxy : x < y := h 1 (by simp) 0 x y (by omega) rfl rfl
    refine List.pairwise_cons.2 ⟨fun z hz => ?_, hr⟩
    rcases List.mem_cons.1 hz with rfl | hz
    · exact hxy
    · have := (List.pairwise_cons.1 hr).1 z hz; omega
theorem Inc.mono {zs : List Int} {k m : Nat} (h : Inc zs k) (hm : m ≤ k) : Inc zs m := fun j x y hj => h j x y (by omega)
theorem Inc.all {zs : List Int} {k : Nat} (h : Inc zs k) (hk : zs.length ≤ k + 1) : zs.Pairwise (· < ·) := Inc.pair fun _ hm => h.mono (by omega)
theorem bad_nil (size : Int) : ¬ Vld size [] := fun h => by have := h.head; simp at this
theorem bad_head {size z : Int} {zs : List Int} (h : zs[0]? = some z) (hz : z ≠ 0) : ¬ Vld size zs := fun g => by have := g.head; rw [h] at this; cases this; exact hz rfl
theorem bad_inc {size x y : Int} {zs : List Int} {k : Nat} (hx : zs[k]? = some x) (hy : zs[k + 1]? = some y) (h : y ≤ x) : ¬ Vld size zs := fun g => by
  obtain ⟨h1, rfl⟩ := List.getElem?_eq_some_iff.1 hx
  obtain ⟨h2, rfl⟩ := List.getElem?_eq_some_iff.1 hy
  have := List.pairwise_iff_getElem.1 g.inc k (k + 1) h1 h2 (by omega)
  omega
theorem good_last {size z : Int} {zs : List Int} {m : Nat} (h0 : zs[0]? = some 0) (hi : zs.Pairwise (· < ·)) (hm : zs.length = m + 1) (hz : zs[m]? = some z) : Vld size zs ↔ z ≤ size ∧ z ≤ 600 := by
  constructor
  · intro g; exact g.le z (List.mem_of_getElem? hz)
  · rintro ⟨a, b⟩
    refine ⟨h0, hi, fun x hx => ?_⟩
    obtain ⟨j, hj, rfl⟩ := List.mem_iff_getElem.1 hx
    obtain ⟨h2, rfl⟩ := List.getElem?_eq_some_iff.1 hz
    by_cases e : j = m
    · subst e; exact ⟨a, b⟩
    · have := List.pairwise_iff_getElem.1 hi j m hj h2 (by omega)
      omega
/-- whether it is valid -/
noncomputable def goodB (size : Int) (zs : List Int) : Bool := @decide (Vld size zs) (Classical.propDecidable _)
theorem goodB_yes {size : Int} {zs : List Int} (h : Vld size zs) : goodB size zs = true := by unfold goodB; exact @decide_eq_true _ (Classical.propDecidable _) h
theorem goodB_no {size : Int} {zs : List Int} (h : ¬ Vld size zs) : goodB size zs = false := by unfold goodB; exact @decide_eq_false _ (Classical.propDecidable _) h
theorem goodB_of {size : Int} {zs : List Int} (h : goodB size zs = true) : Vld size zs := Classical.byContradiction fun q => by rw [goodB_no q] at h; cases h
/-- the starts of two texts, one behind the other -/
theorem sts_join (a b : Bs) : sts (a ++ b) = sts a ++ (fts 0 b).map (· + (a.length : Int)) := by
  unfold sts
  rw [fts_app, fts_shift]; rfl
theorem join_low {a b : Bs} {i : Nat} (h : i < (sts a).length) : (sts (a ++ b))[i]? = (sts a)[i]? := by rw [sts_join, List.getElem?_append_left h]
theorem join_high {a b : Bs} {q : Nat} {y : Int} (h : (sts b)[q + 1]? = some y) : (sts (a ++ b))[(sts a).length + q]? = some (y + a.length) := by
  rw [sts_join, List.getElem?_append_right (by omega), show (sts a).length + q - (sts a).length = q by omega, List.getElem?_map]
  have : (fts 0 b)[q]? = some y := by simpa [sts] using h
  rw [this]; rfl
theorem join_len (a b : Bs) : (sts (a ++ b)).length + 1 = (sts a).length + (sts b).length := by
  rw [sts_join, List.length_append, List.length_map]
  show _ = _ + ((fts 0 b).length + 1)
  omega
/-- the last start of a text -/
theorem sts_last (l : Bs) : (sts l)[lns l]? = some ((l.length : Int) - col l) := by
  revert l
  refine snocInd ?_ ?_
  · rfl
  · intro l c ih
    by_cases h : c = 10
    · subst h
      have e : sts (l ++ [10]) = sts l ++ [(l.length : Int) + 1] := by
        unfold sts; rw [fts_feed]; simp
      rw [e, lns_snoc, col_snoc, if_pos rfl, if_pos rfl, List.getElem?_append_right (by rw [sts_len]; omega), sts_len]
      simp
    · have e : sts (l ++ [c]) = sts l := by unfold sts; rw [fts_other _ _ h]
      rw [e, lns_snoc, col_snoc, if_neg h, if_neg h, Nat.add_zero, ih]
      congr 1
      simp
      omega
/-- the line of an offset, and its column -/
theorem line_place {t : Bs} {a n : Nat} (h : a ≤ t.length) (hu : UpTo (sts t) a (n + 1)) : n = lns (t.take a) ∧ (sts t)[n]? = some ((a : Int) - col (t.take a)) ∧ n < (sts t).length := by
  have e := upto_sts h hu
  rw [List.length_cons, fts_len] at e
  have hn : n = lns (t.take a) := by omega
  refine ⟨hn, ?_, by have := hu.le; omega⟩
  have h1 := sts_last (t.take a)
  rw [List.length_take, Nat.min_eq_left h] at h1
  rw [sts_split t h, List.getElem?_append_left (by rw [List.length_cons, fts_len]; omega), hn]
  exact h1
end Go.Proofs.Ytcknmaimkodaeaa.LineM
