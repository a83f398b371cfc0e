/-
  Sets of places as lists of spans, on plain lists: the one form of a set, joining at the end, runs of truths. No program is named.
-/
namespace Go.Proofs.Ytdiogfhbgmkajaa.SpanM

structure SpM where
  lo : Int
  hi : Int
deriving DecidableEq

/-- sorted, none empty, a gap between each two -/
structure Norm (l : List SpM) : Prop where
  some_ : ∀ s ∈ l, s.lo < s.hi
  gap : l.Pairwise fun a b => a.hi < b.lo
/-- the place i is in the set -/
def In (l : List SpM) (i : Int) : Prop := ∃ s ∈ l, s.lo ≤ i ∧ i < s.hi
/-- a set of a text of n bytes -/
structure Valid (n : Int) (l : List SpM) : Prop where
  n0 : 0 ≤ n
  n1 : n ≤ 600
  len : l.length ≤ 40
  rng : ∀ s ∈ l, 0 ≤ s.lo ∧ s.lo < s.hi ∧ s.hi ≤ n
  gap : l.Pairwise fun a b => a.hi < b.lo
theorem Valid.norm {n : Int} {l : List SpM} (h : Valid n l) : Norm l := ⟨fun s hs => (h.rng s hs).2.1, h.gap⟩
theorem Norm.nil : Norm [] := ⟨by simp, .nil⟩
theorem In.nil {i : Int} : ¬ In [] i := by rintro ⟨s, hs, _⟩; simp at hs
theorem in_cons {s : SpM} {l : List SpM} {i : Int} : In (s :: l) i ↔ (s.lo ≤ i ∧ i < s.hi) ∨ In l i := by simp [In]
theorem in_append {l m : List SpM} {i : Int} : In (l ++ m) i ↔ In l i ∨ In m i := by
  simp only [In, List.mem_append]
  constructor
  · rintro ⟨s, hs | hs, h⟩
    · exact .inl ⟨s, hs, h⟩
    · exact .inr ⟨s, hs, h⟩
  · rintro (⟨s, hs, h⟩ | ⟨s, hs, h⟩)
    · exact ⟨s, .inl hs, h⟩
    · exact ⟨s, .inr hs, h⟩
theorem Norm.tail {s : SpM} {l : List SpM} (h : Norm (s :: l)) : Norm l := ⟨fun x hx => h.some_ x (List.mem_cons_of_mem _ hx), (List.pairwise_cons.1 h.gap).2⟩
theorem Norm.behind {s : SpM} {l : List SpM} (h : Norm (s :: l)) {i : Int} (hi : In l i) : s.hi < i := by
  obtain ⟨x, hx, h1, _⟩ := hi
  have := (List.pairwise_cons.1 h.gap).1 x hx
  omega
/-- one form alone -/
theorem norm_one : ∀ {l m : List SpM}, Norm l → Norm m → (∀ i, In l i ↔ In m i) → l = m
  | [], [], _, _, _ => rfl
  | [], b :: m, _, hm, h => by
    have := hm.some_ b (by simp)
    exact absurd ((h b.lo).2 (in_cons.2 (.inl ⟨by omega, this⟩))) In.nil
  | a :: l, [], hl, _, h => by
    have := hl.some_ a (by simp)
    exact absurd ((h a.lo).1 (in_cons.2 (.inl ⟨by omega, this⟩))) In.nil
  | a :: l, b :: m, hl, hm, h => by
    have ha := hl.some_ a (by simp)
    have hb := hm.some_ b (by simp)
    have e1 : b.lo ≤ a.lo := by
      rcases in_cons.1 ((h a.lo).1 (in_cons.2 (.inl ⟨by omega, ha⟩))) with q | q
      · exact q.1
      · have := hm.behind q; omega
    have e2 : a.lo ≤ b.lo := by
      rcases in_cons.1 ((h b.lo).2 (in_cons.2 (.inl ⟨by omega, hb⟩))) with q | q
      · exact q.1
      · have := hl.behind q; omega
    have e3 : ¬ a.hi < b.hi := by
      intro q
      rcases in_cons.1 ((h a.hi).2 (in_cons.2 (.inl ⟨by omega, q⟩))) with q | q
      · omega
      · have := hl.behind q; omega
    have e4 : ¬ b.hi < a.hi := by
      intro q
      rcases in_cons.1 ((h b.hi).1 (in_cons.2 (.inl ⟨by omega, q⟩))) with q | q
      · omega
      · have := hm.behind q; omega
    have e : a = b := by
      obtain ⟨x, y⟩ := a
      obtain ⟨x', y'⟩ := b
      simp only [SpM.mk.injEq]
      simp only at e1 e2 e3 e4
      omega
    subst e
    rw [norm_one hl.tail hm.tail]
    intro i
    constructor
    · intro q
      have := hl.behind q
      rcases in_cons.1 ((h i).1 (in_cons.2 (.inr q))) with r | r
      · omega
      · exact r
    · intro q
      have := hm.behind q
      rcases in_cons.1 ((h i).2 (in_cons.2 (.inr q))) with r | r
      · omega
      · exact r
theorem Norm.snoc {l : List SpM} {s : SpM} (h : Norm l) (hs : s.lo < s.hi) (hb : ∀ x ∈ l, x.hi < s.lo) : Norm (l ++ [s]) := by
  refine ⟨fun x hx => ?_, ?_⟩
  · rcases List.mem_append.1 hx with q | q
    · exact h.some_ x q
    · simp at q; subst q; exact hs
  · rw [List.pairwise_append]
    exact ⟨h.gap, by simp, fun a ha b hb' => by simp at hb'; subst hb'; exact hb a ha⟩
theorem Norm.init {l : List SpM} {s : SpM} (h : Norm (l ++ [s])) : Norm l ∧ s.lo < s.hi ∧ ∀ x ∈ l, x.hi < s.lo := by
  have g := List.pairwise_append.1 h.gap
  exact ⟨⟨fun x hx => h.some_ x (by simp [hx]), g.1⟩, h.some_ s (by simp), fun x hx => g.2.2 x hx s (by simp)⟩

def Emp (s : SpM) : Prop := s.hi ≤ s.lo
instance (s : SpM) : Decidable (Emp s) := by unfold Emp; infer_instance
/-- joining at the end -/
def att (l : List SpM) (s : SpM) : List SpM :=
  if Emp s then l else
  match l.getLast? with
  | none => [s]
  | some x => if s.lo ≤ x.hi then l.dropLast ++ [⟨x.lo, max x.hi s.hi⟩] else l ++ [s]
theorem att_emp {l : List SpM} {s : SpM} (h : Emp s) : att l s = l := by simp [att, h]
theorem att_nil {s : SpM} (h : ¬ Emp s) : att [] s = [s] := by simp [att, h]
theorem att_join {l : List SpM} {x s : SpM} (h : ¬ Emp s) (hx : s.lo ≤ x.hi) : att (l ++ [x]) s = l ++ [⟨x.lo, max x.hi s.hi⟩] := by simp [att, h, hx]
theorem att_more {l : List SpM} {x s : SpM} (h : ¬ Emp s) (hx : ¬ s.lo ≤ x.hi) : att (l ++ [x]) s = l ++ [x] ++ [s] := by simp [att, h, hx]
theorem snoc_cases (l : List SpM) : l = [] ∨ ∃ i x, l = i ++ [x] := by
  rcases List.eq_nil_or_concat l with h | ⟨i, x, h⟩
  · exact .inl h
  · exact .inr ⟨i, x, by simpa using h⟩
theorem att_len (l : List SpM) (s : SpM) : (att l s).length ≤ l.length + 1 := by
  by_cases he : Emp s
  · rw [att_emp he]; omega
  · rcases snoc_cases l with rfl | ⟨i, x, rfl⟩
    · rw [att_nil he]; simp
    · by_cases hx : s.lo ≤ x.hi
      · rw [att_join he hx]; simp
      · rw [att_more he hx]; simp
theorem att_lo {l : List SpM} {s : SpM} {y : SpM} (hy : y ∈ att l s) : (∃ x ∈ l, x.lo = y.lo) ∨ (¬ Emp s ∧ y.lo = s.lo) := by
  by_cases he : Emp s
  · rw [att_emp he] at hy; exact .inl ⟨y, hy, rfl⟩
  · rcases snoc_cases l with rfl | ⟨i, x, rfl⟩
    · rw [att_nil he] at hy; simp at hy; subst hy; exact .inr ⟨he, rfl⟩
    · by_cases hx : s.lo ≤ x.hi
      · rw [att_join he hx] at hy
        simp at hy
        rcases hy with hy | rfl
        · exact .inl ⟨y, by simp [hy], rfl⟩
        · exact .inl ⟨x, by simp, rfl⟩
      · rw [att_more he hx] at hy
        simp at hy
        rcases hy with hy | rfl | rfl
        · exact .inl ⟨y, by simp [hy], rfl⟩
        · exact .inl ⟨y, by simp, rfl⟩
        · exact .inr ⟨he, rfl⟩
theorem in_one {s : SpM} {i : Int} : In [s] i ↔ s.lo ≤ i ∧ i < s.hi := by simp [In]
theorem att_norm {l : List SpM} {s : SpM} (h : Norm l) (hb : ¬ Emp s → ∀ x ∈ l, x.lo ≤ s.lo) : Norm (att l s) ∧ ∀ i, In (att l s) i ↔ In l i ∨ (s.lo ≤ i ∧ i < s.hi) := by
  by_cases he : Emp s
  · rw [att_emp he]
    refine ⟨h, fun i => ⟨.inl, ?_⟩⟩
    rintro (q | q)
    · exact q
    · unfold Emp at he; omega
  have hs : s.lo < s.hi := by unfold Emp at he; omega
  rcases snoc_cases l with rfl | ⟨l, x, rfl⟩
  · rw [att_nil he]
    refine ⟨⟨by simpa using hs, by simp⟩, fun i => ?_⟩
    rw [in_one]
    exact ⟨.inr, fun q => q.resolve_left In.nil⟩
  · obtain ⟨h1, h2, h3⟩ := h.init
    have hb' := hb he x (by simp)
    by_cases hx : s.lo ≤ x.hi
    · rw [att_join he hx]
      refine ⟨h1.snoc (by dsimp only; omega) h3, fun i => ?_⟩
      rw [in_append, in_append, in_one, in_one]
      dsimp only
      constructor
      · rintro (q | q)
        · exact .inl (.inl q)
        · by_cases r : i < x.hi
          · exact .inl (.inr ⟨q.1, r⟩)
          · exact .inr (by omega)
      · rintro ((q | q) | q)
        · exact .inl q
        · exact .inr (by omega)
        · exact .inr (by omega)
    · rw [att_more he hx]
      refine ⟨h.snoc hs fun y hy => ?_, fun i => by rw [in_append, in_one]⟩
      rcases List.mem_append.1 hy with q | q
      · have := h3 y q; omega
      · simp at q; subst q; omega
/-- joined one behind the other -/
def atts (l m : List SpM) : List SpM := m.foldl att l
theorem atts_nil (l : List SpM) : atts l [] = l := rfl
theorem atts_snoc (l m : List SpM) (s : SpM) : atts l (m ++ [s]) = att (atts l m) s := by simp [atts]
theorem atts_app (l m k : List SpM) : atts l (m ++ k) = atts (atts l m) k := by simp [atts]
theorem atts_len (l : List SpM) : ∀ m : List SpM, (atts l m).length ≤ l.length + m.length := by
  intro m
  induction m generalizing l with
  | nil => simp [atts]
  | cons s m ih =>
    have := ih (att l s)
    have := att_len l s
    simp only [atts, List.foldl_cons, List.length_cons] at *
    omega
theorem atts_norm : ∀ {m l : List SpM}, Norm l → (m.Pairwise fun a b => ¬ Emp a → ¬ Emp b → a.lo ≤ b.lo) → (∀ x ∈ l, ∀ s ∈ m, ¬ Emp s → x.lo ≤ s.lo) → Norm (atts l m) ∧ ∀ i, In (atts l m) i ↔ In l i ∨ In m i
  | [], l, h, _, _ => ⟨h, fun i => ⟨.inl, fun q => q.resolve_right In.nil⟩⟩
  | s :: m, l, h, hp, hb => by
    obtain ⟨a1, a2⟩ := att_norm (s := s) h fun he x hx => hb x hx s (by simp) he
    obtain ⟨p1, p2⟩ := List.pairwise_cons.1 hp
    obtain ⟨b1, b2⟩ := atts_norm (m := m) a1 p2 fun x hx t ht he => by
      rcases att_lo hx with ⟨y, hy, e⟩ | ⟨he', e⟩
      · rw [← e]; exact hb y hy t (by simp [ht]) he
      · rw [e]; exact p1 t ht he' he
    refine ⟨b1, fun i => ?_⟩
    show In (atts (att l s) m) i ↔ _
    rw [b2, a2, in_cons, or_assoc]
theorem atts_sorted {m : List SpM} (hp : m.Pairwise fun a b => ¬ Emp a → ¬ Emp b → a.lo ≤ b.lo) : Norm (atts [] m) ∧ ∀ i, In (atts [] m) i ↔ In m i := by
  obtain ⟨h1, h2⟩ := atts_norm Norm.nil hp (by simp)
  exact ⟨h1, fun i => by rw [h2]; exact ⟨fun q => q.resolve_left In.nil, .inr⟩⟩

/-- with: those that begin no later than s, s, the others -/
def withS (l : List SpM) (s : SpM) : List SpM := l.filter (fun o => decide (o.lo ≤ s.lo)) ++ [s] ++ l.filter (fun o => decide (s.lo < o.lo))
def befS (o : SpM) (x : Int) : SpM := ⟨o.lo, min o.hi x⟩
def froS (o : SpM) (x : Int) : SpM := ⟨max o.lo x, o.hi⟩
def woS (l : List SpM) (s : SpM) : List SpM := l.flatMap fun o => [befS o s.lo, froS o s.hi]
theorem in_filter {l : List SpM} {p : SpM → Bool} {i : Int} : In (l.filter p) i ↔ ∃ s ∈ l, p s = true ∧ s.lo ≤ i ∧ i < s.hi := by
  simp only [In, List.mem_filter]
  exact ⟨fun ⟨s, ⟨a, b⟩, c⟩ => ⟨s, a, b, c⟩, fun ⟨s, a, b, c⟩ => ⟨s, ⟨a, b⟩, c⟩⟩
theorem with_norm {l : List SpM} {s : SpM} (h : Norm l) : Norm (atts [] (withS l s)) ∧ ∀ i, In (atts [] (withS l s)) i ↔ In l i ∨ (s.lo ≤ i ∧ i < s.hi) := by
  have hle : l.Pairwise fun a b => ¬ Emp a → ¬ Emp b → a.lo ≤ b.lo := by
    refine List.Pairwise.imp_of_mem ?_ h.gap
    intro a b ha hb hab _ _
    have := h.some_ a ha
    omega
  obtain ⟨h1, h2⟩ := atts_sorted (m := withS l s) (by
    unfold withS
    rw [List.pairwise_append]
    refine ⟨?_, hle.sublist List.filter_sublist, ?_⟩
    · rw [List.pairwise_append]
      refine ⟨hle.sublist List.filter_sublist, by simp, fun a ha b hb _ _ => ?_⟩
      simp at ha hb; subst hb; exact ha.2
    · intro a ha b hb _ _
      simp at ha hb
      rcases ha with ha | rfl <;> omega)
  refine ⟨h1, fun i => ?_⟩
  rw [h2]
  unfold withS
  rw [in_append, in_append, in_one, in_filter, in_filter]
  constructor
  · rintro ((⟨x, a, b, c⟩ | q) | ⟨x, a, b, c⟩)
    · exact .inl ⟨x, a, c⟩
    · exact .inr q
    · exact .inl ⟨x, a, c⟩
  · rintro (⟨x, a, c⟩ | q)
    · by_cases hx : x.lo ≤ s.lo
      · exact .inl (.inl ⟨x, a, by simpa using hx, c⟩)
      · exact .inr ⟨x, a, by simp; omega, c⟩
    · exact .inl (.inr q)
theorem wo_sorted : ∀ {l : List SpM} {s : SpM}, Norm l → s.lo ≤ s.hi → (woS l s).Pairwise fun a b => ¬ Emp a → ¬ Emp b → a.lo ≤ b.lo
  | [], _, _, _ => by simp [woS]
  | o :: l, s, h, hs => by
    have ih := wo_sorted h.tail hs
    have ho := h.some_ o (by simp)
    have hg := (List.pairwise_cons.1 h.gap).1
    have key : ∀ b ∈ woS l s, o.hi < b.lo := by
      intro b hb
      simp only [woS, List.mem_flatMap] at hb
      obtain ⟨x, hx, hb⟩ := hb
      have := hg x hx
      simp [befS, froS] at hb
      rcases hb with rfl | rfl
      · exact this
      · dsimp only; omega
    show (befS o s.lo :: froS o s.hi :: woS l s).Pairwise _
    refine List.pairwise_cons.2 ⟨fun b hb _ _ => ?_, List.pairwise_cons.2 ⟨fun b hb he _ => ?_, ih⟩⟩
    · rcases List.mem_cons.1 hb with rfl | hb
      · simp only [befS, froS]; omega
      · have := key b hb; simp only [befS]; omega
    · have := key b hb
      simp only [Emp, froS] at he ⊢
      omega
theorem wo_norm {l : List SpM} {s : SpM} (h : Norm l) (hs : s.lo ≤ s.hi) : Norm (atts [] (woS l s)) ∧ ∀ i, In (atts [] (woS l s)) i ↔ In l i ∧ ¬ (s.lo ≤ i ∧ i < s.hi) := by
  obtain ⟨h1, h2⟩ := atts_sorted (wo_sorted h hs)
  refine ⟨h1, fun i => ?_⟩
  rw [h2]
  unfold woS In
  simp only [List.mem_flatMap, List.mem_cons, List.not_mem_nil, or_false]
  constructor
  · rintro ⟨x, ⟨o, ho, rfl | rfl⟩, a, b⟩
    · simp only [befS] at a b; exact ⟨⟨o, ho, by omega⟩, by omega⟩
    · simp only [froS] at a b; exact ⟨⟨o, ho, by omega⟩, by omega⟩
  · rintro ⟨⟨o, ho, a, b⟩, c⟩
    by_cases q : i < s.lo
    · exact ⟨_, ⟨o, ho, .inl rfl⟩, by simp only [befS]; omega⟩
    · exact ⟨_, ⟨o, ho, .inr rfl⟩, by simp only [froS]; omega⟩

/-- behind an edit: k bytes are put for c at a -/
def movS (o : SpM) (a c k : Int) : SpM := if o.hi ≤ max o.lo (a + c) then ⟨0, 0⟩ else ⟨max o.lo (a + c) + k - c, o.hi + k - c⟩
def shiS (l : List SpM) (a c k : Int) : List SpM := l.map (fun o => befS o a) ++ [⟨a, a + k⟩] ++ l.map (fun o => movS o a c k)
theorem shi_norm {l : List SpM} {a c k : Int} (h : Norm l) (hk : 0 ≤ k) : Norm (atts [] (shiS l a c k)) ∧ ∀ i, In (atts [] (shiS l a c k)) i ↔ (i < a ∧ In l i) ∨ (a ≤ i ∧ i < a + k) ∨ (a + k ≤ i ∧ In l (i - k + c)) := by
  have emp0 : Emp ⟨0, 0⟩ := Int.le_refl _
  obtain ⟨h1, h2⟩ := atts_sorted (m := shiS l a c k) (by
    unfold shiS
    rw [List.pairwise_append]
    refine ⟨?_, ?_, ?_⟩
    · rw [List.pairwise_append]
      refine ⟨?_, by simp, ?_⟩
      · rw [List.pairwise_map]
        refine List.Pairwise.imp_of_mem ?_ h.gap
        intro x y hx hy hxy _ _
        have := h.some_ x hx
        simp only [befS]; omega
      · intro x hx y hy he _
        simp at hx hy
        obtain ⟨o, ho, rfl⟩ := hx
        subst hy
        simp only [befS, Emp] at he ⊢
        omega
    · rw [List.pairwise_map]
      refine List.Pairwise.imp_of_mem ?_ h.gap
      intro x y hx hy hxy he he'
      simp only [movS] at he he' ⊢
      split at he
      · exact absurd emp0 he
      split at he'
      · exact absurd emp0 he'
      rename_i q r
      rw [if_neg q, if_neg r]
      dsimp only
      omega
    · intro x hx y hy he he'
      simp only [List.mem_append, List.mem_map, List.mem_singleton] at hx hy
      obtain ⟨o, ho, rfl⟩ := hy
      have q : a + k ≤ (movS o a c k).lo := by
        simp only [movS] at he' ⊢
        split at he'
        · exact absurd emp0 he'
        rename_i q
        rw [if_neg q]
        dsimp only
        omega
      rcases hx with ⟨p, hp, rfl⟩ | rfl
      · simp only [befS, Emp] at he ⊢
        omega
      · dsimp only; omega)
  refine ⟨h1, fun i => ?_⟩
  rw [h2]
  unfold shiS
  rw [in_append, in_append, in_one]
  have e1 : In (l.map fun o => befS o a) i ↔ i < a ∧ In l i := by
    simp only [In, List.mem_map]
    constructor
    · rintro ⟨_, ⟨o, ho, rfl⟩, q, r⟩
      simp only [befS] at q r
      exact ⟨by omega, o, ho, q, by omega⟩
    · rintro ⟨hi, o, ho, q, r⟩
      exact ⟨_, ⟨o, ho, rfl⟩, by simp only [befS]; omega⟩
  have e2 : In (l.map fun o => movS o a c k) i ↔ a + k ≤ i ∧ In l (i - k + c) := by
    simp only [In, List.mem_map]
    constructor
    · rintro ⟨_, ⟨o, ho, rfl⟩, q, r⟩
      unfold movS at q r
      split at q
      · rename_i hh
        simp only [hh, if_true] at q r
        omega
      · rename_i hh
        rw [if_neg hh] at r
        dsimp only at q r
        exact ⟨by omega, o, ho, by omega, by omega⟩
    · rintro ⟨hi, o, ho, q, r⟩
      refine ⟨_, ⟨o, ho, rfl⟩, ?_⟩
      unfold movS
      rw [if_neg (by omega)]
      dsimp only
      omega
  rw [e1, e2, or_assoc]
end Go.Proofs.Ytdiogfhbgmkajaa.SpanM
