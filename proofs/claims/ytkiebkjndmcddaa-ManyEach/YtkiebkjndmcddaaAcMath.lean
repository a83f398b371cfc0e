/-
  A machine whose states are prefixes of strings: plain lists. No program is named.
-/
import Derived.Test.YtkiebkjndmcddaaManyMath
namespace Go.Proofs.Ytkiebkjndmcddaa.FindM

/-- the strings of the states -/
structure Trie (ps : List (List UInt8)) : Prop where
  root : ps[0]? = some []
  nodup : ps.Nodup
  pre : ∀ p c, p ++ [c] ∈ ps → p ∈ ps
/-- the string of a state -/
def sq (ps : List (List UInt8)) (s : Nat) : List UInt8 := ps.getD s []
theorem sq_mem {ps : List (List UInt8)} {s : Nat} (h : s < ps.length) : sq ps s ∈ ps := by
  simp only [sq, List.getD, List.getElem?_eq_getElem h, Option.getD_some]
  exact List.getElem_mem h
theorem sq_get {ps : List (List UInt8)} {s : Nat} (h : s < ps.length) : ps[s]? = some (sq ps s) := by
  simp only [sq, List.getD, List.getElem?_eq_getElem h, Option.getD_some]
theorem sq_app {ps qs : List (List UInt8)} {s : Nat} (h : s < ps.length) : sq (ps ++ qs) s = sq ps s := by
  simp only [sq, List.getD, List.getElem?_append_left h]
theorem sq_new {ps : List (List UInt8)} {q : List UInt8} : sq (ps ++ [q]) ps.length = q := by
  simp [sq, List.getD]
theorem Trie.inj {ps : List (List UInt8)} (h : Trie ps) {i j : Nat} (hi : i < ps.length) (hj : j < ps.length) (e : sq ps i = sq ps j) : i = j := by
  simp only [sq, List.getD, List.getElem?_eq_getElem hi, List.getElem?_eq_getElem hj, Option.getD_some] at e
  exact (List.getElem_inj h.nodup).1 e
theorem Trie.pos {ps : List (List UInt8)} (h : Trie ps) : 0 < ps.length := by
  have := h.root
  cases ps with
  | nil => simp at this
  | cons => simp
theorem Trie.sq0 {ps : List (List UInt8)} (h : Trie ps) : sq ps 0 = [] := by
  simp [sq, List.getD, h.root]
theorem Trie.zero {ps : List (List UInt8)} (h : Trie ps) {s : Nat} (hs : s < ps.length) (e : sq ps s = []) : s = 0 := h.inj hs h.pos (e.trans h.sq0.symm)
theorem mem_sq {ps : List (List UInt8)} {p : List UInt8} (h : p ∈ ps) : ∃ s, s < ps.length ∧ sq ps s = p := by
  obtain ⟨s, hs, e⟩ := List.mem_iff_getElem.1 h
  refine ⟨s, hs, ?_⟩
  simp only [sq, List.getD, List.getElem?_eq_getElem hs, Option.getD_some, e]
theorem trie_one : Trie [[]] := ⟨rfl, by simp, fun p c h => by simp at h⟩
/-- a state more -/
theorem Trie.add {ps : List (List UInt8)} (h : Trie ps) {p : List UInt8} {c : UInt8} (hp : p ∈ ps) (hn : p ++ [c] ∉ ps) : Trie (ps ++ [p ++ [c]]) := by
  refine ⟨?_, ?_, fun q d hq => ?_⟩
  · rw [List.getElem?_append_left h.pos, h.root]
  · rw [List.nodup_append]
    refine ⟨h.nodup, by simp, fun a ha b hb e => ?_⟩
    rw [List.mem_singleton] at hb
    subst hb; subst e; exact hn ha
  · rcases List.mem_append.1 hq with hq | hq
    · exact List.mem_append_left _ (h.pre q d hq)
    · rw [List.mem_singleton] at hq
      obtain ⟨e, _⟩ := List.append_inj' hq rfl
      rw [e]; exact List.mem_append_left _ hp

/-- the longest of those that R names -/
structure Long (ps : List (List UInt8)) (R : List UInt8 → Prop) (s : Nat) : Prop where
  lt : s < ps.length
  is : R (sq ps s)
  max : ∀ p ∈ ps, R p → p.length ≤ (sq ps s).length
/-- a suffix, a shorter one -/
def Suf (q p : List UInt8) : Prop := p <:+ q
def PSuf (q p : List UInt8) : Prop := p <:+ q ∧ p.length < q.length
theorem long_self {ps : List (List UInt8)} {s : Nat} (h : s < ps.length) : Long ps (Suf (sq ps s)) s :=
  ⟨h, List.suffix_refl _, fun _ _ hp => hp.length_le⟩
theorem long_root {ps : List (List UInt8)} (h : Trie ps) : Long ps (Suf []) 0 := by
  have := long_self h.pos
  rwa [h.sq0] at this
theorem Long.app {ps : List (List UInt8)} {R : List UInt8 → Prop} {s : Nat} (h : Long ps R s) {q : List UInt8} (hq : ¬ R q) : Long (ps ++ [q]) R s := by
  refine ⟨by have := h.lt; simp; omega, by rw [sq_app h.lt]; exact h.is, fun p hp hr => ?_⟩
  rw [sq_app h.lt]
  rcases List.mem_append.1 hp with hp | hp
  · exact h.max p hp hr
  · rw [List.mem_singleton] at hp
    subst hp; exact absurd hr hq
/-- the search for the next state -/
structure Cnd (ps : List (List UInt8)) (q : List UInt8) (c : UInt8) (s : Nat) : Prop where
  lt : s < ps.length
  is : sq ps s <:+ q
  max : ∀ p ∈ ps, p <:+ q → p ++ [c] ∈ ps → p.length ≤ (sq ps s).length
theorem Long.cnd {ps : List (List UInt8)} {q : List UInt8} {s : Nat} (h : Long ps (Suf q) s) (c : UInt8) : Cnd ps q c s := ⟨h.lt, h.is, fun p hp hq _ => h.max p hp hq⟩
theorem Cnd.hit {ps : List (List UInt8)} (T : Trie ps) {q : List UInt8} {c : UInt8} {s n : Nat} (h : Cnd ps q c s) (hn : n < ps.length) (e : sq ps n = sq ps s ++ [c]) : Long ps (Suf (q ++ [c])) n := by
  refine ⟨hn, ?_, fun p hp hs => ?_⟩
  · rw [e]
    obtain ⟨t, ht⟩ := h.is
    exact ⟨t, by rw [← List.append_assoc, ht]⟩
  · rw [e, List.length_append, List.length_singleton]
    rcases List.suffix_concat_iff.1 hs with rfl | ⟨t, rfl, ht⟩
    · simp
    · have := h.max t (T.pre t c hp) ht hp
      rw [List.length_append, List.length_singleton]; omega
theorem Cnd.back {ps : List (List UInt8)} {q : List UInt8} {c : UInt8} {s n : Nat} (h : Cnd ps q c s) (hne : sq ps s ++ [c] ∉ ps) (hl : Long ps (PSuf (sq ps s)) n) : Cnd ps q c n := by
  refine ⟨hl.lt, hl.is.1.trans h.is, fun p hp hq hc => hl.max p hp ?_⟩
  have h1 := h.max p hp hq hc
  have h2 := List.suffix_of_suffix_length_le hq h.is h1
  refine ⟨h2, ?_⟩
  by_cases e : p.length = (sq ps s).length
  · exact absurd (h2.eq_of_length e ▸ hc) hne
  · omega
theorem Cnd.miss {ps : List (List UInt8)} (T : Trie ps) {q : List UInt8} {c : UInt8} (h : Cnd ps q c 0) (hne : sq ps 0 ++ [c] ∉ ps) : Long ps (Suf (q ++ [c])) 0 := by
  refine ⟨T.pos, by rw [T.sq0]; exact List.nil_suffix, fun p hp hs => ?_⟩
  rcases List.suffix_concat_iff.1 hs with rfl | ⟨t, rfl, ht⟩
  · simp
  · have h1 := h.max t (T.pre t c hp) ht hp
    rw [T.sq0] at h1 hne
    obtain rfl := List.eq_nil_of_length_eq_zero (show t.length = 0 by simpa using h1)
    exact absurd hp hne
/-- the suffix of a new state -/
theorem Long.grow {ps : List (List UInt8)} (T : Trie ps) {a : List UInt8} {c : UInt8} {s n : Nat} (h : Long ps (PSuf a) s) (hn : Long ps (Suf (sq ps s ++ [c])) n) : Long ps (PSuf (a ++ [c])) n := by
  refine ⟨hn.lt, ⟨?_, ?_⟩, fun p hp hs => hn.max p hp ?_⟩
  · refine List.IsSuffix.trans (l₂ := sq ps s ++ [c]) hn.is ?_
    obtain ⟨t, ht⟩ := h.is.1
    exact ⟨t, by rw [← List.append_assoc, ht]⟩
  · have h1 : (sq ps n).length ≤ (sq ps s ++ [c]).length := List.IsSuffix.length_le hn.is
    have h2 := h.is.2
    simp only [List.length_append, List.length_singleton] at h1 ⊢
    omega
  · rcases List.suffix_concat_iff.1 hs.1 with rfl | ⟨t, rfl, ht⟩
    · exact List.nil_suffix
    · have hl := hs.2
      simp only [List.length_append, List.length_singleton] at hl
      have h1 := h.max t (T.pre t c hp) ⟨ht, by omega⟩
      obtain ⟨u, hu⟩ := List.suffix_of_suffix_length_le ht h.is.1 h1
      exact ⟨u, by rw [← List.append_assoc, hu]⟩
/-- the suffix of one byte -/
theorem long_one {ps : List (List UInt8)} (T : Trie ps) (c : UInt8) : Long ps (PSuf ([] ++ [c])) 0 := by
  refine ⟨T.pos, by rw [T.sq0]; exact ⟨List.nil_suffix, by simp⟩, fun p _ hs => ?_⟩
  have := hs.2
  simp at this
  simp [this]

/-- what stands ahead of a place -/
theorem stands_suf {t f : List UInt8} {e : Nat} (he : e ≤ t.length) (h : f <:+ t.take e) : f.length ≤ e ∧ stands t f (e - f.length) = true := by
  obtain ⟨u, hu⟩ := h
  have hl := congrArg List.length hu
  simp only [List.length_append, List.length_take] at hl
  refine ⟨by omega, stands_iff.2 ⟨by omega, ?_⟩⟩
  have ht : t = u ++ (f ++ t.drop e) := by rw [← List.append_assoc, hu, List.take_append_drop]
  have hu' : e - f.length = u.length := by omega
  rw [hu']
  conv => lhs; rw [ht]
  simp
theorem suf_stands {t f : List UInt8} {a e : Nat} (h : stands t f a = true) (he : a + f.length = e) : f <:+ t.take e := by
  obtain ⟨h1, h2⟩ := stands_iff.1 h
  refine ⟨t.take a, ?_⟩
  rw [← h2]
  subst he
  rw [List.take_add]
theorem fs_mem {fs : List (List UInt8)} {i : Nat} (h : i < fs.length) : fs.getD i [] ∈ fs := by
  simp only [List.getD, List.getElem?_eq_getElem h, Option.getD_some]
  exact List.getElem_mem h
/-- the row of a longer list of lengths, where no more is in it -/
theorem rowL_same {t : List UInt8} {fs : List (List UInt8)} {e m : Nat} : ∀ k, m + k ≤ 20 → (∀ p, IsHit t fs p → p.1 + fl fs p.2 = e → ¬ (20 - (m + k) < fl fs p.2 ∧ fl fs p.2 ≤ 20 - m)) → rowL t fs e (m + k) = rowL t fs e m
  | 0, _, _ => rfl
  | k + 1, hk, h => by
    rw [show m + (k + 1) = (m + k) + 1 by omega, rowL_succ, rowL_same k (by omega) (fun p hp he hh => h p hp he ⟨by omega, hh.2⟩)]
    have : rowI t fs e (20 - (m + k)) fs.length = [] := by
      rw [List.eq_nil_iff_forall_not_mem]
      intro p hp
      obtain ⟨h1, h2, h3, h4⟩ := mem_rowI.1 hp
      exact h p ⟨h1, h4⟩ (by omega) ⟨by omega, by omega⟩
    rw [this, List.append_nil]
/-- of one length but one can end there -/
theorem rowI_hit {t : List UInt8} {fs : List (List UInt8)} (hn : fs.Nodup) {e long j : Nat} (hj : j < fs.length) (hl : fl fs j = long) (hle : long ≤ e) (hs : stands t (fs.getD j []) (e - long) = true) : rowI t fs e long fs.length = [(e - long, j)] := by
  have key : ∀ n, n ≤ fs.length → rowI t fs e long n = if j < n then [(e - long, j)] else [] := by
    intro n
    induction n with
    | zero => intro _; simp [rowI]
    | succ n ih =>
      intro hn'
      rw [rowI_succ, ih (by omega)]
      by_cases e1 : n = j
      · subst e1
        rw [if_neg (by omega), if_pos ⟨hl, hle, hs⟩, if_pos (by omega), List.nil_append]
      · rw [if_neg (c := fl fs n = long ∧ _)]
        · by_cases h : j < n
          · rw [if_pos h, if_pos (by omega), List.append_nil]
          · rw [if_neg h, if_neg (by omega), List.append_nil]
        · rintro ⟨h1, h2, h3⟩
          have := hit_unique hn (p := (e - long, n)) (q := (e - long, j)) ⟨by omega, h3⟩ ⟨hj, hs⟩ (by show _ + fl fs n = _ + fl fs j; omega) (by show fl fs n = fl fs j; omega)
          exact e1 (congrArg Prod.snd this)
  rw [key _ (Nat.le_refl _), if_pos hj]
theorem rowI_none {t : List UInt8} {fs : List (List UInt8)} {e long : Nat} {x : List UInt8} (hx : x <:+ t.take e) (hl : x.length = long) (hn : x ∉ fs) : rowI t fs e long fs.length = [] := by
  rw [List.eq_nil_iff_forall_not_mem]
  intro p hp
  obtain ⟨h1, h2, h3, h4⟩ := mem_rowI.1 hp
  have h6 : p.1 + (fs.getD p.2 []).length = e := by unfold fl at h2; omega
  have h5 := suf_stands h4 h6
  have h7 := List.suffix_of_suffix_length_le h5 hx (by unfold fl at h2; omega)
  have h8 := h7.eq_of_length (by unfold fl at h2; omega)
  exact hn (h8 ▸ fs_mem h1)
/-- which string a state is: known of the first n -/
def Fnd (ps fs : List (List UInt8)) (n : Nat) (fi : Nat → Int) : Prop := ∀ s, s < ps.length → (fi s = -1 ∧ ∀ j, j < n → fs.getD j [] ≠ sq ps s) ∨ ∃ j : Nat, j < n ∧ fi s = j ∧ fs.getD j [] = sq ps s
end Go.Proofs.Ytkiebkjndmcddaa.FindM
