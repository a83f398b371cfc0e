/-
  Package find: the loops that build the machine, step by step. No function is walked here.
-/
import Derived.Test.YtkiebkjndmcddaaAcBuildM
namespace Go.Proofs.Ytkiebkjndmcddaa.AcM
open Go.RowKit Go.Maps Kit FindM LineM HistM

/-- while the prefixes of size bytes grow: the first i strings are done -/
structure BuI (w0 : World) (fs : List (List UInt8)) (eb size i : Nat) (v : Value) (ps : List (List UInt8)) (ss : List St) (d : Nat → Nat) (W : World) : Prop where
  mac : MacAt w0.heap.size W v ps ss
  blank : Blank ss
  ends : EN eb fs.length d W
  far : ¬ Foot v ss eb
  low : w0.heap.size ≤ eb
  bel : Below w0.heap.size w0 W
  reach : ∀ j, j < fs.length → d j < ps.length ∧ sq ps (d j) = (fs.getD j []).take (if j < i then size + 1 else size)
  len : ∀ p ∈ ps, p.length ≤ size + 1
  short : ∀ p ∈ ps, p.length ≤ 20
  cnt : ps.length ≤ 1 + size * fs.length + i
section
variable {w0 W : World} {fs : List (List UInt8)} {eb size i : Nat} {v : Value} {ps : List (List UInt8)} {ss : List St} {d : Nat → Nat}
theorem BuI.skip (h : BuI w0 fs eb size i v ps ss d W) (hs : (fs.getD i []).length ≤ size) : BuI w0 fs eb size (i + 1) v ps ss d W :=
  { h with
    reach := fun j hj => by
      obtain ⟨h1, h2⟩ := h.reach j hj
      refine ⟨h1, h2.trans ?_⟩
      by_cases e : j = i
      · subst e
        rw [if_neg (by omega), if_pos (by omega), List.take_of_length_le hs, List.take_of_length_le (by omega)]
      · by_cases e2 : j < i
        · rw [if_pos e2, if_pos (by omega)]
        · rw [if_neg e2, if_neg (by omega)]
    cnt := by have := h.cnt; omega }
theorem BuI.turn (h : BuI w0 fs eb size fs.length v ps ss d W) : BuI w0 fs eb (size + 1) 0 v ps ss d W :=
  { h with
    reach := fun j hj => by
      obtain ⟨h1, h2⟩ := h.reach j hj
      rw [if_pos hj] at h2
      exact ⟨h1, by rw [if_neg (by omega)]; exact h2⟩
    len := fun p hp => by have := h.len p hp; omega
    cnt := by have := h.cnt; rw [Nat.succ_mul]; omega }
theorem BuI.drew (h : BuI w0 fs eb size i v ps ss d W) : BuI w0 fs eb size i v ps ss d W.drew :=
  { h with
    mac := h.mac.next (Below.drew (Below.refl _ _))
    ends := h.ends.kept (Nat.le_refl _) rfl
    bel := Below.drew h.bel }
theorem BuI.long (h : BuI w0 fs eb size i v ps ss d W) (hi : i < fs.length) (hs : size < (fs.getD i []).length) : ∀ p ∈ ps, p.length ≤ (sq ps (d i)).length + 1 := fun p hp => by
  obtain ⟨_, h2⟩ := h.reach i hi
  rw [if_neg (by omega)] at h2
  have := h.len p hp
  rw [h2, List.length_take]
  omega
theorem BuI.next (h : BuI w0 fs eb size i v ps ss d W) (hi : i < fs.length) (h20 : size < 20) {c : UInt8} (hc : (fs.getD i [])[size]? = some c) {e : Ending} {W2 : World} (hg : GrPost w0.heap.size v ps ss (sq ps (d i) ++ [c]) W e W2) :
    ∃ v' n ps' ss' d', e = .returned (.tuple #[v', .int .i64 ((n : Nat) : Int)]) ∧ (eb < W2.heap.size ∧ W2.cell? ⟨eb, i, none⟩ = some (.int .i64 (d i : Int)) ∧ W2.frozen? ⟨eb, i, none⟩ = false) ∧ BuI w0 fs eb size (i + 1) v' ps' ss' d' (W2.setCell ⟨eb, i, none⟩ (.int .i64 (n : Int))) := by
  obtain ⟨v', ps', ss', n, rfl, hmac, hfr, hft, hn, hsq, hps, hbl⟩ := hg.is
  have hE : EN eb fs.length d W2 := h.ends.kept hfr.size (hfr.block eb h.ends.lt h.far)
  have hfar' : ¬ Foot v' ss' eb := fun hf => by
    rcases hft eb hf with h1 | h1
    · exact h.far h1
    · have := h.ends.lt; omega
  have hold : ∀ s, s < ps.length → s < ps'.length ∧ sq ps' s = sq ps s := fun s hs => by
    rcases hps with e | e
    · rw [e]; exact ⟨hs, rfl⟩
    · rw [e]; exact ⟨by simp; omega, sq_app hs⟩
  have hsz : size < (fs.getD i []).length := (List.getElem?_eq_some_iff.1 hc).1
  refine ⟨v', n, ps', ss', _, rfl, ⟨hE.lt, hE.cell i hi, hE.free i hi⟩, ⟨?_, hbl h.blank, hE.set hi n, hfar', h.low, ?_, fun j hj => ?_, fun p hp => ?_, fun p hp => ?_, ?_⟩⟩
  · exact hmac.kept (by simp [World.setCell]) (fun b hb => heap_set_other (fun e => hfar' (by rw [← e]; exact hb)) _)
  · have hB := h.bel.size
    have f2 : Below w0.heap.size W W2 := hfr.below hB (fun b hb => h.mac.low b hb)
    exact (h.bel.trans f2).setCell (p := ⟨eb, i, none⟩) h.low _
  · obtain ⟨h1, h2⟩ := h.reach j hj
    by_cases e : j = i
    · subst e
      rw [if_neg (by omega)] at h2
      show (if j = j then n else d j) < ps'.length ∧ sq ps' (if j = j then n else d j) = _
      rw [if_pos rfl, if_pos (by omega), hsq, h2]
      exact ⟨hn, by rw [List.take_add_one, hc]; rfl⟩
    · obtain ⟨h3, h4⟩ := hold _ h1
      show (if j = i then n else d j) < ps'.length ∧ sq ps' (if j = i then n else d j) = _
      rw [if_neg e]
      refine ⟨h3, h4.trans (h2.trans ?_)⟩
      by_cases e2 : j < i
      · rw [if_pos e2, if_pos (by omega)]
      · rw [if_neg e2, if_neg (by omega)]
  · rcases hps with e | e
    · exact h.len p (e ▸ hp)
    · rw [e] at hp
      rcases List.mem_append.1 hp with hp | hp
      · exact h.len p hp
      · rw [List.mem_singleton] at hp
        rw [hp, List.length_append, List.length_singleton]
        obtain ⟨_, h2⟩ := h.reach i hi
        rw [if_neg (by omega)] at h2
        rw [h2, List.length_take]
        omega
  · rcases hps with e | e
    · exact h.short p (e ▸ hp)
    · rw [e] at hp
      rcases List.mem_append.1 hp with hp | hp
      · exact h.short p hp
      · rw [List.mem_singleton] at hp
        rw [hp, List.length_append, List.length_singleton]
        obtain ⟨_, h2⟩ := h.reach i hi
        rw [if_neg (by omega)] at h2
        rw [h2, List.length_take]
        omega
  · have := h.cnt
    rcases hps with e | e
    · rw [e]; omega
    · rw [e, List.length_append, List.length_singleton]; omega
/-- what the states are: known of the first i strings -/
def Known (ps : List (List UInt8)) (fs : List (List UInt8)) (i : Nat) (ss : List St) : Prop := ∀ (s : Nat) (st : St), ss[s]? = some st → (st.fi = -1 ∧ ∀ j, j < i → fs.getD j [] ≠ sq ps s) ∨ ∃ j : Nat, j < i ∧ st.fi = (j : Int) ∧ fs.getD j [] = sq ps s
/-- while the strings' states are marked -/
structure BuF (w0 : World) (fs : List (List UInt8)) (eb i : Nat) (v : Value) (ps : List (List UInt8)) (ss : List St) (d : Nat → Nat) (W : World) : Prop where
  mac : MacAt w0.heap.size W v ps ss
  ends : EN eb fs.length d W
  far : ¬ Foot v ss eb
  low : w0.heap.size ≤ eb
  bel : Below w0.heap.size w0 W
  reach : ∀ j, j < fs.length → d j < ps.length ∧ sq ps (d j) = fs.getD j []
  known : Known ps fs i ss
  cnt : ps.length ≤ 1000
  short : ∀ p ∈ ps, p.length ≤ 20
theorem BuI.done (h : BuI w0 fs eb 20 0 v ps ss d W) (hf : ∀ j, j < fs.length → (fs.getD j []).length ≤ 20) (hn : fs.length ≤ 20) : BuF w0 fs eb 0 v ps ss d W :=
  { h with
    reach := fun j hj => by
      obtain ⟨h1, h2⟩ := h.reach j hj
      rw [if_neg (by omega), List.take_of_length_le (hf j hj)] at h2
      exact ⟨h1, h2⟩
    known := fun s st hst => .inl ⟨h.blank st (List.mem_of_getElem? hst), fun j hj => by omega⟩
    cnt := by have := h.cnt; omega }
theorem BuF.next {g off n cap : Nat} (h : BuF w0 fs eb i (.slice (some ⟨g, off, none⟩) n cap) ps ss d W) (hi : i < fs.length) :
    ∃ st, ss[d i]? = some st ∧ BuF w0 fs eb (i + 1) (.slice (some ⟨g, off, none⟩) n cap) ps (ss.set (d i) { st with fi := (i : Int) }) d (W.setCell ⟨g, off + d i * 3 + 2, none⟩ (.int .i64 (i : Int))) := by
  obtain ⟨hd, hsq⟩ := h.reach i hi
  obtain ⟨st, hst⟩ := h.mac.get hd
  have hge : eb ≠ g := fun e => h.far (.inl (by rw [e]; rfl))
  refine ⟨st, hst, h.mac.setFi hst _, h.ends.kept (by simp [World.setCell]) (heap_set_other hge _), fun hf => h.far (foot_set hst _ hf), h.low, h.bel.setCell (p := ⟨g, off + d i * 3 + 2, none⟩) (h.mac.low g (.inl rfl)) _, h.reach, fun s x hx => ?_, h.cnt, h.short⟩
  by_cases e : s = d i
  · subst e
    rw [List.getElem?_set_self (List.getElem?_eq_some_iff.1 hst).1] at hx
    cases hx
    exact .inr ⟨i, by omega, rfl, hsq.symm⟩
  · rw [List.getElem?_set_ne (Ne.symm e)] at hx
    have hsl : s < ps.length := by rw [← h.mac.len]; exact (List.getElem?_eq_some_iff.1 hx).1
    rcases h.known s x hx with ⟨h1, h2⟩ | ⟨j, h1, h2, h3⟩
    · refine .inl ⟨h1, fun j hj => ?_⟩
      by_cases e2 : j = i
      · subst e2
        intro e3
        exact e (h.mac.trie.inj hsl hd (e3.symm.trans hsq.symm))
      · exact h2 j (by omega)
    · exact .inr ⟨j, by omega, h2, h3⟩
/-- what build answers -/
structure BuPost (w0 : World) (fs : List (List UInt8)) (e : Ending) (W : World) : Prop where
  is : ∃ v ps ss, e = .returned v ∧ MacAt w0.heap.size W v ps ss ∧ Below w0.heap.size w0 W ∧ (∀ j, j < fs.length → fs.getD j [] ∈ ps) ∧ Known ps fs fs.length ss ∧ ps.length ≤ 1000 ∧ ∀ p ∈ ps, p.length ≤ 20
theorem BuF.done (h : BuF w0 fs eb fs.length v ps ss d W) : BuPost w0 fs (.returned v) W :=
  ⟨v, ps, ss, rfl, h.mac, h.bel, fun j hj => by
    obtain ⟨h1, h2⟩ := h.reach j hj
    rw [← h2]; exact sq_mem h1, h.known, h.cnt, h.short⟩
end
end Go.Proofs.Ytkiebkjndmcddaa.AcM
