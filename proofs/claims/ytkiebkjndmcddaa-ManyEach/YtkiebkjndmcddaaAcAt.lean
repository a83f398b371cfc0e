/-
  The machine of prefixes in memory: a slice of states, each with a map of its own. No function is named.
-/
import Derived.Test.YtkiebkjndmcddaaAcMath
import Derived.Test.YtkiebkjndmcddaaHistRow
import Derived.Test.YtkiebkjndmcddaaRowO
import Derived.Test.YtkiebkjndmcddaaLineAt
import Derived.Maps.OwnSet
import Derived.Maps.Views
namespace Go.Proofs.Ytkiebkjndmcddaa.AcM
open Go.RowKit Go.Maps Kit FindM LineM HistM

/-- a state: its map's block, its suffix, the string that it is -/
structure St where
  mb : Nat
  sf : Nat
  fi : Int
def stc (s : St) : List Value := [.map (some s.mb), .int .i64 (s.sf : Int), .int .i64 s.fi]
theorem stc_len (s : St) : (stc s).length = 3 := rfl
/-- a key -/
def ky (c : UInt8) : Lit := .int .u8 (c.toNat : Int)
theorem ky_lit (c : UInt8) : WideAt.IsKeyLit (ky c) := by simp [ky, WideAt.IsKeyLit]
theorem ky_inj {c d : UInt8} (h : ky c = ky d) : c = d := by
  simp [ky] at h
  exact UInt8.toNat_inj.1 (by omega)
/-- a place in the map -/
def pl0 (n : Nat) : DataW Unit := .lit (.int .i64 (n : Int))
/-- the map holds the states that follow s -/
structure DMp (ps : List (List UInt8)) (s : Nat) (D : DataW Unit) : Prop where
  tidy : Tidy D
  yes : ∀ (c : UInt8) n, n < ps.length → sq ps n = sq ps s ++ [c] → has D (ky c) = true ∧ D.atKey (ky c) (pl0 0) = pl0 n
  no : ∀ c, sq ps s ++ [c] ∉ ps → has D (ky c) = false
/-- a state more: the map that leads to it -/
theorem DMp.put {ps : List (List UInt8)} {s : Nat} {D : DataW Unit} (h : DMp ps s D) (hs : s < ps.length) {c : UInt8} (hn : sq ps s ++ [c] ∉ ps) : DMp (ps ++ [sq ps s ++ [c]]) s (D.put (ky c) (pl0 ps.length)) := by
  refine ⟨h.tidy.put (ky_lit c) _, fun d n hn1 he => ?_, fun d hd => ?_⟩
  · rw [sq_app hs] at he
    by_cases e : d = c
    · subst e
      refine ⟨has_put_same h.tidy.isMap (ky_lit _) _, ?_⟩
      rw [atKey_put_same h.tidy.isMap (ky_lit _)]
      by_cases hl : n < ps.length
      · rw [sq_app hl] at he
        exact absurd (he ▸ sq_mem hl) hn
      · obtain rfl : n = ps.length := by simp at hn1; omega
        rfl
    · have hl : n < ps.length := by
        by_cases hl : n < ps.length
        · exact hl
        · obtain rfl : n = ps.length := by simp at hn1; omega
          rw [sq_new] at he
          obtain ⟨_, e2⟩ := List.append_inj' he rfl
          simp at e2
          exact absurd e2.symm e
      rw [sq_app hl] at he
      obtain ⟨h1, h2⟩ := h.yes d n hl he
      have hk : ky d ≠ ky c := fun x => e (ky_inj x)
      exact ⟨by rw [has_put_other hk]; exact h1, by rw [atKey_put_other hk]; exact h2⟩
  · rw [sq_app hs] at hd
    have h1 : sq ps s ++ [d] ∉ ps := fun x => hd (List.mem_append_left _ x)
    have h2 : d ≠ c := fun x => hd (by rw [x]; simp)
    rw [has_put_other (fun x => h2 (ky_inj x))]
    exact h.no d h1
/-- a state more: the other maps -/
theorem DMp.other {ps : List (List UInt8)} {s a : Nat} {D : DataW Unit} (T : Trie ps) (h : DMp ps s D) (hs : s < ps.length) (ha : a < ps.length) (hsa : s ≠ a) {c : UInt8} : DMp (ps ++ [sq ps a ++ [c]]) s D := by
  refine ⟨h.tidy, fun d n hn1 he => ?_, fun d hd => ?_⟩
  · rw [sq_app hs] at he
    have hl : n < ps.length := by
      by_cases hl : n < ps.length
      · exact hl
      · obtain rfl : n = ps.length := by simp at hn1; omega
        rw [sq_new] at he
        exact absurd (T.inj ha hs (List.append_inj' he rfl).1).symm hsa
    rw [sq_app hl] at he
    exact h.yes d n hl he
  · rw [sq_app hs] at hd
    exact h.no d (fun x => hd (List.mem_append_left _ x))
/-- a state more: its own map -/
theorem DMp.new {ps : List (List UInt8)} {p : List UInt8} {c : UInt8} (T : Trie ps) (hn : p ++ [c] ∉ ps) : DMp (ps ++ [p ++ [c]]) ps.length (.map []) := by
  have key : ∀ d, (p ++ [c]) ++ [d] ∉ ps ++ [p ++ [c]] := fun d hd => by
    rcases List.mem_append.1 hd with hd | hd
    · exact hn (T.pre _ d hd)
    · rw [List.mem_singleton] at hd
      have := congrArg List.length hd
      simp at this
  refine ⟨tidy_empty, fun d n hn1 he => ?_, fun d _ => by simp [has]⟩
  rw [sq_new] at he
  exact absurd (he ▸ sq_mem hn1) (key d)
theorem DMp.one : DMp [[]] 0 (.map []) := by
  refine ⟨tidy_empty, fun d n hn1 he => ?_, fun d _ => by simp [has]⟩
  obtain rfl : n = 0 := by simp at hn1; omega
  simp [sq] at he
theorem keyLaw : Keyed Try.prog 5 := int_keyed Try.underlying5
theorem ky_of (c : UInt8) : keyOf Try.prog 5 (.int .u8 (c.toNat : Int)) = some (ky c) := keyOf_int_mk Try.underlying5 (by
  have := c.toNat_lt
  simp only [Lit.wf, Bool.and_eq_true, decide_eq_true_eq]
  exact ⟨by show (0 : Int) ≤ _; omega, by show _ ≤ (255 : Int); omega⟩)
abbrev OM (w : World) (b n : Nat) (D : DataW Unit) : Prop := w.ownsMap Try.prog 5 (plainElem Try.prog 3) b n D
theorem OM.same {w w' : World} {b n : Nat} {D : DataW Unit} (h : OM w b n D) (e : w'.heap[b]? = w.heap[b]?) : OM w' b n D := by
  obtain ⟨es, clock, h1, h2⟩ := h
  exact ⟨es, clock, e.trans h1, h2⟩
/-- the blocks of a machine -/
def Foot (v : Value) (ss : List St) (b : Nat) : Prop := v.ownBlock = some b ∨ ∃ st ∈ ss, st.mb = b
/-- the machine with the strings ps, above block B -/
structure MacAt (B : Nat) (w : World) (v : Value) (ps : List (List UInt8)) (ss : List St) : Prop where
  row : RX 3 w v ss.length (flatC stc ss)
  low : ∀ b, Foot v ss b → B ≤ b
  len : ss.length = ps.length
  trie : Trie ps
  maps : ∀ s st, ss[s]? = some st → ∃ n D, OM w st.mb n D ∧ n ≤ ps.length ∧ DMp ps s D
  far : ∀ st : St, st ∈ ss → v.ownBlock ≠ some st.mb
  apart : ∀ (i j : Nat) (a b : St), ss[i]? = some a → ss[j]? = some b → a.mb = b.mb → i = j
  suf : ∀ s st, ss[s]? = some st → 0 < s → Long ps (PSuf (sq ps s)) st.sf
section
variable {B : Nat} {w w' : World} {v : Value} {ps : List (List UInt8)} {ss : List St}
theorem MacAt.lt (h : MacAt B w v ps ss) {b : Nat} (hb : Foot v ss b) : b < w.heap.size := by
  rcases hb with hb | ⟨st, hst, rfl⟩
  · exact h.row.lt hb
  · obtain ⟨s, hs⟩ := List.mem_iff_getElem?.1 hst
    obtain ⟨n, D, h1, _⟩ := h.maps s st hs
    exact h1.lt
theorem MacAt.kept (h : MacAt B w v ps ss) (hs : w.heap.size ≤ w'.heap.size) (hb : ∀ b, Foot v ss b → w'.heap[b]? = w.heap[b]?) : MacAt B w' v ps ss where
  row := h.row.kept hs fun g hg => hb g (.inl hg)
  low := h.low
  len := h.len
  trie := h.trie
  maps s st hst := by
    obtain ⟨n, D, h1, h2⟩ := h.maps s st hst
    exact ⟨n, D, h1.same (hb _ (.inr ⟨st, List.mem_of_getElem? hst, rfl⟩)), h2⟩
  far := h.far
  apart := h.apart
  suf := h.suf
theorem MacAt.next (h : MacAt B w v ps ss) (hb : Below w.heap.size w w') : MacAt B w' v ps ss := h.kept hb.size fun _ hf => hb.block _ (h.lt hf)
theorem MacAt.form (h : MacAt B w v ps ss) : ∃ g off cap, v = .slice (some ⟨g, off, none⟩) ss.length cap ∧ g < w.heap.size ∧ ∀ s st, ss[s]? = some st → w.cell? ⟨g, off + s * 3, none⟩ = some (.map (some st.mb)) ∧ w.cell? ⟨g, off + s * 3 + 1, none⟩ = some (.int .i64 (st.sf : Int)) ∧ w.cell? ⟨g, off + s * 3 + 2, none⟩ = some (.int .i64 st.fi) := by
  obtain ⟨g, off, cap, e, _, _, hg, hc, _⟩ := h.row.pos (by rw [h.len]; exact h.trie.pos)
  refine ⟨g, off, cap, e, hg, fun s st hst => ?_⟩
  have key : ∀ j u, j < 3 → (stc st)[j]? = some u → w.cell? ⟨g, off + s * 3 + j, none⟩ = some u := fun j u hj hu => by
    rw [Nat.add_assoc]
    exact hc _ _ ((flatC_get stc_len ss s st j hst hj).trans hu)
  exact ⟨key 0 _ (by omega) rfl, key 1 _ (by omega) rfl, key 2 _ (by omega) rfl⟩
theorem MacAt.get (h : MacAt B w v ps ss) {s : Nat} (hs : s < ps.length) : ∃ st, ss[s]? = some st := ⟨ss[s]'(by rw [h.len]; exact hs), List.getElem?_eq_getElem _⟩
/-- a state more -/
theorem MacAt.add (h : MacAt B w v ps ss) {a n0 : Nat} {sa : St} {D0 : DataW Unit} {c : UInt8} (ha : ss[a]? = some sa) (hn : sq ps a ++ [c] ∉ ps) (hlen : ∀ p ∈ ps, p.length ≤ (sq ps a).length + 1) (hD : DMp ps a D0) (hn0 : n0 ≤ ps.length) {w1 w2 w3 : World}
    (hm1 : OM w1 sa.mb (n0 + 1) (D0.put (ky c) (pl0 ps.length))) (hg1 : w.grownBy w1 (some sa.mb)) (hb2 : Below w1.heap.size w1 w2) {mb sf : Nat} (hmb : w1.heap.size ≤ mb) (hm2 : OM w2 mb 0 (.map [])) (hsf : Long ps (PSuf (sq ps a ++ [c])) sf)
    {v' : Value} (hr : RX 3 w3 v' (ss.length + 1) (flatC stc ss ++ stc ⟨mb, sf, -1⟩)) (hg3 : w2.grownBy w3 v.ownBlock) (hv : ∃ g, v'.ownBlock = some g ∧ (v.ownBlock = some g ∨ (w2.heap.size ≤ g ∧ g < w3.heap.size))) (hB : B ≤ w.heap.size) :
    MacAt B w3 v' (ps ++ [sq ps a ++ [c]]) (ss ++ [⟨mb, sf, -1⟩]) ∧ Fr (Foot v ss) w w3 ∧ ∀ b, Foot v' (ss ++ [⟨mb, sf, -1⟩]) b → Foot v ss b ∨ w.heap.size ≤ b := by
  obtain ⟨g, hgv, hg⟩ := hv
  have hal : a < ps.length := by rw [← h.len]; exact (List.getElem?_eq_some_iff.1 ha).1
  have T2 : Trie (ps ++ [sq ps a ++ [c]]) := h.trie.add (sq_mem hal) hn
  have z1 := hg1.size
  have z2 := hb2.size
  have z3 := hg3.size
  have hmlt : mb < w2.heap.size := hm2.lt
  have hfoot : ∀ b, Foot v' (ss ++ [⟨mb, sf, -1⟩]) b → Foot v ss b ∨ w.heap.size ≤ b := by
    rintro b (hb | ⟨st, hst, rfl⟩)
    · rw [hgv] at hb
      cases hb
      rcases hg with hg | hg
      · exact .inl (.inl hg)
      · right; omega
    · rcases List.mem_append.1 hst with hst | hst
      · exact .inl (.inr ⟨st, hst, rfl⟩)
      · rw [List.mem_singleton] at hst
        subst hst
        right; show w.heap.size ≤ mb; omega
  -- an old map, in the last world
  have old : ∀ st ∈ ss, st.mb ≠ sa.mb → w3.heap[st.mb]? = w.heap[st.mb]? := fun st hst hne => by
    have hl := h.lt (.inr ⟨st, hst, rfl⟩)
    rw [hg3.block _ (by omega) (fun e => h.far st hst e.symm), hb2.block _ (by omega), hg1.block _ hl (fun e => hne (Option.some.inj e))]
  refine ⟨⟨?_, fun b hb => ?_, by simp [h.len], T2, fun s st hst => ?_, fun st hst => ?_, fun i j x y hx hy hxy => ?_, fun s st hst h0 => ?_⟩, ?_, hfoot⟩
  · rw [List.length_append, flatC_append, flatC_one]; exact hr
  · rcases hfoot b hb with hb | hb
    · exact h.low b hb
    · omega
  · by_cases hl : s < ss.length
    · rw [List.getElem?_append_left hl] at hst
      by_cases e : s = a
      · subst e
        rw [ha] at hst
        cases hst
        refine ⟨n0 + 1, _, hm1.same ?_, by simp; omega, hD.put hal hn⟩
        have hm := List.mem_of_getElem? ha
        have hl1 := h.lt (.inr ⟨sa, hm, rfl⟩)
        rw [hg3.block _ (by omega) (fun e => h.far sa hm e.symm), hb2.block _ (by omega)]
      · obtain ⟨n, D, h1, h2, h3⟩ := h.maps s st hst
        have hne : st.mb ≠ sa.mb := fun x => e (h.apart s a st sa hst ha x)
        exact ⟨n, D, h1.same (old st (List.mem_of_getElem? hst) hne), by simp; omega, h3.other h.trie (by rw [← h.len]; exact hl) hal e⟩
    · have e : s = ss.length := by
        have := (List.getElem?_eq_some_iff.1 hst).1
        simp at this; omega
      subst e
      simp at hst
      subst hst
      have hne : some mb ≠ v.ownBlock := fun e => by
        have := h.lt (.inl e.symm)
        omega
      refine ⟨0, _, hm2.same (hg3.block _ hmlt hne), Nat.zero_le _, ?_⟩
      rw [h.len]
      exact DMp.new h.trie hn
  · rw [hgv]
    intro e
    cases e
    rcases List.mem_append.1 hst with hst | hst
    · rcases hg with hg | hg
      · exact h.far st hst hg
      · have := h.lt (.inr ⟨st, hst, rfl⟩); omega
    · rw [List.mem_singleton] at hst
      subst hst
      dsimp only at *
      rcases hg with hg | hg
      · have := h.lt (.inl hg); omega
      · omega
  · have key : ∀ {i : Nat} {x : St}, (ss ++ [⟨mb, sf, -1⟩])[i]? = some x → (ss[i]? = some x ∧ x.mb < w.heap.size) ∨ (i = ss.length ∧ x.mb = mb) := fun {i x} hx => by
      by_cases hl : i < ss.length
      · rw [List.getElem?_append_left hl] at hx
        exact .inl ⟨hx, h.lt (.inr ⟨x, List.mem_of_getElem? hx, rfl⟩)⟩
      · have e : i = ss.length := by
          have := (List.getElem?_eq_some_iff.1 hx).1
          simp at this; omega
        subst e
        simp at hx
        subst hx
        exact .inr ⟨rfl, rfl⟩
    rcases key hx with ⟨h1, h2⟩ | ⟨h1, h2⟩ <;> rcases key hy with ⟨h3, h4⟩ | ⟨h3, h4⟩
    · exact h.apart i j x y h1 h3 hxy
    · omega
    · omega
    · omega
  · by_cases hl : s < ss.length
    · rw [List.getElem?_append_left hl] at hst
      have hsl : s < ps.length := by rw [← h.len]; exact hl
      rw [sq_app hsl]
      refine (h.suf s st hst h0).app (fun hp => ?_)
      have h1 := hlen _ (sq_mem hsl)
      have h2 := hp.2
      simp at h2
      omega
    · have e : s = ss.length := by
        have := (List.getElem?_eq_some_iff.1 hst).1
        simp at this; omega
      subst e
      simp at hst
      subst hst
      rw [h.len, sq_new]
      exact hsf.app (fun hp => by have := hp.2; omega)
  · have f1 : Fr (Foot v ss) w w1 := (Fr.refl _ w).grown hg1 (fun b e => by cases e; exact .inl (.inr ⟨sa, List.mem_of_getElem? ha, rfl⟩))
    have f2 : Fr (Foot v ss) w w2 := f1.trans (Fr.of_below hb2)
    exact f2.grown hg3 (fun b e => .inl (.inl e))
end
end Go.Proofs.Ytkiebkjndmcddaa.AcM
