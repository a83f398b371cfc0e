/-
  The document's words while they are gathered: their memory.
-/
import Derived.Test.YtedlgobpoifnfaaRefSort
import Derived.Test.YtedlgobpoifnfaaGrpMath
import Derived.Test.YtedlgobpoifnfaaWordFind
import Derived.Laws.OwnMore
namespace Go.Proofs.Ytedlgobpoifnfaa.WordR
open Go.RowKit Kit WordM LineM WordC

/-- rows of two types are two blocks -/
theorem apart {w : World} {b1 b2 : Nat} {e1 e2 : TypeId} {s1 s2 n1 n2 : Nat} {v1 v2 : Value} {x1 x2 : List Value} (h1 : w.ownsRow b1 e1 s1 v1 n1 x1) (h2 : w.ownsRow b2 e2 s2 v2 n2 x2) (he : e1 ≠ e2) : v1.ownBlock = none ∨ v1.ownBlock ≠ v2.ownBlock := by
  rcases h1.2 with ⟨rfl, _⟩ | ⟨g, cap, cur, rfl, _, hg, _⟩
  · exact .inl rfl
  · right
    rcases h2.2 with ⟨rfl, _⟩ | ⟨g', cap', cur', rfl, _, hg', _⟩
    · simp [Value.ownBlock]
    · simp only [Value.ownBlock, ne_eq, Option.some.injEq]
      rintro rfl
      rw [hg] at hg'
      injection hg' with e
      injection e with _ e
      exact he e
theorem own_some {w : World} {base e size n : Nat} {v : Value} {xs : List Value} (h : w.ownsRow base e size v n xs) (hn : 0 < n) : ∃ g cap, v = .slice (some ⟨g, 0, none⟩) n cap ∧ base ≤ g ∧ g < w.heap.size := by
  rcases h.2 with ⟨_, h0⟩ | ⟨g, cap, cur, e, _⟩
  · omega
  · have := h.lt g (by rw [e]; rfl)
    exact ⟨g, cap, e, this.1, this.2⟩
/-- the box, the row of words, their rows of places -/
structure GM (w : World) (M : List Wt) (v : Value) (W : World) : Prop where
  box : W.cell? ⟨w.heap.size, 0, none⟩ = some v
  fr : W.frozen? ⟨w.heap.size, 0, none⟩ = false
  row : W.ownsRow (w.heap.size + 1) 46 2 v M.length (flatC cw M)
  at_ : ∀ t ∈ M, W.ownsRow (w.heap.size + 1) 3 1 t.2.1 t.2.2.length (flatC ic t.2.2) ∧ t.2.2 ≠ []
  off : ∀ (i j : Nat) (t u : Wt), i ≠ j → M[i]? = some t → M[j]? = some u → t.2.1.ownBlock ≠ u.2.1.ownBlock
  bel : Below w.heap.size w W
  sz : w.heap.size + 1 ≤ W.heap.size
theorem GM.form {w W : World} {M : List Wt} {v : Value} (h : GM w M v W) : ∃ a cap, v = .slice a M.length cap := by
  rcases h.row.2 with ⟨e, h0⟩ | ⟨g, cap, cur, e, _⟩
  · exact ⟨none, 0, by rw [e, h0]⟩
  · exact ⟨_, cap, e⟩
theorem flatC_set {α : Type} {k : Nat} {cells : α → List Value} (hk : ∀ o, (cells o).length = k) : ∀ (l : List α) (i : Nat) (o o' : α) (j : Nat) (u : Value), l[i]? = some o → j < k → cells o' = (cells o).set j u → flatC cells (l.set i o') = (flatC cells l).set (i * k + j) u
  | [], i, o, o', j, u, h, _, _ => by simp at h
  | x :: l, 0, o, o', j, u, h, hj, e => by
    simp at h; subst h
    rw [List.set_cons_zero, flatC_cons, flatC_cons, e, List.set_append, if_pos (by rw [hk]; omega)]; simp
  | x :: l, i + 1, o, o', j, u, h, hj, e => by
    simp at h
    have e1 : (i + 1) * k + j = k + (i * k + j) := by rw [Nat.succ_mul]; omega
    rw [List.set_cons_succ, flatC_cons, flatC_cons, flatC_set hk l i o o' j u h hj e, List.set_append, if_neg (by rw [hk]; omega), hk, e1]
    congr 2; omega
/-- a place more, at the i-th word -/
theorem GM.at_set {w W : World} {M : List Wt} {g cap : Nat} (h : GM w M (.slice (some ⟨g, 0, none⟩) M.length cap) W) {i : Nat} {t : Wt} (hi : M[i]? = some t) (a : Int) (ob : Obj) (W4 : World) (g4 cap4 : Nat)
    (hr : W4.ownsRow (w.heap.size + 1) 3 1 (.slice (some ⟨g4, 0, none⟩) (t.2.2.length + 1) cap4) (t.2.2.length + 1) (flatC ic t.2.2 ++ [.int .i64 a])) (hg : (W.alloc ob).grownBy W4 t.2.1.ownBlock) (hloc : t.2.1.ownBlock = some g4 ∨ g4 = (W.alloc ob).heap.size) :
    (W4.cell? ⟨w.heap.size, 0, none⟩ = some (.slice (some ⟨g, 0, none⟩) M.length cap) ∧ W4.cell? ⟨g, i * 2 + 1, none⟩ = some t.2.1 ∧ W4.frozen? ⟨g, i * 2 + 1, none⟩ = false) ∧
    GM w (M.set i (t.1, .slice (some ⟨g4, 0, none⟩) (t.2.2.length + 1) cap4, t.2.2 ++ [a])) (.slice (some ⟨g, 0, none⟩) M.length cap) (W4.setCell ⟨g, i * 2 + 1, none⟩ (.slice (some ⟨g4, 0, none⟩) (t.2.2.length + 1) cap4)) := by
  have ht := List.mem_of_getElem? hi
  have hil := (List.getElem?_eq_some_iff.1 hi).1
  obtain ⟨hrow, hne⟩ := h.at_ t ht
  have hb1 : Below W.heap.size W (W.alloc ob) := balloc (Below.refl _ _) ob
  have kbx := own_above hrow (k := w.heap.size) (by omega)
  have hgg := h.row.lt g rfl
  have hW4 : ∀ b, b < W.heap.size → t.2.1.ownBlock ≠ some b → W4.heap[b]? = W.heap[b]? := fun b hb hn => (hg.block b (Nat.lt_of_lt_of_le hb hb1.size) (fun e => hn e.symm)).trans (hb1.block b hb)
  have hsz := hg.size
  have hs1 := hb1.size
  have hsw := h.sz
  have hap : t.2.1.ownBlock ≠ some g := by
    rcases apart hrow h.row (by decide) with e | e
    · rw [e]; simp
    · exact e
  have c1 : W4.cell? ⟨w.heap.size, 0, none⟩ = some (.slice (some ⟨g, 0, none⟩) M.length cap) := (World.cell?_of_block (a := ⟨w.heap.size, 0, none⟩) (hW4 w.heap.size (by omega) kbx)).trans h.box
  have hrowv : W4.ownsRow (w.heap.size + 1) 46 2 (.slice (some ⟨g, 0, none⟩) M.length cap) M.length (flatC cw M) := (h.row.alloc ob).kept hg (.inr (fun e => hap e.symm))
  have c2 : W4.cell? ⟨g, i * 2 + 1, none⟩ = some t.2.1 := by
    rw [hrowv.cellAt (i * 2 + 1) (by omega), flatC_get cw_len M i t 1 hi (by omega)]; rfl
  have hst := hrowv.stored (i * 2 + 1) (.slice (some ⟨g4, 0, none⟩) (t.2.2.length + 1) cap4)
  have hg4 := hr.lt g4 rfl
  have g4g : g4 ≠ g := by
    intro e
    rcases apart hr hrowv (by decide) with e' | e'
    · cases e'
    · exact e' (by rw [e]; rfl)
  refine ⟨⟨c1, c2, hrowv.frozenAt _⟩, ⟨?_, ?_, ?_, ?_, ?_, ?_, ?_⟩⟩
  · rw [setO (.inl (by omega))]; exact c1
  · rw [World.frozen?_setCell]
    exact (World.frozen?_of_block (a := ⟨w.heap.size, 0, none⟩) (hW4 w.heap.size (by omega) kbx)).trans h.fr
  · rw [List.length_set]
    have e := flatC_set cw_len M i t (t.1, .slice (some ⟨g4, 0, none⟩) (t.2.2.length + 1) cap4, t.2.2 ++ [a]) 1 (.slice (some ⟨g4, 0, none⟩) (t.2.2.length + 1) cap4) hi (by omega) rfl
    rw [e]; exact hst.1
  · intro u hu
    obtain ⟨j, hj⟩ := List.getElem?_of_mem hu
    rw [List.getElem?_set] at hj
    by_cases e : i = j
    · rw [if_pos e, if_pos hil] at hj
      cases hj
      refine ⟨?_, by simp⟩
      show (W4.setCell _ _).ownsRow _ _ _ _ (t.2.2 ++ [a]).length (flatC ic (t.2.2 ++ [a]))
      rw [List.length_append, flatC_append]
      exact ownsRow_setCell_other hr (fun e => g4g (by simpa [Value.ownBlock] using e)) _
    · rw [if_neg e] at hj
      obtain ⟨h1, h2⟩ := h.at_ u (List.mem_of_getElem? hj)
      have hd := h.off j i u t (fun e' => e e'.symm) hj hi
      refine ⟨?_, h2⟩
      have h3 : W4.ownsRow (w.heap.size + 1) 3 1 u.2.1 u.2.2.length (flatC ic u.2.2) := (h1.alloc ob).kept hg (.inr hd)
      refine ownsRow_setCell_other h3 (fun e => ?_) _
      rcases apart h3 hrowv (by decide) with e' | e'
      · rw [e'] at e; cases e
      · exact e' e
  · intro j1 j2 u1 u2 hjj h1 h2
    have fresh : ∀ (j : Nat) (u : Wt), i ≠ j → M[j]? = some u → u.2.1.ownBlock ≠ some g4 := by
      intro j u hij hj e
      rcases hloc with e' | e'
      · exact h.off i j t u hij hi hj (by rw [e', e])
      · have := ((h.at_ u (List.mem_of_getElem? hj)).1.lt g4 e).2
        omega
    rw [List.getElem?_set] at h1 h2
    by_cases e1 : i = j1
    · rw [if_pos e1, if_pos hil] at h1
      cases h1
      rw [if_neg (by omega)] at h2
      exact fun e => fresh j2 u2 (by omega) h2 e.symm
    · rw [if_neg e1] at h1
      by_cases e2 : i = j2
      · rw [if_pos e2, if_pos hil] at h2
        cases h2
        exact fresh j1 u1 e1 h1
      · rw [if_neg e2] at h2
        exact h.off j1 j2 u1 u2 hjj h1 h2
  · have hb4 : Below w.heap.size w W4 := (balloc h.bel ob).trans ⟨hg.os, hg.tape, hg.output, hg.size, fun b hb => hg.block b (by have := (balloc h.bel ob).size; omega) (fun e => own_above hrow (k := b) (by omega) e.symm)⟩
    exact hb4.setCell (by show w.heap.size ≤ g; omega) _
  · rw [setZ]; omega
/-- a word more -/
theorem GM.push {w W : World} {M : List Wt} {v : Value} (h : GM w M v W) (x : List UInt8) (a : Int) (ob : Obj) (W4 : World) (g4 cap4 : Nat)
    (hr : W4.ownsRow (w.heap.size + 1) 46 2 (.slice (some ⟨g4, 0, none⟩) (M.length + 1) cap4) (M.length + 1) (flatC cw M ++ [.string (bs x), .slice (some ⟨W.heap.size, 0, none⟩) 1 1]))
    (hg : ((W.alloc (.cells #[.int .i64 a] 3)).alloc ob).grownBy W4 v.ownBlock) :
    (W4.cell? ⟨w.heap.size, 0, none⟩ = some v ∧ W4.frozen? ⟨w.heap.size, 0, none⟩ = false) ∧
    GM w (M ++ [(x, .slice (some ⟨W.heap.size, 0, none⟩) 1 1, [a])]) (.slice (some ⟨g4, 0, none⟩) (M.length + 1) cap4) (W4.setCell ⟨w.heap.size, 0, none⟩ (.slice (some ⟨g4, 0, none⟩) (M.length + 1) cap4)) := by
  have hb1 : Below W.heap.size W ((W.alloc (.cells #[.int .i64 a] 3)).alloc ob) := balloc (balloc (Below.refl _ _) _) ob
  have kbx := own_above h.row (k := w.heap.size) (by omega)
  have hsw := h.sz
  have hsz := hg.size
  have hs1 := hb1.size
  have hW4 : ∀ b, b < W.heap.size → v.ownBlock ≠ some b → W4.heap[b]? = W.heap[b]? := fun b hb hn => (hg.block b (Nat.lt_of_lt_of_le hb hb1.size) (fun e => hn e.symm)).trans (hb1.block b hb)
  have c1 : W4.cell? ⟨w.heap.size, 0, none⟩ = some v := (World.cell?_of_block (a := ⟨w.heap.size, 0, none⟩) (hW4 w.heap.size (by omega) kbx)).trans h.box
  have f1 : W4.frozen? ⟨w.heap.size, 0, none⟩ = false := (World.frozen?_of_block (a := ⟨w.heap.size, 0, none⟩) (hW4 w.heap.size (by omega) kbx)).trans h.fr
  have hlit0 : (W.alloc (.cells #[.int .i64 a] 3)).ownsRow (w.heap.size + 1) 3 1 (.slice (some ⟨W.heap.size, 0, none⟩) 1 1) 1 [.int .i64 a] := World.ownsRow_lit W #[.int .i64 a] 1 (by omega) (by unfold maxLen; decide) rfl
  have hlit : W4.ownsRow (w.heap.size + 1) 3 1 (.slice (some ⟨W.heap.size, 0, none⟩) 1 1) 1 [.int .i64 a] := by
    refine (hlit0.alloc ob).kept hg ?_
    refine .inr fun e => ?_
    have := (h.row.lt W.heap.size e.symm).2
    omega
  refine ⟨⟨c1, f1⟩, ⟨setS c1 _, by rw [World.frozen?_setCell]; exact f1, ?_, ?_, ?_, ?_, ?_⟩⟩
  · rw [List.length_append, flatC_append, flatC_one]
    exact ownsRow_setCell_below hr (by show w.heap.size < w.heap.size + 1; omega) _
  · intro u hu
    rcases List.mem_append.1 hu with hu | hu
    · obtain ⟨h1, h2⟩ := h.at_ u hu
      refine ⟨ownsRow_setCell_below (((h1.alloc _).alloc ob).kept hg (apart h1 h.row (by decide))) (by show w.heap.size < w.heap.size + 1; omega) _, h2⟩
    · simp at hu
      subst hu
      exact ⟨ownsRow_setCell_below hlit (by show w.heap.size < w.heap.size + 1; omega) _, by simp⟩
  · intro j1 j2 u1 u2 hjj h1 h2
    have old : ∀ (j : Nat) (u : Wt), M[j]? = some u → u.2.1.ownBlock ≠ some W.heap.size := by
      intro j u hj e
      have := ((h.at_ u (List.mem_of_getElem? hj)).1.lt _ e).2
      omega
    rw [List.getElem?_append] at h1 h2
    split at h1 <;> split at h2
    · exact h.off j1 j2 u1 u2 hjj h1 h2
    · simp only [List.getElem?_singleton] at h2
      split at h2
      · cases h2; exact old j1 u1 h1
      · cases h2
    · simp only [List.getElem?_singleton] at h1
      split at h1
      · cases h1; exact fun e => old j2 u2 h2 e.symm
      · cases h1
    · simp only [List.getElem?_singleton] at h1 h2
      split at h1 <;> split at h2
      · omega
      · cases h2
      · cases h1
      · cases h1
  · have hb4 : Below w.heap.size w W4 := (balloc (balloc h.bel _) ob).trans ⟨hg.os, hg.tape, hg.output, hg.size, fun b hb => hg.block b (by have := (balloc (balloc h.bel (.cells #[.int .i64 a] 3)) ob).size; omega) (fun e => own_above h.row (k := b) (by omega) e.symm)⟩
    exact hb4.setCell (by show w.heap.size ≤ w.heap.size; omega) _
  · rw [setZ]; omega
end Go.Proofs.Ytedlgobpoifnfaa.WordR
