/-
  Hunks that are being made, in memory: a row of them, each with lines of its own. No function is named.
-/
import Derived.Test.YtokfnajgjhkepaaMergeGs
import Derived.Test.YtokfnajgjhkepaaBnd3
namespace Go.Proofs.Ytokfnajgjhkepaa.MergeT
open Go.RowKit Kit LineM StrM DiffM DiffA DiffR DiffP DiffK HistM

/-- rows of two types are two blocks -/
theorem apart2 {w : World} {b1 b2 : Nat} {e1 e2 : TypeId} {s1 s2 n1 n2 : Nat} {v1 v2 : Value} {x1 x2 : List Value} (h1 : w.ownsRow b1 e1 s1 v1 n1 x1) (h2 : w.ownsRow b2 e2 s2 v2 n2 x2) (he : e1 ≠ e2) {b : Nat} (hb : v1.ownBlock = some b) : v2.ownBlock ≠ some b := by
  rcases h1.2 with ⟨rfl, _⟩ | ⟨g, cap, cur, rfl, _, hg, _⟩
  · cases hb
  · rcases h2.2 with ⟨rfl, _⟩ | ⟨g', cap', cur', rfl, _, hg', _⟩
    · simp [Value.ownBlock]
    · simp only [Value.ownBlock, Option.some.injEq] at hb ⊢
      subst hb
      intro e
      injection e with e
      subst e
      rw [hg] at hg'
      injection hg' with q
      injection q with _ q
      exact he q
/-- a row of hunks of the call's own -/
structure LR (w : World) (hs : List HV) (v : Value) (W : World) : Prop where
  bel : Below w.heap.size w W
  row : W.ownsRow w.heap.size 54 3 v hs.length (flatC hkc hs)
  ln : ∀ h ∈ hs, W.ownsRow w.heap.size 9 1 h.2 h.1.l.length (flatC sc h.1.l)
  off : ∀ (i j : Nat) (x y : HV), i ≠ j → hs[i]? = some x → hs[j]? = some y → ∀ b, x.2.ownBlock = some b → y.2.ownBlock ≠ some b
/-- .. and the step that is being read, in the block sk -/
structure LX (w : World) (hs : List HV) (v : Value) (sk k c : Nat) (W : World) : Prop where
  lr : LR w hs v W
  b0 : W.cell? ⟨sk, 0, none⟩ = some (.int .i64 (k : Int))
  b1 : W.cell? ⟨sk, 1, none⟩ = some (.int .i64 (c : Int))
  lo : w.heap.size ≤ sk
  lt : sk < W.heap.size
  far : v.ownBlock ≠ some sk
  farl : ∀ h ∈ hs, h.2.ownBlock ≠ some sk
section
variable {w W W' : World} {hs init : List HV} {v : Value} {sk k c : Nat} {y : HV}
theorem LR.next (h : LR w hs v W) (hb : Below W.heap.size W W') : LR w hs v W' := ⟨bstep h.bel hb, row_next h.row hb, fun x hx => row_next (h.ln x hx) hb, h.off⟩
theorem LX.next (h : LX w hs v sk k c W) (hb : Below W.heap.size W W') : LX w hs v sk k c W' := ⟨h.lr.next hb, keep hb h.lt h.b0, keep hb h.lt h.b1, h.lo, Nat.lt_of_lt_of_le h.lt hb.size, h.far, h.farl⟩
theorem LX.made (h : LR w hs v W) (t : TypeId) : LX w hs v W.heap.size k c (W.alloc (.cells #[.int .i64 (k : Int), .int .i64 (c : Int)] t)) := by
  have hb := B2.new W (.int .i64 (k : Int)) (.int .i64 (c : Int)) t
  refine ⟨h.next (balloc (Below.refl _ _) _), hb.c0, hb.c1, h.bel.size, hb.lt, fun e => ?_, fun x hx e => ?_⟩
  · have := (h.row.lt _ e).2; omega
  · have := ((h.ln x hx).lt _ e).2; omega
/-- a hunk more, with no lines yet -/
theorem LX.push (h : LX w hs v sk k c W) (a : Nat) {o : Obj} {W1 : World} {g cap : Nat}
    (hr : W1.ownsRow w.heap.size 54 3 (.slice (some ⟨g, 0, none⟩) (hs.length + 1) cap) (hs.length + 1) (flatC hkc hs ++ [.int .i64 (a : Int), .int .i64 (a : Int), .slice none 0 0])) (hg : (W.alloc o).grownBy W1 v.ownBlock) (hloc : v.ownBlock = some g ∨ g = (W.alloc o).heap.size) :
    LX w (hs ++ [(⟨a, a, []⟩, .slice none 0 0)]) (.slice (some ⟨g, 0, none⟩) (hs.length + 1) cap) sk k c W1 := by
  have ha := balloc (Below.refl W.heap.size W) o
  have hA := h.next ha
  refine ⟨⟨bgrow hA.lr.bel hA.lr.row hg, ?_, fun x hx => ?_, fun i j x z hij hx hz b hb => ?_⟩, kept_at hg hA.b0 hA.far, kept_at hg hA.b1 hA.far, h.lo, Nat.lt_of_lt_of_le hA.lt hg.size, fun e => ?_, fun x hx => ?_⟩
  · rw [List.length_append, flatC_append, flatC_one]; exact hr
  · rcases List.mem_append.1 hx with hx | hx
    · refine (hA.lr.ln x hx).kept hg ?_
      cases hv : x.2.ownBlock with
      | none => exact .inl rfl
      | some b => exact .inr (fun e2 => apart2 (hA.lr.ln x hx) hA.lr.row (by decide) hv e2.symm)
    · rw [List.mem_singleton] at hx; subst hx
      exact World.ownsRow_nil _ _ _ _
  · rw [List.getElem?_append] at hx hz
    split at hx <;> split at hz
    · exact h.lr.off i j x z hij hx hz b hb
    · rw [List.getElem?_singleton] at hz
      split at hz
      · cases hz; simp [Value.ownBlock]
      · cases hz
    · rw [List.getElem?_singleton] at hx
      split at hx
      · cases hx; cases hb
      · cases hx
    · rw [List.getElem?_singleton] at hx
      split at hx
      · cases hx; cases hb
      · cases hx
  · have eg : g = sk := by simpa [Value.ownBlock] using e
    rcases hloc with e' | e'
    · rw [eg] at e'; exact h.far e'
    · have := ha.size; have := h.lt; omega
  · rcases List.mem_append.1 hx with hx | hx
    · exact h.farl x hx
    · rw [List.mem_singleton] at hx; subst hx
      simp [Value.ownBlock]
theorem flatC_last (init : List HV) (y y' : HV) (j : Nat) (u : Value) (hj : j < 3) (e : hkc y' = (hkc y).set j u) : flatC hkc (init ++ [y']) = (flatC hkc (init ++ [y])).set (init.length * 3 + j) u := by
  have h := flatC_put (k := 3) hkc_len (init ++ [y]) init.length y y' j u (by simp) hj e
  rw [← h]
  congr 1
  rw [List.set_append_right _ _ (Nat.le_refl _), Nat.sub_self]; rfl
/-- what the last hunk's cells hold -/
theorem LX.last (h : LX w (init ++ [y]) v sk k c W) : ∃ g cap, v = .slice (some ⟨g, 0, none⟩) (init.length + 1) cap ∧ w.heap.size ≤ g ∧ g < W.heap.size ∧ g ≠ sk ∧ init.length + 1 ≤ cap ∧ (∀ j, j < 3 → W.cell? ⟨g, init.length * 3 + j, none⟩ = (hkc y)[j]? ∧ W.frozen? ⟨g, init.length * 3 + j, none⟩ = false) := by
  have hrow := h.lr.row
  have hlen : (init ++ [y]).length = init.length + 1 := by simp
  rw [hlen] at hrow
  rcases hrow.2 with ⟨_, h0⟩ | ⟨g, cap, cur, e, hlo, hg, hle, _⟩
  · omega
  · have hlt := (hrow.lt g (by rw [e]; rfl)).2
    subst e
    refine ⟨g, cap, rfl, hlo, hlt, fun e => h.far (by rw [← e]; rfl), hle, fun j hj => ⟨?_, hrow.frozenAt _⟩⟩
    rw [hrow.cellAt (init.length * 3 + j) (by omega)]
    exact flatC_get hkc_len _ _ y j (by simp) hj
theorem LX.lastA {g n cap : Nat} (h : LX w (init ++ [y]) (.slice (some ⟨g, 0, none⟩) n cap) sk k c W) : w.heap.size ≤ g ∧ g < W.heap.size ∧ g ≠ sk ∧ (∀ j, j < 3 → W.cell? ⟨g, init.length * 3 + j, none⟩ = (hkc y)[j]? ∧ W.frozen? ⟨g, init.length * 3 + j, none⟩ = false) := by
  obtain ⟨g', cap', e, h1, h2, h3, _, h4⟩ := h.last
  cases e
  exact ⟨h1, h2, h3, h4⟩
/-- the end of the last hunk is written -/
theorem LX.setEnd {g cap n : Nat} (h : LX w (init ++ [y]) (.slice (some ⟨g, 0, none⟩) n cap) sk k c W) (hg : w.heap.size ≤ g) (hgs : g ≠ sk) (e' : Nat) : LX w (init ++ [(⟨y.1.b, e', y.1.l⟩, y.2)]) (.slice (some ⟨g, 0, none⟩) n cap) sk k c (W.setCell ⟨g, init.length * 3 + 1, none⟩ (.int .i64 (e' : Int))) := by
  have hn : n = (init ++ [y]).length := by
    rcases h.lr.row.2 with ⟨e, _⟩ | ⟨_, _, _, e, _⟩
    · cases e
    · cases e; rfl
  subst hn
  have hrow := h.lr.row
  have hst := hrow.stored (init.length * 3 + 1) (.int .i64 (e' : Int))
  have mem : ∀ x ∈ init ++ [((⟨y.1.b, e', y.1.l⟩, y.2) : HV)], ∃ z ∈ init ++ [y], z.2 = x.2 ∧ z.1.l = x.1.l := fun x hx => by
    rcases List.mem_append.1 hx with hx | hx
    · exact ⟨x, by simp [hx], rfl, rfl⟩
    · rw [List.mem_singleton] at hx; subst hx; exact ⟨y, by simp, rfl, rfl⟩
  have get : ∀ (i : Nat) x, (init ++ [((⟨y.1.b, e', y.1.l⟩, y.2) : HV)])[i]? = some x → ∃ z, (init ++ [y])[i]? = some z ∧ z.2 = x.2 := fun i x hx => by
    rw [List.getElem?_append] at hx
    split at hx
    · rename_i hi; exact ⟨x, by rw [List.getElem?_append, if_pos hi]; exact hx, rfl⟩
    · rename_i hi
      rw [List.getElem?_singleton] at hx
      split at hx
      · rename_i h0
        cases hx
        exact ⟨y, by rw [List.getElem?_append, if_neg hi, h0]; rfl, rfl⟩
      · cases hx
  refine ⟨⟨h.lr.bel.setCell (p := ⟨g, init.length * 3 + 1, none⟩) hg _, ?_, fun x hx => ?_, fun i j x z hij hx hz b hb => ?_⟩, (setO (.inl (fun e => hgs e.symm)) _).trans h.b0, (setO (.inl (fun e => hgs e.symm)) _).trans h.b1, h.lo, by rw [setZ]; exact h.lt, h.far, fun x hx => ?_⟩
  · have e1 : (init ++ [((⟨y.1.b, e', y.1.l⟩, y.2) : HV)]).length = (init ++ [y]).length := by simp
    rw [e1, flatC_last init y (⟨y.1.b, e', y.1.l⟩, y.2) 1 (.int .i64 (e' : Int)) (by omega) rfl]
    exact hst.1
  · obtain ⟨z, hz, e1, e2⟩ := mem x hx
    rw [← e1, ← e2]
    have hzg : z.2.ownBlock ≠ some g := fun e => apart2 (h.lr.ln z hz) hrow (by decide) e rfl
    exact ownsRow_setCell_other (h.lr.ln z hz) hzg _
  · obtain ⟨x', hx', e1⟩ := get i x hx
    obtain ⟨z', hz', e2⟩ := get j z hz
    rw [← e1] at hb
    rw [← e2]
    exact h.lr.off i j x' z' hij hx' hz' b hb
  · obtain ⟨z, hz, e1, _⟩ := mem x hx
    rw [← e1]; exact h.farl z hz
/-- lines more, in the last hunk -/
theorem LX.app {g cap n : Nat} (h : LX w (init ++ [y]) (.slice (some ⟨g, 0, none⟩) n cap) sk k c W) (hg0 : w.heap.size ≤ g) (hgs : g ≠ sk) {W4 : World} {g4 cap4 m : Nat} {M : List ByteArray} (hm : M.length = m)
    (hr : W4.ownsRow w.heap.size 9 1 (.slice (some ⟨g4, 0, none⟩) (y.1.l.length + m) cap4) (y.1.l.length + m) (flatC sc y.1.l ++ flatC sc M)) (hg : W.grownBy W4 y.2.ownBlock) (hloc : y.2.ownBlock = some g4 ∨ g4 = W.heap.size) :
    (W4.cell? ⟨g, init.length * 3 + 2, none⟩ = some y.2 ∧ W4.frozen? ⟨g, init.length * 3 + 2, none⟩ = false ∧ W4.cell? ⟨sk, 1, none⟩ = some (.int .i64 (c : Int)) ∧ g < W4.heap.size ∧ sk < W4.heap.size) ∧
    LX w (init ++ [(⟨y.1.b, y.1.e, y.1.l ++ M⟩, .slice (some ⟨g4, 0, none⟩) (y.1.l.length + m) cap4)]) (.slice (some ⟨g, 0, none⟩) n cap) sk k c (W4.setCell ⟨g, init.length * 3 + 2, none⟩ (.slice (some ⟨g4, 0, none⟩) (y.1.l.length + m) cap4)) := by
  have hn : n = (init ++ [y]).length := by
    rcases h.lr.row.2 with ⟨e, _⟩ | ⟨_, _, _, e, _⟩
    · cases e
    · cases e; rfl
  subst hn
  have hym : y ∈ init ++ [y] := by simp
  have hy := h.lr.ln y hym
  have hfar := h.farl y hym
  have hyg : y.2.ownBlock ≠ some g := fun e => apart2 hy h.lr.row (by decide) e rfl
  have hrow4 : W4.ownsRow w.heap.size 54 3 (.slice (some ⟨g, 0, none⟩) (init ++ [y]).length cap) (init ++ [y]).length (flatC hkc (init ++ [y])) := h.lr.row.kept hg (.inr (fun e => hyg e.symm))
  have hlt : g < W.heap.size := (h.lr.row.lt g rfl).2
  have hg4 := hr.lt g4 rfl
  have g4g : g4 ≠ g := fun e => apart2 hr hrow4 (by decide) (b := g4) rfl (by rw [e]; rfl)
  have c2 : W4.cell? ⟨g, init.length * 3 + 2, none⟩ = some y.2 := by
    rw [hrow4.cellAt (init.length * 3 + 2) (by simp; omega), flatC_get hkc_len (init ++ [y]) init.length y 2 (by simp) (by omega)]; rfl
  refine ⟨⟨c2, hrow4.frozenAt _, kept_at hg h.b1 hfar, Nat.lt_of_lt_of_le hlt hg.size, Nat.lt_of_lt_of_le h.lt hg.size⟩, ?_⟩
  have hst := hrow4.stored (init.length * 3 + 2) (.slice (some ⟨g4, 0, none⟩) (y.1.l.length + m) cap4)
  have b4 : Below w.heap.size w W4 := bgrow h.lr.bel hy hg
  have idx : ∀ {i : Nat} {x : HV}, (init ++ [((⟨y.1.b, y.1.e, y.1.l ++ M⟩, .slice (some ⟨g4, 0, none⟩) (y.1.l.length + m) cap4) : HV)])[i]? = some x → (i < init.length ∧ init[i]? = some x) ∨ (i = init.length ∧ x = (⟨y.1.b, y.1.e, y.1.l ++ M⟩, .slice (some ⟨g4, 0, none⟩) (y.1.l.length + m) cap4)) := fun {i x} hx => by
    rw [List.getElem?_append] at hx
    split at hx
    · rename_i hi; exact .inl ⟨hi, hx⟩
    · rename_i hi
      rw [List.getElem?_singleton] at hx
      split at hx
      · rename_i h0; cases hx; exact .inr ⟨by omega, rfl⟩
      · cases hx
  have old : ∀ {i : Nat} {x : HV}, i < init.length → init[i]? = some x → (init ++ [y])[i]? = some x := fun hi hx => by rw [List.getElem?_append, if_pos hi]; exact hx
  have lasty : (init ++ [y])[init.length]? = some y := by simp
  have fresh : ∀ {i : Nat} {x : HV}, i < init.length → init[i]? = some x → x.2.ownBlock ≠ some g4 := fun {i x} hi hx e => by
    rcases hloc with e' | e'
    · exact h.lr.off i init.length x y (by omega) (old hi hx) lasty g4 e e'
    · have := ((h.lr.ln x (List.mem_of_getElem? (old hi hx))).lt g4 e).2
      omega
  refine ⟨⟨b4.setCell (p := ⟨g, init.length * 3 + 2, none⟩) hg0 _, ?_, fun x hx => ?_, fun i j x z hij hx hz b hb => ?_⟩, (setO (.inl (fun e => hgs e.symm)) _).trans (kept_at hg h.b0 hfar), (setO (.inl (fun e => hgs e.symm)) _).trans (kept_at hg h.b1 hfar), h.lo, by rw [setZ]; exact Nat.lt_of_lt_of_le h.lt hg.size, h.far, fun x hx => ?_⟩
  · have e1 : (init ++ [((⟨y.1.b, y.1.e, y.1.l ++ M⟩, .slice (some ⟨g4, 0, none⟩) (y.1.l.length + m) cap4) : HV)]).length = (init ++ [y]).length := by simp
    rw [e1, flatC_last init y (⟨y.1.b, y.1.e, y.1.l ++ M⟩, .slice (some ⟨g4, 0, none⟩) (y.1.l.length + m) cap4) 2 (.slice (some ⟨g4, 0, none⟩) (y.1.l.length + m) cap4) (by omega) rfl]
    exact hst.1
  · obtain ⟨i, hi⟩ := List.getElem?_of_mem hx
    rcases idx hi with ⟨h1, h2⟩ | ⟨h1, rfl⟩
    · have hx' := h.lr.ln x (List.mem_of_getElem? (old h1 h2))
      have hk : W4.ownsRow w.heap.size 9 1 x.2 x.1.l.length (flatC sc x.1.l) := hx'.kept hg (by
        cases hv : x.2.ownBlock with
        | none => exact .inl rfl
        | some b => exact .inr (fun e2 => h.lr.off i init.length x y (by omega) (old h1 h2) lasty b hv e2.symm))
      have hxg : x.2.ownBlock ≠ some g := fun e => apart2 hk hrow4 (by decide) e rfl
      exact ownsRow_setCell_other hk hxg _
    · refine ownsRow_setCell_other ?_ (fun e => g4g (by simpa [Value.ownBlock] using e)) _
      show W4.ownsRow _ _ _ _ (y.1.l ++ M).length (flatC sc (y.1.l ++ M))
      rw [List.length_append, flatC_append, hm]; exact hr
  · rcases idx hx with ⟨h1, h2⟩ | ⟨h1, rfl⟩
    · rcases idx hz with ⟨h3, h4⟩ | ⟨h3, rfl⟩
      · exact h.lr.off i j x z hij (old h1 h2) (old h3 h4) b hb
      · intro e2
        have : g4 = b := by simpa [Value.ownBlock] using e2
        exact fresh h1 h2 (by rw [hb, this])
    · have hgb : g4 = b := by simpa [Value.ownBlock] using hb
      rcases idx hz with ⟨h3, h4⟩ | ⟨h3, rfl⟩
      · rw [← hgb]; exact fresh h3 h4
      · omega
  · obtain ⟨i, hi⟩ := List.getElem?_of_mem hx
    rcases idx hi with ⟨h1, h2⟩ | ⟨h1, rfl⟩
    · exact h.farl x (List.mem_of_getElem? (old h1 h2))
    · intro e2
      have e3 : g4 = sk := by simpa [Value.ownBlock] using e2
      rcases hloc with e' | e'
      · rw [e3] at e'; exact hfar e'
      · have := h.lt; omega
end
end Go.Proofs.Ytokfnajgjhkepaa.MergeT
