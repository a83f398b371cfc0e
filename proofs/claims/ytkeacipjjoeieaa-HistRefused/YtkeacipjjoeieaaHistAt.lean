/-
  A history in memory: its box, its two stacks, its groups, each in a block of its own.
-/
import Derived.Test.YtkeacipjjoeieaaHistRow
import Derived.Test.YtkeacipjjoeieaaEditAt
namespace Go.Proofs.Ytkeacipjjoeieaa.HistM
open Go.RowKit Kit EditM

/-- an edit that was made, and the one that undoes it -/
abbrev Ch := EdM × EdM
def ccs (c : Ch) : List Value := c.1.cs ++ c.2.cs
theorem ccs_len (c : Ch) : (ccs c).length = 6 := rfl
theorem ccs_one (c : Ch) : ∀ u ∈ ccs c, u.oneCell' = true := by
  intro u hu
  rcases List.mem_append.1 hu with h | h
  · exact EdM.cs_one _ u h
  · exact EdM.cs_one _ u h

/-- the groups gs, of which the first p can be undone and the others redone (the next one last on their stack) -/
structure HX (k : Nat) (t : Value) (gs : List (List Ch)) (p : Nat) (op : Bool) (vu vr : Value) (vs : List Value) (F : Nat → Prop) (w : World) : Prop where
  box : B4 k t vu vr (.bool op) w
  kF : F k
  lt : ∀ b, F b → b < w.heap.size
  le : p ≤ gs.length
  vl : vs.length = gs.length
  u : RX 1 w vu p (vs.take p)
  r : RX 1 w vr (gs.length - p) (vs.drop p).reverse
  g : ∀ (i : Nat) v g, vs[i]? = some v → gs[i]? = some g → RX 6 w v g.length (flatC ccs g)
  uF : ∀ b, vu.ownBlock = some b → F b ∧ b ≠ k ∧ vr.ownBlock ≠ some b
  rF : ∀ b, vr.ownBlock = some b → F b ∧ b ≠ k
  gF : ∀ (i : Nat) v, vs[i]? = some v → ∃ b, v.ownBlock = some b ∧ F b ∧ b ≠ k ∧ vu.ownBlock ≠ some b ∧ vr.ownBlock ≠ some b
  apart : ∀ (i j : Nat) v v', vs[i]? = some v → vs[j]? = some v' → i ≠ j → v.ownBlock ≠ v'.ownBlock
section
variable {k : Nat} {t : Value} {gs : List (List Ch)} {p : Nat} {op : Bool} {vu vr : Value} {vs : List Value} {F : Nat → Prop} {w w' : World}
theorem HX.kept (h : HX k t gs p op vu vr vs F w) (hs : w.heap.size ≤ w'.heap.size) (hb : ∀ b, F b → w'.heap[b]? = w.heap[b]?) : HX k t gs p op vu vr vs F w' where
  box := h.box.kept hs (hb k h.kF)
  kF := h.kF
  lt b q := Nat.lt_of_lt_of_le (h.lt b q) hs
  le := h.le
  vl := h.vl
  u := h.u.kept hs fun b q => hb b (h.uF b q).1
  r := h.r.kept hs fun b q => hb b (h.rF b q).1
  g i v g h1 h2 := (h.g i v g h1 h2).kept hs fun b q => by
    obtain ⟨b', e, hF, _⟩ := h.gF i v h1
    rw [e] at q; cases q; exact hb b hF
  uF := h.uF
  rF := h.rF
  gF := h.gF
  apart := h.apart
theorem HX.next (h : HX k t gs p op vu vr vs F w) (hb : Below w.heap.size w w') : HX k t gs p op vu vr vs F w' := h.kept hb.size fun b q => hb.block b (h.lt b q)
theorem HX.mono {G : Nat → Prop} (h : HX k t gs p op vu vr vs F w) (hG : ∀ b, F b → G b) (hl : ∀ b, G b → b < w.heap.size) : HX k t gs p op vu vr vs G w where
  box := h.box
  kF := hG k h.kF
  lt := hl
  le := h.le
  vl := h.vl
  u := h.u
  r := h.r
  g := h.g
  uF b q := ⟨hG b (h.uF b q).1, (h.uF b q).2⟩
  rF b q := ⟨hG b (h.rF b q).1, (h.rF b q).2⟩
  gF i v q := by
    obtain ⟨b, e, hF, r⟩ := h.gF i v q
    exact ⟨b, e, hG b hF, r⟩
  apart := h.apart
/-- a cell of the box is written: all else stays -/
theorem HX.kept_rows (h : HX k t gs p op vu vr vs F w) (o : Nat) (x : Value) :
    RX 1 (w.setCell ⟨k, o, none⟩ x) vu p (vs.take p) ∧ RX 1 (w.setCell ⟨k, o, none⟩ x) vr (gs.length - p) (vs.drop p).reverse ∧ ∀ (i : Nat) v g, vs[i]? = some v → gs[i]? = some g → RX 6 (w.setCell ⟨k, o, none⟩ x) v g.length (flatC ccs g) := by
  have hz : w.heap.size ≤ (w.setCell ⟨k, o, none⟩ x).heap.size := by rw [setZ]; exact Nat.le_refl _
  refine ⟨h.u.kept hz fun b q => heap_set_other (h.uF b q).2.1 _, h.r.kept hz fun b q => heap_set_other (h.rF b q).2 _, fun i v g h1 h2 => (h.g i v g h1 h2).kept hz fun b q => ?_⟩
  obtain ⟨b', e, _, hk, _⟩ := h.gF i v h1
  rw [e] at q; cases q; exact heap_set_other hk _
theorem HX.text (h : HX k t gs p op vu vr vs F w) (t' : Value) : HX k t' gs p op vu vr vs F (w.setCell ⟨k, 0, none⟩ t') := by
  obtain ⟨h1, h2, h3⟩ := h.kept_rows 0 t'
  exact ⟨h.box.set0 _, h.kF, fun b q => by rw [setZ]; exact h.lt b q, h.le, h.vl, h1, h2, h3, h.uF, h.rF, h.gF, h.apart⟩
theorem HX.mark (h : HX k t gs p op vu vr vs F w) (o : Bool) : HX k t gs p o vu vr vs F (w.setCell ⟨k, 3, none⟩ (.bool o)) := by
  obtain ⟨h1, h2, h3⟩ := h.kept_rows 3 (.bool o)
  exact ⟨h.box.set3 _, h.kF, fun b q => by rw [setZ]; exact h.lt b q, h.le, h.vl, h1, h2, h3, h.uF, h.rF, h.gF, h.apart⟩
theorem take_get {α : Type} {l : List α} {p i : Nat} {v : α} (h : (l.take p)[i]? = some v) : i < p ∧ l[i]? = some v := by
  rw [List.getElem?_take] at h
  split at h
  · rename_i q; exact ⟨q, h⟩
  · cases h
/-- the redo stack is cleared -/
theorem HX.clear (h : HX k t gs p op vu vr vs F w) : HX k t (gs.take p) p op vu (.slice none 0 0) (vs.take p) F (w.setCell ⟨k, 2, none⟩ (.slice none 0 0)) := by
  obtain ⟨h1, h2, h3⟩ := h.kept_rows 2 (.slice none 0 0)
  have hl : (gs.take p).length = p := by rw [List.length_take]; have := h.le; omega
  refine ⟨h.box.set2 _, h.kF, fun b q => by rw [setZ]; exact h.lt b q, by rw [hl]; exact Nat.le_refl _, by rw [List.length_take, List.length_take, h.vl], by rw [List.take_take, Nat.min_self]; exact h1, ?_, fun i v g hv hg => h3 i v g (take_get hv).2 (take_get hg).2, fun b q => ⟨(h.uF b q).1, (h.uF b q).2.1, by simp [Value.ownBlock]⟩, fun b q => (by cases q), fun i v hv => ?_, fun i j v v' hv hv' => h.apart i j v v' (take_get hv).2 (take_get hv').2⟩
  · rw [hl, Nat.sub_self, List.drop_eq_nil_of_le (by rw [List.length_take]; omega)]; exact RX.nil 1 _
  · obtain ⟨b, e, hF, hk, hu, _⟩ := h.gF i v (take_get hv).2
    exact ⟨b, e, hF, hk, hu, by simp [Value.ownBlock]⟩
/-- the last group is longer by one change: its row was appended to (from w to w1), and the stack's cell is written -/
theorem HX.longer {n : Nat} {g : Nat} {off cap : Nat} {gl : List Ch} {c : Ch} {v v' : Value} {w1 : World} (h : HX k t gs (n + 1) op (.slice (some ⟨g, off, none⟩) (n + 1) cap) (.slice none 0 0) vs F w) (hn : gs.length = n + 1) (hv : vs[n]? = some v) (hgl : gs[n]? = some gl)
    (hr : RX 6 w1 v' (gl.length + 1) (flatC ccs gl ++ ccs c)) (hg : w.grownBy w1 v.ownBlock) (hb : ∃ b, v'.ownBlock = some b ∧ (v.ownBlock = some b ∨ (w.heap.size ≤ b ∧ b < w1.heap.size))) :
    HX k t (gs.set n (gl ++ [c])) (n + 1) op (.slice (some ⟨g, off, none⟩) (n + 1) cap) (.slice none 0 0) (vs.set n v') (grow F w w1) (w1.setCell ⟨g, off + n, none⟩ v') := by
  obtain ⟨b0, hb0, hF0, hk0, hu0, _⟩ := h.gF n v hv
  obtain ⟨b, hbe, hbb⟩ := hb
  have hvl := h.vl
  obtain ⟨hgF, hgk, _⟩ := h.uF g rfl
  have hg0 : g ≠ b0 := fun e => hu0 (by rw [e]; rfl)
  have hgb : g ≠ b := by
    rcases hbb with q | q
    · rw [hb0] at q; cases q; exact hg0
    · have := h.lt g hgF; omega
  have hkb : k ≠ b := by
    rcases hbb with q | q
    · rw [hb0] at q; cases q; exact fun e => hk0 e.symm
    · have := h.lt k h.kF; omega
  have hz := hg.size
  have hz2 : w.heap.size ≤ (w1.setCell ⟨g, off + n, none⟩ v').heap.size := by rw [setZ]; exact hz
  have keepB : ∀ x, F x → x ≠ b0 → x ≠ g → (w1.setCell ⟨g, off + n, none⟩ v').heap[x]? = w.heap[x]? := fun x hx h1 h2 => (heap_set_other h2 _).trans (hg.block x (h.lt x hx) (by rw [hb0]; simp [h1]))
  have hsetl : (gs.set n (gl ++ [c])).length = n + 1 := by rw [List.length_set, hn]
  have hother : ∀ (i : Nat) x, i ≠ n → (vs.set n v')[i]? = some x → vs[i]? = some x := fun i x hi q => by rwa [List.getElem?_set_ne (by omega)] at q
  have hself : ∀ x, (vs.set n v')[n]? = some x → x = v' := fun x q => by rw [List.getElem?_set_self (by omega)] at q; cases q; rfl
  refine ⟨h.box.kept hz2 (keepB k h.kF (fun e => hk0 e.symm) (fun e => hgk e.symm)), .inl h.kF, ?_, by rw [hsetl]; exact Nat.le_refl _, by rw [List.length_set, List.length_set, hvl], ?_, ?_, ?_, ?_, fun b q => (by cases q), ?_, ?_⟩
  · intro x hx
    rw [setZ]
    rcases hx with hx | hx
    · exact Nat.lt_of_lt_of_le (h.lt x hx) hz
    · exact hx.2
  · have hu : RX 1 w1 (.slice (some ⟨g, off, none⟩) (n + 1) cap) (n + 1) (vs.take (n + 1)) := h.u.kept hz fun x q => by cases q; exact hg.block g (h.lt g hgF) (by rw [hb0]; simp [hg0])
    have := hu.set n v' (by omega)
    rw [List.take_of_length_le (by omega)] at this
    rw [List.take_of_length_le (by rw [List.length_set]; omega)]
    exact this
  · rw [hsetl, Nat.sub_self, List.drop_eq_nil_of_le (by rw [List.length_set]; omega)]; exact RX.nil 1 _
  · intro i x y hx hy
    by_cases hi : i = n
    · subst hi
      rw [hself x hx]
      rw [List.getElem?_set_self (by omega)] at hy; cases hy
      rw [List.length_append, flatC_append, flatC_one]
      exact hr.kept (by rw [setZ]; exact Nat.le_refl _) fun q e => by rw [hbe] at e; cases e; exact heap_set_other hgb.symm _
    · have hx' := hother i x hi hx
      rw [List.getElem?_set_ne (by omega)] at hy
      refine (h.g i x y hx' hy).kept hz2 fun q e => ?_
      obtain ⟨bi, he, hFi, _, hui, _⟩ := h.gF i x hx'
      rw [he] at e; cases e
      refine keepB _ hFi (fun e => h.apart i n x v hx' hv hi (by rw [he, hb0, e])) (fun e => hui (by rw [e]; rfl))
  · intro x q; cases q
    exact ⟨.inl hgF, hgk, by simp [Value.ownBlock]⟩
  · intro i x hx
    by_cases hi : i = n
    · subst hi
      rw [hself x hx]
      refine ⟨b, hbe, ?_, fun e => hkb e.symm, by simp [Value.ownBlock]; exact hgb, by simp [Value.ownBlock]⟩
      rcases hbb with q | q
      · rw [hb0] at q; cases q; exact .inl hF0
      · exact .inr q
    · obtain ⟨bi, he, hFi, hr⟩ := h.gF i x (hother i x hi hx)
      exact ⟨bi, he, .inl hFi, hr⟩
  · have key : ∀ (j : Nat) x, j ≠ n → vs[j]? = some x → v'.ownBlock ≠ x.ownBlock := by
      intro j x hj hx e
      obtain ⟨bj, hej, hFj, _⟩ := h.gF j x hx
      rw [hbe, hej] at e; cases e
      rcases hbb with q | q
      · exact h.apart j n x v hx hv hj (by rw [hej, q])
      · have := h.lt _ hFj; omega
    intro i j x y hx hy hij
    by_cases hi : i = n
    · subst hi
      rw [hself x hx]
      exact key j y (fun e => hij e.symm) (hother j y (fun e => hij e.symm) hy)
    · by_cases hj : j = n
      · subst hj
        rw [hself y hy]
        exact (key i x hi (hother i x hi hx)).symm
      · exact h.apart i j x y (hother i x hi hx) (hother j y hj hy) hij
/-- a new group of one change is pushed: gv lies in a block b of its own, the stack was appended to (from w to w1), the box's cell is written -/
theorem HX.pushed {b : Nat} {c : Ch} {gv vu' : Value} {w0 w1 : World} (h : HX k t gs p op vu (.slice none 0 0) vs F w) (hp : p = gs.length) (hw : w0.heap.size ≤ w.heap.size) (hF : ∀ x, F x → x < w0.heap.size) (hgb : gv.ownBlock = some b) (hbw : w0.heap.size ≤ b) (hgv : RX 6 w gv 1 (ccs c))
    (hr : RX 1 w1 vu' (p + 1) (vs ++ [gv])) (hg : w.grownBy w1 vu.ownBlock) (hb : ∃ q, vu'.ownBlock = some q ∧ (vu.ownBlock = some q ∨ (w.heap.size ≤ q ∧ q < w1.heap.size))) :
    HX k t (gs ++ [[c]]) (p + 1) op vu' (.slice none 0 0) (vs ++ [gv]) (grow F w0 w1) (w1.setCell ⟨k, 1, none⟩ vu') := by
  have hvl := h.vl
  obtain ⟨q0, hq, hqq⟩ := hb
  have hz := hg.size
  have hz2 : w.heap.size ≤ (w1.setCell ⟨k, 1, none⟩ vu').heap.size := by rw [setZ]; exact hz
  have blt : b < w.heap.size := hgv.lt hgb
  have hkq : q0 ≠ k := by
    rcases hqq with e | e
    · exact (h.uF _ e).2.1
    · have := h.lt k h.kF; omega
  have keepB : ∀ x, x < w.heap.size → vu.ownBlock ≠ some x → x ≠ k → (w1.setCell ⟨k, 1, none⟩ vu').heap[x]? = w.heap[x]? := fun x h0 h1 h2 => (heap_set_other h2 _).trans (hg.block x h0 h1.symm)
  have hbu : vu.ownBlock ≠ some b := fun e => by have := hF b (h.uF b e).1; omega
  have hbk : b ≠ k := fun e => by have := hF k h.kF; omega
  have hlen : (gs ++ [[c]]).length = p + 1 := by simp [hp]
  have hat : ∀ {i : Nat} {x : Value}, (vs ++ [gv])[i]? = some x → (i < p ∧ vs[i]? = some x) ∨ (i = p ∧ x = gv) := by
    intro i x hx
    by_cases hi : i < vs.length
    · rw [List.getElem?_append_left hi] at hx; exact .inl ⟨by omega, hx⟩
    · rw [List.getElem?_append_right (by omega)] at hx
      have : i - vs.length = 0 := by
        have := (List.getElem?_eq_some_iff.1 hx).1
        simpa using this
      rw [this] at hx; cases hx
      exact .inr ⟨by omega, rfl⟩
  have hqb : q0 ≠ b := by
    rcases hqq with e | e
    · exact fun e2 => hbu (by rw [← e2]; exact e)
    · omega
  refine ⟨(h.box.kept hz (hg.block k (h.lt k h.kF) (fun e => (h.uF k e.symm).2.1 rfl))).set1 _, .inl h.kF, ?_, by rw [hlen]; exact Nat.le_refl _, by simp [hvl], ?_, ?_, ?_, ?_, fun b q => (by cases q), ?_, ?_⟩
  · intro x hx
    rw [setZ]
    rcases hx with hx | hx
    · exact Nat.lt_of_lt_of_le (h.lt x hx) hz
    · exact hx.2
  · rw [List.take_of_length_le (by simp; omega)]
    exact hr.kept (by rw [setZ]; exact Nat.le_refl _) fun x e => by rw [hq] at e; cases e; exact heap_set_other hkq _
  · rw [hlen, Nat.sub_self, List.drop_eq_nil_of_le (by simp; omega)]; exact RX.nil 1 _
  · intro i x y hx hy
    rcases hat hx with ⟨hi, hx'⟩ | ⟨rfl, rfl⟩
    · rw [List.getElem?_append_left (by omega)] at hy
      refine (h.g i x y hx' hy).kept hz2 fun q e => ?_
      obtain ⟨bi, he, hFi, hki, hui, _⟩ := h.gF i x hx'
      rw [he] at e; cases e
      exact keepB _ (h.lt _ hFi) hui hki
    · rw [hp, List.getElem?_append_right (Nat.le_refl _), Nat.sub_self] at hy; cases hy
      have e1 : flatC ccs [c] = ccs c := flatC_one c
      rw [e1]
      exact hgv.kept hz2 fun q e => by rw [hgb] at e; cases e; exact keepB _ blt hbu hbk
  · intro x e
    rw [hq] at e; cases e
    refine ⟨?_, hkq, by simp [Value.ownBlock]⟩
    rcases hqq with e | e
    · exact .inl (h.uF _ e).1
    · exact .inr ⟨by omega, e.2⟩
  · intro i x hx
    rcases hat hx with ⟨hi, hx'⟩ | ⟨rfl, rfl⟩
    · obtain ⟨bi, he, hFi, hki, hui, _⟩ := h.gF i x hx'
      refine ⟨bi, he, .inl hFi, hki, ?_, by simp [Value.ownBlock]⟩
      rw [hq]
      intro e; cases e
      rcases hqq with e | e
      · exact hui e
      · have := h.lt _ hFi; omega
    · exact ⟨b, hgb, .inr ⟨hbw, Nat.lt_of_lt_of_le blt hz⟩, hbk, by rw [hq]; intro e; cases e; exact hqb rfl, by simp [Value.ownBlock]⟩
  · have key : ∀ (i : Nat) x, vs[i]? = some x → x.ownBlock ≠ gv.ownBlock := by
      intro i x hx e
      obtain ⟨bi, he, hFi, _⟩ := h.gF i x hx
      rw [he, hgb] at e; cases e
      have := hF _ hFi; omega
    intro i j x y hx hy hij
    rcases hat hx with ⟨hi, hx'⟩ | ⟨rfl, rfl⟩
    · rcases hat hy with ⟨hj, hy'⟩ | ⟨rfl, rfl⟩
      · exact h.apart i j x y hx' hy' hij
      · exact key i x hx'
    · rcases hat hy with ⟨hj, hy'⟩ | ⟨rfl, rfl⟩
      · exact (key j y hy').symm
      · exact absurd rfl hij
/-- the oldest group is let go -/
theorem HX.fewer {n g off cap : Nat} (h : HX k t gs (n + 1) op (.slice (some ⟨g, off, none⟩) (n + 1) cap) (.slice none 0 0) vs F w) (hn : gs.length = n + 1) :
    HX k t (gs.drop 1) n op (.slice (some ⟨g, off + 1, none⟩) n (cap - 1)) (.slice none 0 0) (vs.drop 1) F (w.setCell ⟨k, 1, none⟩ (.slice (some ⟨g, off + 1, none⟩) n (cap - 1))) := by
  obtain ⟨h1, h2, h3⟩ := h.kept_rows 1 (.slice (some ⟨g, off + 1, none⟩) n (cap - 1))
  have hvl := h.vl
  have hl : (gs.drop 1).length = n := by rw [List.length_drop, hn]; omega
  refine ⟨h.box.set1 _, h.kF, fun b q => by rw [setZ]; exact h.lt b q, by rw [hl]; exact Nat.le_refl _, by rw [List.length_drop, List.length_drop, hvl], ?_, ?_, ?_, fun b q => ?_, fun b q => (by cases q), ?_, ?_⟩
  · have := h1.rest
    rw [List.take_of_length_le (by omega)] at this
    rw [List.take_of_length_le (by rw [List.length_drop]; omega)]
    exact this
  · rw [hl, Nat.sub_self, List.drop_eq_nil_of_le (by rw [List.length_drop]; omega)]; exact RX.nil 1 _
  · intro i v y hv hy
    rw [List.getElem?_drop] at hv hy
    exact h3 _ v y hv hy
  · cases q
    obtain ⟨q1, q2, q3⟩ := h.uF g rfl
    exact ⟨q1, q2, q3⟩
  · intro i v hv
    rw [List.getElem?_drop] at hv
    obtain ⟨b, e, q1, q2, q3, q4⟩ := h.gF _ v hv
    exact ⟨b, e, q1, q2, q3, q4⟩
  · intro i j v v' hv hv' hij
    rw [List.getElem?_drop] at hv hv'
    exact h.apart _ _ v v' hv hv' (by omega)
theorem drop_rev {α : Type} {l : List α} {p : Nat} {x : α} (h : l[p]? = some x) : (l.drop p).reverse = (l.drop (p + 1)).reverse ++ [x] := by
  rw [drop_next h]; simp
/-- the last group that can be undone goes over: the stack is shorter (w1), the other one longer (w2), then the box's cells are written -/
theorem HX.undone {n cap : Nat} {a : Option Addr} {v vr' : Value} {w0 w1 : World} (h : HX k t gs (n + 1) op (.slice a (n + 1) cap) vr vs F w) (hv : vs[n]? = some v) (hle : w0.heap.size ≤ (w.setCell ⟨k, 1, none⟩ (.slice a n cap)).heap.size)
    (hr : RX 1 w1 vr' (gs.length - (n + 1) + 1) ((vs.drop (n + 1)).reverse ++ [v])) {wa : World} (hwa : Below (w.setCell ⟨k, 1, none⟩ (.slice a n cap)).heap.size (w.setCell ⟨k, 1, none⟩ (.slice a n cap)) wa) (hg : wa.grownBy w1 vr.ownBlock) (hb : ∃ q, vr'.ownBlock = some q ∧ (vr.ownBlock = some q ∨ (wa.heap.size ≤ q ∧ q < w1.heap.size))) :
    HX k t gs n false (.slice a n cap) vr' vs (grow F w0 w1) ((w1.setCell ⟨k, 2, none⟩ vr').setCell ⟨k, 3, none⟩ (.bool false)) := by
  obtain ⟨h1, h2, h3⟩ := h.kept_rows 1 (.slice a n cap)
  obtain ⟨q0, hq, hqq⟩ := hb
  have hz0 : (w.setCell ⟨k, 1, none⟩ (.slice a n cap)).heap.size = w.heap.size := setZ _
  have hzw := hwa.size
  have hz := hg.size
  have hlw : ∀ x, F x → x < (w.setCell ⟨k, 1, none⟩ (.slice a n cap)).heap.size := fun x hx => by rw [hz0]; exact h.lt x hx
  have hsz : (w.setCell ⟨k, 1, none⟩ (.slice a n cap)).heap.size ≤ ((w1.setCell ⟨k, 2, none⟩ vr').setCell ⟨k, 3, none⟩ (.bool false)).heap.size := by simp only [setZ] at *; omega
  have keepB : ∀ x, F x → vr.ownBlock ≠ some x → x ≠ k → ((w1.setCell ⟨k, 2, none⟩ vr').setCell ⟨k, 3, none⟩ (.bool false)).heap[x]? = (w.setCell ⟨k, 1, none⟩ (.slice a n cap)).heap[x]? := fun x hF hx hk =>
    (heap_set_other hk _).trans ((heap_set_other hk _).trans ((hg.block x (by have := hlw x hF; omega) hx.symm).trans (hwa.block x (hlw x hF))))
  have hkr : vr.ownBlock ≠ some k := fun e => (h.rF k e).2 rfl
  have hkq : q0 ≠ k := by
    rcases hqq with e | e
    · exact (h.rF _ e).2
    · have := hlw k h.kF; omega
  have ob : (Value.slice a n cap).ownBlock = (Value.slice a (n + 1) cap).ownBlock := by cases a <;> rfl
  have bx : B4 k t (.slice a n cap) vr (.bool op) w1 := (h.box.set1 (.slice a n cap)).kept (by omega) ((hg.block k (by have := hlw k h.kF; omega) hkr.symm).trans (hwa.block k (hlw k h.kF)))
  refine ⟨(bx.set2 _).set3 _, .inl h.kF, ?_, by have := h.le; omega, h.vl, ?_, ?_, ?_, ?_, ?_, ?_, h.apart⟩
  · intro x hx
    rw [setZ, setZ]
    rcases hx with hx | hx
    · have := hlw x hx; omega
    · exact hx.2
  · have := (h1.head (m := n) (by omega)).kept hsz fun x e => keepB x (h.uF x (by rw [← ob]; exact e)).1 (h.uF x (by rw [← ob]; exact e)).2.2 (h.uF x (by rw [← ob]; exact e)).2.1
    rw [List.take_take, Nat.mul_one, Nat.min_eq_left (by omega)] at this
    exact this
  · rw [drop_rev hv, show gs.length - n = gs.length - (n + 1) + 1 by have := h.le; omega]
    exact hr.kept (by rw [setZ, setZ]; exact Nat.le_refl _) fun x e => by rw [hq] at e; cases e; exact (heap_set_other hkq _).trans (heap_set_other hkq _)
  · intro i x y hx hy
    obtain ⟨bi, he, hFi, hki, hui, hri⟩ := h.gF i x hx
    exact (h3 i x y hx hy).kept hsz fun z e => by rw [he] at e; cases e; exact keepB _ hFi hri hki
  · intro x e
    rw [ob] at e
    obtain ⟨e1, e2, e3⟩ := h.uF x e
    refine ⟨.inl e1, e2, ?_⟩
    rw [hq]; intro e4; cases e4
    rcases hqq with e5 | e5
    · exact e3 e5
    · have := hlw _ e1; omega
  · intro x e
    rw [hq] at e; cases e
    refine ⟨?_, hkq⟩
    rcases hqq with e5 | e5
    · exact .inl (h.rF _ e5).1
    · exact .inr ⟨by omega, e5.2⟩
  · intro i x hx
    obtain ⟨bi, he, hFi, hki, hui, hri⟩ := h.gF i x hx
    refine ⟨bi, he, .inl hFi, hki, by rw [ob]; exact hui, ?_⟩
    rw [hq]; intro e4; cases e4
    rcases hqq with e5 | e5
    · exact hri e5
    · have := hlw _ hFi; omega
/-- the next group that can be redone goes over -/
theorem HX.redone {n m cap : Nat} {a : Option Addr} {v vu' : Value} {w0 w1 : World} (h : HX k t gs n op vu (.slice a (m + 1) cap) vs F w) (hm : gs.length = n + m + 1) (hv : vs[n]? = some v) (hle : w0.heap.size ≤ (w.setCell ⟨k, 2, none⟩ (.slice a m cap)).heap.size)
    (hr : RX 1 w1 vu' (n + 1) (vs.take n ++ [v])) {wa : World} (hwa : Below (w.setCell ⟨k, 2, none⟩ (.slice a m cap)).heap.size (w.setCell ⟨k, 2, none⟩ (.slice a m cap)) wa) (hg : wa.grownBy w1 vu.ownBlock) (hb : ∃ q, vu'.ownBlock = some q ∧ (vu.ownBlock = some q ∨ (wa.heap.size ≤ q ∧ q < w1.heap.size))) :
    HX k t gs (n + 1) false vu' (.slice a m cap) vs (grow F w0 w1) ((w1.setCell ⟨k, 1, none⟩ vu').setCell ⟨k, 3, none⟩ (.bool false)) := by
  obtain ⟨h1, h2, h3⟩ := h.kept_rows 2 (.slice a m cap)
  obtain ⟨q0, hq, hqq⟩ := hb
  have hz0 : (w.setCell ⟨k, 2, none⟩ (.slice a m cap)).heap.size = w.heap.size := setZ _
  have hzw := hwa.size
  have hz := hg.size
  have hlw : ∀ x, F x → x < (w.setCell ⟨k, 2, none⟩ (.slice a m cap)).heap.size := fun x hx => by rw [hz0]; exact h.lt x hx
  have hsz : (w.setCell ⟨k, 2, none⟩ (.slice a m cap)).heap.size ≤ ((w1.setCell ⟨k, 1, none⟩ vu').setCell ⟨k, 3, none⟩ (.bool false)).heap.size := by simp only [setZ] at *; omega
  have keepB : ∀ x, F x → vu.ownBlock ≠ some x → x ≠ k → ((w1.setCell ⟨k, 1, none⟩ vu').setCell ⟨k, 3, none⟩ (.bool false)).heap[x]? = (w.setCell ⟨k, 2, none⟩ (.slice a m cap)).heap[x]? := fun x hF hx hk =>
    (heap_set_other hk _).trans ((heap_set_other hk _).trans ((hg.block x (by have := hlw x hF; omega) hx.symm).trans (hwa.block x (hlw x hF))))
  have hkr : vu.ownBlock ≠ some k := fun e => (h.uF k e).2.1 rfl
  have hkq : q0 ≠ k := by
    rcases hqq with e | e
    · exact (h.uF _ e).2.1
    · have := hlw k h.kF; omega
  have ob : (Value.slice a m cap).ownBlock = (Value.slice a (m + 1) cap).ownBlock := by cases a <;> rfl
  have bx : B4 k t vu (.slice a m cap) (.bool op) w1 := (h.box.set2 (.slice a m cap)).kept (by omega) ((hg.block k (by have := hlw k h.kF; omega) hkr.symm).trans (hwa.block k (hlw k h.kF)))
  have hml : gs.length - n = m + 1 := by omega
  refine ⟨(bx.set1 _).set3 _, .inl h.kF, ?_, by omega, h.vl, ?_, ?_, ?_, ?_, ?_, ?_, h.apart⟩
  · intro x hx
    rw [setZ, setZ]
    rcases hx with hx | hx
    · have := hlw x hx; omega
    · exact hx.2
  · rw [take_next hv]
    exact hr.kept (by rw [setZ, setZ]; exact Nat.le_refl _) fun x e => by rw [hq] at e; cases e; exact (heap_set_other hkq _).trans (heap_set_other hkq _)
  · rw [hml] at h2
    have := (h2.head (m := m) (by omega)).kept hsz fun x e => keepB x (h.rF x (by rw [← ob]; exact e)).1 (fun e2 => (h.uF x e2).2.2 (by rw [← ob]; exact e)) (h.rF x (by rw [← ob]; exact e)).2
    rw [drop_rev hv, Nat.mul_one, List.take_left' (by rw [List.length_reverse, List.length_drop, h.vl]; omega)] at this
    rw [show gs.length - (n + 1) = m by omega]
    exact this
  · intro i x y hx hy
    obtain ⟨bi, he, hFi, hki, hui, hri⟩ := h.gF i x hx
    exact (h3 i x y hx hy).kept hsz fun z e => by rw [he] at e; cases e; exact keepB _ hFi hui hki
  · intro x e
    rw [hq] at e; cases e
    refine ⟨?_, hkq, ?_⟩
    · rcases hqq with e5 | e5
      · exact .inl (h.uF _ e5).1
      · exact .inr ⟨by omega, e5.2⟩
    · rw [ob]; intro e2
      rcases hqq with e5 | e5
      · exact (h.uF _ e5).2.2 e2
      · have := hlw _ (h.rF _ e2).1; omega
  · intro x e
    rw [ob] at e
    obtain ⟨e1, e2⟩ := h.rF x e
    exact ⟨.inl e1, e2⟩
  · intro i x hx
    obtain ⟨bi, he, hFi, hki, hui, hri⟩ := h.gF i x hx
    refine ⟨bi, he, .inl hFi, hki, ?_, by rw [ob]; exact hri⟩
    rw [hq]; intro e4; cases e4
    rcases hqq with e5 | e5
    · exact hui e5
    · have := hlw _ hFi; omega
end
/-- a history, wherever its rows lie -/
def HAt (k : Nat) (t : ByteArray) (gs : List (List Ch)) (p : Nat) (op : Bool) (F : Nat → Prop) (w : World) : Prop := ∃ vu vr vs, HX k (.string t) gs p op vu vr vs F w

end Go.Proofs.Ytkeacipjjoeieaa.HistM
