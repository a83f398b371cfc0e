/-
  What is left of two lists, and the lines that are made, in a box of three slices. No function of the program is named.
-/
import Derived.Test.YtcknmaimkodaeaaStepIn
import Derived.Test.YtcknmaimkodaeaaBoxes
import Derived.Test.YtcknmaimkodaeaaRefPatch
import Derived.Laws.AppendOwn
import Derived.Laws.AppendOwnNone
import Derived.Maps.AppendAt
namespace Go.Proofs.Ytcknmaimkodaeaa.DiffP
open Go.RowKit Kit LineM StrM DiffM DiffA DiffR HistM

theorem kept_at {W W1 : World} {r : Option Nat} {k o : Nat} {u : Value} (hg : W.grownBy W1 r) (h : W.cell? ⟨k, o, none⟩ = some u) (hk : r ≠ some k) : W1.cell? ⟨k, o, none⟩ = some u := by
  have hlt := block_lt h
  exact (World.cell?_of_block (a := ⟨k, o, none⟩) (hg.block k hlt (fun e => hk e.symm))).trans h
theorem kept_fr {W W1 : World} {r : Option Nat} {k o : Nat} {u : Value} (hg : W.grownBy W1 r) (h : W.cell? ⟨k, o, none⟩ = some u) (hk : r ≠ some k) (hf : W.frozen? ⟨k, o, none⟩ = false) : W1.frozen? ⟨k, o, none⟩ = false := by
  have hlt := block_lt h
  exact (World.frozen?_of_block (a := ⟨k, o, none⟩) (hg.block k hlt (fun e => hk e.symm))).trans hf
theorem own_above {w : World} {base e size n : Nat} {v : Value} {xs : List Value} (h : w.ownsRow base e size v n xs) {k : Nat} (hk : k < base) : v.ownBlock ≠ some k := by
  intro e
  have := (h.lt k e).1
  omega
theorem B3.kept {W W1 : World} {r : Option Nat} {k : Nat} {a b c : Value} (h : B3 k a b c W) (hg : W.grownBy W1 r) (hk : r ≠ some k) : B3 k a b c W1 :=
  ⟨Nat.lt_of_lt_of_le h.lt hg.size, kept_at hg h.c0 hk, kept_at hg h.c1 hk, kept_at hg h.c2 hk, kept_fr hg h.c0 hk h.f0, kept_fr hg h.c1 hk h.f1, kept_fr hg h.c2 hk h.f2⟩
theorem B3.put0 {k : Nat} {a b c : Value} {W : World} (h : B3 k a b c W) (v : Value) : B3 k v b c (W.setCell ⟨k, 0, none⟩ v) := by
  obtain ⟨h0, h1, h2, h3, h4, h5, h6⟩ := h
  exact ⟨by rw [setZ]; exact h0, setS h1 _, (setO (by simp) _).trans h2, (setO (by simp) _).trans h3, by rw [World.frozen?_setCell]; exact h4, by rw [World.frozen?_setCell]; exact h5, by rw [World.frozen?_setCell]; exact h6⟩
theorem B3.put1 {k : Nat} {a b c : Value} {W : World} (h : B3 k a b c W) (v : Value) : B3 k a v c (W.setCell ⟨k, 1, none⟩ v) := by
  obtain ⟨h0, h1, h2, h3, h4, h5, h6⟩ := h
  exact ⟨by rw [setZ]; exact h0, (setO (by simp) _).trans h1, setS h2 _, (setO (by simp) _).trans h3, by rw [World.frozen?_setCell]; exact h4, by rw [World.frozen?_setCell]; exact h5, by rw [World.frozen?_setCell]; exact h6⟩
theorem B3.put2 {k : Nat} {a b c : Value} {W : World} (h : B3 k a b c W) (v : Value) : B3 k a b v (W.setCell ⟨k, 2, none⟩ v) := by
  obtain ⟨h0, h1, h2, h3, h4, h5, h6⟩ := h
  exact ⟨by rw [setZ]; exact h0, (setO (by simp) _).trans h1, (setO (by simp) _).trans h2, setS h3 _, by rw [World.frozen?_setCell]; exact h4, by rw [World.frozen?_setCell]; exact h5, by rw [World.frozen?_setCell]; exact h6⟩
/-- the box bk: what is left (so, sn), what is made (L, at vo) -/
structure PB (w : World) (bk : Nat) (so sn : Value) (L : List ByteArray) (vo : Value) (W : World) : Prop where
  box : B3 bk so sn vo W
  own : W.ownsRow (bk + 1) 9 1 vo L.length (flatC sc L)
  bel : Below w.heap.size w W
  low : w.heap.size ≤ bk
section
variable {w W W' : World} {bk : Nat} {so sn vo : Value} {L : List ByteArray}
theorem PB.next (h : PB w bk so sn L vo W) (hb : Below W.heap.size W W') : PB w bk so sn L vo W' := ⟨h.box.next hb, row_next h.own hb, bstep h.bel hb, h.low⟩
theorem PB.put0 (h : PB w bk so sn L vo W) (v : Value) : PB w bk v sn L vo (W.setCell ⟨bk, 0, none⟩ v) :=
  ⟨B3.put0 h.box v, ownsRow_setCell_below h.own (by show bk < bk + 1; omega) _, h.bel.setCell (p := ⟨bk, 0, none⟩) h.low _, h.low⟩
theorem PB.put1 (h : PB w bk so sn L vo W) (v : Value) : PB w bk so v L vo (W.setCell ⟨bk, 1, none⟩ v) :=
  ⟨B3.put1 h.box v, ownsRow_setCell_below h.own (by show bk < bk + 1; omega) _, h.bel.setCell (p := ⟨bk, 1, none⟩) h.low _, h.low⟩
theorem PB.app {v' : Value} {M : List ByteArray} {W1 : World} (h : PB w bk so sn L vo W) (hg : W.grownBy W1 vo.ownBlock) (hr : W1.ownsRow (bk + 1) 9 1 v' (L.length + M.length) (flatC sc L ++ flatC sc M)) : PB w bk so sn (L ++ M) v' (W1.setCell ⟨bk, 2, none⟩ v') := by
  have k0 := own_above h.own (k := bk) (by omega)
  refine ⟨B3.put2 (B3.kept h.box hg k0) v', ownsRow_setCell_below (by rw [List.length_append, flatC_append]; exact hr) (by show bk < bk + 1; omega) _, ?_, h.low⟩
  have : Below w.heap.size w W1 := h.bel.trans ⟨hg.os, hg.tape, hg.output, hg.size, fun b hb => hg.block b (Nat.lt_of_lt_of_le hb h.bel.size) (fun e => own_above h.own (k := b) (by have := h.low; omega) e.symm)⟩
  exact this.setCell (p := ⟨bk, 2, none⟩) h.low _
end
theorem step_append_own {P : Program} {w : World} {ops : Array Oper} {o : Oper} {a : Act} {K : Act → World → Prop} {Q : Exit → Act → World → Prop} {E : Prop} (hgd : o.guard = none) (s x : Operand) (t : TypeId)
    (ho : o.op = .call { callee := .builtin .append, args := #[s, x], argTypes := #[t, t] })
    (base : Nat) (e : TypeId) (i : TypeInfo) (z : Value) (size bytes : Nat) (ht : P.underlying t = some (.slice e)) (hi : P.info? e = some i) (hz : i.zero = some z)
    (hsize : i.size = size) (hby : i.bytes = bytes) (hzs : z.cells.size = size) (hsz : 0 < size)
    (v : Value) (n : Nat) (xs : List Value) (hs : a.eval s = v) (hown : w.ownsRow base e size v n xs)
    (ad : Addr) (m c : Nat) (news : List Value) (hx : a.eval x = .slice (some ad) m c) (hl : news.length = m * size) (hnews : ∀ j u, news[j]? = some u → w.cell? (ad.add j) = some u) (h1 : ∀ u ∈ news, u.oneCell' = true)
    (h63 : n + m ≤ maxLen) (hbytes : (n + m) * bytes ≤ 140737488355328) (hbase : base ≤ w.heap.size)
    (h : ∀ v' w', w'.ownsRow base e size v' (n + m) (xs ++ news) → w.grownBy w' v.ownBlock → K (a.put o.dst v') w') : if Region.wanted o (yielded ops a.tmps) = true then Oper.wp P o a w K Q else E := by
  rw [if_pos (by simp [Region.wanted, hgd])]
  exact wp_append_own w s x t ho base e i z size bytes ht hi hz hsize hby hzs hsz v n xs hs hown ad m c news hx hl hnews h1 h63 hbytes hbase fun v' w' h2 h3 _ => h v' w' h2 h3
/-- what is left of a list from the place i on, as a slice -/
structure Lf (w : World) (l : List ByteArray) (i : Nat) (v : Value) : Prop where
  is : ∃ a n c, v = .slice a n c ∧ StAt w a (l.drop i) ∧ n + i = l.length ∧ n ≤ c
/-- the world between two steps -/
structure PS (w : World) (x z : List ByteArray) (bk i k : Nat) (out : List ByteArray) (W : World) : Prop where
  is : ∃ so sn vo, PB w bk so sn out vo W ∧ Lf w x i so ∧ Lf w z k sn
theorem PS.next {w W W' : World} {x z out : List ByteArray} {bk i k : Nat} (h : PS w x z bk i k out W) (hb : Below W.heap.size W W') : PS w x z bk i k out W' := by
  obtain ⟨so, sn, vo, h1, h2, h3⟩ := h.is
  exact ⟨so, sn, vo, h1.next hb, h2, h3⟩
/-- c lines are taken off: where no room is left behind them, the slice stays at its place -/
theorem Lf.off {w : World} {l : List ByteArray} {i n c k : Nat} {g off : Nat} (h : StAt w (some ⟨g, off, none⟩) (l.drop i)) (hn : n + i = l.length) (hc : n ≤ c) (hk : k ≤ n) : Lf w l (i + k) (.slice (if c = k then some ⟨g, off, none⟩ else some ⟨g, off + k, none⟩) (n - k) (c - k)) := by
  refine ⟨_, _, _, rfl, ?_, by omega, by omega⟩
  by_cases e : c = k
  · have : l.drop (i + k) = [] := List.drop_of_length_le (by omega)
    rw [this]; exact SlAt.nil _ _
  · rw [if_neg e]
    have := SlAt.drop h k
    rw [List.drop_drop] at this
    simpa using this
end Go.Proofs.Ytcknmaimkodaeaa.DiffP
