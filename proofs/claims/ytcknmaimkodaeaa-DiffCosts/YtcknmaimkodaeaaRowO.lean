/-
  Slices of the call's own (elements of k cells), at any offset: made by copies, appended to. No program is named.
-/
import Derived.Test.YtcknmaimkodaeaaHistRow
import Derived.Laws.AppendOwn
import Derived.Laws.AppendOwnNone
namespace Go.Proofs.Ytcknmaimkodaeaa.HistM
open Go.RowKit Kit

/-- v is a slice of the elements l in memory made since w; all of w stands -/
structure RO {α : Type} (k : Nat) (cells : α → List Value) (w : World) (l : List α) (v : Value) (w' : World) : Prop where
  row : RX k w' v l.length (flatC cells l)
  low : ∀ b, v.ownBlock = some b → w.heap.size ≤ b
  bel : Below w.heap.size w w'
section
variable {α : Type} {k : Nat} {cells : α → List Value} {w w1 w2 : World} {l : List α} {v : Value}
theorem RO.nil (w : World) : RO k cells w [] (.slice none 0 0) w := ⟨RX.nil _ _, fun b q => (by cases q), Below.refl _ _⟩
theorem RO.next (h : RO k cells w l v w1) (hb : Below w1.heap.size w1 w2) : RO k cells w l v w2 := ⟨h.row.kept hb.size fun b q => hb.block b (h.row.lt q), h.low, bstep h.bel hb⟩
theorem RO.push (h : RO k cells w l v w1) {o : α} {v' : Value} (hr : RX k w2 v' (l.length + 1) (flatC cells l ++ cells o)) (hg : w1.grownBy w2 v.ownBlock) (hb : ∃ g, v'.ownBlock = some g ∧ (v.ownBlock = some g ∨ (w1.heap.size ≤ g ∧ g < w2.heap.size))) : RO k cells w (l ++ [o]) v' w2 := by
  obtain ⟨g, e1, e2⟩ := hb
  have hz := h.bel.size
  refine ⟨by rw [List.length_append, flatC_append, flatC_one]; exact hr, fun b q => ?_, h.bel.grown hg hz h.low⟩
  rw [e1] at q; cases q
  rcases e2 with e2 | e2
  · exact h.low _ e2
  · omega
theorem RO.ahead (h : RO k cells w1 l v w2) (hb : Below w.heap.size w w1) : RO k cells w l v w2 := ⟨h.row, fun b q => Nat.le_trans hb.size (h.low b q), bstep hb h.bel⟩
theorem SlV.of_rx (hk : ∀ o, (cells o).length = k) (h : RX k w v l.length (flatC cells l)) : SlV k cells w v l := by
  rcases h.is with ⟨rfl, h0⟩ | ⟨g, off, cap, rfl, hle, _, hg, hc, _⟩
  · obtain rfl : l = [] := List.eq_nil_of_length_eq_zero h0
    exact SlV.nil w
  · refine ⟨_, cap, rfl, hle, ⟨fun i o hi => ⟨g, off, rfl, hg, fun j hj => ?_⟩⟩, .inr ⟨g, off, rfl, hg⟩⟩
    have hl : j < (cells o).length := by rw [hk]; exact hj
    rw [List.getElem?_eq_getElem hl, Nat.add_assoc]
    exact hc _ _ ((flatC_get hk l i o j hi hj).trans (List.getElem?_eq_getElem hl))
theorem RO.sl (hk : ∀ o, (cells o).length = k) (h : RO k cells w l v w1) : SlV k cells w1 v l := SlV.of_rx hk h.row
end
/-- append([]T(nil), l...): a copy of the call's own -/
theorem wpList_copyO {α : Type} {k : Nat} {cells : α → List Value} (hk : ∀ o, (cells o).length = k) (h1 : ∀ o, ∀ u ∈ cells o, u.oneCell' = true) (k0 : 0 < k) {P : Program} {w : World} {ops : Array Oper} {rest : List Oper} {o : Oper} {a : Act} {Q : Exit → Act → World → Prop} (hgd : o.guard = none)
    (s x : Operand) (t : TypeId) (ho : o.op = .call { callee := .builtin .append, args := #[s, x], argTypes := #[t, t] }) (e : TypeId) (i : TypeInfo) (z : Value) (bytes : Nat) (ht : P.underlying t = some (.slice e)) (hi : P.info? e = some i) (hz : i.zero = some z) (hsize : i.size = k) (hby : i.bytes = bytes) (hzs : z.cells.size = k)
    (hs : a.eval s = .slice none 0 0) (v : Value) (hx : a.eval x = v) (l : List α) (hv : SlV k cells w v l) (h63 : l.length ≤ maxLen) (hbytes : l.length * bytes ≤ 140737488355328)
    (h : ∀ v' w', RO k cells w l v' w' → wpList P ops Q rest (a.put o.dst v') w') : wpList P ops Q (o :: rest) a w := by
  obtain ⟨al, cap, rfl, hle, ha, hd⟩ := hv
  rcases hd with ⟨rfl, rfl, rfl⟩ | ⟨g, off, rfl, _⟩
  · exact wpList_append_own_none hgd s x t ho w.heap.size e i k ht hi _ 0 [] hs (World.ownsRow_nil _ _ _ _) hx (h _ _ (RO.nil _))
  · refine wpList_append_own w hgd s x t ho w.heap.size e i z k bytes ht hi hz hsize hby hzs k0 _ 0 [] hs (World.ownsRow_nil _ _ _ _) ⟨g, off, none⟩ l.length cap (flatC cells l) hx (flatC_length hk l) (SlAt.cells_at hk k0 ha) (flatC_all h1 l) (by rw [Nat.zero_add]; exact h63) (by rw [Nat.zero_add]; exact hbytes) (Nat.le_refl _) ?_
    intro v' w' hown hgrow _
    rw [Nat.zero_add, List.nil_append] at hown
    exact h v' w' ⟨RX.of_owns hown, fun b q => (hown.lt b q).1, grows_below hgrow⟩

end Go.Proofs.Ytcknmaimkodaeaa.HistM
