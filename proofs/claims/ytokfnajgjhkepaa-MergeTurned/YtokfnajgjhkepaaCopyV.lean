/-
  append([]T(nil), l...) of a slice that reads as a list: a copy. No program is named.
-/
import Derived.Test.YtokfnajgjhkepaaBnd2
import Derived.Laws.AppendOwn
import Derived.Laws.AppendOwnNone
namespace Go.Proofs.Ytokfnajgjhkepaa.Kit
open Go.RowKit

theorem wpList_copyV {α : Type} {k : Nat} {cells : α → List Value} (hk : ∀ o, (cells o).length = k) (h1 : ∀ o, ∀ u ∈ cells o, u.oneCell' = true) (k0 : 0 < k) {P : Program} {w : World} {ops : Array Oper} {rest : List Oper} {o : Oper} {a : Act} {Q : Exit → Act → World → Prop} (hgd : o.guard = none)
    (s x : Operand) (t : TypeId) (ho : o.op = .call { callee := .builtin .append, args := #[s, x], argTypes := #[t, t] }) (e : TypeId) (i : TypeInfo) (z : Value) (bytes : Nat) (ht : P.underlying t = some (.slice e)) (hi : P.info? e = some i) (hz : i.zero = some z) (hsize : i.size = k) (hby : i.bytes = bytes) (hzs : z.cells.size = k)
    (hs : a.eval s = .slice none 0 0) (v : Value) (hx : a.eval x = v) (l : List α) (hv : SlV k cells w v l) (h63 : l.length ≤ maxLen) (hbytes : l.length * bytes ≤ 140737488355328)
    (h : ∀ v' w', SlV k cells w' v' l → Below w.heap.size w w' → wpList P ops Q rest (a.put o.dst v') w') : wpList P ops Q (o :: rest) a w := by
  obtain ⟨al, cap, rfl, hle, ha, hd⟩ := hv
  rcases hd with ⟨rfl, rfl, rfl⟩ | ⟨g, off, rfl, _⟩
  · exact wpList_append_own_none hgd s x t ho w.heap.size e i k ht hi _ 0 [] hs (World.ownsRow_nil _ _ _ _) hx (h _ _ (SlV.nil _) (Below.refl _ _))
  · refine wpList_append_own w hgd s x t ho w.heap.size e i z k bytes ht hi hz hsize hby hzs k0 _ 0 [] hs (World.ownsRow_nil _ _ _ _) ⟨g, off, none⟩ l.length cap (flatC cells l) hx (flatC_length hk l) (SlAt.cells_at hk k0 ha) (flatC_all h1 l) (by rw [Nat.zero_add]; exact h63) (by rw [Nat.zero_add]; exact hbytes) (Nat.le_refl _) ?_
    intro v' w' hown hgrow _
    refine h v' w' (SlV.of_owns hk (base := w.heap.size) (e := e) ?_) (grows_below hgrow)
    simpa using hown

end Go.Proofs.Ytokfnajgjhkepaa.Kit
