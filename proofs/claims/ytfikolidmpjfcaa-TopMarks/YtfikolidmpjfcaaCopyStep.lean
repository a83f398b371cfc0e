/-
  A copy of a slice inside a drawn region. No program is named.
-/
import Derived.Test.YtfikolidmpjfcaaCopyV
namespace Go.Proofs.Ytfikolidmpjfcaa.Kit
open Go.RowKit
theorem step_copyV {α : Type} {k : Nat} {cells : α → List Value} (hk : ∀ o, (cells o).length = k) (h1 : ∀ o, ∀ u ∈ cells o, u.oneCell' = true) (k0 : 0 < k) {P : Program} {w : World} {ops : Array Oper} {o : Oper} {a : Act} {K : Act → World → Prop} {Q : Exit → Act → World → Prop} {E : Prop} (hgd : o.guard = none)
    (s x : Operand) (t : TypeId) (ho : o.op = .call { callee := .builtin .append, args := #[s, x], argTypes := #[t, t] }) (e : TypeId) (i : TypeInfo) (z : Value) (bytes : Nat) (ht : P.underlying t = some (.slice e)) (hi : P.info? e = some i) (hz : i.zero = some z) (hsize : i.size = k) (hby : i.bytes = bytes) (hzs : z.cells.size = k)
    (hs : a.eval s = .slice none 0 0) (v : Value) (hx : a.eval x = v) (l : List α) (hv : SlV k cells w v l) (h63 : l.length ≤ maxLen) (hbytes : l.length * bytes ≤ 140737488355328)
    (h : ∀ v' w', SlV k cells w' v' l → Below w.heap.size w w' → K (a.put o.dst v') w') : if Region.wanted o (yielded ops a.tmps) = true then Oper.wp P o a w K Q else E := by
  have hw : Region.wanted o (yielded ops a.tmps) = true := by simp [Region.wanted, hgd]
  rw [if_pos hw]
  obtain ⟨al, cap, rfl, hle, ha, hd⟩ := hv
  rcases hd with ⟨rfl, rfl, rfl⟩ | ⟨g, off, rfl, _⟩
  · have hrun := run_append_owned_none (P := P) (w := w) w.heap.size t o.type e i k ht hi _ 0 [] (World.ownsRow_nil _ _ _ _)
    unfold Oper.wp
    simp [execOp, ho, resolve, invoke, builtin, hs, hx, hrun, Result.andThen]
    exact h _ _ (SlV.nil _) (Below.refl _ _)
  · refine wp_append_own w s x t ho w.heap.size e i z k bytes ht hi hz hsize hby hzs k0 _ 0 [] hs (World.ownsRow_nil _ _ _ _) ⟨g, off, none⟩ l.length cap (flatC cells l) hx (flatC_length hk l) (SlAt.cells_at hk k0 ha) (flatC_all h1 l) (by rw [Nat.zero_add]; exact h63) (by rw [Nat.zero_add]; exact hbytes) (Nat.le_refl _) ?_
    intro v' w' hown hgrow _
    refine h v' w' (SlV.of_owns hk (base := w.heap.size) (e := e) ?_) (grows_below hgrow)
    simpa using hown
end Go.Proofs.Ytfikolidmpjfcaa.Kit
