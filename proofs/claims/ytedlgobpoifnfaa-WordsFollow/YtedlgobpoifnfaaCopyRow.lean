/-
  append([]T(nil), l...) inside a region that draws its order: the copy is a row of the call's own. No program is named.
-/
import Derived.Test.YtedlgobpoifnfaaCopyV
namespace Go.Proofs.Ytedlgobpoifnfaa.Kit
open Go.RowKit
theorem step_copyR {α : Type} {k : Nat} {cells : α → List Value} (hk : ∀ o, (cells o).length = k) (h1 : ∀ o, ∀ u ∈ cells o, u.oneCell' = true) (k0 : 0 < k) {P : Program} {w : World} {ops : Array Oper} {o : Oper} {a : Act} {K : Act → World → Prop} {Q : Exit → Act → World → Prop} {E : Prop} (hgd : o.guard = none)
    (s x : Operand) (t : TypeId) (ho : o.op = .call { callee := .builtin .append, args := #[s, x], argTypes := #[t, t] }) (e : TypeId) (i : TypeInfo) (z : Value) (bytes : Nat) (ht : P.underlying t = some (.slice e)) (hi : P.info? e = some i) (hz : i.zero = some z) (hsize : i.size = k) (hby : i.bytes = bytes) (hzs : z.cells.size = k)
    (hs : a.eval s = .slice none 0 0) (v : Value) (hx : a.eval x = v) (l : List α) (hv : SlV k cells w v l) (h63 : l.length ≤ maxLen) (hbytes : l.length * bytes ≤ 140737488355328)
    (h : ∀ b c w', w'.ownsRow w.heap.size e k (.slice b l.length c) l.length (flatC cells l) → Below w.heap.size w w' → K (a.put o.dst (.slice b l.length c)) w') : if Region.wanted o (yielded ops a.tmps) = true then Oper.wp P o a w K Q else E := by
  have hw : Region.wanted o (yielded ops a.tmps) = true := by simp [Region.wanted, hgd]
  rw [if_pos hw]
  obtain ⟨al, cap, rfl, hle, ha, hd⟩ := hv
  rcases hd with ⟨rfl, rfl, rfl⟩ | ⟨g, off, rfl, _⟩
  · have hrun := run_append_owned_none (P := P) (w := w) w.heap.size t o.type e i k ht hi _ 0 [] (World.ownsRow_nil _ _ _ _)
    unfold Oper.wp
    simp [execOp, ho, resolve, invoke, builtin, hs, hx, hrun, Result.andThen]
    exact h none 0 _ (World.ownsRow_nil _ _ _ _) (Below.refl _ _)
  · refine wp_append_own w s x t ho w.heap.size e i z k bytes ht hi hz hsize hby hzs k0 _ 0 [] hs (World.ownsRow_nil _ _ _ _) ⟨g, off, none⟩ l.length cap (flatC cells l) hx (flatC_length hk l) (SlAt.cells_at hk k0 ha) (flatC_all h1 l) (by rw [Nat.zero_add]; exact h63) (by rw [Nat.zero_add]; exact hbytes) (Nat.le_refl _) ?_
    intro v' w' hown hgrow _
    have h2 : w'.ownsRow w.heap.size e k v' l.length (flatC cells l) := by simpa using hown
    have hf : ∃ b c, v' = .slice b l.length c := by
      rcases h2.2 with ⟨e0, h0⟩ | ⟨g, cap, cur, e0, _⟩
      · exact ⟨none, 0, by rw [e0, h0]⟩
      · exact ⟨_, cap, e0⟩
    obtain ⟨b, c, rfl⟩ := hf
    exact h b c w' h2 (grows_below hgrow)
end Go.Proofs.Ytedlgobpoifnfaa.Kit
