/-
  copy(d, s) where d is a row of the call's own and s is as long, elements of k cells each. No program is named.
-/
import Derived.Test.YtfikolidmpjfcaaSl
import Derived.Laws.CopyOwn
namespace Go.Proofs.Ytfikolidmpjfcaa.Kit
open Go.RowKit

theorem run_copy_rowK {P : Program} {k : Nat} (w : World) (dT sT ty elem : TypeId) (g n cap : Nat) (a : Addr) (sCap : Nat) (cur : Array Value) (t : TypeId) (cs : List Value)
    (hu : P.underlying dT = some (.slice elem)) (hs : (P.info? elem).map (·.size) = some k) (hg : w.heap[g]? = some (.cells cur t (0, 0))) (hn : cs.length = n * k)
    (hsrc : ∀ j v, cs[j]? = some v → w.cell? (a.add j) = some v) (hfit : cs.length ≤ cur.size) (h1 : ∀ v ∈ cs, v.oneCell' = true) :
    (Builtin.copy_ #[dT, sT] ty #[.slice (some ⟨g, 0, none⟩) n cap, .slice (some a) n sCap]).run P w = .ok (goInt n) (w.setRow g (cur.toList.take 0 ++ cs ++ cur.toList.drop cs.length).toArray) := by
  have hl := run_loadCells_list (P := P) w a cs hsrc
  have hst := run_storeCells_at P g 0 t cs 0 cur w hg (by simpa using hfit) h1
  cases hq : P.info? elem with
  | none => simp [hq] at hs
  | some i =>
    have hi : i.size = k := by simpa [hq] using hs
    have hmin : Nat.min n n = n := Nat.min_self n
    rw [hn] at hl
    simp only [Nat.zero_add] at hst
    simp [Builtin.copy_, run_underlying hu, Builtin.lenOf, Builtin.firstCells, sizeOf, typeInfo, hq, hi, hmin, hl, hst]
theorem run_copy_zero {P : Program} (w : World) (dT sT ty elem : TypeId) (d a : Option Addr) (dCap sCap : Nat) (hu : P.underlying dT = some (.slice elem)) {k : Nat} (hs : (P.info? elem).map (·.size) = some k) :
    (Builtin.copy_ #[dT, sT] ty #[.slice d 0 dCap, .slice a 0 sCap]).run P w = .ok (goInt 0) w := by
  cases hq : P.info? elem with
  | none => simp [hq] at hs
  | some i =>
    have hl : ∀ (x : Addr), (loadCells x 0).run P w = .ok #[] w := fun x => by simpa using run_loadCells_list (P := P) w x [] (by simp)
    cases d <;> cases a <;> simp [Builtin.copy_, run_underlying hu, Builtin.lenOf, Builtin.firstCells, sizeOf, typeInfo, hq, storeCells, hl]

theorem wpList_copyK {α : Type} {k : Nat} {cells : α → List Value} (hk : ∀ o, (cells o).length = k) (hone : ∀ o, ∀ u ∈ cells o, u.oneCell' = true) (k0 : 0 < k) {P : Program} {w : World} {ops : Array Oper} {rest : List Oper} {o : Oper} {a : Act} {Q : Exit → Act → World → Prop} (hgd : o.guard = none)
    (d s : Operand) (dT sT : TypeId) (ho : o.op = .call { callee := .builtin .copy, args := #[d, s], argTypes := #[dT, sT] }) (elem : TypeId) (hu : P.underlying dT = some (.slice elem)) (hsz : (P.info? elem).map (·.size) = some k)
    (base g n : Nat) (al : Option Addr) (sCap : Nat) (hd : a.eval d = .slice (some ⟨g, 0, none⟩) n n) (hs : a.eval s = .slice al n sCap) (xs : List Value) (hown : w.ownsRow base elem k (.slice (some ⟨g, 0, none⟩) n n) n xs) (l : List α) (hl : l.length = n) (hv : SlAt k cells w al l)
    (h : ∀ w', w'.ownsRow base elem k (.slice (some ⟨g, 0, none⟩) n n) n (flatC cells l) → Below g w w' → wpList P ops Q rest (a.put o.dst (goInt n)) w') : wpList P ops Q (o :: rest) a w := by
  rcases Nat.eq_zero_or_pos n with rfl | hp
  · obtain rfl : l = [] := List.eq_nil_of_length_eq_zero hl
    refine wpList_plain hgd fun K hK => ?_
    have hrun := run_copy_zero (P := P) w dT sT o.type elem (some ⟨g, 0, none⟩) al 0 sCap hu hsz
    unfold Oper.wp
    simp [execOp, ho, resolve, invoke, builtin, hd, hs, hrun, Result.andThen]
    refine hK _ _ (h w ?_ (Below.refl _ _))
    have hx : xs = [] := List.eq_nil_of_length_eq_zero (by have := hown.1; omega)
    rw [hx] at hown
    simpa [flatC] using hown
  · obtain ⟨o0, ho0⟩ : ∃ o0, l[0]? = some o0 := ⟨l[0]'(by omega), by simp [show 0 < l.length by omega]⟩
    obtain ⟨g', off', rfl, _, _⟩ := hv.cell 0 o0 ho0
    have hown0 := hown
    rcases hown.2 with ⟨e, _⟩ | ⟨g1, cap1, cur, e, hb1, hg1, h1, h2, h3, h4⟩
    · simp at e
    · simp at e
      obtain ⟨rfl, rfl⟩ := e
      have hfl := flatC_length hk l
      rw [hl] at hfl
      refine wpList_plain hgd fun K hK => ?_
      have hrun := run_copy_rowK (P := P) w dT sT o.type elem g n n ⟨g', off', none⟩ sCap cur elem (flatC cells l) hu hsz hg1 hfl (SlAt.cells_at hk k0 hv) (by omega) (flatC_all hone l)
      unfold Oper.wp
      simp [execOp, ho, resolve, invoke, builtin, hd, hs, hrun, Result.andThen]
      refine hK _ _ (h _ ?_ (below_setRow (Below.refl _ _) (Nat.le_refl _) _))
      refine ⟨hfl, .inr ⟨g, n, (flatC cells l).toArray, rfl, hb1, ?_, Nat.le_refl _, h2, by simp [hfl], ?_⟩⟩
      · have hdrop : cur.toList.drop (flatC cells l).length = [] := by
          apply List.drop_of_length_le; simp; omega
        have := setRow_heap w g cur (flatC cells l).toArray elem (0, 0) hg1
        simpa [hdrop] using this
      · simp only [List.take_of_length_le (Nat.le_of_eq hfl)]

end Go.Proofs.Ytfikolidmpjfcaa.Kit
