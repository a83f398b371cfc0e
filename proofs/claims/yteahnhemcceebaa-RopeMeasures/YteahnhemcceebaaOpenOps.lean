/-
  A slice of operations that came in, read as a list. Conditions: none.
-/
import Derived.Test.YteahnhemcceebaaRopeBuild
import Derived.Deep.Slices
import Derived.ProofKit
namespace Go.Proofs.Yteahnhemcceebaa.RopeC
open Go.ChangeShapes Go.WideShapes Go.RowKit Go.Deep RopeM Kit

theorem spot_none {w : World} {a : Addr} {v : Value} (h : w.cell? a = some v) : a.spot = none := by
  unfold World.cell? at h
  split at h
  · split at h
    · cases h
    · rename_i hs; simpa using hs
  · cases h
theorem block_lt {w : World} {a : Addr} {v : Value} (h : w.cell? a = some v) : a.block < w.heap.size := by
  unfold World.cell? at h
  split at h
  · rename_i hs; exact (Array.getElem?_eq_some_iff.1 hs).1
  · cases h
theorem add_of {a : Addr} (h : a.spot = none) (k : Nat) : a.add k = ⟨a.block, a.off + k, none⟩ := by
  obtain ⟨b, o, s⟩ := a
  cases h
  unfold Addr.add
  split
  · rename_i hk; simp [hk]
  · rfl

theorem list6 {α : Type} : ∀ {l : List α}, l.length = 6 → ∃ a b c d e f, l = [a, b, c, d, e, f]
  | [a, b, c, d, e, f], _ => ⟨a, b, c, d, e, f, rfl⟩
theorem open_op {H : Type} {enc : TypeId × Value → H} {W : World} {n : Nat} {cs : List Value} {x : DataW H × List MemPlace} (h : DataW.trod enc Try.prog W 0 (fun _ => true) true n 50 cs = some x) : ∃ o : OpM, cs = o.cells.toList := by
  obtain ⟨xs, k, _, _, hl, hxl, hf⟩ := DataW.trod_struct Try.underlying50 h
  have hc : Try.prog.cellsOf 50 = 6 := by kernel_rfl
  have h1 : Try.prog.cellsOf 3 = 1 := by kernel_rfl
  have h2 : Try.prog.cellsOf 9 = 1 := by kernel_rfl
  rw [hc] at hl
  obtain ⟨y0, y1, y2, y3, y4, y5, rfl⟩ := list6 hxl
  obtain ⟨v0, v1, v2, v3, v4, v5, rfl⟩ := list6 hl
  have g0 := hf 0 _ rfl
  have g1 := hf 1 _ rfl
  have g2 := hf 2 _ rfl
  have g3 := hf 3 _ rfl
  have g4 := hf 4 _ rfl
  have g5 := hf 5 _ rfl
  simp [h1, h2] at g0 g1 g2 g3 g4 g5
  obtain ⟨z0, e0, -⟩ := DataW.trod_int Try.underlying3 g0
  obtain ⟨z1, e1, -⟩ := DataW.trod_string Try.underlying9 g1
  obtain ⟨z2, e2, -⟩ := DataW.trod_int Try.underlying3 g2
  obtain ⟨z3, e3, -⟩ := DataW.trod_int Try.underlying3 g3
  obtain ⟨z4, e4, -⟩ := DataW.trod_int Try.underlying3 g4
  obtain ⟨z5, e5, -⟩ := DataW.trod_int Try.underlying3 g5
  simp at e0 e1 e2 e3 e4 e5
  subst e0 e1 e2 e3 e4 e5
  exact ⟨⟨z0, z1, z2, z3, z4, z5⟩, rfl⟩

theorem open_ops {H : Type} {enc : TypeId × Value → H} {W : World} {fuel : Nat} {a : Option Addr} {len cap : Nat} {x : DataW H × List MemPlace} (h : DataW.trod enc Try.prog W 0 (fun _ => true) true fuel 22 [.slice a len cap] = some x) :
    ∃ l : List OpM, len = l.length ∧ OpsAt W a l := by
  have hc : Try.prog.cellsOf 50 = 6 := by kernel_rfl
  rcases open_slice Try.underlying22 h with ⟨hcs, _⟩ | ⟨b, l, c, m, n, D, Pl, hcs, _, hle, _, hm, _, hx⟩
  · simp at hcs
    obtain ⟨rfl, rfl, rfl⟩ := hcs
    exact ⟨[], rfl, ⟨fun i o hi => by simp at hi⟩⟩
  · simp at hcs
    obtain ⟨rfl, rfl, rfl⟩ := hcs
    simp at hm
    subst hm
    have each : ∀ i, i < len → ∃ o : OpM, ∀ j, j < 6 → W.cell? ((b.add (i * 6)).add j) = o.cells.toList[j]? := by
      intro i hi
      obtain ⟨cs', h1, h2⟩ := hx i (by omega)
      rw [hc] at h1
      obtain ⟨_, hlen, hcell⟩ := World.cells?_some h1
      obtain ⟨o, rfl⟩ := open_op h2
      exact ⟨o, hcell⟩
    obtain ⟨f, hf⟩ : ∃ f : Nat → OpM, ∀ i, i < len → ∀ j, j < 6 → W.cell? ((b.add (i * 6)).add j) = (f i).cells.toList[j]? := by
      refine ⟨fun i => if h : i < len then (each i h).choose else ⟨0, ByteArray.empty, 0, 0, 0, 0⟩, fun i hi => ?_⟩
      intro j hj
      simp only [dif_pos hi]
      exact (each i hi).choose_spec j hj
    refine ⟨(List.range len).map f, by simp, ⟨fun i o hi => ?_⟩⟩
    have hil : i < len := by
      have := (List.getElem?_eq_some_iff.1 hi).1
      simpa using this
    have ho : o = f i := by
      rw [List.getElem?_map, List.getElem?_range hil] at hi
      simp at hi; exact hi.symm
    subst ho
    have s0 : b.spot = none := by
      have := hf 0 (by omega) 0 (by omega)
      exact spot_none (v := .int .i64 (f 0).kind) (by simpa [Addr.add, OpM.cells] using this)
    have key : ∀ j, j < 6 → W.cell? ⟨b.block, b.off + i * 6 + j, none⟩ = (f i).cells.toList[j]? := by
      intro j hj
      have := hf i hil j hj
      rw [add_of s0, add_of rfl] at this
      exact this
    have k0 := key 0 (by omega)
    have hlt := block_lt (a := ⟨b.block, b.off + i * 6 + 0, none⟩) (v := .int .i64 (f i).kind) (by rw [k0]; rfl)
    refine ⟨b.block, b.off, by rw [← s0], hlt, key 0 (by omega), key 1 (by omega), key 2 (by omega), key 3 (by omega), key 4 (by omega), key 5 (by omega)⟩

end Go.Proofs.Yteahnhemcceebaa.RopeC
