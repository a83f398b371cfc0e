/-
  A slice of raw data that came in, read as a list. Conditions: none.
-/
import Derived.Test.YteahnhemcceebaaMakes
import Derived.ChangeSlices
namespace Go.Proofs.Yteahnhemcceebaa.KeepC
open Go.ChangeShapes Go.WideShapes Go.RowKit Go.Deep RopeM Kit RopeC Lift

def MakeM.cells (m : MakeM) : List Value := [.int .i64 m.kind, .slice m.ta m.tlen m.tcap, .int .i64 m.a, .int .i64 m.b, .int .i64 m.at_]
theorem list5 {α : Type} : ∀ {l : List α}, l.length = 5 → ∃ a b c d e, l = [a, b, c, d, e]
  | [a, b, c, d, e], _ => ⟨a, b, c, d, e, rfl⟩
theorem open_make {H : Type} {enc : TypeId × Value → H} {W : World} {n : Nat} {cs : List Value} {x : DataW H × List MemPlace} (h : DataW.trod enc Try.prog W 0 (fun _ => true) true n 67 cs = some x) : ∃ m : MakeM, cs = m.cells ∧ IsRow .i64 W m.ta m.tlen m.tcap m.zs := by
  obtain ⟨xs, k, _, _, hl, hxl, hf⟩ := DataW.trod_struct Try.underlying67 h
  have hc : Try.prog.cellsOf 67 = 5 := by kernel_rfl
  have h1 : Try.prog.cellsOf 3 = 1 := by kernel_rfl
  have h2 : Try.prog.cellsOf 41 = 1 := by kernel_rfl
  rw [hc] at hl
  obtain ⟨y0, y1, y2, y3, y4, rfl⟩ := list5 hxl
  obtain ⟨v0, v1, v2, v3, v4, rfl⟩ := list5 hl
  have g0 := hf 0 _ rfl
  have g1 := hf 1 _ rfl
  have g2 := hf 2 _ rfl
  have g3 := hf 3 _ rfl
  have g4 := hf 4 _ rfl
  simp [h1, h2] at g0 g1 g2 g3 g4
  obtain ⟨z0, e0, -⟩ := DataW.trod_int Try.underlying3 g0
  obtain ⟨z2, e2, -⟩ := DataW.trod_int Try.underlying3 g2
  obtain ⟨z3, e3, -⟩ := DataW.trod_int Try.underlying3 g3
  obtain ⟨z4, e4, -⟩ := DataW.trod_int Try.underlying3 g4
  simp at e0 e2 e3 e4
  subst e0 e2 e3 e4
  rcases open_ints Try.underlying41 Try.underlying3 (by kernel_rfl) g1 with ⟨hcs, _⟩ | ⟨x, l, c, zs, hcs, _, hle, hm, hz, _, hcell, hwz⟩
  · simp at hcs; subst hcs
    exact ⟨⟨z0, none, 0, 0, [], z2, z3, z4⟩, rfl, .inl ⟨rfl, rfl, rfl, rfl⟩⟩
  · simp at hcs; subst hcs
    exact ⟨⟨z0, some x, l, c, zs, z2, z3, z4⟩, rfl, .inr ⟨_, rfl, hle, hm, by simpa using hz, hcell, hwz⟩⟩

theorem open_makes {H : Type} {enc : TypeId × Value → H} {W : World} {fuel : Nat} {a : Option Addr} {len cap : Nat} {x : DataW H × List MemPlace} (h : DataW.trod enc Try.prog W 0 (fun _ => true) true fuel 44 [.slice a len cap] = some x) :
    ∃ l : List MakeM, len = l.length ∧ MksAt W a l ∧ l.length ≤ 9223372036854775807 := by
  have hc : Try.prog.cellsOf 67 = 5 := by kernel_rfl
  rcases open_slice Try.underlying44 h with ⟨hcs, _⟩ | ⟨b, l, c, m, n, D, Pl, hcs, _, hle, hmx, hm, _, hx⟩
  · simp at hcs
    obtain ⟨rfl, rfl, rfl⟩ := hcs
    exact ⟨[], rfl, ⟨fun i o hi => by simp at hi⟩, by simp⟩
  · simp at hcs
    obtain ⟨rfl, rfl, rfl⟩ := hcs
    simp at hm
    subst hm
    have each : ∀ i, i < len → ∃ o : MakeM, (∀ j, j < 5 → W.cell? ((b.add (i * 5)).add j) = o.cells[j]?) ∧ IsRow .i64 W o.ta o.tlen o.tcap o.zs := by
      intro i hi
      obtain ⟨cs', h1, h2⟩ := hx i (by omega)
      rw [hc] at h1
      obtain ⟨_, hlen, hcell⟩ := World.cells?_some h1
      obtain ⟨o, rfl, hr⟩ := open_make h2
      exact ⟨o, hcell, hr⟩
    obtain ⟨f, hf⟩ : ∃ f : Nat → MakeM, ∀ i, i < len → (∀ j, j < 5 → W.cell? ((b.add (i * 5)).add j) = (f i).cells[j]?) ∧ IsRow .i64 W (f i).ta (f i).tlen (f i).tcap (f i).zs := by
      refine ⟨fun i => if h : i < len then (each i h).choose else ⟨0, none, 0, 0, [], 0, 0, 0⟩, fun i hi => ?_⟩
      simp only [dif_pos hi]
      exact (each i hi).choose_spec
    refine ⟨(List.range len).map f, by simp, ⟨fun i o hi => ?_⟩, by simp; unfold maxLen at hmx; omega⟩
    have hil : i < len := by
      have := (List.getElem?_eq_some_iff.1 hi).1
      simpa using this
    have ho : o = f i := by
      rw [List.getElem?_map, List.getElem?_range hil] at hi
      simp at hi; exact hi.symm
    subst ho
    have s0 : b.spot = none := by
      have := (hf 0 (by omega)).1 0 (by omega)
      exact spot_none (v := .int .i64 (f 0).kind) (by simpa [Addr.add, MakeM.cells] using this)
    have key : ∀ j, j < 5 → W.cell? ⟨b.block, b.off + i * 5 + j, none⟩ = (f i).cells[j]? := by
      intro j hj
      have := (hf i hil).1 j hj
      rw [add_of s0, add_of rfl] at this
      exact this
    have k0 := key 0 (by omega)
    have hlt := block_lt (a := ⟨b.block, b.off + i * 5 + 0, none⟩) (v := .int .i64 (f i).kind) (by rw [k0]; rfl)
    exact ⟨⟨b.block, b.off, by rw [← s0], hlt, key 0 (by omega), key 1 (by omega), key 2 (by omega), key 3 (by omega), key 4 (by omega)⟩, (hf i hil).2⟩

end Go.Proofs.Yteahnhemcceebaa.KeepC
