/-
  Package rope: what Measure answers, as a reader holds it.
-/
import Derived.Test.YtkckhjljindgmaaRopeMeasures
namespace Go.Proofs.Ytkckhjljindgmaa.RopeC
open Go.RowKit Kit RopeM PosM PolyM

theorem posCs_get : ∀ (ts : Tx) (i : Nat) (t : List UInt8) (j : Nat), ts[i]? = some t → j < 3 → (posCs ts)[i * 3 + j]? = (posC t)[j]?
  | [], i, t, j, h, _ => by simp at h
  | x :: ts, 0, t, j, h, hj => by
    simp at h; subst h
    have e : posCs (x :: ts) = posC x ++ posCs ts := by simp [posCs]
    rw [e, List.getElem?_append_left (by simp [posC]; omega)]; simp
  | x :: ts, i + 1, t, j, h, hj => by
    simp at h
    have e : posCs (x :: ts) = posC x ++ posCs ts := by simp [posCs]
    rw [e, List.getElem?_append_right (by simp [posC]; omega)]
    have e2 : (i + 1) * 3 + j - (posC x).length = i * 3 + j := by simp [posC]; omega
    rw [e2]
    exact posCs_get ts i t j h hj
theorem hashCs_get : ∀ (ts : Tx) (i : Nat) (t : List UInt8) (j : Nat), ts[i]? = some t → j < 2 → (hashCs ts)[i * 2 + j]? = (hashC t)[j]?
  | [], i, t, j, h, _ => by simp at h
  | x :: ts, 0, t, j, h, hj => by
    simp at h; subst h
    have e : hashCs (x :: ts) = hashC x ++ hashCs ts := by simp [hashCs]
    rw [e, List.getElem?_append_left (by simp [hashC]; omega)]; simp
  | x :: ts, i + 1, t, j, h, hj => by
    simp at h
    have e : hashCs (x :: ts) = hashC x ++ hashCs ts := by simp [hashCs]
    rw [e, List.getElem?_append_right (by simp [hashC]; omega)]
    have e2 : (i + 1) * 2 + j - (hashC x).length = i * 2 + j := by simp [hashC]; omega
    rw [e2]
    exact hashCs_get ts i t j h hj

/-- a row of extents, a row of hashes, as a reader holds them -/
structure Meas (w : World) (pv hv' : Value) (ts : Tx) : Prop where
  pos : ∃ a cap, pv = .slice a ts.length cap ∧ ∀ (i : Nat) t, ts[i]? = some t → ∃ g, a = some ⟨g, 0, none⟩ ∧ g < w.heap.size ∧ w.cell? ⟨g, i * 3, none⟩ = some (.int .i64 (t.length : Int)) ∧ w.cell? ⟨g, i * 3 + 1, none⟩ = some (.int .i64 (lns t : Int)) ∧ w.cell? ⟨g, i * 3 + 2, none⟩ = some (.int .i64 (col t : Int))
  hash : ∃ a cap, hv' = .slice a ts.length cap ∧ ∀ (i : Nat) t, ts[i]? = some t → ∃ g, a = some ⟨g, 0, none⟩ ∧ g < w.heap.size ∧ w.cell? ⟨g, i * 2, none⟩ = some (.int .i64 (hv t : Int)) ∧ w.cell? ⟨g, i * 2 + 1, none⟩ = some (.int .i64 (hs t.length : Int))
theorem Meas.next {w w' : World} {pv hv' : Value} {ts : Tx} (h : Meas w pv hv' ts) (hb : Below w.heap.size w w') : Meas w' pv hv' ts := by
  obtain ⟨⟨a, cap, e, h1⟩, ⟨a', cap', e', h2⟩⟩ := h
  refine ⟨⟨a, cap, e, fun i t hi => ?_⟩, ⟨a', cap', e', fun i t hi => ?_⟩⟩
  · obtain ⟨g, x0, x1, x2, x3, x4⟩ := h1 i t hi
    exact ⟨g, x0, Nat.lt_of_lt_of_le x1 hb.size, keep hb x1 x2, keep hb x1 x3, keep hb x1 x4⟩
  · obtain ⟨g, x0, x1, x2, x3⟩ := h2 i t hi
    exact ⟨g, x0, Nat.lt_of_lt_of_le x1 hb.size, keep hb x1 x2, keep hb x1 x3⟩
theorem Meas.of {w1 w' : World} {pv hv' : Value} {ts : Tx} (h : MA w1 ts ts.length pv hv' w') : Meas w' pv hv' ts := by
  obtain ⟨h1, h2, _⟩ := h
  rw [List.take_length] at h1 h2
  constructor
  · rcases h1.2 with ⟨e, h0⟩ | ⟨g, cap, cur, e, hb, hg, _⟩
    · refine ⟨none, 0, by rw [e, h0], fun i t hi => ?_⟩
      rw [List.eq_nil_of_length_eq_zero h0] at hi; simp at hi
    · refine ⟨some ⟨g, 0, none⟩, cap, e, fun i t hi => ⟨g, rfl, (h1.lt g (by rw [e]; rfl)).2, ?_⟩⟩
      have hlt := (List.getElem?_eq_some_iff.1 hi).1
      rw [e] at h1
      refine ⟨?_, ?_, ?_⟩
      · have := posCs_get ts i t 0 hi (by omega)
        rw [h1.cellAt (i * 3) (by omega)]; simpa [posC] using this
      · rw [h1.cellAt (i * 3 + 1) (by omega), posCs_get ts i t 1 hi (by omega)]; rfl
      · rw [h1.cellAt (i * 3 + 2) (by omega), posCs_get ts i t 2 hi (by omega)]; rfl
  · rcases h2.2 with ⟨e, h0⟩ | ⟨g, cap, cur, e, hb, hg, _⟩
    · refine ⟨none, 0, by rw [e, h0], fun i t hi => ?_⟩
      rw [List.eq_nil_of_length_eq_zero h0] at hi; simp at hi
    · refine ⟨some ⟨g, 0, none⟩, cap, e, fun i t hi => ⟨g, rfl, (h2.lt g (by rw [e]; rfl)).2, ?_⟩⟩
      have hlt := (List.getElem?_eq_some_iff.1 hi).1
      rw [e] at h2
      refine ⟨?_, ?_⟩
      · have := hashCs_get ts i t 0 hi (by omega)
        rw [h2.cellAt (i * 2) (by omega)]; simpa [hashC] using this
      · rw [h2.cellAt (i * 2 + 1) (by omega), hashCs_get ts i t 1 hi (by omega)]; rfl

theorem measured (l : List OpM) (a : Option Addr) (cap : Nat) (w : World) (hl : OpsAt w a l) (h80 : l.length ≤ 80) :
    Calls Try.prog 31 #[.slice a l.length cap] w fun e w' => ∃ pv hv', e = .returned (.tuple #[pv, hv', .int .i64 0]) ∧ Meas w' pv hv' (texts l []) ∧ Below w.heap.size w w' := by
  refine (measure l a cap w hl h80).mono ?_
  rintro e w' ⟨pv, hv', w1, rfl, h, hb⟩
  exact ⟨pv, hv', rfl, Meas.of h, hb⟩

end Go.Proofs.Ytkckhjljindgmaa.RopeC
