/-
  Spans in memory: a slice of spans, opened where it comes in; spans of the call's own.
-/
import Derived.Test.YtdiogfhbgmkajaaChecked
import Derived.Test.YtdiogfhbgmkajaaSl
import Derived.Test.YtdiogfhbgmkajaaBoxes
import Derived.Test.YtdiogfhbgmkajaaSpanMath
import Derived.OwnWalk
import Derived.Lib.SmallJoins
import Derived.Deep.Onto
namespace Go.Proofs.Ytdiogfhbgmkajaa.SpanM
open Go.RowKit Kit

def SpM.cs (s : SpM) : List Value := [.int .i64 s.lo, .int .i64 s.hi]
theorem SpM.cs_len (s : SpM) : s.cs.length = 2 := rfl
theorem SpM.cs_one (s : SpM) : ∀ u ∈ s.cs, u.oneCell' = true := by
  intro u hu
  simp [SpM.cs] at hu
  rcases hu with rfl | rfl <;> rfl
structure SpM.ok (s : SpM) : Prop where
  a0 : -9223372036854775808 ≤ s.lo
  a1 : s.lo ≤ 9223372036854775807
  b0 : -9223372036854775808 ≤ s.hi
  b1 : s.hi ≤ 9223372036854775807
abbrev SpsAt (w : World) (a : Option Addr) (l : List SpM) : Prop := SlAt 2 SpM.cs w a l
abbrev SpsV (w : World) (v : Value) (l : List SpM) : Prop := SlV 2 SpM.cs w v l
theorem SpsAt.get {w : World} {a : Option Addr} {l : List SpM} (h : SpsAt w a l) {i : Nat} {s : SpM} (hi : l[i]? = some s) : ∃ g off, a = some ⟨g, off, none⟩ ∧ g < w.heap.size ∧ w.cell? ⟨g, off + i * 2, none⟩ = some (.int .i64 s.lo) ∧ w.cell? ⟨g, off + i * 2 + 1, none⟩ = some (.int .i64 s.hi) := by
  obtain ⟨g, off, h0, h1, h2⟩ := SlAt.cell h i s hi
  exact ⟨g, off, h0, h1, h2 0 (by omega), h2 1 (by omega)⟩
theorem infoSpan : (Try.prog.info? 25).map (fun i => (i.zero, i.size, i.bytes)) = some (some (.agg #[.int .i64 0, .int .i64 0]), 2, 16) := by kernel_rfl

theorem list2 {α : Type} : ∀ {l : List α}, l.length = 2 → ∃ a b, l = [a, b]
  | [a, b], _ => ⟨a, b, rfl⟩
theorem wf_i64 {n : Int} (h : (Lit.int .i64 n).wf = true) : -9223372036854775808 ≤ n ∧ n ≤ 9223372036854775807 := by
  simp only [Lit.wf, Bool.and_eq_true, decide_eq_true_eq] at h
  exact h
theorem open_span {H : Type} {enc : TypeId × Value → H} {W : World} {n : Nat} {cs : List Value} {x : DataW H × List MemPlace} (h : DataW.trod enc Try.prog W 0 (fun _ => true) true n 25 cs = some x) : ∃ s : SpM, cs = s.cs ∧ s.ok := by
  obtain ⟨xs, k, _, hx, hl, hxl, hf⟩ := DataW.trod_struct Try.underlying25 h
  have hc : Try.prog.cellsOf 25 = 2 := by kernel_rfl
  have h1 : Try.prog.cellsOf 3 = 1 := by kernel_rfl
  rw [hc] at hl
  obtain ⟨y0, y1, rfl⟩ := list2 hxl
  obtain ⟨v0, v1, rfl⟩ := list2 hl
  have g0 := hf 0 _ rfl
  have g1 := hf 1 _ rfl
  simp [h1] at g0 g1
  obtain ⟨z0, e0, _, w0⟩ := DataW.trod_int Try.underlying3 g0
  obtain ⟨z1, e1, _, w1⟩ := DataW.trod_int Try.underlying3 g1
  simp at e0 e1
  subst e0 e1
  exact ⟨⟨z0, z1⟩, rfl, (wf_i64 w0).1, (wf_i64 w0).2, (wf_i64 w1).1, (wf_i64 w1).2⟩
theorem open_spans {H : Type} {enc : TypeId × Value → H} {W : World} {fuel : Nat} {a : Option Addr} {len cap : Nat} {x : DataW H × List MemPlace} (h : DataW.trod enc Try.prog W 0 (fun _ => true) true fuel 22 [.slice a len cap] = some x) (hs : ∀ m ∈ x.1.weights Try.prog 22, m ≤ reachBytes) :
    ∃ l : List SpM, len = l.length ∧ SpsAt W a l ∧ (∀ e ∈ l, e.ok) ∧ len ≤ cap ∧ cap ≤ maxLen ∧ ((a = none ∧ cap = 0) ∨ ∃ g off, a = some ⟨g, off, none⟩ ∨ len = 0) :=
  open_list Try.underlying22 (by kernel_rfl) (by omega) SpM.cs_len SpM.ok (fun _ _ _ h _ => open_span h) h hs
set_option maxRecDepth 100000 in
theorem open_spanV {H : Type} {enc : TypeId × Value → H} {W : World} {r : Reach} {b0 : Nat} {v : Value} {d : DataW H} {p : List MemPlace} (hv : Value.okWide Try.prog W r b0 25 v) (h : DataW.Trod enc Try.prog W 0 (fun _ => true) true 25 v d p) :
    ∃ s : SpM, v = .agg #[.int .i64 s.lo, .int .i64 s.hi] ∧ s.ok := by
  obtain ⟨c0, c1, y0, y1, m, rfl, hd, _, hy0, hy1⟩ := Joins.open_agg2 Try.underlying25 (by kernel_rfl) (by kernel_rfl) hv h
  obtain ⟨z0, e0, _, w0⟩ := DataW.trod_int Try.underlying3 hy0
  obtain ⟨z1, e1, _, w1⟩ := DataW.trod_int Try.underlying3 hy1
  simp at e0 e1
  subst e0 e1
  exact ⟨⟨z0, z1⟩, rfl, (wf_i64 w0).1, (wf_i64 w0).2, (wf_i64 w1).1, (wf_i64 w1).2⟩

theorem take_next {α : Type} {l : List α} {k : Nat} {x : α} (h : l[k]? = some x) : l.take (k + 1) = l.take k ++ [x] := by
  rw [List.take_add_one, h]; rfl
/-- spans of the call's own -/
structure SpK (w : World) (es : List SpM) (v : Value) (wr : World) : Prop where
  row : wr.ownsRow w.heap.size 25 2 v es.length (flatC SpM.cs es)
  bel : Below w.heap.size w wr
section
variable {w w1 w2 : World} {es : List SpM} {v : Value}
theorem SpK.next (h : SpK w es v w1) (hb : Below w1.heap.size w1 w2) : SpK w es v w2 := ⟨row_next h.row hb, bstep h.bel hb⟩
theorem SpK.val (h : SpK w es v w1) : SpsV w1 v es := SlV.of_owns SpM.cs_len h.row
theorem SpK.nil (hb : Below w.heap.size w w1) : SpK w [] (.slice none 0 0) w1 := ⟨World.ownsRow_nil _ _ _ _, hb⟩
theorem SpK.lt (h : SpK w es v w1) : ∀ k, v.ownBlock = some k → w.heap.size ≤ k ∧ k < w1.heap.size := h.row.lt
/-- where it lies, if it is not empty -/
theorem SpK.form (h : SpK w es v w1) (hn : 0 < es.length) : ∃ g cap, v = .slice (some ⟨g, 0, none⟩) es.length cap ∧ w.heap.size ≤ g ∧ g < w1.heap.size := by
  rcases h.row.2 with ⟨_, h0⟩ | ⟨g, cap, cur, e, hb, hg, _⟩
  · omega
  · exact ⟨g, cap, e, hb, (h.row.lt g (by rw [e]; rfl)).2⟩
theorem SpK.slice (h : SpK w es v w1) : ∃ a cap, v = .slice a es.length cap := by
  rcases h.row.2 with ⟨e, h0⟩ | ⟨g, cap, cur, e, hb, hg, _⟩
  · exact ⟨none, 0, by rw [e, h0]⟩
  · exact ⟨_, cap, e⟩
theorem SpK.cell {g n cap : Nat} (h : SpK w es (.slice (some ⟨g, 0, none⟩) n cap) w1) {i : Nat} {s : SpM} (hi : es[i]? = some s) : w1.cell? ⟨g, i * 2, none⟩ = some (.int .i64 s.lo) ∧ w1.cell? ⟨g, i * 2 + 1, none⟩ = some (.int .i64 s.hi) ∧ w1.frozen? ⟨g, i * 2 + 1, none⟩ = false := by
  have hr := h.row
  have hil := (List.getElem?_eq_some_iff.1 hi).1
  obtain ⟨a, c, e⟩ := h.slice
  simp only [Value.slice.injEq] at e
  obtain ⟨_, rfl, _⟩ := e
  have c0 := flatC_get SpM.cs_len es i s 0 hi (by omega)
  have c1 := flatC_get SpM.cs_len es i s 1 hi (by omega)
  exact ⟨by rw [hr.cellAt (i * 2) (by omega)]; exact c0, by rw [hr.cellAt (i * 2 + 1) (by omega)]; exact c1, hr.frozenAt _⟩
theorem flat_set_hi : ∀ (L : List SpM) (j : Nat) (s : SpM) (a : Int), L[j]? = some s → (flatC SpM.cs L).set (j * 2 + 1) (.int .i64 a) = flatC SpM.cs (L.set j ⟨s.lo, a⟩)
  | [], j, s, a, h => by simp at h
  | x :: L, 0, s, a, h => by simp at h; subst h; rfl
  | x :: L, j + 1, s, a, h => by
    simp at h
    have e1 : (j + 1) * 2 + 1 = j * 2 + 1 + 1 + 1 := by omega
    rw [flatC_cons, e1]
    show Value.int .i64 x.lo :: Value.int .i64 x.hi :: (flatC SpM.cs L).set (j * 2 + 1) (.int .i64 a) = _
    rw [flat_set_hi L j s a h]; rfl
theorem SpK.store {g n cap : Nat} (h : SpK w es (.slice (some ⟨g, 0, none⟩) n cap) w1) {i : Nat} {s : SpM} (hi : es[i]? = some s) (a : Int) : SpK w (es.set i ⟨s.lo, a⟩) (.slice (some ⟨g, 0, none⟩) n cap) (w1.setCell ⟨g, i * 2 + 1, none⟩ (.int .i64 a)) ∧ w1.grownBy (w1.setCell ⟨g, i * 2 + 1, none⟩ (.int .i64 a)) (some g) := by
  have hr := h.row
  obtain ⟨a', c, e⟩ := h.slice
  simp only [Value.slice.injEq] at e
  obtain ⟨_, rfl, _⟩ := e
  have hlt := hr.lt g rfl
  obtain ⟨s1, s2⟩ := hr.stored (i * 2 + 1) (.int .i64 a)
  rw [flat_set_hi es i s a hi] at s1
  exact ⟨⟨by rw [List.length_set]; exact s1, h.bel.setCell (p := ⟨g, _, none⟩) hlt.1 _⟩, s2⟩
theorem set_last {l : List SpM} {x y : SpM} : (l ++ [x]).set l.length y = l ++ [y] := by simp
end
theorem cell_two_new (w : World) (x0 x1 : Value) (t : TypeId) : ∀ j u, [x0, x1][j]? = some u → (w.alloc (.cells #[x0, x1] t)).cell? ((⟨w.heap.size, 0, none⟩ : Addr).add j) = some u := by
  intro j u hj
  have e : (⟨w.heap.size, 0, none⟩ : Addr).add j = ⟨w.heap.size, j, none⟩ := by rw [add_of rfl]; simp
  rw [e, cells_new]
  simpa using hj

end Go.Proofs.Ytdiogfhbgmkajaa.SpanM
