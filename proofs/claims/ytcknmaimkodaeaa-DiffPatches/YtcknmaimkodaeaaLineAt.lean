/-
  Integers in memory: a slice of integers, opened where it comes in; integers of the call's own.
-/
import Derived.Test.YtcknmaimkodaeaaChecked
import Derived.Test.YtcknmaimkodaeaaSl
import Derived.Test.YtcknmaimkodaeaaBoxes
import Derived.Test.YtcknmaimkodaeaaLineMath
import Derived.OwnWalk
import Derived.Lib.SmallJoins
import Derived.Deep.Onto
namespace Go.Proofs.Ytcknmaimkodaeaa.LineM
open Go.RowKit Kit

def ic (z : Int) : List Value := [.int .i64 z]
theorem ic_len (z : Int) : (ic z).length = 1 := rfl
theorem ic_one (z : Int) : ∀ u ∈ ic z, u.oneCell' = true := by
  intro u hu
  simp [ic] at hu
  subst hu; rfl
theorem flat_ic (l : List Int) : flatC ic l = l.map (.int .i64) := by
  induction l with
  | nil => rfl
  | cons z l ih => rw [flatC_cons, ih]; rfl
def I64 (z : Int) : Prop := -9223372036854775808 ≤ z ∧ z ≤ 9223372036854775807
abbrev IsAt (w : World) (a : Option Addr) (l : List Int) : Prop := SlAt 1 ic w a l
abbrev IsV (w : World) (v : Value) (l : List Int) : Prop := SlV 1 ic w v l
theorem IsAt.get {w : World} {a : Option Addr} {l : List Int} (h : IsAt w a l) {i : Nat} {z : Int} (hi : l[i]? = some z) : ∃ g off, a = some ⟨g, off, none⟩ ∧ g < w.heap.size ∧ w.cell? ⟨g, off + i, none⟩ = some (.int .i64 z) := by
  obtain ⟨g, off, h0, h1, h2⟩ := SlAt.cell h i z hi
  refine ⟨g, off, h0, h1, ?_⟩
  have := h2 0 (by omega)
  simpa [ic] using this
theorem infoInt : (Try.prog.info? 3).map (fun i => (i.zero, i.size, i.bytes)) = some (some (.int .i64 0), 1, 8) := by kernel_rfl
theorem wf_i64 {n : Int} (h : (Lit.int .i64 n).wf = true) : I64 n := by
  simp only [Lit.wf, Bool.and_eq_true, decide_eq_true_eq] at h
  exact h
theorem open_int1 {H : Type} {enc : TypeId × Value → H} {W : World} {n : Nat} {cs : List Value} {x : DataW H × List MemPlace} (h : DataW.trod enc Try.prog W 0 (fun _ => true) true n 3 cs = some x) : ∃ z : Int, cs = ic z ∧ I64 z := by
  obtain ⟨z, e, _, w0⟩ := DataW.trod_int Try.underlying3 h
  exact ⟨z, e, wf_i64 w0⟩
theorem open_nums {H : Type} {enc : TypeId × Value → H} {W : World} {fuel : Nat} {a : Option Addr} {len cap : Nat} {x : DataW H × List MemPlace} (h : DataW.trod enc Try.prog W 0 (fun _ => true) true fuel 35 [.slice a len cap] = some x) (hs : ∀ m ∈ x.1.weights Try.prog 35, m ≤ reachBytes) :
    ∃ l : List Int, len = l.length ∧ IsAt W a l ∧ (∀ e ∈ l, I64 e) ∧ len ≤ cap ∧ cap ≤ maxLen ∧ ((a = none ∧ cap = 0) ∨ ∃ g off, a = some ⟨g, off, none⟩ ∨ len = 0) :=
  open_list Try.underlying35 (by kernel_rfl) (by omega) ic_len I64 (fun _ _ _ h _ => open_int1 h) h hs

/-- integers of the call's own -/
structure IK (w : World) (xs : List Int) (v : Value) (wr : World) : Prop where
  row : wr.ownsRow w.heap.size 3 1 v xs.length (flatC ic xs)
  bel : Below w.heap.size w wr
section
variable {w w1 w2 : World} {xs : List Int} {v : Value}
theorem IK.next (h : IK w xs v w1) (hb : Below w1.heap.size w1 w2) : IK w xs v w2 := ⟨row_next h.row hb, bstep h.bel hb⟩
theorem IK.val (h : IK w xs v w1) : IsV w1 v xs := SlV.of_owns ic_len h.row
theorem IK.nil (hb : Below w.heap.size w w1) : IK w [] (.slice none 0 0) w1 := ⟨World.ownsRow_nil _ _ _ _, hb⟩
theorem IK.rebase (h : IK w1 xs v w2) (hb : Below w.heap.size w w1) : IK w xs v w2 := ⟨h.row.mono hb.size, bstep hb h.bel⟩
theorem IK.slice (h : IK w xs v w1) : ∃ a cap, v = .slice a xs.length cap := by
  rcases h.row.2 with ⟨e, h0⟩ | ⟨g, cap, cur, e, hb, hg, _⟩
  · exact ⟨none, 0, by rw [e, h0]⟩
  · exact ⟨_, cap, e⟩
theorem IsV.row (h : IsV w v xs) : Row w v (xs.map (.int .i64)) := by
  obtain ⟨a, cap, rfl, _, ha, hd⟩ := h
  refine ⟨a, cap, by rw [List.length_map], fun hp => ?_⟩
  rw [List.length_map] at hp
  obtain ⟨g, off, e, hg, _⟩ := IsAt.get ha (List.getElem?_eq_getElem hp)
  refine ⟨g, off, e, hg, fun i hi => ?_⟩
  rw [List.length_map] at hi
  obtain ⟨g', off', e', _, hc⟩ := IsAt.get ha (List.getElem?_eq_getElem hi)
  rw [e] at e'
  simp only [Option.some.injEq, Addr.mk.injEq, and_true] at e'
  obtain ⟨rfl, rfl⟩ := e'
  rw [hc, List.getElem?_map, List.getElem?_eq_getElem hi]; rfl
end
def IkPost (w0 : World) (xs : List Int) (e : Ending) (w' : World) : Prop := ∃ v', e = .returned v' ∧ IK w0 xs v' w'
/-- two results: integers, and a code -/
def IsPost (w0 : World) (xs : List Int) (c : Int) (e : Ending) (w' : World) : Prop := ∃ v', e = .returned (.tuple #[v', .int .i64 c]) ∧ IK w0 xs v' w'
end Go.Proofs.Ytcknmaimkodaeaa.LineM
