/-
  Several of my texts in one: slices and boxes in memory, read as lists.
-/
import Derived.Test.YtokfnajgjhkepaaKit
import Derived.Laws.OwnMore
import Derived.Deep.Slices
import Derived.ProofKit
import Derived.SizedLaws
import Derived.RangeFuncBox
import Derived.RangeFuncNested
import Derived.WalkKit
import Derived.Test.YtokfnajgjhkepaaChecked
import Derived.OwnWalk
import Derived.Lib.SmallJoins
import Derived.Deep.Onto
import Derived.Test.YtokfnajgjhkepaaBnd1

/-
  Slices of integers, as the walks read them. No program is named.
-/
namespace Go.Proofs.Ytokfnajgjhkepaa.Kit
open Go.RowKit

theorem below_grows {W W' : World} (h : Below W.heap.size W W') : W.grownBy W' none := ⟨h.os, h.tape, h.output, h.size, fun k hk _ => h.block k hk⟩
theorem grows_below {W W' : World} (h : W.grownBy W' none) : Below W.heap.size W W' := ⟨h.os, h.tape, h.output, h.size, fun k hk => h.block k hk (by simp)⟩
theorem row_next {W W1 : World} {base k : Nat} {e : TypeId} {size : Nat} {v : Value} {xs : List Value} (h : W.ownsRow base e size v k xs) (hb : Below W.heap.size W W1) : W1.ownsRow base e size v k xs := by
  refine h.kept (below_grows hb) ?_
  cases hv : v.ownBlock with
  | none => exact .inl rfl
  | some b => exact .inr (by simp)

theorem bgrow {w W W' : World} {e : TypeId} {size n : Nat} {v : Value} {xs : List Value} (hB : Below w.heap.size w W) (hrow : W.ownsRow w.heap.size e size v n xs) (hg : W.grownBy W' v.ownBlock) : Below w.heap.size w W' :=
  hB.grown hg hB.size (fun k e => (hrow.lt k e).1)

/-- the slice v reads as the values xs, one cell each -/
def Row (w : World) (v : Value) (xs : List Value) : Prop :=
  ∃ a cap, v = .slice a xs.length cap ∧ (0 < xs.length → ∃ b off, a = some ⟨b, off, none⟩ ∧ b < w.heap.size ∧ ∀ i, i < xs.length → w.cell? ⟨b, off + i, none⟩ = xs[i]?)

theorem Row.next {w w' : World} {v : Value} {xs : List Value} (h : Row w v xs) (hb : Below w.heap.size w w') : Row w' v xs := by
  obtain ⟨a, cap, rfl, h⟩ := h
  refine ⟨a, cap, rfl, fun hp => ?_⟩
  obtain ⟨b, off, rfl, hl, hc⟩ := h hp
  exact ⟨b, off, rfl, Nat.lt_of_lt_of_le hl hb.size, fun i hi => (hb.cell (p := ⟨b, off + i, none⟩) hl).trans (hc i hi)⟩
theorem Row.nil (w : World) : Row w (.slice none 0 0) [] := ⟨none, 0, rfl, fun h => by simp at h⟩
theorem Row.of_owns {w : World} {base : Nat} {e : TypeId} {v : Value} {n : Nat} {xs : List Value} (h : w.ownsRow base e 1 v n xs) : Row w v xs := by
  have hlen : xs.length = n := by have := h.1; omega
  rcases h.2 with ⟨rfl, rfl⟩ | ⟨g, cap, cur, rfl, hb, hg, h1, h2, h3, h4⟩
  · obtain rfl : xs = [] := List.eq_nil_of_length_eq_zero hlen
    exact Row.nil w
  · refine ⟨some ⟨g, 0, none⟩, cap, by rw [hlen], fun _ => ⟨g, 0, rfl, (h.lt g rfl).2, fun i hi => ?_⟩⟩
    rw [Nat.zero_add]
    exact h.cellAt i (by omega)

end Go.Proofs.Ytokfnajgjhkepaa.Kit

/-
  Slices whose elements take k cells each, read as lists; opened where they come in. No program is named.
-/
namespace Go.Proofs.Ytokfnajgjhkepaa.Kit
open Go.RowKit

theorem spot_none {w : World} {a : Addr} {v : Value} (h : w.cell? a = some v) : a.spot = none := by
  unfold World.cell? at h
  split at h
  · split at h
    · cases h
    · rename_i hs; simpa using hs
  · cases h
theorem block_lt {w : World} {a : Addr} {v : Value} (h : w.cell? a = some v) : a.block < w.heap.size := by
  unfold World.cell? at h
  split at h
  · rename_i hs; exact (Array.getElem?_eq_some_iff.1 hs).1
  · cases h
theorem add_of {a : Addr} (h : a.spot = none) (k : Nat) : a.add k = ⟨a.block, a.off + k, none⟩ := by
  obtain ⟨b, o, s⟩ := a
  cases h
  unfold Addr.add
  split
  · rename_i hk; simp [hk]
  · rfl
theorem cells_new (w : World) (cs : Array Value) (t : TypeId) (j : Nat) : (w.alloc (.cells cs t)).cell? ⟨w.heap.size, j, none⟩ = cs[j]? := by
  have : (w.alloc (.cells cs t)).heap[w.heap.size]? = some (.cells cs t (0, 0)) := by unfold World.alloc; simp only [Array.getElem?_push_size]
  unfold World.cell?
  simp only [this]
  rfl

/-- the elements l lie from a on, k cells each -/
structure SlAt {α : Type} (k : Nat) (cells : α → List Value) (w : World) (a : Option Addr) (l : List α) : Prop where
  cell : ∀ (i : Nat) o, l[i]? = some o → ∃ g off, a = some ⟨g, off, none⟩ ∧ g < w.heap.size ∧ ∀ j, j < k → w.cell? ⟨g, off + i * k + j, none⟩ = (cells o)[j]?
section
variable {α : Type} {k : Nat} {cells : α → List Value}
theorem SlAt.next {w w' : World} {a : Option Addr} {l : List α} (h : SlAt k cells w a l) (hb : Below w.heap.size w w') : SlAt k cells w' a l where
  cell i o hi := by
    obtain ⟨g, off, h0, h1, h2⟩ := h.cell i o hi
    exact ⟨g, off, h0, Nat.lt_of_lt_of_le h1 hb.size, fun j hj => (hb.cell (p := ⟨g, _, none⟩) h1).trans (h2 j hj)⟩
theorem SlAt.nil (w : World) (a : Option Addr) : SlAt k cells w a ([] : List α) := ⟨fun i o hi => by simp at hi⟩
theorem SlAt.take {w : World} {a : Option Addr} {l : List α} (h : SlAt k cells w a l) (n : Nat) : SlAt k cells w a (l.take n) where
  cell i o hi := by
    refine h.cell i o ?_
    rw [List.getElem?_take] at hi
    split at hi
    · exact hi
    · cases hi
theorem SlAt.drop {w : World} {g off : Nat} {l : List α} (h : SlAt k cells w (some ⟨g, off, none⟩) l) (n : Nat) : SlAt k cells w (some ⟨g, off + n * k, none⟩) (l.drop n) where
  cell i o hi := by
    rw [List.getElem?_drop] at hi
    obtain ⟨g', off', e, h1, h2⟩ := h.cell (n + i) o hi
    simp only [Option.some.injEq, Addr.mk.injEq, and_true] at e
    obtain ⟨rfl, rfl⟩ := e
    refine ⟨g, off + n * k, rfl, h1, fun j hj => ?_⟩
    rw [← h2 j hj, Nat.add_mul]; congr 2; omega

/-- all cells, one behind the other -/
def flatC (cells : α → List Value) (l : List α) : List Value := (l.map cells).flatten
theorem flatC_cons (o : α) (l : List α) : flatC cells (o :: l) = cells o ++ flatC cells l := by simp [flatC]
theorem flatC_append (l m : List α) : flatC cells (l ++ m) = flatC cells l ++ flatC cells m := by simp [flatC]
theorem flatC_one (o : α) : flatC cells [o] = cells o := by simp [flatC]
theorem flatC_length (hk : ∀ o, (cells o).length = k) : ∀ l : List α, (flatC cells l).length = l.length * k
  | [] => by simp [flatC]
  | o :: l => by rw [flatC_cons, List.length_append, flatC_length hk l, List.length_cons, hk, Nat.succ_mul, Nat.add_comm]
theorem flatC_get (hk : ∀ o, (cells o).length = k) : ∀ (l : List α) (i : Nat) (o : α) (j : Nat), l[i]? = some o → j < k → (flatC cells l)[i * k + j]? = (cells o)[j]?
  | [], i, o, j, h, _ => by simp at h
  | x :: l, 0, o, j, h, hj => by
    simp at h; subst h
    rw [flatC_cons, List.getElem?_append_left (by rw [hk]; omega)]; simp
  | x :: l, i + 1, o, j, h, hj => by
    simp at h
    have e1 : (i + 1) * k + j = k + (i * k + j) := by rw [Nat.succ_mul]; omega
    rw [flatC_cons, e1, List.getElem?_append_right (by rw [hk]; omega), hk]
    have e2 : k + (i * k + j) - k = i * k + j := by omega
    rw [e2]
    exact flatC_get hk l i o j h hj
theorem flatC_all {p : Value → Prop} (h : ∀ o, ∀ u ∈ cells o, p u) (l : List α) : ∀ u ∈ flatC cells l, p u := by
  intro u hu
  simp only [flatC, List.mem_flatten, List.mem_map] at hu
  obtain ⟨x, ⟨o, _, rfl⟩, hu⟩ := hu
  exact h o u hu
theorem SlAt.cells_at (hk : ∀ o, (cells o).length = k) (k0 : 0 < k) {w : World} {l : List α} {g off : Nat} (h : SlAt k cells w (some ⟨g, off, none⟩) l) : ∀ j u, (flatC cells l)[j]? = some u → w.cell? ((⟨g, off, none⟩ : Addr).add j) = some u := by
  intro j u hj
  have hjl := (List.getElem?_eq_some_iff.1 hj).1
  rw [flatC_length hk] at hjl
  have hd : j / k < l.length := Nat.div_lt_of_lt_mul (by rw [Nat.mul_comm]; exact hjl)
  have hm : j % k < k := Nat.mod_lt _ k0
  have ho : l[j / k]? = some l[j / k] := by simp [hd]
  obtain ⟨g', off', e, _, hc⟩ := h.cell (j / k) _ ho
  have hg := flatC_get hk l (j / k) _ (j % k) ho hm
  have hjj : j / k * k + j % k = j := by rw [Nat.mul_comm]; exact Nat.div_add_mod j k
  rw [hjj, hj] at hg
  simp only [Option.some.injEq, Addr.mk.injEq, and_true] at e
  obtain ⟨rfl, rfl⟩ := e
  rw [add_of rfl]
  have := hc (j % k) hm
  rw [← hg] at this
  rw [← this]
  show w.cell? ⟨g, off + j, none⟩ = _
  rw [show off + j = off + j / k * k + j % k by omega]

/-- a slice, nil or at an address -/
def SlV (k : Nat) (cells : α → List Value) (w : World) (v : Value) (l : List α) : Prop :=
  ∃ a cap, v = .slice a l.length cap ∧ l.length ≤ cap ∧ SlAt k cells w a l ∧ ((a = none ∧ cap = 0 ∧ l = []) ∨ ∃ g off, a = some ⟨g, off, none⟩ ∧ g < w.heap.size)
theorem SlV.next {w w' : World} {v : Value} {l : List α} (h : SlV k cells w v l) (hb : Below w.heap.size w w') : SlV k cells w' v l := by
  obtain ⟨a, cap, e, hle, ha, hs⟩ := h
  refine ⟨a, cap, e, hle, ha.next hb, hs.imp id ?_⟩
  rintro ⟨g, off, rfl, hg⟩
  exact ⟨g, off, rfl, Nat.lt_of_lt_of_le hg hb.size⟩
theorem SlV.nil (w : World) : SlV k cells w (.slice none 0 0) ([] : List α) := ⟨none, 0, rfl, by simp, SlAt.nil _ _, .inl ⟨rfl, rfl, rfl⟩⟩
theorem SlV.of_owns (hk : ∀ o, (cells o).length = k) {w : World} {base e : Nat} {v : Value} {l : List α} (h : w.ownsRow base e k v l.length (flatC cells l)) : SlV k cells w v l := by
  rcases h.2 with ⟨e, h0⟩ | ⟨g, cap, cur, e, hb, hg, hle, _⟩
  · have hl : l = [] := List.eq_nil_of_length_eq_zero h0
    subst hl; subst e
    exact SlV.nil w
  · have hlt := (h.lt g (by rw [e]; rfl)).2
    refine ⟨some ⟨g, 0, none⟩, cap, e, hle, ⟨fun i o hi => ⟨g, 0, rfl, hlt, fun j hj => ?_⟩⟩, .inr ⟨g, 0, rfl, hlt⟩⟩
    have hil := (List.getElem?_eq_some_iff.1 hi).1
    rw [e] at h
    have hb : i * k + j < l.length * k := by
      have := Nat.mul_le_mul_right k (Nat.succ_le_of_lt hil)
      rw [Nat.succ_mul] at this; omega
    rw [Nat.zero_add, h.cellAt (i * k + j) (by omega), flatC_get hk l i o j hi hj]

/-- a slice that came in -/
theorem open_list {H : Type} {enc : TypeId × Value → H} {P : Program} {W : World} {t e : TypeId} (ht : P.underlying t = some (.slice e)) (hk : P.cellsOf e = k) (k0 : 0 < k) (hlen : ∀ o, (cells o).length = k)
    (R : α → Prop) (one : ∀ n cs (x : DataW H × List MemPlace), DataW.trod enc P W 0 (fun _ => true) true n e cs = some x → (∀ m ∈ x.1.weights P e, m ≤ reachBytes) → ∃ o : α, cs = cells o ∧ R o)
    {fuel : Nat} {a : Option Addr} {len cap : Nat} {x : DataW H × List MemPlace} (h : DataW.trod enc P W 0 (fun _ => true) true fuel t [.slice a len cap] = some x) (hs : ∀ m ∈ x.1.weights P t, m ≤ reachBytes) :
    ∃ l : List α, len = l.length ∧ SlAt k cells W a l ∧ (∀ o ∈ l, R o) ∧ len ≤ cap ∧ cap ≤ maxLen ∧ ((a = none ∧ cap = 0) ∨ ∃ g off, a = some ⟨g, off, none⟩ ∨ len = 0) := by
  rcases Deep.open_slice ht h with ⟨hcs, _⟩ | ⟨b, l, c, m, n, D, Pl, hcs, _, hle, hmx, hm, hxx, hx⟩
  · simp at hcs
    obtain ⟨rfl, rfl, rfl⟩ := hcs
    exact ⟨[], rfl, SlAt.nil _ _, fun o ho => by simp at ho, by simp, by simp, .inl ⟨rfl, rfl⟩⟩
  · simp at hcs
    obtain ⟨rfl, rfl, rfl⟩ := hcs
    simp at hm
    subst hm
    have hw : ∀ i, i < len → ∀ q ∈ (D i).weights P e, q ≤ reachBytes := by
      intro i hi q hq
      refine hs q ?_
      rw [hxx]
      simp only [DataW.weights, ht, List.mem_cons, List.mem_append]
      refine .inr (.inl ?_)
      have : ∀ (L : List (DataW H)) d, d ∈ L → ∀ q ∈ d.weights P e, q ∈ DataW.weightsAll P e L := by
        intro L
        induction L with
        | nil => intro d hd; simp at hd
        | cons y L ih =>
          intro d hd q hq
          simp only [DataW.weightsAll, List.mem_append]
          rcases List.mem_cons.1 hd with rfl | hd
          · exact .inl hq
          · exact .inr (ih d hd q hq)
      exact this _ (D i) (List.mem_map.2 ⟨i, by simpa using hi, rfl⟩) q hq
    have each : ∀ i, i < len → ∃ o : α, (∀ j, j < k → W.cell? ((b.add (i * k)).add j) = (cells o)[j]?) ∧ R o := by
      intro i hi
      obtain ⟨cs', h1, h2⟩ := hx i (by omega)
      rw [hk] at h1
      obtain ⟨_, hlen, hcell⟩ := World.cells?_some h1
      obtain ⟨o, rfl, hr⟩ := one _ _ _ h2 (hw i hi)
      exact ⟨o, hcell, hr⟩
    by_cases hz : len = 0
    · subst hz
      exact ⟨[], rfl, SlAt.nil _ _, fun o ho => by simp at ho, hle, hmx, .inr ⟨0, 0, .inr rfl⟩⟩
    obtain ⟨o0, ho0, _⟩ := each 0 (by omega)
    have s0 : b.spot = none := by
      have h0 := ho0 0 k0
      obtain ⟨u, hu⟩ : ∃ u, (cells o0)[0]? = some u := ⟨(cells o0)[0]'(by rw [hlen]; exact k0), by simp⟩
      exact spot_none (v := u) (by simpa [Addr.add, hu] using h0)
    obtain ⟨f, hf⟩ : ∃ f : Nat → α, ∀ i, i < len → (∀ j, j < k → W.cell? ((b.add (i * k)).add j) = (cells (f i))[j]?) ∧ R (f i) := by
      refine ⟨fun i => if h : i < len then (each i h).choose else o0, fun i hi => ?_⟩
      simp only [dif_pos hi]
      exact (each i hi).choose_spec
    refine ⟨(List.range len).map f, by simp, ⟨fun i o hi => ?_⟩, ?_, hle, hmx, .inr ⟨b.block, b.off, .inl (by rw [← s0])⟩⟩
    · have hil : i < len := by
        have := (List.getElem?_eq_some_iff.1 hi).1
        simpa using this
      have ho : o = f i := by
        rw [List.getElem?_map, List.getElem?_range hil] at hi
        simp at hi; exact hi.symm
      subst ho
      have key : ∀ j, j < k → W.cell? ⟨b.block, b.off + i * k + j, none⟩ = (cells (f i))[j]? := by
        intro j hj
        have := (hf i hil).1 j hj
        rw [add_of s0, add_of rfl] at this
        exact this
      have k1 := key 0 k0
      obtain ⟨u, hu⟩ : ∃ u, (cells (f i))[0]? = some u := ⟨(cells (f i))[0]'(by rw [hlen]; exact k0), by simp⟩
      have hlt := block_lt (a := ⟨b.block, b.off + i * k + 0, none⟩) (v := u) (by rw [k1]; exact hu)
      exact ⟨b.block, b.off, by rw [← s0], hlt, key⟩
    · intro o ho
      obtain ⟨i, hi, rfl⟩ := List.mem_map.1 ho
      exact (hf i (by simpa using hi)).2
/-- what is weighed of one argument -/
theorem weigh {H : Type} {P : Program} {ts : List TypeId} {ds : List (DataW H)} (h : (DataW.weightsEach P ts ds).all (· ≤ reachBytes) = true) {j : Nat} {t : TypeId} {d : DataW H} (ht : ts[j]? = some t) (hd : ds[j]? = some d) : ∀ m ∈ d.weights P t, m ≤ reachBytes := by
  intro m hm
  have := List.all_eq_true.1 h m (DataW.weights_mem_each ht hd m hm)
  simpa using this
end
end Go.Proofs.Ytokfnajgjhkepaa.Kit

/-
  Boxes of two and of three cells that a call has made and writes. No program is named.
-/
namespace Go.Proofs.Ytokfnajgjhkepaa.Kit
open Go.RowKit

/-- a box of three cells that may be written -/
structure B3 (k : Nat) (a b c : Value) (W : World) : Prop where
  lt : k < W.heap.size
  c0 : W.cell? ⟨k, 0, none⟩ = some a
  c1 : W.cell? ⟨k, 1, none⟩ = some b
  c2 : W.cell? ⟨k, 2, none⟩ = some c
  f0 : W.frozen? ⟨k, 0, none⟩ = false
  f1 : W.frozen? ⟨k, 1, none⟩ = false
  f2 : W.frozen? ⟨k, 2, none⟩ = false
structure B2 (k : Nat) (a b : Value) (W : World) : Prop where
  lt : k < W.heap.size
  c0 : W.cell? ⟨k, 0, none⟩ = some a
  c1 : W.cell? ⟨k, 1, none⟩ = some b
  f0 : W.frozen? ⟨k, 0, none⟩ = false
  f1 : W.frozen? ⟨k, 1, none⟩ = false
theorem B3.next {k : Nat} {a b c : Value} {W W' : World} (h : B3 k a b c W) (hb : Below W.heap.size W W') : B3 k a b c W' :=
  ⟨Nat.lt_of_lt_of_le h.lt hb.size, keep hb h.lt h.c0, keep hb h.lt h.c1, keep hb h.lt h.c2, (hb.frozen (p := ⟨k, 0, none⟩) h.lt).trans h.f0, (hb.frozen (p := ⟨k, 1, none⟩) h.lt).trans h.f1, (hb.frozen (p := ⟨k, 2, none⟩) h.lt).trans h.f2⟩
theorem B2.next {k : Nat} {a b : Value} {W W' : World} (h : B2 k a b W) (hb : Below W.heap.size W W') : B2 k a b W' :=
  ⟨Nat.lt_of_lt_of_le h.lt hb.size, keep hb h.lt h.c0, keep hb h.lt h.c1, (hb.frozen (p := ⟨k, 0, none⟩) h.lt).trans h.f0, (hb.frozen (p := ⟨k, 1, none⟩) h.lt).trans h.f1⟩
theorem B3.new (w : World) (a b c : Value) (t : TypeId) : B3 w.heap.size a b c (w.alloc (.cells #[a, b, c] t)) := ⟨by simp, by simp, by simp, by simp, by simp, by simp, by simp⟩
theorem B2.new (w : World) (a b : Value) (t : TypeId) : B2 w.heap.size a b (w.alloc (.cells #[a, b] t)) := ⟨by simp, by simp, by simp, by simp, by simp⟩
theorem B3.alloc {k : Nat} {a b c : Value} {W : World} (h : B3 k a b c W) (o : Obj) : B3 k a b c (W.alloc o) := h.next (balloc (Below.refl _ _) o)
theorem B2.alloc {k : Nat} {a b : Value} {W : World} (h : B2 k a b W) (o : Obj) : B2 k a b (W.alloc o) := h.next (balloc (Below.refl _ _) o)
theorem B3.own {β : Type} (k : Nat) (f g h : β → Value) : Own (fun (s : β) W => B3 k (f s) (g s) (h s) W) := fun _ _ _ _ hs hg hr =>
  ⟨Nat.lt_of_lt_of_le hs.lt hg.size, cell_kept hs.c0 hg hr, cell_kept hs.c1 hg hr, cell_kept hs.c2 hg hr, (frozen_kept hs.c0 hg hr).trans hs.f0, (frozen_kept hs.c1 hg hr).trans hs.f1, (frozen_kept hs.c2 hg hr).trans hs.f2⟩
theorem B2.own {β : Type} (k : Nat) (f g : β → Value) : Own (fun (s : β) W => B2 k (f s) (g s) W) := fun _ _ _ _ hs hg hr =>
  ⟨Nat.lt_of_lt_of_le hs.lt hg.size, cell_kept hs.c0 hg hr, cell_kept hs.c1 hg hr, (frozen_kept hs.c0 hg hr).trans hs.f0, (frozen_kept hs.c1 hg hr).trans hs.f1⟩
theorem setO {W : World} {j o k i : Nat} (h : k ≠ j ∨ i ≠ o) (v : Value) : (W.setCell ⟨j, o, none⟩ v).cell? ⟨k, i, none⟩ = W.cell? ⟨k, i, none⟩ :=
  World.cell?_setCell_other _ _ _ _ (fun e => by injection e with e1 e2; rcases h with h | h <;> omega)
theorem setS {W : World} {j o : Nat} {u : Value} (h : W.cell? ⟨j, o, none⟩ = some u) (v : Value) : (W.setCell ⟨j, o, none⟩ v).cell? ⟨j, o, none⟩ = some v := World.cell?_setCell_same _ _ _ h
theorem setZ {W : World} {j o : Nat} (v : Value) : (W.setCell ⟨j, o, none⟩ v).heap.size = W.heap.size := by simp [World.setCell]
theorem B3.set {k : Nat} {a b c : Value} {W : World} (h : B3 k a b c W) (a' b' c' : Value) : B3 k a' b' c' (((W.setCell ⟨k, 0, none⟩ a').setCell ⟨k, 1, none⟩ b').setCell ⟨k, 2, none⟩ c') := by
  obtain ⟨h0, h1, h2, h3, h4, h5, h6⟩ := h
  refine ⟨by rw [setZ, setZ, setZ]; exact h0, ?_, ?_, ?_, by simp only [World.frozen?_setCell]; exact h4, by simp only [World.frozen?_setCell]; exact h5, by simp only [World.frozen?_setCell]; exact h6⟩
  · rw [setO (by simp), setO (by simp)]; exact setS h1 _
  · rw [setO (by simp)]; exact setS ((setO (by simp) _).trans h2) _
  · exact setS ((setO (by simp) _).trans ((setO (by simp) _).trans h3)) _
theorem B2.set {k : Nat} {a b : Value} {W : World} (h : B2 k a b W) (a' b' : Value) : B2 k a' b' ((W.setCell ⟨k, 0, none⟩ a').setCell ⟨k, 1, none⟩ b') := by
  obtain ⟨h0, h1, h2, h4, h5⟩ := h
  refine ⟨by rw [setZ, setZ]; exact h0, ?_, ?_, by simp only [World.frozen?_setCell]; exact h4, by simp only [World.frozen?_setCell]; exact h5⟩
  · rw [setO (by simp)]; exact setS h1 _
  · exact setS ((setO (by simp) _).trans h2) _
theorem B3.other {k : Nat} {a b c : Value} {W : World} (h : B3 k a b c W) {j o : Nat} (hj : k ≠ j) (v : Value) : B3 k a b c (W.setCell ⟨j, o, none⟩ v) := by
  obtain ⟨h0, h1, h2, h3, h4, h5, h6⟩ := h
  exact ⟨by rw [setZ]; exact h0, (setO (.inl hj) _).trans h1, (setO (.inl hj) _).trans h2, (setO (.inl hj) _).trans h3, by rw [World.frozen?_setCell]; exact h4, by rw [World.frozen?_setCell]; exact h5, by rw [World.frozen?_setCell]; exact h6⟩
theorem B2.other {k : Nat} {a b : Value} {W : World} (h : B2 k a b W) {j o : Nat} (hj : k ≠ j) (v : Value) : B2 k a b (W.setCell ⟨j, o, none⟩ v) := by
  obtain ⟨h0, h1, h2, h4, h5⟩ := h
  exact ⟨by rw [setZ]; exact h0, (setO (.inl hj) _).trans h1, (setO (.inl hj) _).trans h2, by rw [World.frozen?_setCell]; exact h4, by rw [World.frozen?_setCell]; exact h5⟩

end Go.Proofs.Ytokfnajgjhkepaa.Kit

/-
  Plain mathematics of package pos: valid extents; lines and columns of a list of bytes. No program is named.
-/
namespace Go.Proofs.Ytokfnajgjhkepaa.PosM

def fitsB (x : Int) : Bool := decide (0 ≤ x) && decide (x ≤ 1099511627776)
def mayB (b l c : Int) : Bool := fitsB b && fitsB l && fitsB c && (if l = 0 then c == b else decide (l + c ≤ b))

theorem fitsB_iff (x : Int) : fitsB x = true ↔ 0 ≤ x ∧ x ≤ 1099511627776 := by simp [fitsB]

/-- how many line feeds -/
def lns (l : List UInt8) : Nat := l.count 10
/-- how many bytes behind the last line feed -/
def col (l : List UInt8) : Nat := (l.reverse.takeWhile (· != 10)).length

theorem lns_nil : lns [] = 0 := rfl
theorem col_nil : col [] = 0 := rfl
theorem lns_append (a b : List UInt8) : lns (a ++ b) = lns a + lns b := by simp [lns]
theorem lns_snoc (l : List UInt8) (c : UInt8) : lns (l ++ [c]) = lns l + if c = 10 then 1 else 0 := by
  rw [lns_append]; simp only [lns, List.count_singleton]; simp
theorem col_snoc (l : List UInt8) (c : UInt8) : col (l ++ [c]) = if c = 10 then 0 else col l + 1 := by
  unfold col
  rw [List.reverse_append]
  by_cases h : c = 10 <;> simp [h]
theorem snocInd {p : List UInt8 → Prop} (h0 : p []) (h1 : ∀ l c, p l → p (l ++ [c])) (l : List UInt8) : p l := by
  have : ∀ r : List UInt8, p r.reverse := by
    intro r
    induction r with
    | nil => exact h0
    | cons c r ih => rw [List.reverse_cons]; exact h1 _ _ ih
  have h := this l.reverse
  rwa [List.reverse_reverse] at h
theorem col_append (a b : List UInt8) : col (a ++ b) = if lns b = 0 then col a + b.length else col b := by
  revert b
  refine snocInd ?_ ?_
  · simp [lns]
  · intro l c ih
    rw [← List.append_assoc, col_snoc, ih, lns_snoc, col_snoc]
    by_cases h : c = 10
    · simp [h]
    · simp only [h, if_false, Nat.add_zero, List.length_append, List.length_singleton]
      split <;> omega
theorem lns_col_le (l : List UInt8) : lns l + col l ≤ l.length := by
  revert l
  refine snocInd ?_ ?_
  · simp [lns, col]
  · intro l c ih
    rw [lns_snoc, col_snoc, List.length_append, List.length_singleton]
    by_cases h : c = 10
    · simp only [h, if_true]; omega
    · simp only [h, if_false]; omega
theorem col_of_lns_zero {l : List UInt8} (h : lns l = 0) : col l = l.length := by
  have := col_append [] l
  rw [if_pos h, col_nil] at this
  simpa using this

theorem mayB_of (l : List UInt8) (h : l.length ≤ 1099511627776) : mayB l.length (lns l) (col l) = true := by
  have h1 := lns_col_le l
  have h2 : lns l = 0 → col l = l.length := col_of_lns_zero
  simp only [mayB, Bool.and_eq_true, fitsB_iff]
  refine ⟨⟨⟨?_, ?_⟩, ?_⟩, ?_⟩
  · omega
  · omega
  · omega
  · by_cases h0 : lns l = 0
    · simp [h0, h2 h0]
    · rw [if_neg (by omega)]; simp; omega

/-! ### counting from the end -/
theorem tw_step (p : UInt8 → Bool) : ∀ (r : List UInt8) (k : Nat) (hk : k < r.length), k ≤ (r.takeWhile p).length →
    (p r[k] = true → k + 1 ≤ (r.takeWhile p).length) ∧ (p r[k] = false → (r.takeWhile p).length = k)
  | c :: r, 0, _, _ => by
    constructor
    · intro h; simp at h; simp [h]
    · intro h; simp at h; simp [h]
  | c :: r, k + 1, hk, hle => by
    have hc : p c = true := by
      cases h : p c
      · simp [h] at hle
      · rfl
    have e : ((c :: r).takeWhile p).length = (r.takeWhile p).length + 1 := by simp [hc]
    rw [e] at hle ⊢
    have := tw_step p r k (by simpa using hk) (by omega)
    simp only [List.getElem_cons_succ]
    exact ⟨fun h => by have := this.1 h; omega, fun h => by have := this.2 h; omega⟩
theorem col_step (l : List UInt8) (k : Nat) (hk : k < l.length) (hle : k ≤ col l) :
    (l[l.length - 1 - k]'(by omega) ≠ 10 → k + 1 ≤ col l) ∧ (l[l.length - 1 - k]'(by omega) = 10 → col l = k) := by
  have := tw_step (· != 10) l.reverse k (by simpa using hk) hle
  rw [List.getElem_reverse] at this
  exact ⟨fun h => this.1 (by simpa using h), fun h => this.2 (by simpa using h)⟩
theorem col_len (l : List UInt8) : col l ≤ l.length := by have := lns_col_le l; omega

/-! ### places and their lines and columns -/
theorem take_split (l : List UInt8) {i k : Nat} (h : i ≤ k) : l.take k = l.take i ++ (l.drop i).take (k - i) := by
  rw [← List.take_add, Nat.add_sub_cancel' h]
theorem pos_lt (l : List UInt8) {i k : Nat} (h : i < k) (hk : k ≤ l.length) :
    lns (l.take i) < lns (l.take k) ∨ lns (l.take i) = lns (l.take k) ∧ col (l.take i) < col (l.take k) := by
  rw [take_split l (Nat.le_of_lt h), lns_append, col_append]
  by_cases h0 : lns ((l.drop i).take (k - i)) = 0
  · right
    rw [if_pos h0, h0]
    refine ⟨by omega, ?_⟩
    rw [List.length_take, List.length_drop]
    omega
  · left; omega
theorem pos_inj (l : List UInt8) {i k : Nat} (hi : i ≤ l.length) (hk : k ≤ l.length) (h1 : lns (l.take i) = lns (l.take k)) (h2 : col (l.take i) = col (l.take k)) : i = k := by
  rcases Nat.lt_trichotomy i k with h | h | h
  · have := pos_lt l h hk; omega
  · exact h
  · have := pos_lt l h hi; omega

/-- the length of the first line -/
def first (l : List UInt8) : Nat := (l.takeWhile (· != 10)).length
theorem first_le (l : List UInt8) : first l ≤ l.length := by
  unfold first; exact (List.takeWhile_sublist _).length_le
theorem first_clean (l : List UInt8) {c : Nat} (h : c ≤ first l) : lns (l.take c) = 0 := by
  unfold lns
  rw [List.count_eq_zero]
  intro hm
  have : (10 : UInt8) ∈ l.takeWhile (· != 10) := by
    have e : l.take c = (l.takeWhile (· != 10)).take c := by
      conv => lhs; rw [← List.takeWhile_append_dropWhile (p := (· != 10)) (l := l)]
      rw [List.take_append_of_le_length h]
    rw [e] at hm
    exact List.mem_of_mem_take hm
  have := List.all_takeWhile (p := (· != 10)) (l := l)
  rw [List.all_eq_true] at this
  have := this 10 (by assumption)
  simp at this
theorem first_feed (l : List UInt8) (h : first l < l.length) : l[first l] = 10 := by
  have := tw_step (· != 10) l (first l) h (Nat.le_refl _)
  by_cases e : l[first l] = 10
  · exact e
  · have := this.1 (by simpa using e)
    unfold first at this; omega

/-- the only place of a line and a column, from the line's start -/
theorem place_iff (l : List UInt8) {st line c at' : Nat} (hst : st ≤ l.length) (h1 : lns (l.take st) = line) (h2 : col (l.take st) = 0) (hat : at' ≤ l.length) :
    (lns (l.take at') = line ∧ col (l.take at') = c) ↔ (at' = st + c ∧ c ≤ first (l.drop st)) := by
  have hf := first_le (l.drop st)
  rw [List.length_drop] at hf
  have key : ∀ c, c ≤ first (l.drop st) → lns (l.take (st + c)) = line ∧ col (l.take (st + c)) = c := by
    intro c hc
    have h0 := first_clean (l.drop st) hc
    rw [take_split l (Nat.le_add_right st c), Nat.add_sub_cancel_left, lns_append, col_append, h0, if_pos rfl, h1, h2, List.length_take, List.length_drop]
    omega
  constructor
  · rintro ⟨g1, g2⟩
    by_cases hc : c ≤ first (l.drop st)
    · exact ⟨pos_inj l hat (by omega) (g1.trans (key c hc).1.symm) (g2.trans (key c hc).2.symm), hc⟩
    · exfalso
      have k1 := key (first (l.drop st)) (Nat.le_refl _)
      have hlt : st + first (l.drop st) < at' := by
        rcases Nat.lt_trichotomy (st + first (l.drop st)) at' with h | h | h
        · exact h
        · rw [← h] at g2; omega
        · have := pos_lt l h (by omega); omega
      have hfe := first_feed (l.drop st) (by rw [List.length_drop]; omega)
      rw [List.getElem_drop] at hfe
      have e : l.take (st + first (l.drop st) + 1) = l.take (st + first (l.drop st)) ++ [10] := by
        rw [List.take_succ_eq_append_getElem (by omega), hfe]
      have e2 : lns (l.take (st + first (l.drop st) + 1)) = line + 1 := by rw [e, lns_snoc, k1.1]; simp
      rw [take_split l (show st + first (l.drop st) + 1 ≤ at' by omega), lns_append] at g1
      omega
  · rintro ⟨rfl, hc⟩
    exact key c hc

/-- one line on: behind the next feed -/
theorem next_line (l : List UInt8) {st : Nat} (h2 : col (l.take st) = 0) (hlt : st + first (l.drop st) < l.length) :
    lns (l.take (st + first (l.drop st) + 1)) = lns (l.take st) + 1 ∧ col (l.take (st + first (l.drop st) + 1)) = 0 := by
  have k1 := (place_iff l (c := first (l.drop st)) (at' := st + first (l.drop st)) (by omega) rfl h2 (by omega)).2 ⟨rfl, Nat.le_refl _⟩
  have hfe := first_feed (l.drop st) (by rw [List.length_drop]; omega)
  rw [List.getElem_drop] at hfe
  have e : l.take (st + first (l.drop st) + 1) = l.take (st + first (l.drop st)) ++ [10] := by
    rw [List.take_succ_eq_append_getElem (by omega), hfe]
  rw [e, lns_snoc, col_snoc, k1.1]
  simp
/-- no line more: no feed is left -/
theorem last_line (l : List UInt8) {st : Nat} (hst : st ≤ l.length) (h : st + first (l.drop st) = l.length) : lns l = lns (l.take st) := by
  have h0 := first_clean (l.drop st) (c := l.length - st) (by omega)
  have := take_split l hst
  rw [List.take_length] at this
  conv => lhs; rw [this]
  rw [lns_append, h0]; rfl

end Go.Proofs.Ytokfnajgjhkepaa.PosM

/-
  Plain mathematics: the lines of a list of bytes. No program is named.
-/
namespace Go.Proofs.Ytokfnajgjhkepaa.LinesM
open PosM

def put (c : UInt8) : List (List UInt8) → List (List UInt8)
  | [] => [[c]]
  | x :: r => (c :: x) :: r
/-- the lines of a text, without their line feeds: never none -/
def cut : List UInt8 → List (List UInt8)
  | [] => [[]]
  | c :: l => if c = 10 then [] :: cut l else put c (cut l)

theorem put_ne (c : UInt8) (r : List (List UInt8)) : put c r ≠ [] := by cases r <;> simp [put]
theorem cut_ne : ∀ l : List UInt8, cut l ≠ []
  | [] => by simp [cut]
  | c :: l => by
    unfold cut
    split
    · simp
    · exact put_ne _ _
theorem put_append (c : UInt8) {r : List (List UInt8)} (h : r ≠ []) (q : List (List UInt8)) : put c (r ++ q) = put c r ++ q := by
  cases r with
  | nil => exact absurd rfl h
  | cons x r => rfl
theorem cut_mid (a b : List UInt8) : cut (a ++ 10 :: b) = cut a ++ cut b := by
  induction a with
  | nil => simp [cut]
  | cons c a ih =>
    simp only [List.cons_append, cut]
    split
    · rw [ih]; rfl
    · rw [ih, put_append c (cut_ne a)]
theorem cut_clean {l : List UInt8} (h : lns l = 0) : cut l = [l] := by
  induction l with
  | nil => rfl
  | cons c l ih =>
    have h1 : c ≠ 10 := by
      intro e
      simp [lns, e] at h
    have h2 : lns l = 0 := by
      simp only [lns, List.count_cons] at h ⊢
      omega
    simp [cut, h1, ih h2, put]
theorem put_length (c : UInt8) {r : List (List UInt8)} (h : r ≠ []) : (put c r).length = r.length := by
  cases r with
  | nil => exact absurd rfl h
  | cons x r => rfl
theorem cut_length (l : List UInt8) : (cut l).length = lns l + 1 := by
  induction l with
  | nil => rfl
  | cons c l ih =>
    unfold cut
    split
    · rename_i h; simp [lns, h] at ih ⊢; omega
    · rename_i h
      rw [put_length c (cut_ne l), ih]
      have : (c == 10) = false := by simpa using h
      simp [lns, List.count_cons, this]
theorem cut_snoc_feed (l : List UInt8) : cut (l ++ [10]) = cut l ++ [[]] := cut_mid l []
theorem put_last (c : UInt8) {r : List (List UInt8)} {i : List (List UInt8)} {z : List UInt8} (h : r = i ++ [z]) : ∃ i' z', put c r = i' ++ [z'] ∧ ∀ d, put c (i ++ [z ++ d]) = i' ++ [z' ++ d] := by
  subst h
  cases i with
  | nil => exact ⟨[], c :: z, rfl, fun d => rfl⟩
  | cons x i => exact ⟨(c :: x) :: i, z, rfl, fun d => rfl⟩
/-- one more byte that is no line feed belongs to the last line -/
theorem cut_snoc_other (l : List UInt8) : ∃ i z, cut l = i ++ [z] ∧ ∀ c, c ≠ 10 → cut (l ++ [c]) = i ++ [z ++ [c]] := by
  induction l with
  | nil => exact ⟨[], [], rfl, fun c hc => by simp [cut, hc, put]⟩
  | cons d l ih =>
    obtain ⟨i, z, h1, h2⟩ := ih
    by_cases hd : d = 10
    · exact ⟨[] :: i, z, by simp [cut, hd, h1], fun c hc => by simp [cut, hd, h2 c hc]⟩
    · obtain ⟨i', z', h3, h4⟩ := put_last d h1
      exact ⟨i', z', by simp [cut, hd, h3], fun c hc => by simp [cut, hd, h2 c hc, h4]⟩

theorem cut_first {l : List UInt8} (h : first l < l.length) : cut l = l.take (first l) :: cut (l.drop (first l + 1)) := by
  have hf := first_feed l h
  have e : l = l.take (first l) ++ 10 :: l.drop (first l + 1) := by
    conv => lhs; rw [← List.take_append_drop (first l) l]
    rw [List.drop_eq_getElem_cons h, hf]
  conv => lhs; rw [e]
  rw [cut_mid, cut_clean (first_clean l (Nat.le_refl _))]
  rfl
theorem cut_only {l : List UInt8} (h : ¬ first l < l.length) : cut l = [l] := by
  apply cut_clean
  have := first_clean l (c := l.length) (by have := first_le l; omega)
  rwa [List.take_length] at this
theorem put_small (c : UInt8) {r : List (List UInt8)} {n : Nat} (h : ∀ x ∈ r, x.length ≤ n) : ∀ x ∈ put c r, x.length ≤ n + 1 := by
  cases r with
  | nil => simp [put]
  | cons y r =>
    intro x hx
    simp only [put, List.mem_cons] at hx
    rcases hx with rfl | hx
    · have := h y (by simp); simp; omega
    · have := h x (by simp [hx]); omega
theorem cut_small (l : List UInt8) : ∀ x ∈ cut l, x.length ≤ l.length := by
  induction l with
  | nil => simp [cut]
  | cons c l ih =>
    unfold cut
    split
    · intro x hx
      rcases List.mem_cons.1 hx with rfl | hx
      · simp
      · have := ih x hx; simp; omega
    · exact put_small c ih

end Go.Proofs.Ytokfnajgjhkepaa.LinesM

/-
  Package edit on plain data: what is refused of an edit, what an edit makes of a text, where an offset goes, what edits undo. No program is named.
-/
namespace Go.Proofs.Ytokfnajgjhkepaa.EditM
open Go.RowKit Kit

abbrev Bs := List UInt8
/-- a string of these bytes -/
def str (l : Bs) : ByteArray := ⟨l.toArray⟩
theorem str_list (s : ByteArray) : str s.data.toList = s := by cases s; simp [str]
theorem list_str (l : Bs) : (str l).data.toList = l := by simp [str]
theorem size_str (l : Bs) : (str l).size = l.length := by simp [str, ByteArray.size]
theorem size_list (s : ByteArray) : s.data.toList.length = s.size := by simp
theorem str_append (a b : Bs) : str a ++ str b = str (a ++ b) := by apply ByteArray.ext; simp [str]
theorem str_inj {a b : Bs} (h : str a = str b) : a = b := by rw [← list_str a, h, list_str]

theorem ret_str {a b : ByteArray} (h : a = b) : Ending.returned (.string a) = .returned (.string b) := by rw [h]
theorem ret_int {k : IntKind} {a b : Int} (h : a = b) : Ending.returned (.int k a) = .returned (.int k b) := by rw [h]
theorem ret_bool {a b : Bool} (h : a = b) : Ending.returned (.bool a) = .returned (.bool b) := by rw [h]
theorem ret_two {a b c : Int} (h : a = b) : Ending.returned (.tuple #[.int .i64 a, .int .i64 c]) = .returned (.tuple #[.int .i64 b, .int .i64 c]) := by rw [h]
theorem ret_strint {a b : ByteArray} {c d : Int} (h : a = b) (h2 : c = d) : Ending.returned (.tuple #[.string a, .int .i64 c]) = .returned (.tuple #[.string b, .int .i64 d]) := by rw [h, h2]

theorem bdrew {w W1 : World} (h : Below w.heap.size w W1) : Below w.heap.size w W1.drew := h.trans ⟨rfl, rfl, rfl, Nat.le_refl _, fun _ _ => rfl⟩

structure EdM where
  at_ : Int
  cut : Int
  put : ByteArray
def EdM.cells (e : EdM) : Array Value := #[.int .i64 e.at_, .int .i64 e.cut, .string e.put]
def EdM.val (e : EdM) : Value := .agg e.cells
/-- its numbers are numbers of the machine, its text is not beyond all memory -/
structure EdM.ok (e : EdM) : Prop where
  a0 : -9223372036854775808 ≤ e.at_
  a1 : e.at_ ≤ 9223372036854775807
  c0 : -9223372036854775808 ≤ e.cut
  c1 : e.cut ≤ 9223372036854775807
  p : e.put.size ≤ 140737488351232

/-- what is refused of an edit -/
def fault (size a c : Int) (p : Nat) : Int :=
  if size < 0 ∨ 600 < size ∨ a < 0 ∨ c < 0 ∨ size - a < c then 2
  else if 600 < size - c + p then 1
  else 0
theorem fault_range {size a c : Int} {p : Nat} (h : size < 0 ∨ 600 < size ∨ a < 0 ∨ c < 0 ∨ size - a < c) : fault size a c p = 2 := if_pos h
theorem fault_size {size a c : Int} {p : Nat} (h : ¬ (size < 0 ∨ 600 < size ∨ a < 0 ∨ c < 0 ∨ size - a < c)) (h2 : 600 < size - c + p) : fault size a c p = 1 := by
  unfold fault; rw [if_neg h, if_pos h2]
theorem fault_ok {size a c : Int} {p : Nat} (h : ¬ (size < 0 ∨ 600 < size ∨ a < 0 ∨ c < 0 ∨ size - a < c)) (h2 : ¬ 600 < size - c + p) : fault size a c p = 0 := by
  unfold fault; rw [if_neg h, if_neg h2]
theorem fault_zero {size a c : Int} {p : Nat} : fault size a c p = 0 ↔ 0 ≤ size ∧ size ≤ 600 ∧ 0 ≤ a ∧ 0 ≤ c ∧ c ≤ size - a ∧ size - c + p ≤ 600 := by
  constructor
  · intro h
    unfold fault at h
    split at h
    · omega
    · split at h
      · omega
      · omega
  · intro h
    exact fault_ok (by omega) (by omega)
theorem fault_cases (size a c : Int) (p : Nat) : fault size a c p = 0 ∨ fault size a c p = 1 ∨ fault size a c p = 2 := by
  unfold fault; split
  · simp
  · split <;> simp

/-- what an edit makes of a text -/
def made (t : Bs) (a c : Nat) (p : Bs) : Bs := t.take a ++ p ++ t.drop (a + c)
theorem made_length {t : Bs} {a c : Nat} {p : Bs} (h : a + c ≤ t.length) : (made t a c p).length = t.length - c + p.length := by
  simp [made]; omega
def EdM.step (e : EdM) (t : Bs) : Bs := made t e.at_.toNat e.cut.toNat e.put.data.toList
def EdM.fault (e : EdM) (t : Bs) : Int := EditM.fault t.length e.at_ e.cut e.put.size
/-- a valid edit -/
structure EdM.fits (e : EdM) (t : Bs) : Prop where
  a0 : 0 ≤ e.at_
  c0 : 0 ≤ e.cut
  le : e.cut ≤ (t.length : Int) - e.at_
  lt : (t.length : Int) - e.cut + e.put.size ≤ 600
  t6 : t.length ≤ 600
theorem EdM.fits_of {e : EdM} {t : Bs} (h : e.fault t = 0) : e.fits t := by
  obtain ⟨h1, h2, h3, h4, h5, h6⟩ := fault_zero.1 h
  exact ⟨h3, h4, h5, h6, by omega⟩
theorem EdM.fits.fault {e : EdM} {t : Bs} (h : e.fits t) : e.fault t = 0 := by
  obtain ⟨h1, h2, h3, h4, h5⟩ := h
  exact fault_zero.2 ⟨by omega, by omega, h1, h2, h3, h4⟩
theorem EdM.fits.nat {e : EdM} {t : Bs} (h : e.fits t) : e.at_.toNat + e.cut.toNat ≤ t.length := by obtain ⟨h1, h2, h3, h4, h5⟩ := h; omega
theorem EdM.fits.len {e : EdM} {t : Bs} (h : e.fits t) : (e.step t).length = t.length - e.cut.toNat + e.put.size := by
  have := h.nat
  unfold EdM.step
  rw [made_length this, size_list]
theorem EdM.fits.len6 {e : EdM} {t : Bs} (h : e.fits t) : (e.step t).length ≤ 600 := by
  rw [h.len]; obtain ⟨h1, h2, h3, h4, h5⟩ := h; omega

/-- the text behind some edits, whether they are valid or not -/
def apT : List EdM → Bs → Bs
  | [], t => t
  | e :: l, t => apT l (e.step t)
/-- the first error -/
def apC : List EdM → Bs → Int
  | [], _ => 0
  | e :: l, t => if e.fault t = 0 then apC l (e.step t) else e.fault t
theorem apT_append (l m : List EdM) (t : Bs) : apT (l ++ m) t = apT m (apT l t) := by
  induction l generalizing t with
  | nil => rfl
  | cons e l ih => simp [apT, ih]
theorem apC_append (l m : List EdM) (t : Bs) (h : apC l t = 0) : apC (l ++ m) t = apC m (apT l t) := by
  induction l generalizing t with
  | nil => rfl
  | cons e l ih =>
    by_cases h0 : e.fault t = 0
    · simp only [apC, if_pos h0, List.cons_append, apT] at h ⊢; exact ih _ h
    · simp only [apC, if_neg h0] at h; exact absurd h h0
theorem apC_head (l m : List EdM) (t : Bs) (h : apC (l ++ m) t = 0) : apC l t = 0 := by
  induction l generalizing t with
  | nil => rfl
  | cons e l ih =>
    by_cases h0 : e.fault t = 0
    · simp only [apC, if_pos h0, List.cons_append] at h ⊢; exact ih _ h
    · simp only [apC, if_neg h0, List.cons_append] at h; exact absurd h h0
theorem apC_tail (l m : List EdM) (t : Bs) (h : apC (l ++ m) t = 0) : apC m (apT l t) = 0 := by rw [← apC_append l m t (apC_head l m t h)]; exact h
theorem apT_len {l : List EdM} {t : Bs} (h : apC l t = 0) (ht : t.length ≤ 600) : (apT l t).length ≤ 600 := by
  induction l generalizing t with
  | nil => exact ht
  | cons e l ih =>
    by_cases h0 : e.fault t = 0
    · simp only [apC, if_pos h0] at h; exact ih h (EdM.fits_of h0).len6
    · simp only [apC, if_neg h0] at h; exact absurd h h0
theorem take_next {α : Type} {l : List α} {i : Nat} {e : α} (h : l[i]? = some e) : l.take (i + 1) = l.take i ++ [e] := by
  have hlt := (List.getElem?_eq_some_iff.1 h).1
  rw [List.take_succ_eq_append_getElem hlt, (List.getElem?_eq_some_iff.1 h).2]
theorem drop_next {α : Type} {l : List α} {i : Nat} {e : α} (h : l[i]? = some e) : l.drop i = e :: l.drop (i + 1) := by
  have hlt := (List.getElem?_eq_some_iff.1 h).1
  rw [List.drop_eq_getElem_cons hlt, (List.getElem?_eq_some_iff.1 h).2]
/-- the code is told by the first edit that is not valid -/
theorem apC_at {l : List EdM} {i : Nat} {e : EdM} {t : Bs} (h : l[i]? = some e) (h0 : apC (l.take i) t = 0) (hf : e.fault (apT (l.take i) t) ≠ 0) : apC l t = e.fault (apT (l.take i) t) := by
  conv => lhs; rw [← List.take_append_drop i l]
  rw [apC_append _ _ _ h0, drop_next h]
  simp only [apC, if_neg hf]
theorem apC_next {l : List EdM} {i : Nat} {e : EdM} {t : Bs} (h : l[i]? = some e) (h0 : apC (l.take i) t = 0) (hf : e.fault (apT (l.take i) t) = 0) : apC (l.take (i + 1)) t = 0 := by
  rw [take_next h, apC_append _ _ _ h0]
  simp only [apC, if_pos hf]
theorem apT_next {l : List EdM} {i : Nat} {e : EdM} {t : Bs} (h : l[i]? = some e) : apT (l.take (i + 1)) t = e.step (apT (l.take i) t) := by
  rw [take_next h, apT_append]; rfl

/-- the edit that undoes an edit of a text -/
def EdM.inv (e : EdM) (t : Bs) : EdM := ⟨e.at_, (e.put.size : Int), str ((t.drop e.at_.toNat).take e.cut.toNat)⟩
/-- those that undo some edits, the first one first -/
def invs : List EdM → Bs → List EdM
  | [], _ => []
  | e :: l, t => e.inv t :: invs l (e.step t)
theorem invs_length (l : List EdM) (t : Bs) : (invs l t).length = l.length := by
  induction l generalizing t with
  | nil => rfl
  | cons e l ih => simp [invs, ih]
theorem invs_append (l m : List EdM) (t : Bs) : invs (l ++ m) t = invs l t ++ invs m (apT l t) := by
  induction l generalizing t with
  | nil => rfl
  | cons e l ih => simp [invs, apT, ih]
theorem invs_get {l : List EdM} {i : Nat} {e : EdM} {t : Bs} (h : l[i]? = some e) : (invs l t)[i]? = some (e.inv (apT (l.take i) t)) := by
  induction l generalizing t i with
  | nil => simp at h
  | cons x l ih =>
    cases i with
    | zero => simp at h; subst h; rfl
    | succ i => simp at h; simpa [invs, apT] using ih (t := x.step t) h

/-- where an offset is behind an edit -/
def placed (a c : Int) (p : Nat) (x : Int) (right : Bool) : Int :=
  if x < a then x
  else if x < a + c ∨ (c = 0 ∧ x = a) then (if right then a + p else a)
  else x + p - c
/-- two edits conflict -/
def clash (a b : EdM) : Bool :=
  decide (max a.at_ b.at_ < min (a.at_ + a.cut) (b.at_ + b.cut)) ||
  (decide (0 < a.put.size) && decide (b.at_ < a.at_) && decide (a.at_ < b.at_ + b.cut)) ||
  (decide (0 < b.put.size) && decide (a.at_ < b.at_) && decide (b.at_ < a.at_ + a.cut))

end Go.Proofs.Ytokfnajgjhkepaa.EditM

/-
  Starts of lines, on plain lists of bytes and of integers. No program is named.
-/
namespace Go.Proofs.Ytokfnajgjhkepaa.LineM
open PosM EditM LinesM

/-- the offsets behind the feeds of a text that lies at n -/
def fts : Int → Bs → List Int
  | _, [] => []
  | n, c :: l => if c = 10 then (n + 1) :: fts (n + 1) l else fts (n + 1) l
/-- the starts of a text's lines -/
def sts (l : Bs) : List Int := 0 :: fts 0 l
theorem fts_app (a b : Bs) : ∀ n, fts n (a ++ b) = fts n a ++ fts (n + a.length) b := by
  induction a with
  | nil => intro n; simp [fts]
  | cons c a ih =>
    intro n
    simp only [List.cons_append, fts, ih, List.length_cons]
    have e : n + 1 + (a.length : Int) = n + ((a.length + 1 : Nat) : Int) := by omega
    rw [e]
    split <;> simp
theorem fts_feed (n : Int) (l : Bs) : fts n (l ++ [10]) = fts n l ++ [n + l.length + 1] := by rw [fts_app]; simp [fts]
theorem fts_other (n : Int) (l : Bs) {c : UInt8} (h : c ≠ 10) : fts n (l ++ [c]) = fts n l := by rw [fts_app]; simp [fts, h]
theorem fts_shift (l : Bs) : ∀ n k : Int, fts (n + k) l = (fts n l).map (· + k) := by
  induction l with
  | nil => intro n k; rfl
  | cons c l ih =>
    intro n k
    simp only [fts]
    have e : n + k + 1 = n + 1 + k := by omega
    rw [e, ih]
    split <;> simp
theorem fts_len (l : Bs) : ∀ n, (fts n l).length = lns l := by
  induction l with
  | nil => intro n; rfl
  | cons c l ih =>
    intro n
    simp only [fts]
    split
    · rename_i h; subst h; simp [ih, lns]
    · rename_i h
      rw [ih]
      have : (c == 10) = false := by simpa using h
      simp [lns, List.count_cons, this]
theorem sts_len (l : Bs) : (sts l).length = lns l + 1 := by simp [sts, fts_len]
theorem mem_fts (l : Bs) : ∀ n x, x ∈ fts n l ↔ ∃ i : Nat, l[i]? = some 10 ∧ x = n + i + 1 := by
  induction l with
  | nil => intro n x; simp [fts]
  | cons c l ih =>
    intro n x
    have tail : (∃ i : Nat, l[i]? = some 10 ∧ x = n + 1 + i + 1) ↔ ∃ i : Nat, i ≠ 0 ∧ (c :: l)[i]? = some 10 ∧ x = n + i + 1 := by
      constructor
      · rintro ⟨i, h1, h2⟩; exact ⟨i + 1, by omega, by simpa using h1, by omega⟩
      · rintro ⟨i, h0, h1, h2⟩
        obtain ⟨j, rfl⟩ : ∃ j, i = j + 1 := ⟨i - 1, by omega⟩
        exact ⟨j, by simpa using h1, by omega⟩
    simp only [fts]
    split
    · rename_i h; subst h
      rw [List.mem_cons, ih, tail]
      constructor
      · rintro (h | ⟨i, _, h1, h2⟩)
        · exact ⟨0, by simp, by omega⟩
        · exact ⟨i, h1, h2⟩
      · rintro ⟨i, h1, h2⟩
        by_cases h0 : i = 0
        · left; subst h0; omega
        · exact .inr ⟨i, h0, h1, h2⟩
    · rename_i h
      rw [ih, tail]
      constructor
      · rintro ⟨i, _, h1, h2⟩; exact ⟨i, h1, h2⟩
      · rintro ⟨i, h1, h2⟩
        refine ⟨i, fun h0 => ?_, h1, h2⟩
        subst h0; simp at h1; exact h h1
theorem fts_rng {l : Bs} {n x : Int} (h : x ∈ fts n l) : n < x ∧ x ≤ n + l.length := by
  obtain ⟨i, h1, h2⟩ := (mem_fts l n x).1 h
  have := (List.getElem?_eq_some_iff.1 h1).1
  omega
theorem fts_sorted (l : Bs) : ∀ n, (fts n l).Pairwise (· < ·) := by
  induction l with
  | nil => intro n; simp [fts]
  | cons c l ih =>
    intro n
    simp only [fts]
    split
    · exact List.pairwise_cons.2 ⟨fun x hx => (fts_rng hx).1, ih _⟩
    · exact ih _
theorem sts_sorted (l : Bs) : (sts l).Pairwise (· < ·) := List.pairwise_cons.2 ⟨fun _ hx => (fts_rng hx).1, fts_sorted l 0⟩
theorem sts_rng {l : Bs} {x : Int} (h : x ∈ sts l) : 0 ≤ x ∧ x ≤ l.length := by
  rcases List.mem_cons.1 h with rfl | h
  · omega
  · have := fts_rng h; omega

/-- two increasing lists of the same numbers -/
theorem sorted_one : ∀ {a b : List Int}, a.Pairwise (· < ·) → b.Pairwise (· < ·) → (∀ x, x ∈ a ↔ x ∈ b) → a = b
  | [], [], _, _, _ => rfl
  | [], y :: _, _, _, h => absurd ((h y).2 (by simp)) (by simp)
  | x :: _, [], _, _, h => absurd ((h x).1 (by simp)) (by simp)
  | x :: a, y :: b, ha, hb, h => by
    obtain ⟨ha1, ha2⟩ := List.pairwise_cons.1 ha
    obtain ⟨hb1, hb2⟩ := List.pairwise_cons.1 hb
    have exy : x = y := by
      rcases List.mem_cons.1 ((h x).1 (by simp)) with e | e
      · exact e
      · rcases List.mem_cons.1 ((h y).2 (by simp)) with e2 | e2
        · exact e2.symm
        · have := hb1 x e; have := ha1 y e2; omega
    subst exy
    rw [sorted_one ha2 hb2 fun z => ?_]
    constructor
    · intro hz
      rcases List.mem_cons.1 ((h z).1 (by simp [hz])) with e | e
      · have := ha1 z hz; omega
      · exact e
    · intro hz
      rcases List.mem_cons.1 ((h z).2 (by simp [hz])) with e | e
      · have := hb1 z hz; omega
      · exact e

/-- a list of starts that is valid for a size -/
structure Vld (size : Int) (zs : List Int) : Prop where
  head : zs[0]? = some 0
  inc : zs.Pairwise (· < ·)
  le : ∀ x ∈ zs, x ≤ size ∧ x ≤ 600
theorem Vld.ne {size : Int} {zs : List Int} (h : Vld size zs) : 0 < zs.length := (List.getElem?_eq_some_iff.1 h.head).1
theorem Vld.size0 {size : Int} {zs : List Int} (h : Vld size zs) : 0 ≤ size := (h.le 0 (List.mem_of_getElem? h.head)).1
theorem Vld.split {size : Int} {zs : List Int} (h : Vld size zs) : ∃ r, zs = 0 :: r ∧ r.Pairwise (· < ·) ∧ ∀ x ∈ r, 0 < x ∧ x ≤ size ∧ x ≤ 600 := by
  cases zs with
  | nil => have := h.head; simp at this
  | cons z r =>
    have := h.head
    simp at this; subst this
    obtain ⟨h1, h2⟩ := List.pairwise_cons.1 h.inc
    exact ⟨r, rfl, h2, fun x hx => ⟨h1 x hx, h.le x (by simp [hx])⟩⟩
theorem Vld.len {size : Int} {zs : List Int} (h : Vld size zs) : zs.length ≤ 601 := by
  obtain ⟨r, rfl, h1, h2⟩ := h.split
  have key : ∀ (r : List Int) (lo : Int), r.Pairwise (· < ·) → (∀ x ∈ r, lo < x ∧ x ≤ 600) → lo ≤ 600 → (r.length : Int) ≤ 600 - lo := by
    intro r
    induction r with
    | nil => intro lo _ _ h; simp; omega
    | cons x r ih =>
      intro lo hp hb _
      obtain ⟨hp1, hp2⟩ := List.pairwise_cons.1 hp
      have hx := hb x (by simp)
      have := ih x hp2 (fun y hy => ⟨hp1 y hy, (hb y (by simp [hy])).2⟩) hx.2
      simp only [List.length_cons]; omega
  have := key r 0 h1 (fun x hx => ⟨(h2 x hx).1, (h2 x hx).2.2⟩) (by omega)
  simp only [List.length_cons]; omega
theorem sts_good {t : Bs} {n : Int} (h : (t.length : Int) ≤ n) (h6 : t.length ≤ 600) : Vld n (sts t) := ⟨rfl, sts_sorted t, fun x hx => by have := sts_rng hx; omega⟩
/-- a text with just these lines -/
def txt (zs : List Int) (n : Nat) : Bs := (List.range n).map fun (i : Nat) => if ((i : Int) + 1) ∈ zs then 10 else 120
theorem txt_len (zs : List Int) (n : Nat) : (txt zs n).length = n := by simp [txt]
theorem txt_get (zs : List Int) {n i : Nat} (h : i < n) : (txt zs n)[i]? = some (if ((i : Int) + 1) ∈ zs then 10 else 120) := by
  unfold txt; rw [List.getElem?_map, List.getElem?_range h]; rfl
theorem txt_succ (zs : List Int) (n : Nat) : txt zs (n + 1) = txt zs n ++ [if ((n : Int) + 1) ∈ zs then 10 else 120] := by
  unfold txt; rw [List.range_succ, List.map_append]; rfl
theorem sts_txt {size : Int} {zs : List Int} (h : Vld size zs) {n : Nat} (hn : size ≤ n) : sts (txt zs n) = zs := by
  obtain ⟨r, rfl, h1, h2⟩ := h.split
  unfold sts
  congr 1
  refine sorted_one (fts_sorted _ _) h1 fun x => ?_
  rw [mem_fts]
  constructor
  · rintro ⟨i, h3, rfl⟩
    have hi := (List.getElem?_eq_some_iff.1 h3).1
    rw [txt_len] at hi
    rw [txt_get _ hi] at h3
    split at h3
    · rename_i h4
      rcases List.mem_cons.1 h4 with h4 | h4
      · omega
      · rw [show (0 : Int) + (i : Int) + 1 = (i : Int) + 1 by omega]; exact h4
    · simp at h3
  · intro hx
    obtain ⟨x0, x1, x2⟩ := h2 x hx
    have e : ((x.toNat - 1 : Nat) : Int) + 1 = x := by omega
    refine ⟨x.toNat - 1, ?_, by omega⟩
    rw [txt_get _ (by omega), e, if_pos (by simp [hx])]

/-- where the numbers above a bound begin -/
theorem cut_at {A B : List Int} {a : Int} (hA : ∀ x ∈ A, x ≤ a) (hB : ∀ x ∈ B, a < x) {i : Nat} (hi : i ≤ (A ++ B).length) (h1 : ∀ j x, j < i → (A ++ B)[j]? = some x → x ≤ a) (h2 : ∀ x, (A ++ B)[i]? = some x → a < x) : i = A.length := by
  rw [List.length_append] at hi
  rcases Nat.lt_trichotomy i A.length with h | h | h
  · have e : (A ++ B)[i]? = some A[i] := by rw [List.getElem?_append_left h, List.getElem?_eq_getElem h]
    have := h2 _ e
    have := hA A[i] (List.getElem_mem _)
    omega
  · exact h
  · have hb : 0 < B.length := by omega
    have e : (A ++ B)[A.length]? = some B[0] := by rw [List.getElem?_append_right (Nat.le_refl _), Nat.sub_self, List.getElem?_eq_getElem hb]
    have := h1 _ _ h e
    have := hB B[0] (List.getElem_mem _)
    omega
/-- what a search in an increasing row has found -/
structure UpTo (zs : List Int) (a : Int) (i : Nat) : Prop where
  le : i ≤ zs.length
  low : 0 < i → ∀ x, zs[i - 1]? = some x → x ≤ a
  high : ∀ x, zs[i]? = some x → a < x
theorem UpTo.all {zs : List Int} {a : Int} {i : Nat} (h : UpTo zs a i) (hs : zs.Pairwise (· < ·)) : ∀ j x, j < i → zs[j]? = some x → x ≤ a := by
  intro j x hj hx
  have hl : i - 1 < zs.length := by have := h.le; omega
  have h1 := h.low (by omega) zs[i - 1] (List.getElem?_eq_getElem hl)
  obtain ⟨hjl, rfl⟩ := List.getElem?_eq_some_iff.1 hx
  rcases Nat.lt_or_ge j (i - 1) with c | c
  · have := List.pairwise_iff_getElem.1 hs j (i - 1) hjl hl c; omega
  · obtain rfl : j = i - 1 := by omega
    exact h1
theorem UpTo.up {zs : List Int} {a : Int} {i : Nat} (h : UpTo zs a i) (hs : zs.Pairwise (· < ·)) : ∀ j x, i ≤ j → zs[j]? = some x → a < x := by
  intro j x hj hx
  obtain ⟨hjl, rfl⟩ := List.getElem?_eq_some_iff.1 hx
  have h1 := h.high zs[i] (List.getElem?_eq_getElem (by omega))
  rcases Nat.lt_or_ge i j with c | c
  · have := List.pairwise_iff_getElem.1 hs i j (by omega) hjl c; omega
  · obtain rfl : j = i := by omega
    exact h1
theorem sts_split (t : Bs) {a : Nat} (h : a ≤ t.length) : sts t = (0 :: fts 0 (t.take a)) ++ fts a (t.drop a) := by
  have e : fts 0 t = fts 0 (t.take a ++ t.drop a) := by rw [List.take_append_drop]
  unfold sts
  rw [e, fts_app, List.length_take, Nat.min_eq_left h]
  simp
theorem upto_sts {t : Bs} {a i : Nat} (h : a ≤ t.length) (hu : UpTo (sts t) a i) : i = (0 :: fts 0 (t.take a)).length := by
  have hs := sts_sorted t
  have h1 := hu.all hs
  have h2 := hu.high
  have h0 := hu.le
  rw [sts_split t h] at h1 h2 h0
  refine cut_at (fun x hx => ?_) (fun x hx => (fts_rng hx).1) h0 h1 h2
  rcases List.mem_cons.1 hx with rfl | hx
  · omega
  · have := fts_rng hx
    rw [List.length_take] at this; omega
/-- what Update makes, of the old starts -/
theorem sts_made {t : Bs} {a c i j : Nat} {p : Bs} (h : a + c ≤ t.length) (hi : UpTo (sts t) a i) (hj : UpTo (sts t) ((a : Int) + c) j) :
    sts (made t a c p) = (sts t).take i ++ fts a p ++ ((sts t).drop j).map fun x => x + (p.length : Int) - c := by
  have ei := upto_sts (by omega) hi
  have ej := upto_sts (a := a + c) h (by simpa using hj)
  have e1 : (sts t).take i = 0 :: fts 0 (t.take a) := by rw [sts_split t (show a ≤ t.length by omega), ei, List.take_left']; rfl
  have e2 : (sts t).drop j = fts ((a + c : Nat) : Int) (t.drop (a + c)) := by rw [sts_split t h, ej, List.drop_left']; rfl
  rw [e1, e2]
  unfold sts made
  rw [fts_app, fts_app]
  simp only [List.length_append, List.length_take, Nat.min_eq_left (show a ≤ t.length by omega), List.cons_append]
  congr 2
  · congr 1; simp
  · rw [show (0 : Int) + ((a + p.length : Nat) : Int) = ((a + c : Nat) : Int) + ((p.length : Int) - c) by omega, fts_shift]
    congr 1; funext x; omega
theorem upto_ex (a : Int) : ∀ zs : List Int, ∃ i, UpTo zs a i
  | [] => ⟨0, ⟨by simp, fun h => by omega, fun x hx => by simp at hx⟩⟩
  | z :: r => by
    by_cases h : z ≤ a
    · obtain ⟨i, h1, h2, h3⟩ := upto_ex a r
      refine ⟨i + 1, ⟨by simp; omega, fun _ x hx => ?_, fun x hx => h3 x (by simpa using hx)⟩⟩
      rw [Nat.add_sub_cancel] at hx
      cases i with
      | zero => simp at hx; subst hx; exact h
      | succ i => exact h2 (by omega) x (by simpa using hx)
    · exact ⟨0, ⟨by simp, fun h => by omega, fun x hx => by simp at hx; subst hx; omega⟩⟩
/-- the line of an offset -/
theorem upto_pos {zs : List Int} {n a : Int} {i : Nat} (hg : Vld n zs) (ha : 0 ≤ a) (h : UpTo zs a i) : 0 < i := by
  rcases Nat.eq_zero_or_pos i with rfl | h0
  · have := h.high 0 hg.head; omega
  · exact h0
theorem upto_one {zs : List Int} {a : Int} {i j : Nat} (hs : zs.Pairwise (· < ·)) (hi : UpTo zs a i) (hj : UpTo zs a j) : i = j := by
  rcases Nat.lt_trichotomy i j with h | h | h
  · have hl : i < zs.length := by have := hj.le; omega
    have h1 := hi.high _ (List.getElem?_eq_getElem hl)
    have h2 := hj.all hs i _ h (List.getElem?_eq_getElem hl)
    omega
  · exact h
  · have hl : j < zs.length := by have := hi.le; omega
    have h1 := hj.high _ (List.getElem?_eq_getElem hl)
    have h2 := hi.all hs j _ h (List.getElem?_eq_getElem hl)
    omega

/-- the offsets at which lines start that lie one behind the other -/
def offs : Int → List Bs → List Int
  | _, [] => []
  | n, s :: r => n :: offs (n + s.length + 1) r
theorem offs_app (a b : List Bs) : ∀ n, ∃ m, offs n (a ++ b) = offs n a ++ offs m b := by
  induction a with
  | nil => intro n; exact ⟨n, rfl⟩
  | cons s a ih => intro n; obtain ⟨m, h⟩ := ih (n + s.length + 1); exact ⟨m, by simp [offs, h]⟩
/-- where the line behind these begins -/
def ends : Int → List Bs → Int
  | n, [] => n
  | n, s :: r => ends (n + s.length + 1) r
theorem ends_snoc (a : List Bs) (s : Bs) : ∀ n, ends n (a ++ [s]) = ends n a + s.length + 1 := by
  induction a with
  | nil => intro n; rfl
  | cons x a ih => intro n; exact ih _
theorem offs_snoc (a : List Bs) (s : Bs) : ∀ n, offs n (a ++ [s]) = offs n a ++ [ends n a] := by
  induction a with
  | nil => intro n; rfl
  | cons x a ih => intro n; simp [offs, ends, ih]
theorem offs_cut (l : Bs) : ∀ n, offs n (cut l) = n :: fts n l := by
  induction l with
  | nil => intro n; simp [cut, offs, fts]
  | cons c l ih =>
    intro n
    unfold cut
    split
    · rename_i h
      simp [offs, ih, fts, h]
    · rename_i h
      have hi := ih (n + 1)
      cases hc : cut l with
      | nil => exact absurd hc (cut_ne l)
      | cons x r =>
        rw [hc] at hi
        simp only [offs, List.cons.injEq, true_and] at hi
        simp only [put, offs, fts, h, if_false, List.length_cons]
        rw [← hi]
        congr 2; omega
theorem offs_sts (l : Bs) : offs 0 (cut l) = sts l := offs_cut l 0
theorem ends_small (l : Bs) (k : Nat) (hk : k < (cut l).length) : ∀ n, ends n ((cut l).take k) ≤ n + l.length := by
  intro n
  have h := offs_cut l n
  have e : (offs n (cut l))[k]? = some (ends n ((cut l).take k)) := by
    have key : ∀ (a : List Bs) (k : Nat) (n : Int), k < a.length → (offs n a)[k]? = some (ends n (a.take k)) := by
      intro a
      induction a with
      | nil => intro k n h; simp at h
      | cons s a ih =>
        intro k n h
        cases k with
        | zero => simp [offs, ends]
        | succ k => simp only [offs, List.getElem?_cons_succ, List.take_succ_cons, ends]; exact ih k _ (by simpa using h)
    exact key _ _ _ hk
  rw [h] at e
  have hm := List.mem_of_getElem? e
  rcases List.mem_cons.1 hm with e | e
  · omega
  · exact (fts_rng e).2
theorem ends_ge (a : List Bs) : ∀ n, n ≤ ends n a := by
  induction a with
  | nil => intro n; exact Int.le_refl _
  | cons s a ih => intro n; have := ih (n + s.length + 1); simp only [ends]; omega
/-- each of the first k is less than the next one -/
def Inc (zs : List Int) (k : Nat) : Prop := ∀ j x y, j < k → zs[j]? = some x → zs[j + 1]? = some y → x < y
theorem Inc.zero (zs : List Int) : Inc zs 0 := fun j _ _ h => by omega
theorem Inc.next {zs : List Int} {k : Nat} {x y : Int} (h : Inc zs k) (hx : zs[k]? = some x) (hy : zs[k + 1]? = some y) (hxy : x < y) : Inc zs (k + 1) := fun j u v hj hu hv => by
  by_cases e : j = k
  · subst e; rw [hx] at hu; rw [hy] at hv; cases hu; cases hv; exact hxy
  · exact h j u v (by omega) hu hv
theorem Inc.pair : ∀ {zs : List Int}, (∀ k, k < zs.length → Inc zs k) → zs.Pairwise (· < ·)
  | [], _ => List.Pairwise.nil
  | [x], _ => by simp
  | x :: y :: r, h => by
    have hr : (y :: r).Pairwise (· < ·) := Inc.pair fun k hk j u v hj hu hv => h (k + 1) (by simp at hk ⊢; omega) (j + 1) u v (by omega) (by simpa using hu) (by simpa using hv)
    have hxy : x < y := h 1 (by simp) 0 x y (by omega) rfl rfl
    refine List.pairwise_cons.2 ⟨fun z hz => ?_, hr⟩
    rcases List.mem_cons.1 hz with rfl | hz
    · exact hxy
    · have := (List.pairwise_cons.1 hr).1 z hz; omega
theorem Inc.mono {zs : List Int} {k m : Nat} (h : Inc zs k) (hm : m ≤ k) : Inc zs m := fun j x y hj => h j x y (by omega)
theorem Inc.all {zs : List Int} {k : Nat} (h : Inc zs k) (hk : zs.length ≤ k + 1) : zs.Pairwise (· < ·) := Inc.pair fun _ hm => h.mono (by omega)
theorem bad_nil (size : Int) : ¬ Vld size [] := fun h => by have := h.head; simp at this
theorem bad_head {size z : Int} {zs : List Int} (h : zs[0]? = some z) (hz : z ≠ 0) : ¬ Vld size zs := fun g => by have := g.head; rw [h] at this; cases this; exact hz rfl
theorem bad_inc {size x y : Int} {zs : List Int} {k : Nat} (hx : zs[k]? = some x) (hy : zs[k + 1]? = some y) (h : y ≤ x) : ¬ Vld size zs := fun g => by
  obtain ⟨h1, rfl⟩ := List.getElem?_eq_some_iff.1 hx
  obtain ⟨h2, rfl⟩ := List.getElem?_eq_some_iff.1 hy
  have := List.pairwise_iff_getElem.1 g.inc k (k + 1) h1 h2 (by omega)
  omega
theorem good_last {size z : Int} {zs : List Int} {m : Nat} (h0 : zs[0]? = some 0) (hi : zs.Pairwise (· < ·)) (hm : zs.length = m + 1) (hz : zs[m]? = some z) : Vld size zs ↔ z ≤ size ∧ z ≤ 600 := by
  constructor
  · intro g; exact g.le z (List.mem_of_getElem? hz)
  · rintro ⟨a, b⟩
    refine ⟨h0, hi, fun x hx => ?_⟩
    obtain ⟨j, hj, rfl⟩ := List.mem_iff_getElem.1 hx
    obtain ⟨h2, rfl⟩ := List.getElem?_eq_some_iff.1 hz
    by_cases e : j = m
    · subst e; exact ⟨a, b⟩
    · have := List.pairwise_iff_getElem.1 hi j m hj h2 (by omega)
      omega
/-- whether it is valid -/
noncomputable def goodB (size : Int) (zs : List Int) : Bool := @decide (Vld size zs) (Classical.propDecidable _)
theorem goodB_yes {size : Int} {zs : List Int} (h : Vld size zs) : goodB size zs = true := by unfold goodB; exact @decide_eq_true _ (Classical.propDecidable _) h
theorem goodB_no {size : Int} {zs : List Int} (h : ¬ Vld size zs) : goodB size zs = false := by unfold goodB; exact @decide_eq_false _ (Classical.propDecidable _) h
theorem goodB_of {size : Int} {zs : List Int} (h : goodB size zs = true) : Vld size zs := Classical.byContradiction fun q => by rw [goodB_no q] at h; cases h
/-- the starts of two texts, one behind the other -/
theorem sts_join (a b : Bs) : sts (a ++ b) = sts a ++ (fts 0 b).map (· + (a.length : Int)) := by
  unfold sts
  rw [fts_app, fts_shift]; rfl
theorem join_low {a b : Bs} {i : Nat} (h : i < (sts a).length) : (sts (a ++ b))[i]? = (sts a)[i]? := by rw [sts_join, List.getElem?_append_left h]
theorem join_high {a b : Bs} {q : Nat} {y : Int} (h : (sts b)[q + 1]? = some y) : (sts (a ++ b))[(sts a).length + q]? = some (y + a.length) := by
  rw [sts_join, List.getElem?_append_right (by omega), show (sts a).length + q - (sts a).length = q by omega, List.getElem?_map]
  have : (fts 0 b)[q]? = some y := by simpa [sts] using h
  rw [this]; rfl
theorem join_len (a b : Bs) : (sts (a ++ b)).length + 1 = (sts a).length + (sts b).length := by
  rw [sts_join, List.length_append, List.length_map]
  show _ = _ + ((fts 0 b).length + 1)
  omega
/-- the last start of a text -/
theorem sts_last (l : Bs) : (sts l)[lns l]? = some ((l.length : Int) - col l) := by
  revert l
  refine snocInd ?_ ?_
  · rfl
  · intro l c ih
    by_cases h : c = 10
    · subst h
      have e : sts (l ++ [10]) = sts l ++ [(l.length : Int) + 1] := by
        unfold sts; rw [fts_feed]; simp
      rw [e, lns_snoc, col_snoc, if_pos rfl, if_pos rfl, List.getElem?_append_right (by rw [sts_len]; omega), sts_len]
      simp
    · have e : sts (l ++ [c]) = sts l := by unfold sts; rw [fts_other _ _ h]
      rw [e, lns_snoc, col_snoc, if_neg h, if_neg h, Nat.add_zero, ih]
      congr 1
      simp
      omega
/-- the line of an offset, and its column -/
theorem line_place {t : Bs} {a n : Nat} (h : a ≤ t.length) (hu : UpTo (sts t) a (n + 1)) : n = lns (t.take a) ∧ (sts t)[n]? = some ((a : Int) - col (t.take a)) ∧ n < (sts t).length := by
  have e := upto_sts h hu
  rw [List.length_cons, fts_len] at e
  have hn : n = lns (t.take a) := by omega
  refine ⟨hn, ?_, by have := hu.le; omega⟩
  have h1 := sts_last (t.take a)
  rw [List.length_take, Nat.min_eq_left h] at h1
  rw [sts_split t h, List.getElem?_append_left (by rw [List.length_cons, fts_len]; omega), hn]
  exact h1
end Go.Proofs.Ytokfnajgjhkepaa.LineM

/-
  Integers in memory: a slice of integers, opened where it comes in; integers of the call's own.
-/
namespace Go.Proofs.Ytokfnajgjhkepaa.LineM
open Go.RowKit Kit

def ic (z : Int) : List Value := [.int .i64 z]
theorem ic_len (z : Int) : (ic z).length = 1 := rfl
theorem ic_one (z : Int) : ∀ u ∈ ic z, u.oneCell' = true := by
  intro u hu
  simp [ic] at hu
  subst hu; rfl
theorem flat_ic (l : List Int) : flatC ic l = l.map (.int .i64) := by
  induction l with
  | nil => rfl
  | cons z l ih => rw [flatC_cons, ih]; rfl
def I64 (z : Int) : Prop := -9223372036854775808 ≤ z ∧ z ≤ 9223372036854775807
abbrev IsAt (w : World) (a : Option Addr) (l : List Int) : Prop := SlAt 1 ic w a l
abbrev IsV (w : World) (v : Value) (l : List Int) : Prop := SlV 1 ic w v l
theorem IsAt.get {w : World} {a : Option Addr} {l : List Int} (h : IsAt w a l) {i : Nat} {z : Int} (hi : l[i]? = some z) : ∃ g off, a = some ⟨g, off, none⟩ ∧ g < w.heap.size ∧ w.cell? ⟨g, off + i, none⟩ = some (.int .i64 z) := by
  obtain ⟨g, off, h0, h1, h2⟩ := SlAt.cell h i z hi
  refine ⟨g, off, h0, h1, ?_⟩
  have := h2 0 (by omega)
  simpa [ic] using this
theorem infoInt : (Try.prog.info? 3).map (fun i => (i.zero, i.size, i.bytes)) = some (some (.int .i64 0), 1, 8) := by kernel_rfl
theorem wf_i64 {n : Int} (h : (Lit.int .i64 n).wf = true) : I64 n := by
  simp only [Lit.wf, Bool.and_eq_true, decide_eq_true_eq] at h
  exact h
theorem open_int1 {H : Type} {enc : TypeId × Value → H} {W : World} {n : Nat} {cs : List Value} {x : DataW H × List MemPlace} (h : DataW.trod enc Try.prog W 0 (fun _ => true) true n 3 cs = some x) : ∃ z : Int, cs = ic z ∧ I64 z := by
  obtain ⟨z, e, _, w0⟩ := DataW.trod_int Try.underlying3 h
  exact ⟨z, e, wf_i64 w0⟩
theorem open_nums {H : Type} {enc : TypeId × Value → H} {W : World} {fuel : Nat} {a : Option Addr} {len cap : Nat} {x : DataW H × List MemPlace} (h : DataW.trod enc Try.prog W 0 (fun _ => true) true fuel 28 [.slice a len cap] = some x) (hs : ∀ m ∈ x.1.weights Try.prog 28, m ≤ reachBytes) :
    ∃ l : List Int, len = l.length ∧ IsAt W a l ∧ (∀ e ∈ l, I64 e) ∧ len ≤ cap ∧ cap ≤ maxLen ∧ ((a = none ∧ cap = 0) ∨ ∃ g off, a = some ⟨g, off, none⟩ ∨ len = 0) :=
  open_list Try.underlying28 (by kernel_rfl) (by omega) ic_len I64 (fun _ _ _ h _ => open_int1 h) h hs

/-- integers of the call's own -/
structure IK (w : World) (xs : List Int) (v : Value) (wr : World) : Prop where
  row : wr.ownsRow w.heap.size 3 1 v xs.length (flatC ic xs)
  bel : Below w.heap.size w wr
section
variable {w w1 w2 : World} {xs : List Int} {v : Value}
theorem IK.next (h : IK w xs v w1) (hb : Below w1.heap.size w1 w2) : IK w xs v w2 := ⟨row_next h.row hb, bstep h.bel hb⟩
theorem IK.val (h : IK w xs v w1) : IsV w1 v xs := SlV.of_owns ic_len h.row
theorem IK.nil (hb : Below w.heap.size w w1) : IK w [] (.slice none 0 0) w1 := ⟨World.ownsRow_nil _ _ _ _, hb⟩
theorem IK.rebase (h : IK w1 xs v w2) (hb : Below w.heap.size w w1) : IK w xs v w2 := ⟨h.row.mono hb.size, bstep hb h.bel⟩
theorem IK.slice (h : IK w xs v w1) : ∃ a cap, v = .slice a xs.length cap := by
  rcases h.row.2 with ⟨e, h0⟩ | ⟨g, cap, cur, e, hb, hg, _⟩
  · exact ⟨none, 0, by rw [e, h0]⟩
  · exact ⟨_, cap, e⟩
theorem IsV.row (h : IsV w v xs) : Row w v (xs.map (.int .i64)) := by
  obtain ⟨a, cap, rfl, _, ha, hd⟩ := h
  refine ⟨a, cap, by rw [List.length_map], fun hp => ?_⟩
  rw [List.length_map] at hp
  obtain ⟨g, off, e, hg, _⟩ := IsAt.get ha (List.getElem?_eq_getElem hp)
  refine ⟨g, off, e, hg, fun i hi => ?_⟩
  rw [List.length_map] at hi
  obtain ⟨g', off', e', _, hc⟩ := IsAt.get ha (List.getElem?_eq_getElem hi)
  rw [e] at e'
  simp only [Option.some.injEq, Addr.mk.injEq, and_true] at e'
  obtain ⟨rfl, rfl⟩ := e'
  rw [hc, List.getElem?_map, List.getElem?_eq_getElem hi]; rfl
end
def IkPost (w0 : World) (xs : List Int) (e : Ending) (w' : World) : Prop := ∃ v', e = .returned v' ∧ IK w0 xs v' w'
/-- two results: integers, and a code -/
def IsPost (w0 : World) (xs : List Int) (c : Int) (e : Ending) (w' : World) : Prop := ∃ v', e = .returned (.tuple #[v', .int .i64 c]) ∧ IK w0 xs v' w'
end Go.Proofs.Ytokfnajgjhkepaa.LineM

/-
  Slices of strings: opened where they come in, of the call's own, and read. No function is named.
-/
namespace Go.Proofs.Ytokfnajgjhkepaa.StrM
open Go.ChangeShapes Go.RowKit Kit LineM

/-- the cell of a string -/
def sc (s : ByteArray) : List Value := [.string s]
theorem sc_len (s : ByteArray) : (sc s).length = 1 := rfl
abbrev StAt (w : World) (a : Option Addr) (l : List ByteArray) : Prop := SlAt 1 sc w a l
theorem StAt.get {w : World} {a : Option Addr} {l : List ByteArray} (h : StAt w a l) {i : Nat} {s : ByteArray} (hi : l[i]? = some s) : ∃ g off, a = some ⟨g, off, none⟩ ∧ g < w.heap.size ∧ w.cell? ⟨g, off + i, none⟩ = some (.string s) := by
  obtain ⟨g, off, e, hg, hc⟩ := h.cell i s hi
  refine ⟨g, off, e, hg, ?_⟩
  have := hc 0 (by omega)
  simpa [sc] using this
theorem open_str1 {H : Type} {enc : TypeId × Value → H} {W : World} {n : Nat} {cs : List Value} {x : DataW H × List MemPlace} (h : DataW.trod enc Try.prog W 0 (fun _ => true) true n 9 cs = some x) : ∃ s : ByteArray, cs = sc s ∧ s.size ≤ maxLen := by
  obtain ⟨s, e, _, w0⟩ := DataW.trod_string Try.underlying9 h
  exact ⟨s, e, w0⟩
theorem open_strs {H : Type} {enc : TypeId × Value → H} {W : World} {fuel : Nat} {a : Option Addr} {len cap : Nat} {x : DataW H × List MemPlace} (h : DataW.trod enc Try.prog W 0 (fun _ => true) true fuel 22 [.slice a len cap] = some x) (hs : ∀ m ∈ x.1.weights Try.prog 22, m ≤ reachBytes) :
    ∃ l : List ByteArray, len = l.length ∧ StAt W a l ∧ (∀ s ∈ l, s.size ≤ maxLen) ∧ len ≤ cap ∧ cap ≤ maxLen ∧ ((a = none ∧ cap = 0) ∨ ∃ g off, a = some ⟨g, off, none⟩ ∨ len = 0) :=
  open_list Try.underlying22 (by kernel_rfl) (by omega) sc_len (fun s => s.size ≤ maxLen) (fun _ _ _ h _ => open_str1 h) h hs

/-- strings of the call's own -/
structure SK (w : World) (xs : List ByteArray) (v : Value) (wr : World) : Prop where
  row : wr.ownsRow w.heap.size 9 1 v xs.length (flatC sc xs)
  bel : Below w.heap.size w wr
section
variable {w w1 w2 : World} {xs : List ByteArray} {v : Value}
theorem SK.next (h : SK w xs v w1) (hb : Below w1.heap.size w1 w2) : SK w xs v w2 := ⟨row_next h.row hb, bstep h.bel hb⟩
theorem SK.val (h : SK w xs v w1) : SlV 1 sc w1 v xs := SlV.of_owns sc_len h.row
theorem SK.nil (hb : Below w.heap.size w w1) : SK w [] (.slice none 0 0) w1 := ⟨World.ownsRow_nil _ _ _ _, hb⟩
theorem SK.rebase (h : SK w1 xs v w2) (hb : Below w.heap.size w w1) : SK w xs v w2 := ⟨h.row.mono hb.size, bstep hb h.bel⟩
end
/-- the strings as plain lists -/
def plain (l : List ByteArray) : List (List UInt8) := l.map fun s => s.data.toList
theorem plain_len (l : List ByteArray) : (plain l).length = l.length := by simp [plain]
theorem plain_get {l : List ByteArray} {i : Nat} {s : ByteArray} (h : l[i]? = some s) : (plain l).getD i [] = s.data.toList := by simp [plain, List.getD, h]
end Go.Proofs.Ytokfnajgjhkepaa.StrM

/-
  Lists of lines in memory: one, and several. No function is named.
-/
namespace Go.Proofs.Ytokfnajgjhkepaa.DiffA
open Go.RowKit Kit LineM StrM DiffM

/-- a list of lines within the limits -/
def okL (l : List ByteArray) : Prop := l.length ≤ 80 ∧ ∀ s ∈ l, s.size ≤ 600
/-- a slice of strings: where, what, how much behind it -/
structure Sv where
  a : Option Addr
  l : List ByteArray
  cap : Nat
def svc (s : Sv) : List Value := [.slice s.a s.l.length s.cap]
theorem svc_len (s : Sv) : (svc s).length = 1 := rfl
def Sv.has (W : World) (s : Sv) : Prop := StAt W s.a s.l
theorem sv_get {w : World} {a : Option Addr} {l : List Sv} (h : SlAt 1 svc w a l) {i : Nat} {s : Sv} (hi : l[i]? = some s) : ∃ g off, a = some ⟨g, off, none⟩ ∧ g < w.heap.size ∧ w.cell? ⟨g, off + i, none⟩ = some (.slice s.a s.l.length s.cap) := by
  obtain ⟨g, off, e, hg, hc⟩ := h.cell i s hi
  refine ⟨g, off, e, hg, ?_⟩
  have := hc 0 (by omega)
  simpa [svc] using this
open Classical in
/-- what is refused of lists of lines -/
noncomputable def lf (Ls : List Sv) : Int := if ∀ s ∈ Ls, okL s.l then 0 else 1
theorem lf_bad {Ls : List Sv} {s : Sv} (h : s ∈ Ls) (hb : ¬ okL s.l) : lf Ls = 1 := if_neg (fun hh => hb (hh s h))
theorem lf_ok {Ls : List Sv} (h : ∀ s ∈ Ls, okL s.l) : lf Ls = 0 := if_pos h
/-- two lists, as a call with two arguments hands them over -/
theorem two_at (w : World) (x y : Sv) (t : TypeId) : SlAt 1 svc (w.alloc (.cells #[.slice x.a x.l.length x.cap, .slice y.a y.l.length y.cap] t)) (some ⟨w.heap.size, 0, none⟩) [x, y] := by
  refine ⟨fun i s hi => ⟨w.heap.size, 0, rfl, by simp, fun j hj => ?_⟩⟩
  obtain rfl : j = 0 := by omega
  match i, hi with
  | 0, hi => simp at hi; subst hi; simp [svc]
  | 1, hi => simp at hi; subst hi; simp [svc]
end Go.Proofs.Ytokfnajgjhkepaa.DiffA
