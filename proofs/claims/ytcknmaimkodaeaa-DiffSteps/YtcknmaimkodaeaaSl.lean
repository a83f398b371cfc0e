/-
  Slices whose elements take k cells each, read as lists; opened where they come in. No program is named.
-/
import Derived.Test.YtcknmaimkodaeaaInts
import Derived.Deep.Slices
import Derived.ProofKit
import Derived.SizedLaws
namespace Go.Proofs.Ytcknmaimkodaeaa.Kit
open Go.RowKit

theorem spot_none {w : World} {a : Addr} {v : Value} (h : w.cell? a = some v) : a.spot = none := by
  unfold World.cell? at h
  split at h
  · split at h
    · cases h
    · rename_i hs; simpa using hs
  · cases h
theorem block_lt {w : World} {a : Addr} {v : Value} (h : w.cell? a = some v) : a.block < w.heap.size := by
  unfold World.cell? at h
  split at h
  · rename_i hs; exact (Array.getElem?_eq_some_iff.1 hs).1
  · cases h
theorem add_of {a : Addr} (h : a.spot = none) (k : Nat) : a.add k = ⟨a.block, a.off + k, none⟩ := by
  obtain ⟨b, o, s⟩ := a
  cases h
  unfold Addr.add
  split
  · rename_i hk; simp [hk]
  · rfl
theorem cells_new (w : World) (cs : Array Value) (t : TypeId) (j : Nat) : (w.alloc (.cells cs t)).cell? ⟨w.heap.size, j, none⟩ = cs[j]? := by
  have : (w.alloc (.cells cs t)).heap[w.heap.size]? = some (.cells cs t (0, 0)) := by unfold World.alloc; simp only [Array.getElem?_push_size]
  unfold World.cell?
  simp only [this]
  rfl

/-- the elements l lie from a on, k cells each -/
structure SlAt {α : Type} (k : Nat) (cells : α → List Value) (w : World) (a : Option Addr) (l : List α) : Prop where
  cell : ∀ (i : Nat) o, l[i]? = some o → ∃ g off, a = some ⟨g, off, none⟩ ∧ g < w.heap.size ∧ ∀ j, j < k → w.cell? ⟨g, off + i * k + j, none⟩ = (cells o)[j]?
section
variable {α : Type} {k : Nat} {cells : α → List Value}
theorem SlAt.next {w w' : World} {a : Option Addr} {l : List α} (h : SlAt k cells w a l) (hb : Below w.heap.size w w') : SlAt k cells w' a l where
  cell i o hi := by
    obtain ⟨g, off, h0, h1, h2⟩ := h.cell i o hi
    exact ⟨g, off, h0, Nat.lt_of_lt_of_le h1 hb.size, fun j hj => (hb.cell (p := ⟨g, _, none⟩) h1).trans (h2 j hj)⟩
theorem SlAt.nil (w : World) (a : Option Addr) : SlAt k cells w a ([] : List α) := ⟨fun i o hi => by simp at hi⟩
theorem SlAt.take {w : World} {a : Option Addr} {l : List α} (h : SlAt k cells w a l) (n : Nat) : SlAt k cells w a (l.take n) where
  cell i o hi := by
    refine h.cell i o ?_
    rw [List.getElem?_take] at hi
    split at hi
    · exact hi
    · cases hi
theorem SlAt.drop {w : World} {g off : Nat} {l : List α} (h : SlAt k cells w (some ⟨g, off, none⟩) l) (n : Nat) : SlAt k cells w (some ⟨g, off + n * k, none⟩) (l.drop n) where
  cell i o hi := by
    rw [List.getElem?_drop] at hi
    obtain ⟨g', off', e, h1, h2⟩ := h.cell (n + i) o hi
    simp only [Option.some.injEq, Addr.mk.injEq, and_true] at e
    obtain ⟨rfl, rfl⟩ := e
    refine ⟨g, off + n * k, rfl, h1, fun j hj => ?_⟩
    rw [← h2 j hj, Nat.add_mul]; congr 2; omega

/-- all cells, one behind the other -/
def flatC (cells : α → List Value) (l : List α) : List Value := (l.map cells).flatten
theorem flatC_cons (o : α) (l : List α) : flatC cells (o :: l) = cells o ++ flatC cells l := by simp [flatC]
theorem flatC_append (l m : List α) : flatC cells (l ++ m) = flatC cells l ++ flatC cells m := by simp [flatC]
theorem flatC_one (o : α) : flatC cells [o] = cells o := by simp [flatC]
theorem flatC_length (hk : ∀ o, (cells o).length = k) : ∀ l : List α, (flatC cells l).length = l.length * k
  | [] => by simp [flatC]
  | o :: l => by rw [flatC_cons, List.length_append, flatC_length hk l, List.length_cons, hk, Nat.succ_mul, Nat.add_comm]
theorem flatC_get (hk : ∀ o, (cells o).length = k) : ∀ (l : List α) (i : Nat) (o : α) (j : Nat), l[i]? = some o → j < k → (flatC cells l)[i * k + j]? = (cells o)[j]?
  | [], i, o, j, h, _ => by simp at h
  | x :: l, 0, o, j, h, hj => by
    simp at h; subst h
    rw [flatC_cons, List.getElem?_append_left (by rw [hk]; omega)]; simp
  | x :: l, i + 1, o, j, h, hj => by
    simp at h
    have e1 : (i + 1) * k + j = k + (i * k + j) := by rw [Nat.succ_mul]; omega
    rw [flatC_cons, e1, List.getElem?_append_right (by rw [hk]; omega), hk]
    have e2 : k + (i * k + j) - k = i * k + j := by omega
    rw [e2]
    exact flatC_get hk l i o j h hj
theorem flatC_all {p : Value → Prop} (h : ∀ o, ∀ u ∈ cells o, p u) (l : List α) : ∀ u ∈ flatC cells l, p u := by
  intro u hu
  simp only [flatC, List.mem_flatten, List.mem_map] at hu
  obtain ⟨x, ⟨o, _, rfl⟩, hu⟩ := hu
  exact h o u hu
theorem SlAt.cells_at (hk : ∀ o, (cells o).length = k) (k0 : 0 < k) {w : World} {l : List α} {g off : Nat} (h : SlAt k cells w (some ⟨g, off, none⟩) l) : ∀ j u, (flatC cells l)[j]? = some u → w.cell? ((⟨g, off, none⟩ : Addr).add j) = some u := by
  intro j u hj
  have hjl := (List.getElem?_eq_some_iff.1 hj).1
  rw [flatC_length hk] at hjl
  have hd : j / k < l.length := Nat.div_lt_of_lt_mul (by rw [Nat.mul_comm]; exact hjl)
  have hm : j % k < k := Nat.mod_lt _ k0
  have ho : l[j / k]? = some l[j / k] := by simp [hd]
  obtain ⟨g', off', e, _, hc⟩ := h.cell (j / k) _ ho
  have hg := flatC_get hk l (j / k) _ (j % k) ho hm
  have hjj : j / k * k + j % k = j := by rw [Nat.mul_comm]; exact Nat.div_add_mod j k
  rw [hjj, hj] at hg
  simp only [Option.some.injEq, Addr.mk.injEq, and_true] at e
  obtain ⟨rfl, rfl⟩ := e
  rw [add_of rfl]
  have := hc (j % k) hm
  rw [← hg] at this
  rw [← this]
  show w.cell? ⟨g, off + j, none⟩ = _
  rw [show off + j = off + j / k * k + j % k by omega]

/-- a slice, nil or at an address -/
def SlV (k : Nat) (cells : α → List Value) (w : World) (v : Value) (l : List α) : Prop :=
  ∃ a cap, v = .slice a l.length cap ∧ l.length ≤ cap ∧ SlAt k cells w a l ∧ ((a = none ∧ cap = 0 ∧ l = []) ∨ ∃ g off, a = some ⟨g, off, none⟩ ∧ g < w.heap.size)
theorem SlV.next {w w' : World} {v : Value} {l : List α} (h : SlV k cells w v l) (hb : Below w.heap.size w w') : SlV k cells w' v l := by
  obtain ⟨a, cap, e, hle, ha, hs⟩ := h
  refine ⟨a, cap, e, hle, ha.next hb, hs.imp id ?_⟩
  rintro ⟨g, off, rfl, hg⟩
  exact ⟨g, off, rfl, Nat.lt_of_lt_of_le hg hb.size⟩
theorem SlV.nil (w : World) : SlV k cells w (.slice none 0 0) ([] : List α) := ⟨none, 0, rfl, by simp, SlAt.nil _ _, .inl ⟨rfl, rfl, rfl⟩⟩
theorem SlV.of_owns (hk : ∀ o, (cells o).length = k) {w : World} {base e : Nat} {v : Value} {l : List α} (h : w.ownsRow base e k v l.length (flatC cells l)) : SlV k cells w v l := by
  rcases h.2 with ⟨e, h0⟩ | ⟨g, cap, cur, e, hb, hg, hle, _⟩
  · have hl : l = [] := List.eq_nil_of_length_eq_zero h0
    subst hl; subst e
    exact SlV.nil w
  · have hlt := (h.lt g (by rw [e]; rfl)).2
    refine ⟨some ⟨g, 0, none⟩, cap, e, hle, ⟨fun i o hi => ⟨g, 0, rfl, hlt, fun j hj => ?_⟩⟩, .inr ⟨g, 0, rfl, hlt⟩⟩
    have hil := (List.getElem?_eq_some_iff.1 hi).1
    rw [e] at h
    have hb : i * k + j < l.length * k := by
      have := Nat.mul_le_mul_right k (Nat.succ_le_of_lt hil)
      rw [Nat.succ_mul] at this; omega
    rw [Nat.zero_add, h.cellAt (i * k + j) (by omega), flatC_get hk l i o j hi hj]

/-- a slice that came in -/
theorem open_list {H : Type} {enc : TypeId × Value → H} {P : Program} {W : World} {t e : TypeId} (ht : P.underlying t = some (.slice e)) (hk : P.cellsOf e = k) (k0 : 0 < k) (hlen : ∀ o, (cells o).length = k)
    (R : α → Prop) (one : ∀ n cs (x : DataW H × List MemPlace), DataW.trod enc P W 0 (fun _ => true) true n e cs = some x → (∀ m ∈ x.1.weights P e, m ≤ reachBytes) → ∃ o : α, cs = cells o ∧ R o)
    {fuel : Nat} {a : Option Addr} {len cap : Nat} {x : DataW H × List MemPlace} (h : DataW.trod enc P W 0 (fun _ => true) true fuel t [.slice a len cap] = some x) (hs : ∀ m ∈ x.1.weights P t, m ≤ reachBytes) :
    ∃ l : List α, len = l.length ∧ SlAt k cells W a l ∧ (∀ o ∈ l, R o) ∧ len ≤ cap ∧ cap ≤ maxLen ∧ ((a = none ∧ cap = 0) ∨ ∃ g off, a = some ⟨g, off, none⟩ ∨ len = 0) := by
  rcases Deep.open_slice ht h with ⟨hcs, _⟩ | ⟨b, l, c, m, n, D, Pl, hcs, _, hle, hmx, hm, hxx, hx⟩
  · simp at hcs
    obtain ⟨rfl, rfl, rfl⟩ := hcs
    exact ⟨[], rfl, SlAt.nil _ _, fun o ho => by simp at ho, by simp, by simp, .inl ⟨rfl, rfl⟩⟩
  · simp at hcs
    obtain ⟨rfl, rfl, rfl⟩ := hcs
    simp at hm
    subst hm
    have hw : ∀ i, i < len → ∀ q ∈ (D i).weights P e, q ≤ reachBytes := by
      intro i hi q hq
      refine hs q ?_
      rw [hxx]
      simp only [DataW.weights, ht, List.mem_cons, List.mem_append]
      refine .inr (.inl ?_)
      have : ∀ (L : List (DataW H)) d, d ∈ L → ∀ q ∈ d.weights P e, q ∈ DataW.weightsAll P e L := by
        intro L
        induction L with
        | nil => intro d hd; simp at hd
        | cons y L ih =>
          intro d hd q hq
          simp only [DataW.weightsAll, List.mem_append]
          rcases List.mem_cons.1 hd with rfl | hd
          · exact .inl hq
          · exact .inr (ih d hd q hq)
      exact this _ (D i) (List.mem_map.2 ⟨i, by simpa using hi, rfl⟩) q hq
    have each : ∀ i, i < len → ∃ o : α, (∀ j, j < k → W.cell? ((b.add (i * k)).add j) = (cells o)[j]?) ∧ R o := by
      intro i hi
      obtain ⟨cs', h1, h2⟩ := hx i (by omega)
      rw [hk] at h1
      obtain ⟨_, hlen, hcell⟩ := World.cells?_some h1
      obtain ⟨o, rfl, hr⟩ := one _ _ _ h2 (hw i hi)
      exact ⟨o, hcell, hr⟩
    by_cases hz : len = 0
    · subst hz
      exact ⟨[], rfl, SlAt.nil _ _, fun o ho => by simp at ho, hle, hmx, .inr ⟨0, 0, .inr rfl⟩⟩
    obtain ⟨o0, ho0, _⟩ := each 0 (by omega)
    have s0 : b.spot = none := by
      have h0 := ho0 0 k0
      obtain ⟨u, hu⟩ : ∃ u, (cells o0)[0]? = some u := ⟨(cells o0)[0]'(by rw [hlen]; exact k0), by simp⟩
      exact spot_none (v := u) (by simpa [Addr.add, hu] using h0)
    obtain ⟨f, hf⟩ : ∃ f : Nat → α, ∀ i, i < len → (∀ j, j < k → W.cell? ((b.add (i * k)).add j) = (cells (f i))[j]?) ∧ R (f i) := by
      refine ⟨fun i => if h : i < len then (each i h).choose else o0, fun i hi => ?_⟩
      simp only [dif_pos hi]
      exact (each i hi).choose_spec
    refine ⟨(List.range len).map f, by simp, ⟨fun i o hi => ?_⟩, ?_, hle, hmx, .inr ⟨b.block, b.off, .inl (by rw [← s0])⟩⟩
    · have hil : i < len := by
        have := (List.getElem?_eq_some_iff.1 hi).1
        simpa using this
      have ho : o = f i := by
        rw [List.getElem?_map, List.getElem?_range hil] at hi
        simp at hi; exact hi.symm
      subst ho
      have key : ∀ j, j < k → W.cell? ⟨b.block, b.off + i * k + j, none⟩ = (cells (f i))[j]? := by
        intro j hj
        have := (hf i hil).1 j hj
        rw [add_of s0, add_of rfl] at this
        exact this
      have k1 := key 0 k0
      obtain ⟨u, hu⟩ : ∃ u, (cells (f i))[0]? = some u := ⟨(cells (f i))[0]'(by rw [hlen]; exact k0), by simp⟩
      have hlt := block_lt (a := ⟨b.block, b.off + i * k + 0, none⟩) (v := u) (by rw [k1]; exact hu)
      exact ⟨b.block, b.off, by rw [← s0], hlt, key⟩
    · intro o ho
      obtain ⟨i, hi, rfl⟩ := List.mem_map.1 ho
      exact (hf i (by simpa using hi)).2
/-- what is weighed of one argument -/
theorem weigh {H : Type} {P : Program} {ts : List TypeId} {ds : List (DataW H)} (h : (DataW.weightsEach P ts ds).all (· ≤ reachBytes) = true) {j : Nat} {t : TypeId} {d : DataW H} (ht : ts[j]? = some t) (hd : ds[j]? = some d) : ∀ m ∈ d.weights P t, m ≤ reachBytes := by
  intro m hm
  have := List.all_eq_true.1 h m (DataW.weights_mem_each ht hd m hm)
  simpa using this
end
end Go.Proofs.Ytcknmaimkodaeaa.Kit
