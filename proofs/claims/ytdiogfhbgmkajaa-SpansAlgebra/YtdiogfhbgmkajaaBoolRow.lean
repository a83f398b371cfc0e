/-
  A row of truths that a call has made and writes; the spans of its runs. No function of the program is named.
-/
import Derived.Test.YtdiogfhbgmkajaaSpanAt
namespace Go.Proofs.Ytdiogfhbgmkajaa.SpanM
open Go.RowKit Kit

/-- the place j is in the set, told as a truth -/
def inB (l : List SpM) (j : Int) : Bool := l.any fun s => decide (s.lo ≤ j) && decide (j < s.hi)
theorem inB_iff {l : List SpM} {j : Int} : inB l j = true ↔ In l j := by simp [inB, In, List.any_eq_true]
theorem inB_next {l : List SpM} {s : SpM} {k : Nat} (h : l[k]? = some s) (j : Int) : inB (l.take (k + 1)) j = (inB (l.take k) j || (decide (s.lo ≤ j) && decide (j < s.hi))) := by unfold inB; rw [take_next h, List.any_append]; simp

/-- a row of truths of the call's own, in the block blk; all below it is as in w0 -/
structure RB (w0 : World) (blk n : Nat) (b : Nat → Bool) (W : World) : Prop where
  bel : Below blk w0 W
  lt : blk < W.heap.size
  cell : ∀ i, i < n → W.cell? ⟨blk, i, none⟩ = some (.bool (b i))
  free : ∀ i, i < n → W.frozen? ⟨blk, i, none⟩ = false
section
variable {w0 W W' : World} {blk n : Nat} {b b' : Nat → Bool}
theorem RB.next (h : RB w0 blk n b W) (hb : Below W.heap.size W W') : RB w0 blk n b W' := ⟨h.bel.trans (hb.mono (Nat.le_of_lt h.lt)), Nat.lt_of_lt_of_le h.lt hb.size, fun i hi => (hb.cell (p := ⟨blk, i, none⟩) h.lt).trans (h.cell i hi), fun i hi => (hb.frozen (p := ⟨blk, i, none⟩) h.lt).trans (h.free i hi)⟩
theorem RB.congr (h : RB w0 blk n b W) (e : ∀ i, i < n → b i = b' i) : RB w0 blk n b' W := ⟨h.bel, h.lt, fun i hi => by rw [← e i hi]; exact h.cell i hi, h.free⟩
theorem RB.set (h : RB w0 blk n b W) {i : Nat} (hi : i < n) (v : Bool) : RB w0 blk n (fun j => if j = i then v else b j) (W.setCell ⟨blk, i, none⟩ (.bool v)) := by
  refine ⟨h.bel.setCell (p := ⟨blk, i, none⟩) (Nat.le_refl _) _, by rw [setZ]; exact h.lt, fun j hj => ?_, fun j hj => by rw [World.frozen?_setCell]; exact h.free j hj⟩
  by_cases e : j = i
  · subst e; rw [if_pos rfl]; exact setS (h.cell j hj) _
  · rw [if_neg e, setO (.inr e)]; exact h.cell j hj
theorem RB.made {base e cap : Nat} (hb : Below blk w0 W) (h : W.ownsRow base e 1 (.slice (some ⟨blk, 0, none⟩) n cap) n (madeCells (Value.bool false).cells (n * 1)).toList) : RB w0 blk n (fun _ => false) W := by
  refine ⟨hb, (h.lt blk rfl).2, fun i hi => ?_, fun i hi => h.frozenAt i⟩
  rw [h.cellAt i (by omega)]
  simp [madeCells, Value.cells, hi, Nat.mod_one]
theorem RB.drewN (h : RB w0 blk n b W) (m : Nat) : RB w0 blk n b (W.drewN m) := h.next (bdrewN (Below.refl _ _) m)
theorem RB.old (h : RB w0 blk n b W) {base : Nat} (hb : base ≤ blk) : Below base w0 W := h.bel.mono hb
theorem RB.from_ {w : World} (h : RB w0 blk n b W) (hw : Below w.heap.size w w0) (hb : w.heap.size ≤ blk) : Below w.heap.size w W := hw.trans (h.bel.mono hb)
end
theorem infoBool : (Try.prog.info? 4).map (fun i => (i.zero, i.size, i.bytes)) = some (some (.bool false), 1, 1) := by kernel_rfl

/-- the runs of the first i truths -/
def runs (b : Nat → Bool) : Nat → List SpM
  | 0 => []
  | i + 1 => if b i then att (runs b i) ⟨i, i + 1⟩ else runs b i
theorem runs_len (b : Nat → Bool) : ∀ i, (runs b i).length ≤ i
  | 0 => by simp [runs]
  | i + 1 => by
    have := runs_len b i
    have h2 := att_len (runs b i) ⟨i, i + 1⟩
    unfold runs
    split <;> omega
theorem one_some (i : Nat) : ¬ Emp ⟨(i : Int), (i : Int) + 1⟩ := by unfold Emp; dsimp only; omega
theorem runs_hi (b : Nat → Bool) : ∀ i : Nat, (∀ s ∈ runs b i, 0 ≤ s.lo ∧ s.lo < s.hi ∧ s.hi ≤ i) ∧ (∀ j, i = j + 1 → b j = true → ∃ ini x, runs b i = ini ++ [x] ∧ x.hi = (i : Int)) ∧ (∀ j, i = j + 1 → b j = false → ∀ s ∈ runs b i, s.hi < (i : Int))
  | 0 => by simp [runs]
  | i + 1 => by
    obtain ⟨h1, h2, h3⟩ := runs_hi b i
    cases hb : b i
    · have e : runs b (i + 1) = runs b i := by show (if b i then _ else _) = _; rw [hb]; rfl
      rw [e]
      refine ⟨fun s hs => ?_, fun j hj hbj => ?_, fun j hj hbj s hs => ?_⟩
      · have := h1 s hs; omega
      · obtain rfl : i = j := by omega
        rw [hb] at hbj; cases hbj
      · have := h1 s hs; omega
    · have e : runs b (i + 1) = att (runs b i) ⟨i, i + 1⟩ := by show (if b i then _ else _) = _; rw [hb]; rfl
      have key : ∃ ini x, runs b (i + 1) = ini ++ [x] ∧ x.hi = ((i + 1 : Nat) : Int) ∧ ∀ s ∈ runs b (i + 1), 0 ≤ s.lo ∧ s.lo < s.hi ∧ s.hi ≤ ((i + 1 : Nat) : Int) := by
        rw [e]
        rcases snoc_cases (runs b i) with q | ⟨ini, x, q⟩
        · rw [q, att_nil (one_some i)]
          refine ⟨[], _, rfl, by simp, ?_⟩
          intro s hs; simp at hs; subst hs; dsimp only; omega
        · have hx := h1 x (by rw [q]; simp)
          have hall : ∀ s ∈ ini, 0 ≤ s.lo ∧ s.lo < s.hi ∧ s.hi ≤ i := fun s hs => h1 s (by rw [q]; simp [hs])
          rw [q]
          by_cases hc : (i : Int) ≤ x.hi
          · rw [att_join (one_some i) hc]
            refine ⟨ini, _, rfl, by dsimp only; omega, ?_⟩
            intro s hs
            rcases List.mem_append.1 hs with hs | hs
            · have := hall s hs; omega
            · simp at hs; subst hs; dsimp only; omega
          · rw [att_more (one_some i) hc]
            refine ⟨_, _, rfl, by simp, ?_⟩
            intro s hs
            rcases List.mem_append.1 hs with hs | hs
            · have := h1 s (by rw [q]; exact hs); omega
            · simp at hs; subst hs; dsimp only; omega
      obtain ⟨ini, x, k1, k2, k3⟩ := key
      refine ⟨k3, fun j hj hbj => ⟨ini, x, k1, k2⟩, fun j hj hbj => ?_⟩
      obtain rfl : i = j := by omega
      rw [hb] at hbj; cases hbj
theorem runs_norm (b : Nat → Bool) : ∀ i : Nat, Norm (runs b i) ∧ ∀ j, In (runs b i) j ↔ 0 ≤ j ∧ j < i ∧ b j.toNat = true
  | 0 => ⟨Norm.nil, fun j => ⟨fun h => absurd h In.nil, fun h => by have := h.2.1; omega⟩⟩
  | i + 1 => by
    obtain ⟨h1, h2⟩ := runs_norm b i
    cases hb : b i
    · have e : runs b (i + 1) = runs b i := by show (if b i then _ else _) = _; rw [hb]; rfl
      rw [e]
      refine ⟨h1, fun j => ?_⟩
      rw [h2]
      constructor
      · rintro ⟨a, c, d⟩; exact ⟨a, by omega, d⟩
      · rintro ⟨a, c, d⟩
        refine ⟨a, ?_, d⟩
        by_cases q : j = i
        · subst q; simp [hb] at d
        · omega
    · have e : runs b (i + 1) = att (runs b i) ⟨i, i + 1⟩ := by show (if b i then _ else _) = _; rw [hb]; rfl
      rw [e]
      obtain ⟨a1, a2⟩ := att_norm (s := ⟨(i : Int), (i : Int) + 1⟩) h1 fun _ x hx => by have := (runs_hi b i).1 x hx; dsimp only; omega
      refine ⟨a1, fun j => ?_⟩
      rw [a2, h2]
      dsimp only
      constructor
      · rintro (⟨a, c, d⟩ | ⟨a, c⟩)
        · exact ⟨a, by omega, d⟩
        · obtain rfl : j = i := by omega
          exact ⟨by omega, by omega, by simpa using hb⟩
      · rintro ⟨a, c, d⟩
        by_cases q : j = i
        · exact .inr (by omega)
        · exact .inl ⟨a, by omega, d⟩
theorem runs_eq {b : Nat → Bool} {n : Nat} {l : List SpM} (h : Norm l) (he : ∀ j, In l j ↔ 0 ≤ j ∧ j < n ∧ b j.toNat = true) : runs b n = l :=
  norm_one (runs_norm b n).1 h fun i => by rw [(runs_norm b n).2, he]
end Go.Proofs.Ytdiogfhbgmkajaa.SpanM
