/-
  sort.Slice over the document's words, by the library's contract.
-/
import Derived.Test.YtedlgobpoifnfaaSortLay
import Derived.Test.YtedlgobpoifnfaaWordAt
import Derived.Lib.Strings
import Derived.BigQuiet
namespace Go.Proofs.Ytedlgobpoifnfaa.WordR
open Go.RowKit Kit WordM LineM WordC Go.Shelf Go.Lib Go.Sort

theorem ty_words : ∃ i, Try.prog.info? 22 = some i ∧ i.desc = .slice 46 := ⟨(Try.prog.info? 22).get (by kernel_rfl), by kernel_rfl, by kernel_rfl⟩
noncomputable def tyW : TypeInfo := (Try.prog.info? 46).get (by kernel_rfl)
theorem tyW_is : Try.prog.info? 46 = some tyW := by kernel_rfl
theorem swap9 (n : Nat) (h2 : 2 ≤ n) : Lib.swapperK n tyW 25 = 9 := by
  have a : tyW.hasPointers = true := by kernel_rfl
  have b : tyW.bytes = 40 := by kernel_rfl
  have c : (n == 0) = false := by simp; omega
  have d : (n == 1) = false := by simp; omega
  simp [Lib.swapperK, a, b, c, d]
/-- a word whose places lie in a slice -/
abbrev Sw := { t : Wt // ∃ a n c, t.2.1 = Value.slice a n c }
instance swInh : Inhabited Sw := ⟨⟨([], .slice none 0 0, []), ⟨none, 0, 0, rfl⟩⟩⟩
def cs (t : Sw) : List Value := cw t.1
theorem cs_len (t : Sw) : (cs t).length = 2 := rfl
theorem flat_cs (l : List Sw) : flatC cs l = flatC cw (l.map (·.1)) := by
  induction l with
  | nil => rfl
  | cons t l ih => rw [List.map_cons, flatC_cons, flatC_cons, ih]; rfl
def ltW (t u : Sw) : Bool := decide (t.1.1 < u.1.1)
theorem swo_ltW : SWO ltW where
  irrefl x := by simp [ltW, List.lt_irrefl]
  trans x y z h1 h2 := by simp only [ltW, decide_eq_true_eq] at *; exact List.lt_trans h1 h2
  ntrans x y z h1 h2 := by
    simp only [ltW, decide_eq_false_iff_not, List.not_lt] at *
    exact List.le_trans h2 h1
set_option maxHeartbeats 2000000 in
theorem less (blk off c Bs size : Nat) (W : World) (G : Nat → ByteArray) (hs : W.cell? ⟨Bs, 0, none⟩ = some (.slice (some ⟨blk, off, none⟩) size c))
    (hc : ∀ t, t < size → W.cell? ⟨blk, off + t * 2, none⟩ = some (.string (G t))) (i j : Nat) (hi : i < size) (hj : j < size) (_hsz : size < 4611686018427387904) :
    Calls Try.prog 28 #[.int .i64 i, .int .i64 j, .pointer (some ⟨Bs, 0, none⟩)] W fun e w' => e = .returned (.bool (Op.bytesLess (G i).toList (G j).toList)) ∧ ∃ q, w' = W.drewN q := by
  have ci := hc i hi
  have cj := hc j hj
  go_enter Try.func28, Try.ntmps28
  go_wp2
  go_quiet (fail)
  go_wp2
  go_ret
  exact ⟨rfl, nq, rfl⟩
theorem holdsK_row {w : World} {base g cap : Nat} {L : List Sw} (h : w.ownsRow base 46 2 (.slice (some ⟨g, 0, none⟩) L.length cap) L.length (flatC cs L)) : HoldsK cs 2 w g 0 L.toArray := by
  intro t ht
  have ht' : t < L.length * 2 := by simpa using ht
  refine ⟨?_, by rw [Nat.zero_add]; exact h.frozenAt t⟩
  rw [Nat.zero_add, h.cellAt t ht', get_flatK _ _ _ _ (by simpa using ht')]
  have hd : t / 2 < L.length := by omega
  have ho : L[t / 2]? = some L[t / 2] := by simp [hd]
  have := flatC_get cs_len L (t / 2) _ (t % 2) ho (by omega)
  rw [show t / 2 * 2 + t % 2 = t by omega] at this
  rw [this]
  have e1 : (L.toArray[t / 2]!) = L[t / 2] := by simp [hd]
  rw [e1]
  show (cs L[t / 2])[t % 2]? = some (id (cs L[t / 2])[t % 2]!)
  rcases (by omega : t % 2 = 0 ∨ t % 2 = 1) with e | e <;> rw [e] <;> simp [cs, cw]
theorem slAt_of_holdsK {w : World} {g : Nat} {d : Array Sw} (h : HoldsK cs 2 w g 0 d) (hg : g < w.heap.size) : SlAt 2 cs w (some ⟨g, 0, none⟩) d.toList where
  cell i o hi := by
    refine ⟨g, 0, rfl, hg, fun j hj => ?_⟩
    have hil : i < d.size := by simpa using (List.getElem?_eq_some_iff.1 hi).1
    have e : d[i]! = o := by
      have := (List.getElem?_eq_some_iff.1 hi).2
      rw [← this]; simp [hil]
    have := (h.cell (i := i) (c := j) hil hj).1
    rw [e] at this
    rw [this]
    rcases (by omega : j = 0 ∨ j = 1) with e | e <;> subst e <;> simp [cs, cw]
theorem grownBy_sortedW {w : World} {g n : Nat} {os : Array Obj} (d : Array Sw) : w.grownBy (Sort.grow (putRowK cs 2 (Sort.ahead w n) g 0 d) os) (some g) := by
  refine ⟨rfl, rfl, rfl, by simp [Sort.grow, putRowK, putRow, mapBlock, Sort.ahead], fun k hk hne => ?_⟩
  rw [heap_grow_old _ _ (by simpa [putRowK, putRow, mapBlock, Sort.ahead] using hk)]
  have : g ≠ k := fun e => hne (by rw [e])
  simp [putRowK, putRow, mapBlock, Sort.ahead, Array.getElem?_modify, this]

/-- what a sort leaves -/
def SortedPost (w : World) (g : Nat) (L : List Wt) (e : Ending) (w' : World) : Prop := e = .returned (.tuple #[]) ∧ ∃ L' : List Wt, L'.Perm L ∧ L'.Pairwise (fun a b => ¬ b.1 < a.1) ∧ SlAt 2 cw w' (some ⟨g, 0, none⟩) L' ∧ w.grownBy w' (some g)

theorem sortSliceS (base g cap Bs : Nat) (L : List Sw) (w : World) (hrow : w.ownsRow base 46 2 (.slice (some ⟨g, 0, none⟩) L.length cap) L.length (flatC cs L)) (hBs : w.cell? ⟨Bs, 0, none⟩ = some (.slice (some ⟨g, 0, none⟩) L.length cap)) (hlt : Bs < base) (h2 : 2 ≤ L.length) (hl : L.length ≤ 600) :
    Calls Try.prog 27 #[.iface 22 (.slice (some ⟨g, 0, none⟩) L.length cap), .func (.func 28) #[] #[.pointer (some ⟨Bs, 0, none⟩)]] w (fun e w' => e = .returned (.tuple #[]) ∧ ∃ L' : List Sw, L'.Perm L ∧ L'.Pairwise (fun a b => ¬ b.1.1 < a.1.1) ∧ SlAt 2 cs w' (some ⟨g, 0, none⟩) L' ∧ w.grownBy w' (some g)) := by
  obtain ⟨i, hi, hd⟩ := ty_words
  have hgl := (hrow.lt g rfl).2
  have hgb := (hrow.lt g rfl).1
  have hB1 := block_lt hBs
  have hB2 : Bs ≠ g := by omega
  have hH := holdsK_row hrow
  have hsz : L.toArray.size = L.length := by simp
  have hless : LessReadsK Try.prog 28 #[.pointer (some ⟨Bs, 0, none⟩)] cs 2 ltW g 0 L.toArray.size w := by
    intro m os dk hs i j hi hj
    have e : sortWorldK cs 2 w g 0 m dk os = putRowK cs 2 (Sort.grow (Sort.ahead w m) os) g 0 dk := by
      unfold sortWorldK; rw [putRowK_grow _ _ (Sort.ahead w m) _ g 0 _ hgl]
    have hHg : HoldsK cs 2 (Sort.grow (Sort.ahead w m) os) g 0 L.toArray := holdsK_grow _ _ _ _ g 0 L.toArray hgl (holdsK_ahead _ _ _ _ _ _ _ hH)
    have hr := less g 0 cap Bs L.toArray.size (sortWorldK cs 2 w g 0 m dk os) (fun t => bs dk[t]!.1.1)
      (by rw [e, cell?_putRowK_other _ _ _ g 0 dk _ (by exact hB2), cell?_grow _ _ _ (by exact hB1), hsz]; exact hBs)
      (fun t ht => by rw [e]; exact ((holdsK_putRowK _ _ _ g 0 L.toArray dk hHg hs).cell (i := t) (c := 0) (by omega) (by omega)).1) i j hi hj (by omega)
    have eb : Op.bytesLess (bs dk[i]!.1.1).toList (bs dk[j]!.1.1).toList = ltW dk[i]! dk[j]! := by
      rw [bytesLess_eq, Lib.toList_data, Lib.toList_data]; rfl
    rw [eb] at hr
    exact hr
  have hS := Any.sort_Slice_cells_sorted SortLay.slice 22 46 i tyW hi hd (by kernel_rfl) tyW_is 25 (fun _ => by kernel_rfl) cs 2 cs_len (by kernel_rfl) (fun _ => by kernel_rfl)
    (fun x v hv => by
      obtain ⟨t, a, n, c, e⟩ := x
      simp [cs, cw] at hv
      rcases hv with rfl | rfl
      · rfl
      · rw [e]; rfl) ltW swo_ltW 28 #[.pointer (some ⟨Bs, 0, none⟩)]
    (enters_of Try.func28 (by kernel_rfl) rfl) g 0 cap L.toArray (by omega) (by omega) 64 (by rw [swap9 _ (by omega)]; kernel_rfl) false
    (fun args W => run_callFunc_extern Try.func64 (by kernel_rfl) (by kernel_rfl) (by kernel_rfl) (e := Extern.ReflectliteSwapper.swap false) (by kernel_rfl) args W) w hless hH hgl
  rw [hsz] at hS
  refine hS.mono ?_
  rintro e w' ⟨rfl, d', n, os, hp, hso, rfl⟩
  refine ⟨rfl, d'.toList, ?_, ?_, ?_, grownBy_sortedW d'⟩
  · have := hp.2.2
    have e1 : d'.size = L.length := by rw [hp.1, hsz]
    have e2 : d'.extract 0 L.length = d' := by rw [← e1]; simp
    have e3 : L.toArray.extract 0 L.length = L.toArray := by rw [← hsz]; simp
    rw [e2, e3] at this
    simpa using this
  · rw [List.pairwise_iff_getElem]
    intro i j hi hj hij
    have e1 : d'.size = L.length := by rw [hp.1, hsz]
    have := hso i j (by omega) hij (by simp at hj; omega)
    simp only [ltW, decide_eq_false_iff_not] at this
    simp at hi hj
    simpa [hi, hj] using this
  · refine slAt_of_holdsK ?_ ?_
    · refine holdsK_grow _ _ _ _ g 0 _ (by rw [size_putRowK]; exact hgl) ?_
      exact holdsK_putRowK _ _ _ g 0 L.toArray d' (holdsK_ahead _ _ _ _ _ _ _ hH) hp.1
    · simp [Sort.grow, putRowK, putRow, mapBlock, Sort.ahead]; omega
theorem sortSlice (base g cap Bs : Nat) (L : List Wt) (hL : ∀ t ∈ L, ∃ a n c, t.2.1 = Value.slice a n c) (w : World) (hrow : w.ownsRow base 46 2 (.slice (some ⟨g, 0, none⟩) L.length cap) L.length (flatC cw L)) (hBs : w.cell? ⟨Bs, 0, none⟩ = some (.slice (some ⟨g, 0, none⟩) L.length cap)) (hlt : Bs < base) (h2 : 2 ≤ L.length) (hl : L.length ≤ 600) :
    Calls Try.prog 27 #[.iface 22 (.slice (some ⟨g, 0, none⟩) L.length cap), .func (.func 28) #[] #[.pointer (some ⟨Bs, 0, none⟩)]] w (SortedPost w g L) := by
  obtain ⟨M, rfl⟩ : ∃ M : List Sw, L = M.map (·.1) := ⟨L.attachWith _ hL, by simp; exact (List.attach_map_subtype_val L).symm⟩
  rw [← flat_cs] at hrow
  simp only [List.length_map] at hrow hBs h2 hl ⊢
  refine (sortSliceS base g cap Bs M w hrow hBs hlt h2 hl).mono ?_
  rintro e w' ⟨rfl, M', hp, hso, hat, hg⟩
  refine ⟨rfl, M'.map (·.1), hp.map _, List.pairwise_map.2 hso, ⟨fun i o hi => ?_⟩, hg⟩
  rw [List.getElem?_map] at hi
  cases hm : M'[i]? with
  | none => rw [hm] at hi; cases hi
  | some t =>
    rw [hm] at hi
    simp only [Option.map_some, Option.some.injEq] at hi
    subst hi
    exact hat.cell i t hm
end Go.Proofs.Ytedlgobpoifnfaa.WordR
