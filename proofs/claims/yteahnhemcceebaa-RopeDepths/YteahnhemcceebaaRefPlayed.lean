/-
  The document's answer for Play.
-/
import Derived.Test.YteahnhemcceebaaRopeSpec
import Derived.Test.YteahnhemcceebaaRopeBuild
import Derived.Test.YteahnhemcceebaaRopePlay
import Derived.Test.YteahnhemcceebaaBoxes
import Derived.Deep.CutBlock
import Derived.OneCell
namespace Go.Proofs.Yteahnhemcceebaa.RefC
open Go.RowKit Kit RopeM RopeC

/-- the closure that asks whether a text exists -/
theorem has1 (x : Int) (k : Nat) (a : Option Addr) (n cap : Nat) (w : World) (hc : w.cell? ⟨k, 0, none⟩ = some (.slice a n cap)) :
    Calls Try.prog 28 #[.int .i64 x, .pointer (some ⟨k, 0, none⟩)] w fun e w' => e = .returned (.bool (has x n)) ∧ w = w' := by
  by_cases h : 0 ≤ x
  · go_enter Try.func28, Try.ntmps28
    go_wp2
    go_ret
    exact ⟨by simp [has, h], rfl⟩
  · have h' : x < 0 := by omega
    go_enter Try.func28, Try.ntmps28
    go_wp2
    go_ret
    exact ⟨by simp [has]; omega, rfl⟩

/-- the first error of an operation, the length of what it makes aside -/
def code0 (o : OpM) (ts : Tx) : Int :=
  if o.kind < 1 ∨ 5 < o.kind then 3
  else if o.kind ≠ 1 ∧ has o.a ts.length = false then 7
  else if o.kind = 2 ∧ has o.b ts.length = false then 7
  else if inR o ts = false then 2
  else if 60 ≤ ts.length then 8
  else 0
def out0 (o : OpM) (ts : Tx) : List UInt8 := if code0 o ts = 0 then newT o ts else []
theorem code_of0 (o : OpM) (ts : Tx) : code o ts = if code0 o ts = 0 then (if 600 < (out0 o ts).length then 1 else 0) else code0 o ts := by
  unfold out0
  unfold code code0
  repeat' split
  all_goals first | rfl | omega | simp_all
theorem out0_of {o : OpM} {ts : Tx} (h : code0 o ts = 0) : out0 o ts = newT o ts := by unfold out0; rw [if_pos h]
theorem out0_no {o : OpM} {ts : Tx} (h : code0 o ts ≠ 0) : out0 o ts = [] := by unfold out0; rw [if_neg h]

/-- a slice of texts -/
def TextsAt (w : World) (a : Option Addr) (ts : Tx) : Prop := ∀ (i : Nat) t, ts[i]? = some t → ∃ g, a = some ⟨g, 0, none⟩ ∧ g < w.heap.size ∧ w.cell? ⟨g, i, none⟩ = some (.string ⟨t.toArray⟩)
theorem TextsAt.next {w w' : World} {a : Option Addr} {ts : Tx} (h : TextsAt w a ts) (hb : Below w.heap.size w w') : TextsAt w' a ts := fun i t hi => by
  obtain ⟨g, h1, h2, h3⟩ := h i t hi
  exact ⟨g, h1, Nat.lt_of_lt_of_le h2 hb.size, keep hb h2 h3⟩
theorem has_text {x : Int} {ts : Tx} (h : has x ts.length = true) : ∃ i : Nat, ∃ t, x = (i : Int) ∧ i < ts.length ∧ ts[i]? = some t ∧ nth ts x = t := by
  simp only [has, Bool.and_eq_true, decide_eq_true_eq] at h
  obtain ⟨h1, h2⟩ := h
  have hi : x.toNat < ts.length := by omega
  exact ⟨x.toNat, ts[x.toNat], by omega, hi, by simp [hi], by simp [nth, List.getD_eq_getElem?_getD, hi]⟩

/-- what the loop keeps -/
structure RA (w : World) (l : List OpM) (i : Nat) (tv cv : Value) (wr : World) : Prop where
  box : Boxed wr w.heap.size 23 tv
  trow : wr.ownsRow w.heap.size 9 1 tv (texts (l.take i) []).length ((texts (l.take i) []).map strV)
  crow : wr.ownsRow w.heap.size 25 1 cv i (ints (codes (l.take i) []))
  bel : Below w.heap.size w wr
theorem RA.next {w : World} {l : List OpM} {i : Nat} {tv cv : Value} {w1 w2 : World} (h : RA w l i tv cv w1) (hb : Below w1.heap.size w1 w2) : RA w l i tv cv w2 :=
  ⟨h.box.kept (below_grows hb) (by simp), row_next h.trow hb, row_next h.crow hb, bstep h.bel hb⟩
theorem RA.opened {w : World} {l : List OpM} {i : Nat} {tv cv : Value} {w1 : World} (h : RA w l i tv cv w1) : ∃ p cap, tv = .slice p (texts (l.take i) []).length cap ∧ TextsAt w1 p (texts (l.take i) []) := by
  rcases h.trow.2 with ⟨e, h0⟩ | ⟨g, cap, cur, e, hb, hg, h1, h2, h3, h4⟩
  · refine ⟨none, 0, by rw [e, h0], fun i t hi => ?_⟩
    rw [List.eq_nil_of_length_eq_zero h0] at hi; simp at hi
  · refine ⟨some ⟨g, 0, none⟩, cap, e, fun j t hj => ⟨g, rfl, (h.trow.lt g (by rw [e]; rfl)).2, ?_⟩⟩
    have hlt := (List.getElem?_eq_some_iff.1 hj).1
    have := h.trow
    rw [e] at this
    rw [this.cellAt j (by omega)]
    simp [strV, hj]
theorem take_snoc {l : List OpM} {i : Nat} {o : OpM} (hi : l[i]? = some o) : l.take (i + 1) = l.take i ++ [o] := by
  have h := List.getElem?_eq_some_iff.1 hi
  rw [List.take_succ_eq_append_getElem h.1, h.2]
theorem texts_no {l : List OpM} {i : Nat} {o : OpM} (hi : l[i]? = some o) (hc : code o (texts (l.take i) []) ≠ 0) : texts (l.take (i + 1)) [] = texts (l.take i) [] := by
  rw [take_snoc hi, texts_append]; simp [RopeM.texts, nextT, hc]
theorem texts_yes {l : List OpM} {i : Nat} {o : OpM} (hi : l[i]? = some o) (hc : code o (texts (l.take i) []) = 0) : texts (l.take (i + 1)) [] = texts (l.take i) [] ++ [newT o (texts (l.take i) [])] := by
  rw [take_snoc hi, texts_append]; simp [RopeM.texts, nextT, hc]
theorem codes_next {l : List OpM} {i : Nat} {o : OpM} (hi : l[i]? = some o) : ints (codes (l.take (i + 1)) []) = ints (codes (l.take i) []) ++ [.int .i64 (code o (texts (l.take i) []))] := by
  rw [take_snoc hi, codes_append]; simp [ints, codes]
/-- behind the codes' append -/
theorem RA.mid {w : World} {l : List OpM} {i : Nat} {tv cv cv' : Value} {w1 w2 : World} {o : OpM} (h : RA w l i tv cv w1) (hi : l[i]? = some o)
    (hrow : w2.ownsRow w.heap.size 25 1 cv' (i + 1) (ints (codes (l.take i) []) ++ [.int .i64 (code o (RopeM.texts (l.take i) []))])) (hg : w1.grownBy w2 cv.ownBlock) :
    Boxed w2 w.heap.size 23 tv ∧ w2.ownsRow w.heap.size 9 1 tv (RopeM.texts (l.take i) []).length ((RopeM.texts (l.take i) []).map strV) ∧ w2.ownsRow w.heap.size 25 1 cv' (i + 1) (ints (codes (l.take (i + 1)) [])) ∧ Below w.heap.size w w2 :=
  ⟨h.box.kept hg (h.box.not_row (by decide) h.crow), h.trow.kept hg (apart h.trow h.crow (by decide)), by rw [codes_next hi]; exact hrow, h.bel.grown hg h.bel.size (fun k e => (h.crow.lt k e).1)⟩

/-- behind the texts' append and the store -/
theorem RA.last {w : World} {l : List OpM} {i : Nat} {tv cv' tv' : Value} {w4 w5 : World} {o : OpM} {ts : Tx} {x : Value} {tmp : Obj} (hbox : Boxed w4 w.heap.size 23 tv) (htr : w4.ownsRow w.heap.size 9 1 tv ts.length (ts.map strV))
    (hcr : w4.ownsRow w.heap.size 25 1 cv' (i + 1) (ints (codes (l.take (i + 1)) []))) (hbel : Below w.heap.size w w4) (hts : texts (l.take i) [] = ts) (hi : l[i]? = some o) (hc : code o (texts (l.take i) []) = 0) (hx : x = strV (newT o ts))
    (hown : w5.ownsRow w.heap.size 9 1 tv' (ts.length + 1) ((texts (l.take i) []).map strV ++ [x])) (hg : (w4.alloc tmp).grownBy w5 tv.ownBlock) :
    w5.cell? ⟨w.heap.size, 0, none⟩ = some tv ∧ w5.frozen? ⟨w.heap.size, 0, none⟩ = false ∧ Hid (RA w l (i + 1) tv' cv' (w5.setCell ⟨w.heap.size, 0, none⟩ tv')) := by
  obtain ⟨h1, h2, h3, _, h5⟩ := hbox.appended (by decide) htr hbel.size (Nat.le_refl _) hown hg
  refine ⟨h1.cell, h1.frozen, Lib.hid ⟨h2, ?_, ?_, hbel.trans h5⟩⟩
  · rw [texts_yes hi hc, hts, List.length_append, List.length_singleton, List.map_append, ← hts]
    rw [hx, ← hts] at h3
    exact h3
  · have hc2 : w5.ownsRow w.heap.size 25 1 cv' (i + 1) (ints (codes (l.take (i + 1)) [])) := (hcr.alloc tmp).kept hg (apart (hcr.alloc tmp) (htr.alloc tmp) (by decide))
    exact ownsRow_setCell_other hc2 (fun e => h1.not_row (by decide) hc2 e.symm) _

end Go.Proofs.Yteahnhemcceebaa.RefC
