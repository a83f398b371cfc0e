/-
  Package rope: operations and what they make, on plain lists; slices of ropes. No program is named.
-/
import Derived.Test.YtkckhjljindgmaaRopeTree
namespace Go.Proofs.Ytkckhjljindgmaa.RopeM
open Go.RowKit Kit

/-- k copies -/
def cop (l : List UInt8) : Nat → List UInt8
  | 0 => []
  | k + 1 => cop l k ++ l
theorem cop_length (l : List UInt8) : ∀ k, (cop l k).length = k * l.length
  | 0 => by simp [cop]
  | k + 1 => by rw [cop, List.length_append, cop_length l k, Nat.succ_mul]

structure OpM where
  kind : Int
  text : ByteArray
  a : Int
  b : Int
  at_ : Int
  cnt : Int
def OpM.cells (o : OpM) : Array Value := #[.int .i64 o.kind, .string o.text, .int .i64 o.a, .int .i64 o.b, .int .i64 o.at_, .int .i64 o.cnt]
def OpM.val (o : OpM) : Value := .agg o.cells

abbrev Tx := List (List UInt8)
def has (x : Int) (n : Nat) : Bool := decide (0 ≤ x) && decide (x < (n : Int))
def nth (ts : Tx) (x : Int) : List UInt8 := ts.getD x.toNat []
def inR (o : OpM) (ts : Tx) : Bool :=
  if o.kind = 3 ∨ o.kind = 4 then decide (0 ≤ o.at_) && decide (o.at_ ≤ ((nth ts o.a).length : Int))
  else if o.kind = 5 then decide (0 ≤ o.cnt) && decide (o.cnt ≤ 4)
  else true
def newT (o : OpM) (ts : Tx) : List UInt8 :=
  if o.kind = 2 then nth ts o.a ++ nth ts o.b
  else if o.kind = 3 then (nth ts o.a).take o.at_.toNat
  else if o.kind = 4 then (nth ts o.a).drop o.at_.toNat
  else if o.kind = 5 then cop (nth ts o.a) o.cnt.toNat
  else o.text.data.toList
/-- the first error of an operation; 0 if there is none -/
def code (o : OpM) (ts : Tx) : Int :=
  if o.kind < 1 ∨ 5 < o.kind then 3
  else if o.kind ≠ 1 ∧ has o.a ts.length = false then 7
  else if o.kind = 2 ∧ has o.b ts.length = false then 7
  else if inR o ts = false then 2
  else if 60 ≤ ts.length then 8
  else if 600 < (newT o ts).length then 1
  else 0
def nextT (o : OpM) (ts : Tx) : Tx := if code o ts = 0 then ts ++ [newT o ts] else ts
/-- the texts behind some operations -/
def texts : List OpM → Tx → Tx
  | [], ts => ts
  | o :: l, ts => texts l (nextT o ts)
def codes : List OpM → Tx → List Int
  | [], _ => []
  | o :: l, ts => code o ts :: codes l (nextT o ts)
theorem texts_append (l m : List OpM) (ts : Tx) : texts (l ++ m) ts = texts m (texts l ts) := by
  induction l generalizing ts with
  | nil => rfl
  | cons o l ih => simp [texts, ih]
theorem codes_append (l m : List OpM) (ts : Tx) : codes (l ++ m) ts = codes l ts ++ codes m (texts l ts) := by
  induction l generalizing ts with
  | nil => rfl
  | cons o l ih => simp [codes, texts, ih]
theorem codes_length (l : List OpM) (ts : Tx) : (codes l ts).length = l.length := by
  induction l generalizing ts with
  | nil => rfl
  | cons o l ih => simp [codes, ih]

/-- few texts, none of them long -/
def Fine (ts : Tx) : Prop := ts.length ≤ 60 ∧ ∀ t ∈ ts, t.length ≤ 600
theorem Fine.nil : Fine [] := ⟨by simp, fun t h => by simp at h⟩
theorem Fine.step {ts : Tx} (h : Fine ts) (o : OpM) : Fine (nextT o ts) := by
  unfold nextT
  by_cases hc : code o ts = 0
  · rw [if_pos hc]
    unfold code at hc
    split at hc
    · omega
    · split at hc
      · omega
      · split at hc
        · omega
        · split at hc
          · omega
          · split at hc
            · omega
            · split at hc
              · omega
              · rename_i h1 h2
                refine ⟨by rw [List.length_append, List.length_singleton]; omega, ?_⟩
                intro t ht
                rw [List.mem_append, List.mem_singleton] at ht
                rcases ht with ht | rfl
                · exact h.2 t ht
                · omega
  · rw [if_neg hc]; exact h
theorem Fine.texts {l : List OpM} {ts : Tx} (h : Fine ts) : Fine (texts l ts) := by
  induction l generalizing ts with
  | nil => exact h
  | cons o l ih => exact ih (h.step o)
theorem Fine.nth {ts : Tx} (h : Fine ts) (x : Int) : (nth ts x).length ≤ 600 := by
  unfold RopeM.nth
  rw [List.getD_eq_getElem?_getD]
  cases hx : ts[x.toNat]? with
  | none => simp
  | some t => exact h.2 t (List.mem_of_getElem? hx)

/-- a slice of ropes -/
structure Ropes (w : World) (a : Option Addr) (ts : List RT) : Prop where
  cell : ∀ (i : Nat) t, ts[i]? = some t → ∃ g, a = some ⟨g, 0, none⟩ ∧ g < w.heap.size ∧ w.cell? ⟨g, i, none⟩ = some (.pointer t.addr)
  rope : ∀ (i : Nat) t, ts[i]? = some t → RopeAt w t
theorem Ropes.next {w w' : World} {a : Option Addr} {ts : List RT} (h : Ropes w a ts) (hb : Below w.heap.size w w') : Ropes w' a ts where
  cell i t hi := by
    obtain ⟨g, h1, h2, h3⟩ := h.cell i t hi
    exact ⟨g, h1, Nat.lt_of_lt_of_le h2 hb.size, keep hb h2 h3⟩
  rope i t hi := (h.rope i t hi).next hb
theorem Ropes.nil (w : World) (a : Option Addr) : Ropes w a [] := ⟨fun i t h => by simp at h, fun i t h => by simp at h⟩
def txts (ts : List RT) : Tx := ts.map RT.txt
theorem txts_length (ts : List RT) : (txts ts).length = ts.length := by simp [txts]
theorem has_some {x : Int} {ts : List RT} (h : has x ts.length = true) : ∃ i : Nat, ∃ t, x = (i : Int) ∧ i < ts.length ∧ ts[i]? = some t ∧ nth (txts ts) x = t.txt := by
  simp only [has, Bool.and_eq_true, decide_eq_true_eq] at h
  obtain ⟨h1, h2⟩ := h
  have hi : x.toNat < ts.length := by omega
  refine ⟨x.toNat, ts[x.toNat], by omega, hi, by simp [hi], ?_⟩
  simp [nth, txts, List.getD_eq_getElem?_getD, hi]

end Go.Proofs.Ytkckhjljindgmaa.RopeM
