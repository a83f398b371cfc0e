/-
  Ropes as the walks read them: a tree of leaves and pairs in memory.
-/
import Derived.Test.YtkckhjljindgmaaKit
import Derived.Laws.AppendOwn
namespace Go.Proofs.Ytkckhjljindgmaa.RopeM
open Go.RowKit Kit

inductive RT where
  | nil
  | leaf (b : Nat) (s : ByteArray)
  | node (b : Nat) (l r : RT)

def RT.addr : RT → Option Addr
  | .nil => none
  | .leaf b _ => some ⟨b, 0, none⟩
  | .node b _ _ => some ⟨b, 0, none⟩
def RT.ptr (t : RT) : Value := .pointer t.addr
def RT.dep : RT → Nat
  | .nil => 0
  | .leaf _ _ => 1
  | .node _ l r => max l.dep r.dep + 1
def RT.len : RT → Nat
  | .nil => 0
  | .leaf _ s => s.size
  | .node _ l r => l.len + r.len
def RT.leaves : RT → List ByteArray
  | .nil => []
  | .leaf _ s => [s]
  | .node _ l r => l.leaves ++ r.leaves
def flat (l : List ByteArray) : List UInt8 := (l.map fun s => s.data.toList).flatten
theorem flat_append (a b : List ByteArray) : flat (a ++ b) = flat a ++ flat b := by simp [flat]
theorem flat_one (s : ByteArray) : flat [s] = s.data.toList := by simp [flat]
theorem flat_nil : flat [] = [] := rfl
def RT.txt (t : RT) : List UInt8 := flat t.leaves
@[simp] theorem RT.txt_nil : RT.nil.txt = [] := rfl
@[simp] theorem RT.txt_leaf (b : Nat) (s : ByteArray) : (RT.leaf b s).txt = s.data.toList := flat_one s
@[simp] theorem RT.txt_node (b : Nat) (l r : RT) : (RT.node b l r).txt = l.txt ++ r.txt := flat_append _ _
theorem RT.txt_len : ∀ t : RT, t.txt.length = t.len
  | .nil => rfl
  | .leaf b s => by simp [RT.len]
  | .node b l r => by simp [RT.len, RT.txt_len l, RT.txt_len r]

/-- balanced, no empty leaf, no empty part -/
def RT.ok : RT → Prop
  | .nil => True
  | .leaf _ s => 0 < s.size
  | .node _ l r => l.ok ∧ r.ok ∧ 0 < l.dep ∧ 0 < r.dep ∧ l.dep ≤ r.dep + 1 ∧ r.dep ≤ l.dep + 1
theorem RT.dep_len : ∀ {t : RT}, t.ok → t.dep ≤ t.len
  | .nil, _ => Nat.le_refl _
  | .leaf b s, h => by simp only [RT.ok] at h; simp only [RT.dep, RT.len]; omega
  | .node b l r, h => by
    obtain ⟨h1, h2, h3, h4, h5, h6⟩ := h
    have := RT.dep_len h1
    have := RT.dep_len h2
    simp only [RT.dep, RT.len]; omega
theorem RT.dep_pos : ∀ {t : RT}, t.ok → (0 < t.dep ↔ 0 < t.len)
  | .nil, _ => by simp [RT.dep, RT.len]
  | .leaf b s, h => by simp only [RT.ok] at h; simp only [RT.dep, RT.len]; omega
  | .node b l r, h => by
    obtain ⟨h1, h2, h3, h4, h5, h6⟩ := h
    have := RT.dep_len h1
    simp only [RT.dep, RT.len]; omega
/-- a balanced tree is shallow -/
theorem RT.shallow : ∀ {t : RT}, t.ok → 0 < t.dep → 2 ^ ((t.dep - 1) / 2) ≤ t.len
  | .nil, _, h => by simp [RT.dep] at h
  | .leaf b s, h, _ => by simp only [RT.ok] at h; simp only [RT.dep, RT.len]; simp; omega
  | .node b l r, h, _ => by
    obtain ⟨h1, h2, h3, h4, h5, h6⟩ := h
    have hl := RT.shallow h1 h3
    have hr := RT.shallow h2 h4
    have hm : ∀ a b : Nat, a ≤ b → 2 ^ a ≤ 2 ^ b := fun a b h => Nat.pow_le_pow_right (by omega) h
    simp only [RT.dep, RT.len]
    by_cases h0 : max l.dep r.dep < 2
    · have : (max l.dep r.dep + 1 - 1) / 2 = 0 := by omega
      rw [this]
      have := RT.dep_len h1
      omega
    · have e : (max l.dep r.dep + 1 - 1) / 2 = (max l.dep r.dep - 2) / 2 + 1 := by omega
      rw [e, Nat.pow_succ]
      have a1 := hm ((max l.dep r.dep - 2) / 2) ((l.dep - 1) / 2) (by omega)
      have a2 := hm ((max l.dep r.dep - 2) / 2) ((r.dep - 1) / 2) (by omega)
      omega

/-- the block is a node's -/
def Typ (w : World) (b : Nat) : Prop := ∃ cs fr, w.heap[b]? = some (.cells cs 109 fr)
theorem Typ.new (w : World) (cs : Array Value) : Typ (w.alloc (.cells cs 109)) w.heap.size := ⟨cs, _, by unfold World.alloc; simp only [Array.getElem?_push_size]; rfl⟩
theorem Typ.next {w w' : World} {b : Nat} (h : Typ w b) (hlt : b < w.heap.size) (hb : Below w.heap.size w w') : Typ w' b := by
  obtain ⟨cs, fr, h⟩ := h
  exact ⟨cs, fr, (hb.block b hlt).trans h⟩

/-- the tree lies in memory -/
def Lies (w : World) : RT → Prop
  | .nil => True
  | .leaf b s => b < w.heap.size ∧ w.cell? ⟨b, 0, none⟩ = some (.int .i64 1) ∧ w.cell? ⟨b, 1, none⟩ = some (.int .i64 s.size) ∧ w.cell? ⟨b, 2, none⟩ = some (.string s) ∧ Typ w b
  | .node b l r => b < w.heap.size ∧ w.cell? ⟨b, 0, none⟩ = some (.int .i64 ((max l.dep r.dep + 1 : Nat) : Int)) ∧ w.cell? ⟨b, 1, none⟩ = some (.int .i64 ((l.len + r.len : Nat) : Int)) ∧
      w.cell? ⟨b, 3, none⟩ = some l.ptr ∧ w.cell? ⟨b, 4, none⟩ = some r.ptr ∧ Lies w l ∧ Lies w r ∧ Typ w b
theorem Lies.next {w w' : World} (hb : Below w.heap.size w w') : ∀ {t : RT}, Lies w t → Lies w' t
  | .nil, _ => trivial
  | .leaf _ _, ⟨h0, h1, h2, h3, h4⟩ => ⟨Nat.lt_of_lt_of_le h0 hb.size, keep hb h0 h1, keep hb h0 h2, keep hb h0 h3, h4.next h0 hb⟩
  | .node _ _ _, ⟨h0, h1, h2, h3, h4, h5, h6, h7⟩ => ⟨Nat.lt_of_lt_of_le h0 hb.size, keep hb h0 h1, keep hb h0 h2, keep hb h0 h3, keep hb h0 h4, h5.next hb, h6.next hb, h7.next h0 hb⟩
/-- a tree stays while some row of another type turns -/
theorem Lies.grown {w w' : World} {row : Option Nat} (hg : w.grownBy w' row) (hr : ∀ k, row = some k → ¬ Typ w k) : ∀ {t : RT}, Lies w t → Lies w' t
  | .nil, _ => trivial
  | .leaf b _, ⟨h0, h1, h2, h3, h4⟩ => by
    have hb : w'.heap[b]? = w.heap[b]? := hg.block b h0 (fun e => hr b e.symm h4)
    have hc : ∀ o, w'.cell? ⟨b, o, none⟩ = w.cell? ⟨b, o, none⟩ := fun o => World.cell?_of_block hb
    obtain ⟨cs, fr, h4⟩ := h4
    exact ⟨Nat.lt_of_lt_of_le h0 hg.size, (hc 0).trans h1, (hc 1).trans h2, (hc 2).trans h3, cs, fr, hb.trans h4⟩
  | .node b _ _, ⟨h0, h1, h2, h3, h4, h5, h6, h7⟩ => by
    have hb : w'.heap[b]? = w.heap[b]? := hg.block b h0 (fun e => hr b e.symm h7)
    have hc : ∀ o, w'.cell? ⟨b, o, none⟩ = w.cell? ⟨b, o, none⟩ := fun o => World.cell?_of_block hb
    obtain ⟨cs, fr, h7⟩ := h7
    exact ⟨Nat.lt_of_lt_of_le h0 hg.size, (hc 0).trans h1, (hc 1).trans h2, (hc 3).trans h3, (hc 4).trans h4, h5.grown hg hr, h6.grown hg hr, cs, fr, hb.trans h7⟩

def RopeAt (w : World) (t : RT) : Prop := t.ok ∧ Lies w t
theorem RopeAt.next {w w' : World} {t : RT} (h : RopeAt w t) (hb : Below w.heap.size w w') : RopeAt w' t := ⟨h.1, h.2.next hb⟩
theorem RopeAt.grown {w w' : World} {row : Option Nat} {t : RT} (h : RopeAt w t) (hg : w.grownBy w' row) (hr : ∀ k, row = some k → ¬ Typ w k) : RopeAt w' t := ⟨h.1, h.2.grown hg hr⟩
theorem RopeAt.nil (w : World) : RopeAt w .nil := ⟨trivial, trivial⟩
theorem RopeAt.left {w : World} {b : Nat} {l r : RT} (h : RopeAt w (.node b l r)) : RopeAt w l := ⟨h.1.1, h.2.2.2.2.2.2.1⟩
theorem RopeAt.right {w : World} {b : Nat} {l r : RT} (h : RopeAt w (.node b l r)) : RopeAt w r := ⟨h.1.2.1, h.2.2.2.2.2.2.2.1⟩
/-- what a tree that is not empty shows -/
theorem RopeAt.open {w : World} {t : RT} (h : RopeAt w t) (h0 : 0 < t.dep) :
    ∃ b, t.ptr = .pointer (some ⟨b, 0, none⟩) ∧ b < w.heap.size ∧ w.cell? ⟨b, 0, none⟩ = some (.int .i64 (t.dep : Int)) ∧ w.cell? ⟨b, 1, none⟩ = some (.int .i64 (t.len : Int)) := by
  cases t with
  | nil => simp [RT.dep] at h0
  | leaf b s => exact ⟨b, rfl, h.2.1, h.2.2.1, h.2.2.2.1⟩
  | node b l r => exact ⟨b, rfl, h.2.1, h.2.2.1, h.2.2.2.1⟩
theorem RT.isNil {t : RT} (h : t.dep = 0) : t = .nil := by
  cases t with
  | nil => rfl
  | leaf b s => simp [RT.dep] at h
  | node b l r => simp [RT.dep] at h
/-- a tree of depth more than one is a pair -/
theorem RT.isNode {t : RT} (h : 1 < t.dep) : ∃ b l r, t = .node b l r := by
  cases t with
  | nil => simp [RT.dep] at h
  | leaf b s => simp [RT.dep] at h
  | node b l r => exact ⟨b, l, r, rfl⟩

end Go.Proofs.Ytkckhjljindgmaa.RopeM
