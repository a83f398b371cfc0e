/-
  Package rope: the iterator over the leaves of a tree.
-/
import Derived.Test.YtkckhjljindgmaaRopePair
import Derived.RangeFuncNested
import Derived.RangeFuncBound
import Derived.RangeFuncCalls
import Derived.RangeFuncLeaves
import Derived.RangeFuncBox
import Derived.Shelf.Abstract
import Derived.Shelf.RegionOpen
import Derived.OwnWalkIn
import Derived.TacticsInMore
import Derived.LoopNIn
import Derived.LoopIn
namespace Go.Proofs.Ytkckhjljindgmaa.RopeC
open Go.RowKit Go.Shelf Kit RopeM

/-- a text that is not too long -/
abbrev Sm := { x : ByteArray // x.size ≤ 600 }
def mkS (s : ByteArray) : Sm := if h : s.size ≤ 600 then ⟨s, h⟩ else ⟨ByteArray.empty, by decide⟩
theorem mkS_of (s : ByteArray) (h : s.size ≤ 600) : mkS s = ⟨s, h⟩ := by unfold mkS; rw [dif_pos h]
def leavesS (t : RT) : List Sm := t.leaves.map mkS
theorem leavesS_node (b : Nat) (l r : RT) : leavesS (.node b l r) = leavesS l ++ leavesS r := by simp [leavesS, RT.leaves]

/-- all nodes lie below n -/
def Under (n : Nat) : RT → Prop
  | .nil => True
  | .leaf b _ => b < n
  | .node b l r => b < n ∧ Under n l ∧ Under n r
theorem Under.of_lies {w : World} : ∀ {t : RT}, Lies w t → Under w.heap.size t
  | .nil, _ => trivial
  | .leaf _ _, h => h.1
  | .node _ _ _, h => ⟨h.1, Under.of_lies h.2.2.2.2.2.1, Under.of_lies h.2.2.2.2.2.2.1⟩
/-- a tree that lies below n is kept by whatever keeps what lies below n -/
theorem Lies.under {n : Nat} {w w' : World} (hb : Below n w w') : ∀ {t : RT}, Under n t → Lies w t → Lies w' t
  | .nil, _, _ => trivial
  | .leaf b _, hu, ⟨h0, h1, h2, h3, cs, fr, h4⟩ => ⟨Nat.lt_of_lt_of_le h0 hb.size, (hb.cell (p := ⟨b, 0, none⟩) hu).trans h1, (hb.cell (p := ⟨b, 1, none⟩) hu).trans h2, (hb.cell (p := ⟨b, 2, none⟩) hu).trans h3, cs, fr, (hb.block b hu).trans h4⟩
  | .node b _ _, ⟨hu, hl, hr⟩, ⟨h0, h1, h2, h3, h4, h5, h6, cs, fr, h7⟩ => ⟨Nat.lt_of_lt_of_le h0 hb.size, (hb.cell (p := ⟨b, 0, none⟩) hu).trans h1, (hb.cell (p := ⟨b, 1, none⟩) hu).trans h2, (hb.cell (p := ⟨b, 3, none⟩) hu).trans h3, (hb.cell (p := ⟨b, 4, none⟩) hu).trans h4, Lies.under hb hl h5, Lies.under hb hr h6, cs, fr, (hb.block b hu).trans h7⟩
theorem ropeUnder {n : Nat} {w w' : World} {t : RT} (h : RopeAt w t) (hu : Under n t) (hb : Below n w w') : RopeAt w' t := ⟨h.1, Lies.under hb hu h.2⟩

theorem yieldAny {m : Nat} (m' : Nat) {P : Program} {l : Nat} {args : Array Value} {W : World} {R : Ending → World → Prop} (h : YieldAt Fence.wide m P l args W R) : YieldAt Fence.wide m' P l args W R := by
  obtain ⟨fn, tmps, assign, body, hy, hR⟩ := h
  exact ⟨fn, tmps, assign, body, hy, hR.1, fun c cs _ => hR.2 c cs (fun d hd => by cases hd)⟩

set_option maxRecDepth 100000 in
set_option maxHeartbeats 2000000 in
theorem visit_in (l n₀ N : Nat) (J Jx : List Sm → World → Prop)
    (hY : ∀ m pre (x : Sm) W, J pre W → pre.length < N → YieldAt Fence.wide m Try.prog l #[.string x.1] W fun e W' =>
      (e = .returned (.bool true) ∧ J (pre ++ [x]) W' ∧ Below n₀ W W') ∨ (e = .returned (.bool false) ∧ Jx (pre ++ [x]) W')) (t : RT) :
    ∀ (n : Nat) (pre : List Sm) (W : World), RopeAt W t → Under n₀ t → t.len ≤ 600 → J pre W → pre.length + (leavesS t).length ≤ N →
      CallsIn Fence.wide n Try.prog 71 #[t.ptr, .func (.yield l) #[] #[]] W fun e W' =>
        (e = .returned (.bool true) ∧ J (pre ++ leavesS t) W' ∧ Below n₀ W W') ∨ (e = .returned (.bool false) ∧ ∃ q, q <+: leavesS t ∧ Jx (pre ++ q) W') := by
  have HY := Lib.hid hY
  clear hY
  induction t with
  | nil =>
    intro n pre W ht hu hm hJ _
    rw [show RT.nil.ptr = .pointer none from rfl]
    have F : Hid (J (pre ++ leavesS .nil) W) := Lib.hid (by simpa [leavesS, RT.leaves] using hJ)
    clear ht hu hm hJ HY
    refine callsIn_of_wp Try.func71 rfl trivial ?_ rfl
    simp only [Try.ntmps71, List.size_toArray, List.length_cons, List.length_nil, Nat.reduceAdd, Nat.reduceSub, Array.replicate_succ, Array.replicate_zero, List.push_toArray, List.append_toArray, List.nil_append, List.cons_append]
    gi_wp2
    go_ret
    exact .inl ⟨rfl, F.out, Below.refl _ _⟩
  | leaf b s =>
    intro n pre W ht hu hm hJ hN
    rw [show (RT.leaf b s).ptr = .pointer (some ⟨b, 0, none⟩) from rfl]
    obtain ⟨hb, c0, c1, c2, -⟩ := ht.2
    have e1 : leavesS (.leaf b s) = [⟨s, hm⟩] := by
      have hm' : s.size ≤ 600 := hm
      simp [leavesS, RT.leaves, mkS_of s hm']
    rw [e1] at hN ⊢
    obtain ⟨fn, tmps, assign, body, hy, hR⟩ := HY.out (n - 1) pre ⟨s, hm⟩ W hJ (by simp at hN; omega)
    clear e1 hN HY hJ ht hu
    refine callsIn_of_wp Try.func71 rfl trivial ?_ rfl
    simp only [Try.ntmps71, List.size_toArray, List.length_cons, List.length_nil, Nat.reduceAdd, Nat.reduceSub, Array.replicate_succ, Array.replicate_zero, List.push_toArray, List.append_toArray, List.nil_append, List.cons_append]
    gi_wp2
    refine ⟨fun h => (by cases h), hR.mono ?_⟩
    rintro e W2 (⟨rfl, hJ2, hb2⟩ | ⟨rfl, hx2⟩)
    · gi_wp2
      go_ret
      exact .inl ⟨rfl, hJ2, hb2⟩
    · gi_wp2
      go_ret
      exact .inr ⟨rfl, [⟨s, hm⟩], List.prefix_refl _, hx2⟩
  | node b tl tr ihl ihr =>
    intro n pre W ht hu hm hJ hN
    rw [show (RT.node b tl tr).ptr = .pointer (some ⟨b, 0, none⟩) from rfl]
    obtain ⟨hb, c0, c1, c3, c4, -, -⟩ := ht.2
    obtain ⟨hub, hul, hur⟩ := hu
    obtain ⟨l0, r0, -, -⟩ := ht.1.2.2
    rw [leavesS_node] at hN ⊢
    rw [List.length_append] at hN
    simp only [RT.len] at hm
    have ih2 : ∀ W1, J (pre ++ leavesS tl) W1 → Below n₀ W W1 → CallsIn Fence.wide (n - 1) Try.prog 71 #[.pointer tr.addr, .func (.yield l) #[] #[]] W1 fun e W2 =>
        (e = .returned (.bool true) ∧ J (pre ++ (leavesS tl ++ leavesS tr)) W2 ∧ Below n₀ W W2) ∨ (e = .returned (.bool false) ∧ ∃ q, q <+: leavesS tl ++ leavesS tr ∧ Jx (pre ++ q) W2) := fun W1 hj1 hb1 =>
      (ihr (n - 1) (pre ++ leavesS tl) W1 (ropeUnder ht.right hur hb1) hur (by omega) hj1 (by rw [List.length_append]; omega)).mono (fun e W2 h => h.elim
        (fun ⟨he, hj, hb2⟩ => .inl ⟨he, by rw [← List.append_assoc]; exact hj, hb1.trans hb2⟩)
        (fun ⟨he, q, hq, hx⟩ => .inr ⟨he, leavesS tl ++ q, (List.prefix_append_right_inj _).2 hq, by rw [← List.append_assoc]; exact hx⟩))
    have ih1 : CallsIn Fence.wide (n - 1) Try.prog 71 #[.pointer tl.addr, .func (.yield l) #[] #[]] W fun e W1 =>
        (e = .returned (.bool true) ∧ W1.cell? ⟨b, 4, none⟩ = some (.pointer tr.addr) ∧ Hid (CallsIn Fence.wide (n - 1) Try.prog 71 #[.pointer tr.addr, .func (.yield l) #[] #[]] W1 fun e W2 =>
          (e = .returned (.bool true) ∧ J (pre ++ (leavesS tl ++ leavesS tr)) W2 ∧ Below n₀ W W2) ∨ (e = .returned (.bool false) ∧ ∃ q, q <+: leavesS tl ++ leavesS tr ∧ Jx (pre ++ q) W2))) ∨
        (e = .returned (.bool false) ∧ ∃ q, q <+: leavesS tl ++ leavesS tr ∧ Jx (pre ++ q) W1) :=
      (ihl (n - 1) pre W ht.left hul (by omega) hJ (by omega)).mono (fun e W1 h => h.elim
        (fun ⟨he, hj, hb1⟩ => .inl ⟨he, (hb1.cell (p := ⟨b, 4, none⟩) hub).trans c4, Lib.hid (ih2 W1 hj hb1)⟩)
        (fun ⟨he, q, hq, hx⟩ => .inr ⟨he, q, hq.trans (List.prefix_append _ _), hx⟩))
    have IH1 := Lib.hid ih1
    rw [show tl.ptr = .pointer tl.addr from rfl] at c3
    obtain ⟨d, hd⟩ : ∃ d, max tl.dep tr.dep + 1 = d := ⟨_, rfl⟩
    rw [hd] at c0
    have hd1 : 1 < d := by omega
    clear ih1 ih2 ihl ihr HY hJ ht hm hN hd c1 c4 hul hur l0 r0
    generalize tl.addr = la at *
    generalize tr.addr = ra at *
    refine callsIn_of_wp Try.func71 rfl trivial ?_ rfl
    simp only [Try.ntmps71, List.size_toArray, List.length_cons, List.length_nil, Nat.reduceAdd, Nat.reduceSub, Array.replicate_succ, Array.replicate_zero, List.push_toArray, List.append_toArray, List.nil_append, List.cons_append]
    gi_wp2_with fail
    refine ⟨trivial, fun h => (by cases h), IH1.out.mono ?_⟩
    clear IH1
    rintro e W1 (⟨rfl, c4', IH2⟩ | ⟨rfl, HX⟩)
    · gi_wp2_with fail
      refine ⟨trivial, fun h => (by cases h), IH2.out.mono ?_⟩
      clear IH2
      rintro e W2 (⟨rfl, hJ2, hb2⟩ | ⟨rfl, HX⟩)
      · have G := Lib.hid (And.intro hJ2 hb2)
        clear hJ2 hb2
        gi_wp2
        go_ret
        exact .inl ⟨rfl, G.out⟩
      · have G := Lib.hid HX
        clear HX
        gi_wp2
        go_ret
        exact .inr ⟨rfl, G.out⟩
    · have G := Lib.hid HX
      clear HX
      gi_wp2_with fail
      refine ⟨trivial, ?_⟩
      gi_wp2
      go_ret
      exact .inr ⟨rfl, G.out⟩

set_option maxHeartbeats 1000000 in
theorem leaves1_in (n : Nat) (l Bt n₀ : Nat) (t : RT) (J Jx : List Sm → World → Prop)
    (hY : ∀ pre (x : Sm) W, J pre W → pre.length < (leavesS t).length → YieldAt Fence.wide (n - 1) Try.prog l #[.string x.1] W fun e W' =>
      (e = .returned (.bool true) ∧ J (pre ++ [x]) W' ∧ Below n₀ W W') ∨ (e = .returned (.bool false) ∧ Jx (pre ++ [x]) W'))
    (W : World) (hBt : W.cell? ⟨Bt, 0, none⟩ = some (.pointer t.addr)) (ht : RopeAt W t) (hu : Under n₀ t) (hm : t.len ≤ 600) (h0 : J [] W) :
    CallsIn Fence.wide n Try.prog 70 #[.func (.yield l) #[] #[], .pointer (some ⟨Bt, 0, none⟩)] W fun e W' => (∃ v, e = .returned v) ∧
      ((∃ ys, ys = leavesS t ∧ J ys W') ∨ (∃ pre, pre <+: leavesS t ∧ Jx pre W')) := by
  have HP := Lib.hid (visit_in l n₀ (leavesS t).length J Jx (fun m pre x W hj hl => yieldAny m (hY pre x W hj hl)) t (n - 1) [] W ht hu hm h0 (by simp))
  rw [show t.ptr = .pointer t.addr from rfl] at HP
  clear hY ht hu hm h0
  generalize hta : t.addr = ta at *
  refine callsIn_of_wp Try.func70 rfl trivial ?_ rfl
  simp only [Try.ntmps70, List.size_toArray, List.length_cons, List.length_nil, Nat.reduceAdd, Nat.reduceSub, Array.replicate_succ, Array.replicate_zero, List.push_toArray, List.append_toArray, List.nil_append, List.cons_append]
  gi_wp2_with fail
  refine ⟨trivial, fun h => (by cases h), HP.out.mono ?_⟩
  clear HP
  rintro e W1 (⟨rfl, hJ1, _⟩ | ⟨rfl, q, hq, hx⟩)
  · have G := Lib.hid hJ1
    clear hJ1
    gi_wp2
    go_end0
    exact ⟨⟨_, rfl⟩, .inl ⟨_, rfl, by simpa using G.out⟩⟩
  · have G := Lib.hid (And.intro hq hx)
    clear hq hx
    gi_wp2
    go_end0
    exact ⟨⟨_, rfl⟩, .inr ⟨q, G.out.1, by simpa using G.out.2⟩⟩

set_option maxHeartbeats 1000000 in
theorem leavesOf_in (n : Nat) (a : Option Addr) (w : World) :
    CallsIn Fence.wide n Try.prog 53 #[.pointer a] w fun e w' => e = .returned (.func (.func 70) #[] #[.pointer (some ⟨w.heap.size, 0, none⟩)]) ∧ w' = w.alloc (.cells #[.pointer a] 87) := by
  refine callsIn_of_wp Try.func53 rfl trivial ?_ rfl
  simp only [Try.ntmps53, List.size_toArray, List.length_cons, List.length_nil, Nat.reduceAdd, Nat.reduceSub, Array.replicate_succ, Array.replicate_zero, List.push_toArray, List.append_toArray, List.nil_append, List.cons_append]
  gi_wp2
  go_ret
  exact ⟨rfl, rfl⟩

theorem leaves_stops (n : Nat) (Bt n₀ : Nat) (t : RT) (w : World) (hBt : Bt < w.heap.size) (hn₀ : n₀ ≤ w.heap.size) (hc : w.cell? ⟨Bt, 0, none⟩ = some (.pointer t.addr)) (ht : RopeAt w t) (hu : Under n₀ t) (hm : t.len ≤ 600) :
    SeqStopsK Fence.wide n Try.prog 70 #[.pointer (some ⟨Bt, 0, none⟩)] (fun x : Sm => #[Value.string x.1]) (Below n₀) (fun ys => ys = leavesS t) (fun pre => pre <+: leavesS t) (leavesS t).length w := fun l J Jx W hW _ _ hY h0 =>
  leaves1_in n l Bt n₀ t J Jx hY W ((hW.cell (p := ⟨Bt, 0, none⟩) hBt).trans hc) (ropeUnder ht hu (hW.mono hn₀)) hu hm h0

end Go.Proofs.Ytkckhjljindgmaa.RopeC
