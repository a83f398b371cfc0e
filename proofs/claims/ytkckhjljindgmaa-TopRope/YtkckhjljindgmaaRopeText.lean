/-
  Package rope: what textOf answers.
-/
import Derived.Test.YtkckhjljindgmaaRopeVisit
import Derived.Test.YtkckhjljindgmaaBuilder
namespace Go.Proofs.Ytkckhjljindgmaa.RopeC
open Go.RowKit Go.Shelf Kit RopeM BuildC

theorem isCells_cells (c : Array Value) (t : TypeId) (f : Nat × Nat) : (Obj.cells c t f).isCells = true := rfl
/-- a builder stays one while blocks turn that are no cells -/
theorem builder_own {β : Type} (B b : Nat) (f : β → List Value) : Own (fun (s : β) W => Lib.IsBuilderF BT BY B b (f s) W) := by
  intro s W W' row h hg hr
  have key : ∀ p, Lib.BuilderAtF BT BY B b p (f s) W → Lib.BuilderAtF BT BY B b p (f s) W' := by
    rintro p ⟨hB, v, hbk, hown, hne⟩
    have same : ∀ (k : Nat) o, W.heap[k]? = some o → o.isCells = true → W'.heap[k]? = some o := by
      intro k o hk ho
      rw [hg.block k (Array.getElem?_eq_some_iff.1 hk).1 ?_]; exact hk
      rintro rfl
      obtain ⟨o', ho', hc⟩ := hr k rfl
      rw [hk] at ho'; cases ho'; rw [ho] at hc; cases hc
    refine ⟨hB, v, same b _ hbk rfl, ?_, hne⟩
    refine ⟨hown.1, ?_⟩
    rcases hown.2 with h0 | ⟨g, cap, cur, fz, h1, h2, h3, h4⟩
    · exact .inl h0
    · exact .inr ⟨g, cap, cur, fz, h1, h2, same g _ h3 rfl, h4⟩
  exact h.elim (fun x => .inl (key _ x)) (fun x => .inr (key _ x))

def bytesOf (pre : List Sm) : List UInt8 := flat (pre.map (·.1))
theorem bytesOf_snoc (pre : List Sm) (x : Sm) : bytesOf (pre ++ [x]) = bytesOf pre ++ x.1.data.toList := by simp [bytesOf, flat]
theorem bytesOf_leaves (t : RT) (hm : t.len ≤ 600) : bytesOf (leavesS t) = t.txt := by
  have h : ∀ t : RT, t.len ≤ 600 → (leavesS t).map (·.1) = t.leaves := by
    intro t
    induction t with
    | nil => intro _; rfl
    | leaf b s => intro h; simp only [RT.len] at h; simp [leavesS, RT.leaves, mkS_of s h]
    | node b l r ihl ihr => intro h; simp only [RT.len] at h; rw [leavesS_node, List.map_append, ihl (by omega), ihr (by omega)]; rfl
  unfold bytesOf
  rw [h t hm]; rfl

theorem leavesS_length : ∀ {t : RT}, t.ok → (leavesS t).length ≤ t.len
  | .nil, _ => by simp [leavesS, RT.leaves, RT.len]
  | .leaf b s, h => by simp only [RT.ok] at h; simp only [leavesS, RT.leaves, RT.len, List.map_cons, List.map_nil, List.length_cons, List.length_nil]; omega
  | .node b l r, h => by
    have h1 := leavesS_length h.1
    have h2 := leavesS_length h.2.1
    rw [leavesS_node, List.length_append]; simp only [RT.len]; omega
theorem bytesOf_length : ∀ pre : List Sm, (bytesOf pre).length ≤ 600 * pre.length
  | [] => by simp [bytesOf, flat]
  | x :: l => by
    have h1 := bytesOf_length l
    have h2 : bytesOf (x :: l) = x.1.data.toList ++ bytesOf l := by simp [bytesOf, flat]
    have h3 := x.2
    have h4 : x.1.data.toList.length = x.1.size := by simp
    rw [h2, List.length_append, List.length_cons]; omega
theorem keeps_of {W W' : World} {b : Nat} {c : Array Value} {t : TypeId} {fr : Nat × Nat} (hb : W.heap[b]? = some (.cells c t fr)) (hs : W.heap.size ≤ W'.heap.size) (hk : Lib.OthersKept BY (some b) W W') : KeepsOthers W W' := by
  refine ⟨hs, fun k o hko hc => hk k o hko ?_ ?_⟩
  · intro e
    cases e
    rw [hb] at hko; cases hko; cases hc
  · rintro c' fz rfl; cases hc
theorem isB_block {B b : Nat} {bs : List Value} {W : World} (h : Lib.IsBuilderF BT BY B b bs W) : ∃ c, W.heap[b]? = some (.cells c BT (0, 0)) := by
  rcases h with ⟨_, v, h, _⟩ | ⟨_, v, h, _⟩ <;> exact ⟨_, h⟩

set_option maxRecDepth 100000 in
set_option maxHeartbeats 2000000 in
theorem textOf_in (n : Nat) (hn : 3 ≤ n) (t : RT) (w : World) (ht : RopeAt w t) (hm : t.len ≤ 600) :
    CallsIn Fence.wide n Try.prog 45 #[t.ptr] w fun e W' => e = .returned (.string ⟨t.txt.toArray⟩) ∧ Below w.heap.size w W' := by
  have h1 : 1 ≤ n := by omega
  have hN := leavesS_length ht.1
  have hu := Under.of_lies ht.2
  have hbl := bytesOf_leaves t hm
  rw [show t.ptr = .pointer t.addr from rfl]
  refine callsIn_of_wp_marks Try.func45 rfl trivial ?_ rfl
  simp only [Try.ntmps45, List.size_toArray, List.length_cons, List.length_nil, Nat.reduceAdd, Nat.reduceSub, Array.replicate_succ, Array.replicate_zero, List.push_toArray, List.append_toArray, List.nil_append, List.cons_append]
  gi_wp2_with fail
  refine ⟨trivial, (leavesOf_in (n - 1) _ _).mono ?_⟩
  rintro e w' ⟨rfl, rfl⟩
  gi_wp2_with fail
  have bB : Lib.IsBuilderF BT BY w.heap.size w.heap.size (Lib.byteCells (bytesOf [])) (w.alloc (.cells #[.pointer none, .slice none 0 0] 99)) := Lib.IsBuilderF.of (Lib.fresh_isBuilder BT BY w)
  have bN := Boxed.new (w.alloc (.cells #[.pointer none, .slice none 0 0] 99)) 87 (.pointer t.addr)
  rw [World.size_alloc] at bN
  have hB0 : Below w.heap.size w ((w.alloc (.cells #[.pointer none, .slice none 0 0] 99)).alloc (.cells #[.pointer t.addr] 87)) := ((Below.refl _ w).alloc (Nat.le_refl _) _).alloc (by simp) _
  refine wpIn_rangeFunc_ownG rfl h1 (gf := 70) (lb := #[.pointer (some ⟨w.heap.size + 1, 0, none⟩)]) rfl trivial (enters_of Try.func70 (by kernel_rfl) rfl)
    (leaves_stops (n - 1) (w.heap.size + 1) w.heap.size t _ (by simp) (by simp; omega) bN.cell (ht.next hB0) hu hm) belowK_t (belowK_b (by simp; omega)) (Below.refl _ _) (fun _ => rfl)
    (fun pre W => Lib.IsBuilderF BT BY w.heap.size w.heap.size (Lib.byteCells (bytesOf pre)) W ∧ Below w.heap.size w W)
    (fun _ _ _ => False)
    (OwnFrom.and (Own.from (builder_own w.heap.size w.heap.size (fun pre => Lib.byteCells (bytesOf pre))) _) (ownFrom_below (Nat.le_refl _) (by simp; omega)))
    (fun _ _ _ _ _ hs _ _ => hs)
    ⟨Lib.IsBuilderF.alloc bB _, hB0⟩
    (fun x => { tmps := #[.pointer t.addr, undef, .string ⟨#[]⟩, .pointer (some ⟨w.heap.size, 0, none⟩), .string x.1, .pointer t.addr, .func (.func 70) #[] #[.pointer (some ⟨w.heap.size + 1, 0, none⟩)], .string x.1, undef, undef, undef], defers := [] }) ?assign ?body ?done ?stop
  case assign =>
    intro l x W K hK
    have hsem := @Oper.semAt_some
    gi_wp2
    exact hK
  case body =>
    rintro l pre x W ⟨hI, hB⟩ hlt
    have hd : 1 ≤ n - 1 - 1 := by omega
    have hsem := @Oper.semAt_some
    have hsz := bytesOf_length pre
    have hx := x.2
    have hlen : (Lib.byteCells (bytesOf pre)).length + x.1.size ≤ 140737488355328 := by simp only [Lib.byteCells, List.length_map]; omega
    have WS := Lib.hid (writeString w.heap.size w.heap.size (Lib.byteCells (bytesOf pre)) x.1 W hI hlen hB.size)
    obtain ⟨c, hblk⟩ := isB_block hI
    have HB := Lib.hid hB
    have HBK := Lib.hid hblk
    clear hI hB hblk hlen hsz
    gi_wp2_with fail
    refine ⟨trivial, (CallsIn.inRound l (callsIn_wide.2 WS.out)).mono ?_⟩
    rintro e W1 ⟨rfl, hb1, hb2, hb3⟩
    have FIN := Lib.hid (show KeepsFrom ((w.alloc (.cells #[.pointer none, .slice none 0 0] 99)).alloc (.cells #[.pointer t.addr] 87)).heap.size W W1 ∧ Below w.heap.size W W1 ∧ Lib.IsBuilderF BT BY w.heap.size w.heap.size (Lib.byteCells (bytesOf (pre ++ [x]))) W1 ∧ Below w.heap.size w W1 from
      ⟨(keeps_of HBK.out hb2.size hb3).from _, hb2, by rw [bytesOf_snoc, Lib.byteCells_append]; exact .inr hb1, HB.out.trans hb2⟩)
    clear hb1 hb2 hb3
    gi_wp2
    exact FIN.out
  case done =>
    rintro D ys W hD rfl ⟨hI, hB⟩ hK
    rw [hbl] at hI
    have ST := Lib.hid (string_ w.heap.size w.heap.size t.txt W hI hB.size)
    obtain ⟨c, hblk⟩ := isB_block hI
    have HB := Lib.hid hB
    have HBK := Lib.hid hblk
    have HKK := Lib.hid hK
    have HD : w.heap.size ≤ D := by simp at hD; omega
    clear hI hB hblk hK
    gi_wp2_with fail
    refine ⟨trivial, (callsIn_wide.2 ST.out).mono ?_⟩
    rintro e W1 ⟨rfl, hb1, hb2, hb3⟩
    have hK1 := (keeps_of HBK.out hb2.size hb3).same D _ HKK.out rfl
    have HB1 := Lib.hid (HB.out.trans hb2)
    clear hb1 hb2 hb3
    gi_wp2
    refine ⟨by simp, .inl ⟨_, _, rfl, run_takeDeferred hK1, ?_⟩⟩
    exact ⟨_, results_tmp rfl _ _ _, rfl, HB1.out.trans (belowK_b (w := w) (Nat.le_refl _) W1 D _ _ HD hK1 rfl rfl)⟩
  case stop =>
    rintro D c pre W _ _ h _
    exact h.elim

/-- textOf -/
theorem textOf (t : RT) (w : World) (ht : RopeAt w t) (hm : t.len ≤ 600) :
    Calls Try.prog 45 #[t.ptr] w fun e w' => e = .returned (.string ⟨t.txt.toArray⟩) ∧ Below w.heap.size w w' :=
  (callsIn_wide (n := 3)).1 (textOf_in 3 (by omega) t w ht hm)

end Go.Proofs.Ytkckhjljindgmaa.RopeC
