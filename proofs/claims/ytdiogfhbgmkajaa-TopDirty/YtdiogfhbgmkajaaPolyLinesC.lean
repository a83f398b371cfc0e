/-
  Package poly: the iterator over the lines of a text, and what Lines answers.
-/
import Derived.Test.YtdiogfhbgmkajaaPolyOfC
import Derived.Test.YtdiogfhbgmkajaaCutB
import Derived.Test.YtdiogfhbgmkajaaInts
import Derived.RangeFuncNested
import Derived.RangeFuncBound
import Derived.RangeFuncCalls
import Derived.RangeFuncLeaves
import Derived.RangeFuncBox
import Derived.Shelf.Abstract
import Derived.Shelf.RegionOpen
import Derived.OwnWalkIn
import Derived.TacticsInMore
import Derived.LoopNIn
import Derived.LoopIn
import Derived.Maps.AppendAt
import Derived.Deep.AppendLies
namespace Go.Proofs.Ytdiogfhbgmkajaa.LinesC
open Go.RowKit Go.Shelf PosM LinesM PolyM Kit StrC PolyC

/-- a text that is not too long -/
abbrev Sm := { x : ByteArray // x.size ≤ 600 }
def mkS (l : List UInt8) : Sm := if h : l.length ≤ 600 then ⟨⟨l.toArray⟩, by simpa [ByteArray.size] using h⟩ else ⟨ByteArray.empty, by decide⟩
theorem mkS_of (s : ByteArray) (h : s.size ≤ 600) : mkS s.data.toList = ⟨s, h⟩ := by
  unfold mkS
  rw [dif_pos (by simpa using h)]
/-- the lines of a text -/
def linesS (l : List UInt8) : List Sm := (cut l).map mkS

theorem lines_yes (s : ByteArray) (h : first s.data.toList < s.size) :
    linesS s.data.toList = mkS (s.extract 0 (first s.data.toList)).data.toList :: linesS (s.extract (first s.data.toList + 1) s.size).data.toList := by
  unfold linesS
  rw [cut_first (by simpa using h), List.map_cons, Lib.extract_data, Lib.extract_data]
  simp
  rw [List.take_of_length_le (l := List.drop _ _) (by simp)]
theorem lines_no (s : ByteArray) (h : ¬ first s.data.toList < s.size) : linesS s.data.toList = [mkS s.data.toList] := by
  unfold linesS
  rw [cut_only (by simpa using h)]; rfl

def more (r m : Value) : Nat := match r, m with
  | .string s, .bool true => s.size + 1
  | _, _ => 0

set_option maxRecDepth 100000 in
set_option maxHeartbeats 1000000 in
/-- the iterator: for every loop body that keeps what lay below n₀ -/
theorem lines1_in (n : Nat) (hn : 1 ≤ n) (l Bn n₀ : Nat) (s : ByteArray) (hs : s.size ≤ 600) (J Jx : List Sm → World → Prop) (Wb : Nat) (hJ : AbidesFrom Wb J)
    (hY : ∀ pre x W, J pre W → pre.length < (linesS s.data.toList).length → YieldAt Fence.wide (n - 1) Try.prog l #[.string x.1] W fun e W' =>
      (e = .returned (.bool true) ∧ J (pre ++ [x]) W' ∧ Below n₀ W W') ∨ (e = .returned (.bool false) ∧ Jx (pre ++ [x]) W'))
    (W : World) (hBn : W.cell? ⟨Bn, 0, none⟩ = some (.string s)) (h0 : J [] W) :
    CallsIn Fence.wide n Try.prog 61 #[.func (.yield l) #[] #[], .pointer (some ⟨Bn, 0, none⟩)] W fun e W' => (∃ v, e = .returned v) ∧
      ((∃ ys, ys = linesS s.data.toList ∧ J ys W') ∨ (∃ pre, pre <+: linesS s.data.toList ∧ Jx pre W')) := by
  have HY := Lib.hid hY
  clear hY
  refine callsIn_of_wp Try.func61 rfl trivial ?_ rfl
  simp only [Try.ntmps61, List.size_toArray, List.length_cons, List.length_nil, Nat.reduceAdd, Nat.reduceSub, Array.replicate_succ, Array.replicate_zero, List.push_toArray, List.append_toArray, List.nil_append, List.cons_append]
  gi_wp2
  gi_loopw [3, 4] (fun r m wr => ∃ (pre rest : List Sm), linesS s.data.toList = pre ++ rest ∧ J pre wr ∧ ((∃ q : ByteArray, q.size ≤ 600 ∧ r = .string q ∧ m = .bool true ∧ rest = linesS q.data.toList) ∨ (∃ q, r = .string q ∧ m = .bool false ∧ rest = [])))
    (fun r m _ => more r m)
  case atStart =>
    exact ⟨[], _, rfl, h0, .inl ⟨s, hs, rfl, rfl, rfl⟩⟩
  case round =>
    obtain ⟨pre, rest, hx, hJs, hrest⟩ := hrel
    rcases hrest with ⟨q, hq, rfl, rfl, rfl⟩ | ⟨q, rfl, rfl, rfl⟩
    · by_cases hf : first q.data.toList < q.size
      · have hl := lines_yes q hf
        have z1 : (q.extract 0 (first q.data.toList)).size ≤ 600 := by rw [ByteArray.size_extract]; omega
        have z2 : (q.extract (first q.data.toList + 1) q.size).size ≤ 600 := by rw [ByteArray.size_extract]; omega
        have z3 : (q.extract (first q.data.toList + 1) q.size).size < q.size := by rw [ByteArray.size_extract]; omega
        rw [mkS_of _ z1] at hl
        have C := Lib.hid (fun w => cut_yes q w (by unfold maxLen; omega) hf)
        generalize q.extract 0 (first q.data.toList) = q1 at *
        generalize q.extract (first q.data.toList + 1) q.size = q2 at *
        clear hf
        have hJ1 : J pre wr.drew := hJ _ _ _ none hJs (below_grows ((Below.refl _ _).drew)) (fun _ e => by cases e)
        have hlen : pre.length < (linesS s.data.toList).length := by rw [hx, hl]; simp
        obtain ⟨fn, tmps, assign, body, hy, hR⟩ := HY.out pre ⟨q1, z1⟩ wr.drew hJ1 hlen
        have HX := Lib.hid hx
        have HL := Lib.hid hl
        clear hx hl hlen hJ1 hJs
        gi_wp2_with fail
        refine ⟨trivial, (callsIn_wide.2 (C.out _)).mono ?_⟩
        rintro e w1 ⟨rfl, rfl⟩
        gi_wp2
        refine hR.mono ?_
        rintro e W3 (⟨rfl, hJ3, hk3⟩ | ⟨rfl, hJx3⟩)
        · gi_wp2
          go_roundw
          case rel => exact ⟨pre ++ [⟨q1, z1⟩], linesS q2.data.toList, by rw [HX.out, HL.out]; simp, hJ3, .inl ⟨q2, z2, rfl, rfl, rfl⟩⟩
          case measure => simp [more]; omega
        · gi_wp2
          refine bodyPost_ret (results_none rfl _ _ _) rfl ?_
          exact ⟨⟨_, rfl⟩, .inr ⟨pre ++ [⟨q1, z1⟩], ⟨linesS q2.data.toList, by rw [HX.out, HL.out]; simp⟩, hJx3⟩⟩
      · have hl := lines_no q hf
        rw [mkS_of _ hq] at hl
        have C := Lib.hid (fun w => cut_no q w hf)
        clear hf
        have hlen : pre.length < (linesS s.data.toList).length := by rw [hx, hl]; simp
        obtain ⟨fn, tmps, assign, body, hy, hR⟩ := HY.out pre ⟨q, hq⟩ wr hJs hlen
        have HX := Lib.hid hx
        have HL := Lib.hid hl
        clear hx hl hlen hJs
        gi_wp2_with fail
        refine ⟨trivial, (callsIn_wide.2 (C.out _)).mono ?_⟩
        rintro e w1 ⟨rfl, rfl⟩
        gi_wp2
        refine hR.mono ?_
        rintro e W3 (⟨rfl, hJ3, hk3⟩ | ⟨rfl, hJx3⟩)
        · gi_wp2
          go_roundw
          case rel => exact ⟨pre ++ [⟨q, hq⟩], [], by rw [HX.out, HL.out]; simp, hJ3, .inr ⟨_, rfl, rfl, rfl⟩⟩
          case measure => simp [more]
        · gi_wp2
          refine bodyPost_ret (results_none rfl _ _ _) rfl ?_
          exact ⟨⟨_, rfl⟩, .inr ⟨pre ++ [⟨q, hq⟩], ⟨[], by rw [HX.out, HL.out]; simp⟩, hJx3⟩⟩
    · gi_wp2
      go_end0
      exact ⟨⟨_, rfl⟩, .inl ⟨pre, by rw [hx]; simp, hJs⟩⟩

set_option maxHeartbeats 1000000 in
theorem linesOf_in (n : Nat) (s : ByteArray) (w : World) :
    CallsIn Fence.wide n Try.prog 55 #[.string s] w fun e w' => e = .returned (.func (.func 61) #[] #[.pointer (some ⟨w.heap.size, 0, none⟩)]) ∧ w' = w.alloc (.cells #[.string s] 9) := by
  refine callsIn_of_wp Try.func55 rfl trivial ?_ rfl
  simp only [Try.ntmps55, List.size_toArray, List.length_cons, List.length_nil, Nat.reduceAdd, Nat.reduceSub, Array.replicate_succ, Array.replicate_zero, List.push_toArray, List.append_toArray, List.nil_append, List.cons_append]
  gi_wp2
  go_ret
  exact ⟨rfl, rfl⟩

theorem lines_stops (n : Nat) (hn : 1 ≤ n) (Bn n₀ : Nat) (s : ByteArray) (hs : s.size ≤ 600) (w : World) (hBn : Bn < w.heap.size) (hc : w.cell? ⟨Bn, 0, none⟩ = some (.string s)) :
    SeqStopsK Fence.wide n Try.prog 61 #[.pointer (some ⟨Bn, 0, none⟩)] (fun x : Sm => #[Value.string x.1]) (Below n₀) (fun ys => ys = linesS s.data.toList) (fun pre => pre <+: linesS s.data.toList) (linesS s.data.toList).length w := fun l J Jx W hW hJ _ hY h0 =>
  lines1_in n hn l Bn n₀ s hs J Jx W.heap.size hJ hY W ((hW.cell (p := ⟨Bn, 0, none⟩) hBn).trans hc) h0

theorem infoInt : (Try.prog.info? 3).map (fun i => (i.zero, i.size, i.bytes)) = some (some (.int .i64 0), 1, 8) := by kernel_rfl

/-- the values of lines -/
def vals (xs : List Sm) : List Value := xs.map fun x => .int .i64 (hv x.1.data.toList)
theorem vals_snoc (xs : List Sm) (x : Sm) : vals (xs ++ [x]) = vals xs ++ [.int .i64 (hv x.1.data.toList)] := by simp [vals]
theorem vals_length (xs : List Sm) : (vals xs).length = xs.length := by simp [vals]
theorem lines_length (s : ByteArray) (hs : s.size ≤ 600) : (linesS s.data.toList).length ≤ 601 := by
  have h1 : (linesS s.data.toList).length = lns s.data.toList + 1 := by unfold linesS; rw [List.length_map, cut_length]
  have h2 := lns_col_le s.data.toList
  have h3 : s.data.toList.length = s.size := by simp
  omega

/-- an append at a step of a region that draws its order, inside a fence -/
theorem stepAppIn {F : Fence} {n : Nat} {P : Program} {ops : Array Oper} {o : Oper} {a : Act} {w w' : World} {K : Act → World → Prop} {Q : Exit → Act → World → Prop} {E : Prop} {s x : Operand} {t : TypeId} {v X v' : Value}
    (hgd : o.guard = none) (ho : o.op = .call { callee := .builtin .append, args := #[s, x], argTypes := #[t, t] }) (hs : a.eval s = v) (hx : a.eval x = X)
    (hrun : (Builtin.append_ #[t, t] o.type #[v, X]).run P w = .ok v' w') (h : K (a.put o.dst v') w') :
    if Region.wanted o (yielded ops a.tmps) = true then Oper.wpIn F n P o a w K Q else E := by
  have hw : Region.wanted o (yielded ops a.tmps) = true := by simp [Region.wanted, hgd]
  rw [if_pos hw]
  unfold Oper.wpIn
  refine ⟨?_, ?_⟩
  · simp [Oper.about, ho, resolve, Target.leads, Sem.run_pure]
  · rw [Oper.semAt_plain F _ _ (by rw [ho]; intro c hc'; cases hc')]
    simp [execOp, ho, resolve, invoke, builtin, hs, hx, hrun, Result.andThen]
    exact h

/-- one round of the caller: behind the hash of a line its value is appended and the slice is stored back -/
theorem bodyStep (B0 : Nat) (w W W1 : World) (pre : List Sm) (x : Sm) (v : Value) (hbx : Boxed W w.heap.size 42 v) (hrow : W.ownsRow w.heap.size 3 1 v pre.length (vals pre)) (hB : Below w.heap.size w W)
    (hb : Below W.heap.size W W1) (hlen : pre.length ≤ 601) :
    ∃ g cap w2, (Builtin.append_ #[42, 42] 42 #[v, .slice (some ⟨W1.heap.size, 0, none⟩) 1 1]).run Try.prog (W1.alloc (.cells #[.int .i64 (hv x.1.data.toList)] 3)) = .ok (.slice (some ⟨g, 0, none⟩) (pre.length + 1) cap) w2 ∧
      w2.cell? ⟨w.heap.size, 0, none⟩ = some v ∧ w2.frozen? ⟨w.heap.size, 0, none⟩ = false ∧ W1.cell? ⟨w.heap.size, 0, none⟩ = some v ∧ w.heap.size < W1.heap.size ∧
      Hid (KeepsFrom B0 W (w2.setCell ⟨w.heap.size, 0, none⟩ (.slice (some ⟨g, 0, none⟩) (pre.length + 1) cap)) ∧ Below w.heap.size W (w2.setCell ⟨w.heap.size, 0, none⟩ (.slice (some ⟨g, 0, none⟩) (pre.length + 1) cap)) ∧
        (∃ v, Boxed (w2.setCell ⟨w.heap.size, 0, none⟩ (.slice (some ⟨g, 0, none⟩) (pre.length + 1) cap)) w.heap.size 42 v ∧ (w2.setCell ⟨w.heap.size, 0, none⟩ (.slice (some ⟨g, 0, none⟩) (pre.length + 1) cap)).ownsRow w.heap.size 3 1 v (pre ++ [x]).length (vals (pre ++ [x])) ∧ True) ∧
        Below w.heap.size w (w2.setCell ⟨w.heap.size, 0, none⟩ (.slice (some ⟨g, 0, none⟩) (pre.length + 1) cap))) := by
  obtain ⟨i0, hi, hz0, hz1, hz2⟩ := info_parts infoInt
  have hv1 : Boxed W1 w.heap.size 42 v := hbx.kept (below_grows hb) (by simp)
  have hrow1 := row_next hrow hb
  have hs1 := hB.size
  have hs2 := hb.size
  obtain ⟨g, cap, w2, hr, h2, h3, _, _⟩ := run_append_lies (P := Try.prog) (W1.alloc (.cells #[.int .i64 (hv x.1.data.toList)] 3)) 42 42 w.heap.size 3 i0 (.int .i64 0) 1 8 Try.underlying42 hi hz0 hz1 hz2 rfl (by decide) v pre.length (vals pre) (hrow1.alloc _)
    ⟨W1.heap.size, 0, none⟩ 1 1 [.int .i64 (hv x.1.data.toList)] rfl (cell_one_new _ _ _) (by simp [Value.oneCell']) (by omega) (by unfold maxLen; omega) (by omega) (by simp; omega) _ rfl
  obtain ⟨hv1', hv2, hr2, hk2, hb2⟩ := hv1.appended (by decide) hrow1 (by omega) (Nat.le_refl _) h2 h3
  refine ⟨g, cap, w2, hr, hv1'.cell, hv1'.frozen, hv1.cell, hv1.lt, ?_⟩
  have hbw : Below w.heap.size W (w2.setCell ⟨w.heap.size, 0, none⟩ (.slice (some ⟨g, 0, none⟩) (pre.length + 1) cap)) := (hb.mono hs1).trans hb2
  refine ⟨((KeepsOthers.of_grownBy (below_grows hb) (fun j o e => by cases e)).trans hk2).from _, hbw, ⟨_, hv2, ?_, trivial⟩, hB.trans hbw⟩
  rw [vals_snoc, List.length_append, List.length_singleton]
  exact hr2

set_option maxRecDepth 100000 in
set_option maxHeartbeats 2000000 in
theorem lines_in (n : Nat) (hn : 3 ≤ n) (s : ByteArray) (hs : s.size ≤ 600) (w : World) :
    CallsIn Fence.wide n Try.prog 34 #[.string s] w fun e W' => ∃ v, e = .returned (.tuple #[v, .int .i64 0]) ∧ W'.ownsRow w.heap.size 3 1 v (linesS s.data.toList).length (vals (linesS s.data.toList)) ∧ Below w.heap.size w W' := by
  have h1 : 1 ≤ n := by omega
  have hN := lines_length s hs
  obtain ⟨i0, hi, hz0, hz1, hz2⟩ := info_parts infoInt
  have hgt : decide ((600 : Int) < (s.size : Int)) = false := by simp; omega
  refine callsIn_of_wp_marks Try.func34 rfl trivial ?_ rfl
  simp only [Try.ntmps34, List.size_toArray, List.length_cons, List.length_nil, Nat.reduceAdd, Nat.reduceSub, Array.replicate_succ, Array.replicate_zero, List.push_toArray, List.append_toArray, List.nil_append, List.cons_append]
  gi_wp2_with fail
  refine ⟨trivial, (linesOf_in (n - 1) _ _).mono ?_⟩
  rintro e w' ⟨rfl, rfl⟩
  gi_wp2_with fail
  have bO := Boxed.new w 42 (.slice none 0 0)
  have bN := Boxed.new (w.alloc (.cells #[.slice none 0 0] 42)) 9 (.string s)
  rw [World.size_alloc] at bN
  have hB0 : Below w.heap.size w ((w.alloc (.cells #[.slice none 0 0] 42)).alloc (.cells #[.string s] 9)) := ((Below.refl _ w).alloc (Nat.le_refl _) _).alloc (by simp) _
  refine wpIn_rangeFunc_ownG rfl h1 (gf := 61) (lb := #[.pointer (some ⟨w.heap.size + 1, 0, none⟩)]) rfl trivial (enters_of Try.func61 (by kernel_rfl) rfl)
    (lines_stops (n - 1) (by omega) (w.heap.size + 1) w.heap.size s hs _ (by simp) bN.cell) belowK_t (belowK_b (by simp; omega)) (Below.refl _ _) (fun _ => rfl)
    (fun pre W => (∃ v, Boxed W w.heap.size 42 v ∧ W.ownsRow w.heap.size 3 1 v pre.length (vals pre) ∧ True) ∧ Below w.heap.size w W)
    (fun _ _ _ => False)
    (OwnFrom.and (Own.from (holdsRow_own w.heap.size w.heap.size 42 3 1 (fun pre => pre.length) (fun pre => vals pre) (fun pre v => True)) _) (ownFrom_below (Nat.le_refl _) (by simp; omega)))
    (fun _ _ _ _ _ hs _ _ => hs)
    ⟨⟨_, bO.alloc _, World.ownsRow_nil _ _ _ _, trivial⟩, hB0⟩
    (fun x => { tmps := #[.string s, undef, .slice none 0 0, .int .i64 0, .pointer (some ⟨w.heap.size, 0, none⟩), .string x.1, .string s, .int .i64 s.size, .bool false, .string s, .func (.func 61) #[] #[.pointer (some ⟨w.heap.size + 1, 0, none⟩)], .string x.1, undef, undef, undef, undef, undef, undef, undef], defers := [] }) ?assign ?body ?done ?stop
  case assign =>
    intro l x W K hK
    have hsem := @Oper.semAt_some
    gi_wp2
    exact hK
  case body =>
    rintro l pre x W ⟨⟨v, hv, hrow, _⟩, hB⟩ hlt
    have hc := hv.cell
    have hmx : Try.prog.follows .mixedOrders = true := by kernel_rfl
    have OF := Lib.hid (fun w => of_list x.1 w (by have := x.2; unfold maxLen; omega))
    have hfl := field0
    have hlen : pre.length ≤ 601 := by omega
    have hd : 1 ≤ n - 1 - 1 := by omega
    have hsem := @Oper.semAt_some
    have BS := Lib.hid (fun W1 (hb : Below W.heap.size W W1) => bodyStep ((w.alloc (.cells #[.slice none 0 0] 42)).alloc (.cells #[.string s] 9)).heap.size w W W1 pre x v hv hrow hB hb hlen)
    gi_wp2
    refine wpIn_region_any hmx ?_
    change wpAnyIn _ _ _ _ _ _ _ _ _ (World.drew _)
    refine wpAnyIn_ready (rs := [0, 1]) (by kernel_rfl) (by simp) ?_
    refine AllReadyIn.cons rfl (fun K hK => ?_) (AllReadyIn.cons rfl (fun K hK => ?_) AllReadyIn.nil)
    · go_simp
      refine hK _ _ ?_; clear hK K
      refine wpAnyIn_ready (rs := [1]) (by kernel_rfl) (by simp) ?_
      refine AllReadyIn.cons rfl (fun K hK => ?_) AllReadyIn.nil
      go_simp
      refine hK _ _ ?_; clear hK K
      refine wpAnyIn_ready (rs := [2]) (by kernel_rfl) (by simp) ?_
      refine AllReadyIn.cons rfl (fun K hK => ?_) AllReadyIn.nil
      go_simp
      refine ⟨trivial, (CallsIn.inRound l (callsIn_wide.2 (OF.out _))).mono ?_⟩
      rintro e W1 ⟨rfl, hb⟩
      obtain ⟨g, cap, w2, hrun, hc2, hf2, hc1, hlt1, FIN⟩ := BS.out W1 (((Below.refl _ _).drew).trans hb)
      have HR := Lib.hid hrun
      clear hrun
      refine hK _ _ ?_; clear hK K
      refine wpAnyIn_ready (rs := [3]) (by kernel_rfl) (by simp) ?_
      refine AllReadyIn.cons rfl (fun K hK => ?_) AllReadyIn.nil
      go_simp
      refine hK _ _ ?_; clear hK K
      refine wpAnyIn_ready (rs := [4]) (by kernel_rfl) (by simp) ?_
      refine AllReadyIn.cons rfl (fun K hK => ?_) AllReadyIn.nil
      go_simp
      refine hK _ _ ?_; clear hK K
      refine wpAnyIn_ready (rs := [5]) (by kernel_rfl) (by simp) ?_
      refine AllReadyIn.cons rfl (fun K hK => ?_) AllReadyIn.nil
      refine stepAppIn rfl rfl rfl rfl HR.out ?_
      refine hK _ _ ?_; clear hK K
      refine wpAnyIn_ready (rs := [6]) (by kernel_rfl) (by simp) ?_
      refine AllReadyIn.cons rfl (fun K hK => ?_) AllReadyIn.nil
      go_simp
      refine hK _ _ ?_; clear hK K
      refine wpAnyIn_done (by kernel_rfl) ?_ _
      gi_wp2
      exact FIN.out
    · go_simp
      refine hK _ _ ?_; clear hK K
      refine wpAnyIn_ready (rs := [0, 2]) (by kernel_rfl) (by simp) ?_
      refine AllReadyIn.cons rfl (fun K hK => ?_) (AllReadyIn.cons rfl (fun K hK => ?_) AllReadyIn.nil)
      · go_simp
        refine hK _ _ ?_; clear hK K
        refine wpAnyIn_ready (rs := [2]) (by kernel_rfl) (by simp) ?_
        refine AllReadyIn.cons rfl (fun K hK => ?_) AllReadyIn.nil
        go_simp
        refine ⟨trivial, (CallsIn.inRound l (callsIn_wide.2 (OF.out _))).mono ?_⟩
        rintro e W1 ⟨rfl, hb⟩
        obtain ⟨g, cap, w2, hrun, hc2, hf2, hc1, hlt1, FIN⟩ := BS.out W1 (((Below.refl _ _).drew).trans hb)
        have HR := Lib.hid hrun
        clear hrun
        refine hK _ _ ?_; clear hK K
        refine wpAnyIn_ready (rs := [3]) (by kernel_rfl) (by simp) ?_
        refine AllReadyIn.cons rfl (fun K hK => ?_) AllReadyIn.nil
        go_simp
        refine hK _ _ ?_; clear hK K
        refine wpAnyIn_ready (rs := [4]) (by kernel_rfl) (by simp) ?_
        refine AllReadyIn.cons rfl (fun K hK => ?_) AllReadyIn.nil
        go_simp
        refine hK _ _ ?_; clear hK K
        refine wpAnyIn_ready (rs := [5]) (by kernel_rfl) (by simp) ?_
        refine AllReadyIn.cons rfl (fun K hK => ?_) AllReadyIn.nil
        refine stepAppIn rfl rfl rfl rfl HR.out ?_
        refine hK _ _ ?_; clear hK K
        refine wpAnyIn_ready (rs := [6]) (by kernel_rfl) (by simp) ?_
        refine AllReadyIn.cons rfl (fun K hK => ?_) AllReadyIn.nil
        go_simp
        refine hK _ _ ?_; clear hK K
        refine wpAnyIn_done (by kernel_rfl) ?_ _
        gi_wp2
        exact FIN.out
      · go_simp
        refine ⟨trivial, (CallsIn.inRound l (callsIn_wide.2 (OF.out _))).mono ?_⟩
        rintro e W1 ⟨rfl, hb⟩
        obtain ⟨g, cap, w2, hrun, hc2, hf2, hc1, hlt1, FIN⟩ := BS.out W1 (((Below.refl _ _).drew).trans hb)
        have HR := Lib.hid hrun
        clear hrun
        refine hK _ _ ?_; clear hK K
        refine wpAnyIn_ready (rs := [0, 3]) (by kernel_rfl) (by simp) ?_
        refine AllReadyIn.cons rfl (fun K hK => ?_) (AllReadyIn.cons rfl (fun K hK => ?_) AllReadyIn.nil)
        · go_simp
          refine hK _ _ ?_; clear hK K
          refine wpAnyIn_ready (rs := [3]) (by kernel_rfl) (by simp) ?_
          refine AllReadyIn.cons rfl (fun K hK => ?_) AllReadyIn.nil
          go_simp
          refine hK _ _ ?_; clear hK K
          refine wpAnyIn_ready (rs := [4]) (by kernel_rfl) (by simp) ?_
          refine AllReadyIn.cons rfl (fun K hK => ?_) AllReadyIn.nil
          go_simp
          refine hK _ _ ?_; clear hK K
          refine wpAnyIn_ready (rs := [5]) (by kernel_rfl) (by simp) ?_
          refine AllReadyIn.cons rfl (fun K hK => ?_) AllReadyIn.nil
          refine stepAppIn rfl rfl rfl rfl HR.out ?_
          refine hK _ _ ?_; clear hK K
          refine wpAnyIn_ready (rs := [6]) (by kernel_rfl) (by simp) ?_
          refine AllReadyIn.cons rfl (fun K hK => ?_) AllReadyIn.nil
          go_simp
          refine hK _ _ ?_; clear hK K
          refine wpAnyIn_done (by kernel_rfl) ?_ _
          gi_wp2
          exact FIN.out
        · go_simp
          refine hK _ _ ?_; clear hK K
          refine wpAnyIn_ready (rs := [0, 4]) (by kernel_rfl) (by simp) ?_
          refine AllReadyIn.cons rfl (fun K hK => ?_) (AllReadyIn.cons rfl (fun K hK => ?_) AllReadyIn.nil)
          · go_simp
            refine hK _ _ ?_; clear hK K
            refine wpAnyIn_ready (rs := [4]) (by kernel_rfl) (by simp) ?_
            refine AllReadyIn.cons rfl (fun K hK => ?_) AllReadyIn.nil
            go_simp
            refine hK _ _ ?_; clear hK K
            refine wpAnyIn_ready (rs := [5]) (by kernel_rfl) (by simp) ?_
            refine AllReadyIn.cons rfl (fun K hK => ?_) AllReadyIn.nil
            refine stepAppIn rfl rfl rfl rfl HR.out ?_
            refine hK _ _ ?_; clear hK K
            refine wpAnyIn_ready (rs := [6]) (by kernel_rfl) (by simp) ?_
            refine AllReadyIn.cons rfl (fun K hK => ?_) AllReadyIn.nil
            go_simp
            refine hK _ _ ?_; clear hK K
            refine wpAnyIn_done (by kernel_rfl) ?_ _
            gi_wp2
            exact FIN.out
          · go_simp
            refine hK _ _ ?_; clear hK K
            refine wpAnyIn_ready (rs := [0]) (by kernel_rfl) (by simp) ?_
            refine AllReadyIn.cons rfl (fun K hK => ?_) AllReadyIn.nil
            go_simp
            refine hK _ _ ?_; clear hK K
            refine wpAnyIn_ready (rs := [5]) (by kernel_rfl) (by simp) ?_
            refine AllReadyIn.cons rfl (fun K hK => ?_) AllReadyIn.nil
            refine stepAppIn rfl rfl rfl rfl HR.out ?_
            refine hK _ _ ?_; clear hK K
            refine wpAnyIn_ready (rs := [6]) (by kernel_rfl) (by simp) ?_
            refine AllReadyIn.cons rfl (fun K hK => ?_) AllReadyIn.nil
            go_simp
            refine hK _ _ ?_; clear hK K
            refine wpAnyIn_done (by kernel_rfl) ?_ _
            gi_wp2
            exact FIN.out
  case done =>
    rintro D ys W hD rfl ⟨⟨v, hv, hrow, _⟩, hB⟩ hK
    have hc := hv.cell
    gi_wp2
    refine ⟨by simp, .inl ⟨_, _, rfl, run_takeDeferred hK, ?_⟩⟩
    exact ⟨.tuple #[v, .int .i64 0], by simp [results, Try.results34], v, rfl, ownsRow_putObj hrow _ hK rfl, hB.trans (belowK_b (w := w) (Nat.le_refl _) W D _ _ (by simp at hD; omega) hK rfl rfl)⟩
  case stop =>
    rintro D c pre W _ _ h _
    exact h.elim

theorem vals_lines (s : ByteArray) (hs : s.size ≤ 600) : vals (linesS s.data.toList) = ((cut s.data.toList).map fun x => (hv x : Int)).map (.int .i64) := by
  have h := cut_small s.data.toList
  have hl : s.data.toList.length = s.size := by simp
  rw [hl] at h
  unfold vals linesS
  rw [List.map_map, List.map_map]
  apply List.map_congr_left
  intro x hx
  have hx' := h x hx
  simp only [Function.comp]
  unfold mkS
  rw [dif_pos (by omega)]
/-- poly.Lines -/
theorem lines (s : ByteArray) (w : World) (hs : s.size ≤ 600) :
    Calls Try.prog 34 #[.string s] w fun e w' => ∃ v, e = .returned (.tuple #[v, .int .i64 0]) ∧ Row w' v (((cut s.data.toList).map fun x => (hv x : Int)).map (.int .i64)) ∧ Below w.heap.size w w' := by
  refine ((callsIn_wide (n := 3)).1 (lines_in 3 (by omega) s hs w)).mono ?_
  rintro e w' ⟨v, rfl, hrow, hB⟩
  refine ⟨v, rfl, ?_, hB⟩
  rw [← vals_lines s hs]
  exact Row.of_owns hrow
theorem lines_big (s : ByteArray) (w : World) (h600 : 600 < s.size) :
    Calls Try.prog 34 #[.string s] w fun e w' => e = .returned (.tuple #[.slice none 0 0, .int .i64 1]) ∧ w = w' := by
  go_enter Try.func34, Try.ntmps34
  go_wp2
  refine bodyPost_ret (v := .tuple #[.slice none 0 0, .int .i64 1]) (by simp [results, Try.results34]) rfl ⟨rfl, rfl⟩

end Go.Proofs.Ytdiogfhbgmkajaa.LinesC
