/-
  The laws DiffCosts, DiffSteps and DiffPatches, walked, where package diff keeps its contracts.
-/
import Derived.Test.YtcknmaimkodaeaaRefPatch
import Derived.Test.YtcknmaimkodaeaaStepEq
import Derived.Test.YtcknmaimkodaeaaSameTL
import Derived.BigQuiet
namespace Go.Proofs.Ytcknmaimkodaeaa.DiffL
open Go.RowKit Kit LineM StrM DiffM DiffA DiffR

/-- lines that are read, and a code -/
def PrPost (R : List ByteArray × Int) (w : World) (e : Ending) (w' : World) : Prop := ∃ v, e = .returned (.tuple #[v, .int .i64 R.2]) ∧ SlV 1 sc w' v R.1 ∧ Below w.heap.size w w'
/-- what package diff is shown to do -/
structure DiffProg : Prop where
  cost : ∀ (x y : Sv) (W : World), x.has W → y.has W → x.l.length ≤ x.cap → y.l.length ≤ y.cap → okL x.l → okL y.l → Calls Try.prog 12 #[.slice x.a x.l.length x.cap, .slice y.a y.l.length y.cap] W (NcPost (DiffM.cost x.l y.l : Int) 0 W)
  costNo : ∀ (x y : Sv) (W : World), x.has W → y.has W → lf [x, y] = 1 → Calls Try.prog 12 #[.slice x.a x.l.length x.cap, .slice y.a y.l.length y.cap] W (NcPost 0 1 W)
  steps : ∀ (x y : Sv) (W : World), x.has W → y.has W → x.l.length ≤ x.cap → y.l.length ≤ y.cap → okL x.l → okL y.l → Calls Try.prog 10 #[.slice x.a x.l.length x.cap, .slice y.a y.l.length y.cap] W (SpPost (comb (kinds x.l y.l)) 0 W)
  stepsNo : ∀ (x y : Sv) (W : World), x.has W → y.has W → lf [x, y] = 1 → Calls Try.prog 10 #[.slice x.a x.l.length x.cap, .slice y.a y.l.length y.cap] W (SpPost [] 1 W)
  patch : ∀ (x : Sv) (al : Option Addr) (cl : Nat) (l : List (Int × Int)) (z : Sv) (W : World), x.has W → SlAt 2 sci W al l → z.has W → x.l.length ≤ x.cap → l.length ≤ cl → z.l.length ≤ z.cap → l.length ≤ 200 → x.l.length ≤ 80 → z.l.length ≤ 80 → Calls Try.prog 14 #[.slice x.a x.l.length x.cap, .slice al l.length cl, .slice z.a z.l.length z.cap] W (PrPost (pfin x.l z.l (prun x.l z.l l (0, 0, []))) W)
  patchBig : ∀ (x : Sv) (al : Option Addr) (cl : Nat) (l : List (Int × Int)) (z : Sv) (W : World), (200 < l.length ∨ 80 < x.l.length ∨ 80 < z.l.length) → Calls Try.prog 14 #[.slice x.a x.l.length x.cap, .slice al l.length cl, .slice z.a z.l.length z.cap] W (PrPost ([], 1) W)
theorem pr_of {R : List ByteArray × Int} {w w' : World} {e : Ending} (h : PtPost R w e w') : PrPost R w e w' := by
  obtain ⟨v, e1, h1⟩ := h
  exact ⟨v, e1, h1.val, h1.bel⟩
set_option maxHeartbeats 1000000 in
theorem diffCosts (P : DiffProg) (aa : Option Addr) (ca : Nat) (la : List ByteArray) (ab : Option Addr) (cb : Nat) (lb : List ByteArray) (w : World) (ha : StAt w aa la) {Z : Prop} (_ : Z) (hca : la.length ≤ ca) {Z2 : Prop} (_ : Z2) {Z3 : Prop} (_ : Z3) (hb : StAt w ab lb) {Z4 : Prop} (_ : Z4) (hcb : lb.length ≤ cb) {Z5 : Prop} (_ : Z5) {Z6 : Prop} (_ : Z6) :
    Calls Try.prog 4 #[.slice aa la.length ca, .slice ab lb.length cb] w fun e w' => e = .returned (.bool true) ∧ Below w.heap.size w w' := by
  obtain ⟨n, c, M, D⟩ : ∃ n c : Int, Calls Try.prog 12 #[.slice aa la.length ca, .slice ab lb.length cb] w (NcPost n c w) ∧ ∀ W, Below w.heap.size w W → Calls Try.prog 13 #[.slice aa la.length ca, .slice ab lb.length cb] W (NcPost n c W) := by
    rcases lf_two ⟨aa, la, ca⟩ ⟨ab, lb, cb⟩ with ⟨_, h1, h2⟩ | ⟨h0, _⟩
    · exact ⟨_, _, P.cost ⟨aa, la, ca⟩ ⟨ab, lb, cb⟩ w ha hb hca hcb h1 h2, fun W hW => diffCost ⟨aa, la, ca⟩ ⟨ab, lb, cb⟩ W (SlAt.next ha hW) (SlAt.next hb hW) h1 h2⟩
    · exact ⟨_, _, P.costNo ⟨aa, la, ca⟩ ⟨ab, lb, cb⟩ w ha hb h0, fun W hW => diffCost_no ⟨aa, la, ca⟩ ⟨ab, lb, cb⟩ W (SlAt.next ha hW) (SlAt.next hb hW) h0⟩
  have M' := Lib.hid M
  have D' := Lib.hid D
  clear M D ha hb P
  generalize la.length = nn at *
  generalize lb.length = mm at *
  go_enter Try.func4, Try.ntmps4
  go_wp2_with fail
  refine M'.out.mono ?_
  rintro e w1 ⟨rfl, hb1⟩
  have B1 := Lib.hid hb1
  have DD := Lib.hid (D'.out w1 hb1)
  clear hb1 M' D'
  go_wp2_with fail
  refine DD.out.mono ?_
  rintro e w2 ⟨rfl, hb2⟩
  have B2 := Lib.hid (bstep B1.out hb2)
  clear hb2 DD
  go_wp2_with fail
  go_ret
  exact ⟨by first | rfl | simp, B2.out⟩
theorem texts_row {w : World} {v : Value} {l : List ByteArray} (h : SlV 1 sc w v l) : Row w v (l.map (.string ·)) := by
  obtain ⟨a, cap, rfl, _, ha, _⟩ := h
  refine ⟨a, cap, by rw [List.length_map], fun hp => ?_⟩
  rw [List.length_map] at hp
  obtain ⟨g, off, e, hg, _⟩ := StAt.get ha (List.getElem?_eq_getElem hp)
  refine ⟨g, off, e, hg, fun i hi => ?_⟩
  rw [List.length_map] at hi
  obtain ⟨g', off', e', _, hc⟩ := StAt.get ha (List.getElem?_eq_getElem hi)
  rw [e] at e'
  simp only [Option.some.injEq, Addr.mk.injEq, and_true] at e'
  obtain ⟨rfl, rfl⟩ := e'
  rw [hc, List.getElem?_map, List.getElem?_eq_getElem hi]; rfl
set_option maxRecDepth 100000 in
set_option maxHeartbeats 2000000 in
theorem diffStepses (P : DiffProg) (aa : Option Addr) (ca : Nat) (la : List ByteArray) (ab : Option Addr) (cb : Nat) (lb : List ByteArray) (w : World) (ha : StAt w aa la) {Z : Prop} (_ : Z) (hca : la.length ≤ ca) {Z2 : Prop} (_ : Z2) {Z3 : Prop} (_ : Z3) (hb : StAt w ab lb) {Z4 : Prop} (_ : Z4) (hcb : lb.length ≤ cb) {Z5 : Prop} (_ : Z5) {Z6 : Prop} (_ : Z6) :
    Calls Try.prog 3 #[.slice aa la.length ca, .slice ab lb.length cb] w fun e w' => e = .returned (.bool true) ∧ Below w.heap.size w w' := by
  obtain ⟨R, c, M, D, LN⟩ : ∃ (R : List (Nat × Nat)) (c : Int), Calls Try.prog 10 #[.slice aa la.length ca, .slice ab lb.length cb] w (SpPost R c w) ∧ (∀ W, Below w.heap.size w W → Calls Try.prog 11 #[.slice aa la.length ca, .slice ab lb.length cb] W (SpPost R c W)) ∧ R.length ≤ 100000 := by
    rcases lf_two ⟨aa, la, ca⟩ ⟨ab, lb, cb⟩ with ⟨_, h1, h2⟩ | ⟨h0, _⟩
    · refine ⟨_, _, P.steps ⟨aa, la, ca⟩ ⟨ab, lb, cb⟩ w ha hb hca hcb h1 h2, fun W hW => diffSteps ⟨aa, la, ca⟩ ⟨ab, lb, cb⟩ W (SlAt.next ha hW) (SlAt.next hb hW) h1 h2 hca hcb, ?_⟩
      have h3 := runs_len (comb_all (kinds la lb)).1
      rw [(comb_all (kinds la lb)).2] at h3
      have h4 := (kinds_scr la lb).counts
      have h5 := h1.1
      have h6 := h2.1
      dsimp only at h5 h6 ⊢
      omega
    · exact ⟨_, _, P.stepsNo ⟨aa, la, ca⟩ ⟨ab, lb, cb⟩ w ha hb h0, fun W hW => diffSteps_no ⟨aa, la, ca⟩ ⟨ab, lb, cb⟩ W (SlAt.next ha hW) (SlAt.next hb hW) h0, by simp⟩
  have M' := Lib.hid M
  have D' := Lib.hid D
  have ns := neqStep
  have gs := guardStep
  clear M D ha hb P
  generalize la.length = nn at *
  generalize lb.length = mm at *
  go_enter Try.func3, Try.ntmps3
  go_wp2_with fail
  refine M'.out.mono ?_
  rintro e w1 ⟨v1, rfl, hv1, hb1⟩
  have B1 := Lib.hid hb1
  have V1 := Lib.hid hv1
  have DD := Lib.hid (D'.out w1 hb1)
  clear hv1 hb1 M' D'
  go_wp2_with fail
  refine DD.out.mono ?_
  rintro e w2 ⟨v2, rfl, hv2, hb2⟩
  have B2 := Lib.hid (bstep B1.out hb2)
  obtain ⟨a1, c1, rfl, _, s1, _⟩ := V1.out.next hb2
  obtain ⟨a2, c2, rfl, _, s2, _⟩ := hv2
  have H1 := Lib.hid s1
  have H2 := Lib.hid s2
  clear hb2 V1 DD s1 s2 B1
  generalize hn : R.length = n at *
  have HN := Lib.hid hn
  clear hn
  go_wp2_with fail
  go_loopw [9] (fun vi wr => ∃ k : Nat, k ≤ n ∧ vi = .int .i64 (k : Int) ∧ ∃ q, wr = w2.drewN q) (fun vi _ => n - (intOf vi).toNat)
  case atStart => exact ⟨0, Nat.zero_le _, rfl, 0, rfl⟩
  case round =>
    obtain ⟨k, hk, rfl, q, rfl⟩ := hrel
    by_cases hlt : k < n
    · obtain ⟨p, hp⟩ : ∃ p, R[k]? = some p := ⟨R[k]'(by have := HN.out; omega), List.getElem?_eq_getElem _⟩
      obtain ⟨b1, o1, rfl, _, p1, p2⟩ := step_get H1.out hp
      obtain ⟨b2, o2, rfl, _, q1, q2⟩ := step_get H2.out hp
      have i0 : (0 : Int) ≤ (k : Int) := by omega
      have i1 : (k : Int) < (n : Int) := by omega
      have r1 : IntKind.i64.wrap ((k : Int) + 1) = (k : Int) + 1 := IntWalk.i64_in _ (by omega)
      clear hp
      obtain ⟨x, y⟩ := p
      dsimp only at *
      go_wp2_with fail
      go_quiet (fail)
      go_wp2_with fail
      go_roundw
      case rel => exact ⟨k + 1, by omega, by go_num, _, rfl⟩
      case measure => simp [intOf]; omega
    · have i1 : ¬ (k : Int) < (n : Int) := by omega
      go_wp2_with fail
      go_ret
      exact ⟨rfl, bstep B2.out (bdrewN (Below.refl _ _) _)⟩
set_option maxHeartbeats 1000000 in
theorem diffPatches (P : DiffProg) (aa : Option Addr) (ca : Nat) (la : List ByteArray) (al : Option Addr) (cl : Nat) (l : List (Int × Int)) (ab : Option Addr) (cb : Nat) (lb : List ByteArray) (w : World) (ha : StAt w aa la) {Z : Prop} (_ : Z) (hca : la.length ≤ ca) {Z2 : Prop} (_ : Z2) {Z3 : Prop} (_ : Z3) (hl : SlAt 2 sci w al l) {Z7 : Prop} (_ : Z7) (hcl : l.length ≤ cl) {Z8 : Prop} (_ : Z8) {Z9 : Prop} (_ : Z9) (hb : StAt w ab lb) {Z4 : Prop} (_ : Z4) (hcb : lb.length ≤ cb) {Z5 : Prop} (_ : Z5) {Z6 : Prop} (_ : Z6) :
    Calls Try.prog 5 #[.slice aa la.length ca, .slice al l.length cl, .slice ab lb.length cb] w fun e w' => e = .returned (.bool true) ∧ Below w.heap.size w w' := by
  obtain ⟨R, M, D, LN⟩ : ∃ R : List ByteArray × Int, Calls Try.prog 14 #[.slice aa la.length ca, .slice al l.length cl, .slice ab lb.length cb] w (PrPost R w) ∧ (∀ W, Below w.heap.size w W → Calls Try.prog 15 #[.slice aa la.length ca, .slice al l.length cl, .slice ab lb.length cb] W (PrPost R W)) ∧ R.1.length ≤ 100000 := by
    by_cases h : 200 < l.length ∨ 80 < la.length ∨ 80 < lb.length
    · exact ⟨_, P.patchBig ⟨aa, la, ca⟩ al cl l ⟨ab, lb, cb⟩ w h, fun W _ => (patch_big ⟨aa, la, ca⟩ al cl l ⟨ab, lb, cb⟩ W h).mono fun _ _ h => pr_of h, by simp⟩
    · refine ⟨_, P.patch ⟨aa, la, ca⟩ al cl l ⟨ab, lb, cb⟩ w ha hl hb hca hcl hcb (by omega) (by show la.length ≤ 80; omega) (by show lb.length ≤ 80; omega), fun W hW => (diffPatch ⟨aa, la, ca⟩ al cl l ⟨ab, lb, cb⟩ W (SlAt.next ha hW) (SlAt.next hl hW) (SlAt.next hb hW) (by omega) (by show la.length ≤ 80; omega) (by show lb.length ≤ 80; omega)).mono fun _ _ h => pr_of h, ?_⟩
      dsimp only
      cases hr : prun la lb l (0, 0, []) with
      | error c => simp [pfin]
      | ok s =>
        have hin := prun_in (pin_start la lb) hr
        have h1 := hin.i
        have h2 := hin.k
        have h3 := hin.out
        unfold pfin
        dsimp only
        split
        · simp
        · dsimp only; omega
  have M' := Lib.hid M
  have D' := Lib.hid D
  have SA := Lib.hid (fun v1 v2 W (h1 : SlV 1 sc W v1 R.1) (h2 : SlV 1 sc W v2 R.1) => SameTL.same v1 v2 R.1 W (texts_row h1) (texts_row h2) (by unfold maxLen; omega))
  clear M D LN ha hb hl P
  generalize la.length = nn at *
  generalize lb.length = mm at *
  generalize l.length = kk at *
  go_enter Try.func5, Try.ntmps5
  go_wp2_with fail
  refine M'.out.mono ?_
  rintro e w1 ⟨v1, rfl, hv1, hb1⟩
  have B1 := Lib.hid hb1
  have V1 := Lib.hid hv1
  have DD := Lib.hid (D'.out w1 hb1)
  clear hv1 hb1 M' D'
  go_wp2_with fail
  refine DD.out.mono ?_
  rintro e w2 ⟨v2, rfl, hv2, hb2⟩
  have B2 := Lib.hid (bstep B1.out hb2)
  have SS := Lib.hid (SA.out v1 v2 w2 (V1.out.next hb2) hv2)
  clear hv2 hb2 DD SA V1
  go_wp2_with fail
  refine SS.out.mono ?_
  rintro e w3 ⟨rfl, hb3⟩
  have B3 := Lib.hid (bstep B2.out hb3)
  clear hb3 SS
  go_wp2_with fail
  go_ret
  exact ⟨by first | rfl | simp, B3.out⟩
end Go.Proofs.Ytcknmaimkodaeaa.DiffL
