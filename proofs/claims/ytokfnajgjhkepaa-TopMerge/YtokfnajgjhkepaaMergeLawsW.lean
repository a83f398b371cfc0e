/-
  The law MergeMerges, walked, where package merge keeps its contracts.
-/
import Derived.Test.YtokfnajgjhkepaaRefMerged
import Derived.Test.YtokfnajgjhkepaaSameTL
import Derived.Test.YtokfnajgjhkepaaTextsRow
namespace Go.Proofs.Ytokfnajgjhkepaa.MergeT
open Go.RowKit Kit LineM StrM DiffM DiffA DiffR DiffP DiffL

/-- what package merge is shown to do -/
structure MergeProg : Prop where
  merge : ∀ (x y z : Sv) (W : World), x.has W → y.has W → z.has W → okL x.l → okL y.l → okL z.l → x.l.length ≤ x.cap → y.l.length ≤ y.cap → z.l.length ≤ z.cap → Calls Try.prog 8 #[.slice x.a x.l.length x.cap, .slice y.a y.l.length y.cap, .slice z.a z.l.length z.cap] W (MgPost (mrg mk1 mk2 mk3 x.l y.l z.l) 0 W)
  mergeNo : ∀ (x y z : Sv) (W : World), x.has W → y.has W → z.has W → lf [x, y, z] = 1 → y.l.length ≤ y.cap → Calls Try.prog 8 #[.slice x.a x.l.length x.cap, .slice y.a y.l.length y.cap, .slice z.a z.l.length z.cap] W (MgPost ([], 0) 1 W)
theorem lf_case (x y z : Sv) : (okL x.l ∧ okL y.l ∧ okL z.l) ∨ lf [x, y, z] = 1 := by
  by_cases hx : okL x.l
  · by_cases hy : okL y.l
    · by_cases hz : okL z.l
      · exact .inl ⟨hx, hy, hz⟩
      · exact .inr (lf_bad (s := z) (by simp) hz)
    · exact .inr (lf_bad (s := y) (by simp) hy)
  · exact .inr (lf_bad (s := x) (by simp) hx)
set_option maxRecDepth 100000 in
set_option maxHeartbeats 2000000 in
theorem mergeMerges (P : MergeProg) (aa : Option Addr) (ca : Nat) (la : List ByteArray) (ab : Option Addr) (cb : Nat) (lb : List ByteArray) (ac : Option Addr) (cc : Nat) (lc : List ByteArray) (w : World) (ha : StAt w aa la) {Z : Prop} (_ : Z) (hca : la.length ≤ ca) {Z2 : Prop} (_ : Z2) {Z3 : Prop} (_ : Z3) (hb : StAt w ab lb) {Z4 : Prop} (_ : Z4) (hcb : lb.length ≤ cb) {Z5 : Prop} (_ : Z5) {Z6 : Prop} (_ : Z6) (hc : StAt w ac lc) {Z7 : Prop} (_ : Z7) (hcc : lc.length ≤ cc) {Z8 : Prop} (_ : Z8) {Z9 : Prop} (_ : Z9) :
    Calls Try.prog 3 #[.slice aa la.length ca, .slice ab lb.length cb, .slice ac lc.length cc] w fun e w' => e = .returned (.bool true) ∧ Below w.heap.size w w' := by
  obtain ⟨R, c, M, D⟩ : ∃ (R : List ByteArray × Nat) (c : Int), Calls Try.prog 8 #[.slice aa la.length ca, .slice ab lb.length cb, .slice ac lc.length cc] w (MgPost R c w) ∧ (∀ W, Below w.heap.size w W → Calls Try.prog 9 #[.slice aa la.length ca, .slice ab lb.length cb, .slice ac lc.length cc] W (MrPost R c W)) := by
    rcases lf_case ⟨aa, la, ca⟩ ⟨ab, lb, cb⟩ ⟨ac, lc, cc⟩ with ⟨h1, h2, h3⟩ | h
    · exact ⟨_, _, P.merge ⟨aa, la, ca⟩ ⟨ab, lb, cb⟩ ⟨ac, lc, cc⟩ w ha hb hc h1 h2 h3 hca hcb hcc, fun W hW => mergedR ⟨aa, la, ca⟩ ⟨ab, lb, cb⟩ ⟨ac, lc, cc⟩ W (SlAt.next ha hW) (SlAt.next hb hW) (SlAt.next hc hW) h1 h2 h3 hca hcb hcc⟩
    · exact ⟨_, _, P.mergeNo ⟨aa, la, ca⟩ ⟨ab, lb, cb⟩ ⟨ac, lc, cc⟩ w ha hb hc h hcb, fun W hW => (merged_no ⟨aa, la, ca⟩ ⟨ab, lb, cb⟩ ⟨ac, lc, cc⟩ W (SlAt.next ha hW) (SlAt.next hb hW) (SlAt.next hc hW) h).mono fun _ _ h => ⟨h, by simp⟩⟩
  have M' := Lib.hid M
  have D' := Lib.hid D
  have SA := Lib.hid (fun v1 v2 W (h1 : SlV 1 sc W v1 R.1) (h2 : SlV 1 sc W v2 R.1) (hl : R.1.length ≤ 100000) => SameTL.same v1 v2 R.1 W (texts_row h1) (texts_row h2) (by unfold maxLen; omega))
  clear M D ha hb hc P
  generalize la.length = nn at *
  generalize lb.length = mm at *
  generalize lc.length = kk at *
  go_enter Try.func3, Try.ntmps3
  go_wp2_with fail
  refine M'.out.mono ?_
  rintro e w1 ⟨v1, rfl, hv1, hb1⟩
  have B1 := Lib.hid hb1
  have V1 := Lib.hid hv1
  have DD := Lib.hid (D'.out w1 hb1)
  clear hv1 hb1 M' D'
  go_wp2_with fail
  refine DD.out.mono ?_
  rintro e w2 ⟨⟨v2, rfl, hv2, hb2⟩, hlen⟩
  have B2 := Lib.hid (bstep B1.out hb2)
  have SS := Lib.hid (SA.out v1 v2 w2 (V1.out.next hb2) hv2 hlen)
  clear hv2 hb2 DD SA V1 hlen
  go_wp2_with fail
  refine SS.out.mono ?_
  rintro e w3 ⟨rfl, hb3⟩
  have B3 := Lib.hid (bstep B2.out hb3)
  clear hb3 SS
  go_wp2_with fail
  go_ret
  exact ⟨by first | rfl | simp, B3.out⟩
end Go.Proofs.Ytokfnajgjhkepaa.MergeT
