/-
  The law MergeMerges (chapter 12) at every drawn three lists of lines: Merge gives the lines, the number of clashes and the code that the document's merging gives.
  Conditions: none.
-/
import Derived.Test.YtokfnajgjhkepaaLift
import Derived.Test.YtokfnajgjhkepaaMergeMain
import Derived.Test.YtokfnajgjhkepaaMergeLawsW
import Derived.Lib.SmallJoins
import Derived.SizedLaws
namespace Go.Proofs.Ytokfnajgjhkepaa
open Go.ChangeShapes Go.WideShapes Go.ChangeAt Go.RowKit Go.Joins
open Go.ChangeMaps (open_string)

theorem MergeMergesLaw : Lift.Law Rows.mergeMergesSpec 3 := ⟨rfl, fun _ ds h => by
  match ds, h with
  | [_, _, _], _ => rfl⟩

set_option maxRecDepth 100000 in
theorem MergeMergesLifted (os : Os) (started : os.Started) (H : Type) (enc : TypeId × Value → H) :
    ReturnsInHanded {} Try.checked os 3 .any (Rows.mergeMergesSpec.pre6 enc Try.prog Try.f3 Rows.mergeMergesRow.domain false) (Rows.mergeMergesSpec.post enc Try.prog Try.f3 false true false false) := by
  refine returnsInHanded_of_change_sized (C := Try.checked) Lift.own started (by kernel_rfl) Try.func3
    (ChangeSpec.witness6 (enc := enc) (C := Try.checked) false ⟨#[], #[.slice none 0 0, .slice none 0 0, .slice none 0 0], []⟩ 8 (by kernel_rfl) (by kernel_rfl) (by kernel_rfl) (by kernel_rfl)) ?_
  intro W base args ds gs before hval0 hW _ hsz _
  have hval : ∀ (j : Nat) t v, Try.f3.params[j]? = some t → args[j]? = some v → Value.okWide Try.prog W .any base t v := hval0
  refine Lift.contract Lift.laidOut MergeMergesLaw (by kernel_rfl) Try.underlying4 (by kernel_rfl) hW ?_
  obtain ⟨p, q, hA0, _, _, _, _⟩ := hW
  have hA : DataW.TrodAll enc Try.prog W 0 (fun _ => true) true Try.f3.params.toList args.toList ds p := hA0
  rw [Try.params3] at hA hval
  obtain ⟨v0, vs0, d0, ds0, p0, q0, hargs, rfl, rfl, h0, r0⟩ := trodAll_cons hA
  obtain ⟨v1, vs1, d1, ds1, p1, q1, rfl, rfl, rfl, h1, r1⟩ := trodAll_cons r0
  obtain ⟨v2, vs2, d2, ds2, p2, q2, rfl, rfl, rfl, h2, r2⟩ := trodAll_cons r1
  obtain ⟨rfl, rfl, rfl⟩ := trodAll_nil r2
  obtain rfl : args = #[v0, v1, v2] := by cases args; simp_all
  obtain ⟨a0, len0, cap0, rfl⟩ := okWide_slice Try.underlying22 (hval 0 22 v0 rfl rfl)
  obtain ⟨fuel0, hf0⟩ := h0
  obtain ⟨l0, rfl, w0, ok0, le0, mx0, sh0⟩ := StrM.open_strs (a := a0) (len := len0) (cap := cap0) hf0 (Kit.weigh hsz (j := 0) (t := 22) (d := d0) (by rw [Try.params3]; rfl) rfl)
  obtain ⟨a1, len1, cap1, rfl⟩ := okWide_slice Try.underlying22 (hval 1 22 v1 rfl rfl)
  obtain ⟨fuel1, hf1⟩ := h1
  obtain ⟨l1, rfl, w1, ok1, le1, mx1, sh1⟩ := StrM.open_strs (a := a1) (len := len1) (cap := cap1) hf1 (Kit.weigh hsz (j := 1) (t := 22) (d := d1) (by rw [Try.params3]; rfl) rfl)
  obtain ⟨a2, len2, cap2, rfl⟩ := okWide_slice Try.underlying22 (hval 2 22 v2 rfl rfl)
  obtain ⟨fuel2, hf2⟩ := h2
  obtain ⟨l2, rfl, w2, ok2, le2, mx2, sh2⟩ := StrM.open_strs (a := a2) (len := len2) (cap := cap2) hf2 (Kit.weigh hsz (j := 2) (t := 22) (d := d2) (by rw [Try.params3]; rfl) rfl)
  exact MergeT.mergeMerges MergeT.prog a0 cap0 l0 a1 cap1 l1 a2 cap2 l2 W w0 ok0 le0 mx0 sh0 w1 ok1 le1 mx1 sh1 w2 ok2 le2 mx2 sh2

theorem MergeMergesHolds : Rows.MergeMergesSaid :=
  OpenClaim.holds_of_wide 3 Try.f3 rfl rfl rfl rfl rfl rfl rfl ⟨rfl, rfl, rfl, rfl, rfl⟩ rfl rfl rfl rfl rfl (by kernel_rfl) Try.func3 (by kernel_rfl)
    (of_decide_eq_true (by kernel_rfl)) (by unfold Func.isWrapper; first | (rw [if_pos (by decide +kernel)]; kernel_rfl) | (rw [if_neg (by decide +kernel)]; exact ⟨rfl, rfl⟩))
    (fun os started H enc _ => MergeMergesLifted os started H enc)

end Go.Proofs.Ytokfnajgjhkepaa
