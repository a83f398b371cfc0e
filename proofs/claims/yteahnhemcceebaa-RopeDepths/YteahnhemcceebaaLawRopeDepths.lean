/-
  rope.Depths answers what P3.2 specifies, for every list of operations: depths within their bounds.
  Conditions: none.
-/
import Derived.Test.YteahnhemcceebaaLift
import Derived.Test.YteahnhemcceebaaRopeDepthsW
import Derived.Lib.SmallJoins
import Derived.SizedLaws
namespace Go.Proofs.Yteahnhemcceebaa
open Go.ChangeShapes Go.WideShapes Go.ChangeAt Go.RowKit Go.Joins
open Go.ChangeMaps (open_string)

theorem RopeDepthsLaw : Lift.Law Rows.ropeDepthsSpec 1 := ⟨rfl, fun _ ds h => by
  match ds, h with
  | [_], _ => rfl⟩

set_option maxRecDepth 100000 in
theorem RopeDepthsLifted (os : Os) (started : os.Started) (H : Type) (enc : TypeId × Value → H) :
    ReturnsInHanded {} Try.checked os 5 .any (Rows.ropeDepthsSpec.pre6 enc Try.prog Try.f5 Rows.ropeDepthsRow.domain false) (Rows.ropeDepthsSpec.post enc Try.prog Try.f5 false true false false) := by
  refine returnsInHanded_of_change_sized (C := Try.checked) Lift.own started (by kernel_rfl) Try.func5
    (ChangeSpec.witness6 (enc := enc) (C := Try.checked) false ⟨#[], #[.slice none 0 0], []⟩ 8 (by kernel_rfl) (by kernel_rfl) (by kernel_rfl) (by kernel_rfl)) ?_
  intro W base args ds gs before hval0 hW _ hsz _
  have hval : ∀ (j : Nat) t v, Try.f5.params[j]? = some t → args[j]? = some v → Value.okWide Try.prog W .any base t v := hval0
  refine Lift.contract Lift.laidOut RopeDepthsLaw (by kernel_rfl) Try.underlying4 (by kernel_rfl) hW ?_
  obtain ⟨p, q, hA0, _, _, _, _⟩ := hW
  have hA : DataW.TrodAll enc Try.prog W 0 (fun _ => true) true Try.f5.params.toList args.toList ds p := hA0
  rw [Try.params5] at hA hval
  obtain ⟨v0, vs0, d0, ds0, p0, q0, hargs, rfl, rfl, h0, r0⟩ := trodAll_cons hA
  obtain ⟨rfl, rfl, rfl⟩ := trodAll_nil r0
  obtain rfl : args = #[v0] := by cases args; simp_all
  obtain ⟨a0, len0, cap0, rfl⟩ := okWide_slice Try.underlying22 (hval 0 22 v0 rfl rfl)
  obtain ⟨fuel0, hf0⟩ := h0
  obtain ⟨l0, rfl, w0⟩ := RopeC.open_ops (a := a0) (len := len0) (cap := cap0) hf0
  exact RopeL.ropeDepths a0 cap0 l0 W w0

theorem RopeDepthsHolds : Rows.RopeDepthsSaid :=
  OpenClaim.holds_of_wide 5 Try.f5 rfl rfl rfl rfl rfl rfl rfl ⟨rfl, rfl, rfl, rfl, rfl⟩ rfl rfl rfl rfl rfl (by kernel_rfl) Try.func5 (by kernel_rfl)
    (of_decide_eq_true (by kernel_rfl)) (by unfold Func.isWrapper; first | (rw [if_pos (by decide +kernel)]; kernel_rfl) | (rw [if_neg (by decide +kernel)]; exact ⟨rfl, rfl⟩))
    (fun os started H enc _ => RopeDepthsLifted os started H enc)

end Go.Proofs.Yteahnhemcceebaa
