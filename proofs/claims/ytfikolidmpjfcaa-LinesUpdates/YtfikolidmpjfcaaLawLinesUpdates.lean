/-
  The law LinesUpdates (promise P8.2) at every list, size and edit: lines.Update answers what the document says.
  Conditions: none.
-/
import Derived.Test.YtfikolidmpjfcaaLinesUpdatesW
import Derived.Test.YtfikolidmpjfcaaLift
import Derived.Lib.SmallJoins
import Derived.SizedLaws
namespace Go.Proofs.Ytfikolidmpjfcaa
open Go.ChangeShapes Go.WideShapes Go.ChangeAt Go.RowKit Go.Joins
open Go.ChangeMaps (open_string)

theorem LinesUpdatesLaw : Lift.Law Rows.linesUpdatesSpec 3 := ⟨rfl, fun _ ds h => by
  match ds, h with
  | [_, _, _], _ => rfl⟩

set_option maxRecDepth 100000 in
theorem LinesUpdatesLifted (os : Os) (started : os.Started) (H : Type) (enc : TypeId × Value → H) :
    ReturnsInHanded {} Try.checked os 4 .any (Rows.linesUpdatesSpec.pre6 enc Try.prog Try.f4 Rows.linesUpdatesRow.domain false) (Rows.linesUpdatesSpec.post enc Try.prog Try.f4 false true false false) := by
  refine returnsInHanded_of_change_sized (C := Try.checked) Lift.own started (by kernel_rfl) Try.func4
    (ChangeSpec.witness6 (enc := enc) (C := Try.checked) false ⟨#[], #[.slice none 0 0, .int .i64 0, .agg #[.int .i64 0, .int .i64 0, .string ByteArray.empty]], []⟩ 8 (by kernel_rfl) (by kernel_rfl) (by kernel_rfl) (by kernel_rfl)) ?_
  intro W base args ds gs before hval0 hW _ hsz _
  have hval : ∀ (j : Nat) t v, Try.f4.params[j]? = some t → args[j]? = some v → Value.okWide Try.prog W .any base t v := hval0
  refine Lift.contract Lift.laidOut LinesUpdatesLaw (by kernel_rfl) Try.underlying4 (by kernel_rfl) hW ?_
  obtain ⟨p, q, hA0, _, _, _, _⟩ := hW
  have hA : DataW.TrodAll enc Try.prog W 0 (fun _ => true) true Try.f4.params.toList args.toList ds p := hA0
  rw [Try.params4] at hA hval
  obtain ⟨v0, vs0, d0, ds0, p0, q0, hargs, rfl, rfl, h0, r0⟩ := trodAll_cons hA
  obtain ⟨v1, vs1, d1, ds1, p1, q1, rfl, rfl, rfl, h1, r1⟩ := trodAll_cons r0
  obtain ⟨v2, vs2, d2, ds2, p2, q2, rfl, rfl, rfl, h2, r2⟩ := trodAll_cons r1
  obtain ⟨rfl, rfl, rfl⟩ := trodAll_nil r2
  obtain rfl : args = #[v0, v1, v2] := by cases args; simp_all
  obtain ⟨a0, len0, cap0, rfl⟩ := okWide_slice Try.underlying22 (hval 0 22 v0 rfl rfl)
  obtain ⟨fuel0, hf0⟩ := h0
  obtain ⟨l0, rfl, w0, ok0, le0, mx0, sh0⟩ := LineM.open_nums (a := a0) (len := len0) (cap := cap0) hf0 (Kit.weigh hsz (j := 0) (t := 22) (d := d0) (by rw [Try.params4]; rfl) rfl)
  obtain ⟨a1, rfl, _, _, w1⟩ := open_int Try.underlying3 (hval 1 3 v1 rfl rfl) h1
  obtain ⟨e2, rfl, w2⟩ := EditM.open_editV (hval 2 29 v2 rfl rfl) h2 (Kit.weigh hsz (j := 2) (t := 29) (d := d2) (by rw [Try.params4]; rfl) rfl)
  exact LineR.linesUpdates a0 cap0 l0 a1 e2 W w0 ok0 le0 mx0 sh0 w1 w2

theorem LinesUpdatesHolds : Rows.LinesUpdatesSaid :=
  OpenClaim.holds_of_wide 4 Try.f4 rfl rfl rfl rfl rfl rfl rfl ⟨rfl, rfl, rfl, rfl, rfl⟩ rfl rfl rfl rfl rfl (by kernel_rfl) Try.func4 (by kernel_rfl)
    (of_decide_eq_true (by kernel_rfl)) (by unfold Func.isWrapper; first | (rw [if_pos (by decide +kernel)]; kernel_rfl) | (rw [if_neg (by decide +kernel)]; exact ⟨rfl, rfl⟩))
    (fun os started H enc _ => LinesUpdatesLifted os started H enc)

end Go.Proofs.Ytfikolidmpjfcaa
