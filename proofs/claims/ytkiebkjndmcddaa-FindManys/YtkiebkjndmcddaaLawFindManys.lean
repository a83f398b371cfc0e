/-
  The law FindManys (promise P10.3) at every text and list of strings: find.Many answers what the document says.
  Conditions: none.
-/
import Derived.Test.YtkiebkjndmcddaaFindManysW
import Derived.Test.YtkiebkjndmcddaaLift
import Derived.Lib.SmallJoins
import Derived.SizedLaws
namespace Go.Proofs.Ytkiebkjndmcddaa
open Go.ChangeShapes Go.WideShapes Go.ChangeAt Go.RowKit Go.Joins
open Go.ChangeMaps (open_string)

theorem FindManysLaw : Lift.Law Rows.findManysSpec 2 := ⟨rfl, fun _ ds h => by
  match ds, h with
  | [_, _], _ => rfl⟩

set_option maxRecDepth 100000 in
theorem FindManysLifted (os : Os) (started : os.Started) (H : Type) (enc : TypeId × Value → H) :
    ReturnsInHanded {} Try.checked os 6 .any (Rows.findManysSpec.pre6 enc Try.prog Try.f6 Rows.findManysRow.domain false) (Rows.findManysSpec.post enc Try.prog Try.f6 false true false false) := by
  refine returnsInHanded_of_change_sized (C := Try.checked) Lift.own started (by kernel_rfl) Try.func6
    (ChangeSpec.witness6 (enc := enc) (C := Try.checked) false ⟨#[], #[.string ByteArray.empty, .slice none 0 0], []⟩ 8 (by kernel_rfl) (by kernel_rfl) (by kernel_rfl) (by kernel_rfl)) ?_
  intro W base args ds gs before hval0 hW _ hsz _
  have hval : ∀ (j : Nat) t v, Try.f6.params[j]? = some t → args[j]? = some v → Value.okWide Try.prog W .any base t v := hval0
  refine Lift.contract Lift.laidOut FindManysLaw (by kernel_rfl) Try.underlying4 (by kernel_rfl) hW ?_
  obtain ⟨p, q, hA0, _, _, _, _⟩ := hW
  have hA : DataW.TrodAll enc Try.prog W 0 (fun _ => true) true Try.f6.params.toList args.toList ds p := hA0
  rw [Try.params6] at hA hval
  obtain ⟨v0, vs0, d0, ds0, p0, q0, hargs, rfl, rfl, h0, r0⟩ := trodAll_cons hA
  obtain ⟨v1, vs1, d1, ds1, p1, q1, rfl, rfl, rfl, h1, r1⟩ := trodAll_cons r0
  obtain ⟨rfl, rfl, rfl⟩ := trodAll_nil r1
  obtain rfl : args = #[v0, v1] := by cases args; simp_all
  obtain ⟨a0, rfl, _, _, w0⟩ := open_string Try.underlying9 (hval 0 9 v0 rfl rfl) h0
  obtain ⟨a1, len1, cap1, rfl⟩ := okWide_slice Try.underlying33 (hval 1 33 v1 rfl rfl)
  obtain ⟨fuel1, hf1⟩ := h1
  obtain ⟨l1, rfl, w1, ok1, le1, mx1, sh1⟩ := StrM.open_strs (a := a1) (len := len1) (cap := cap1) hf1 (Kit.weigh hsz (j := 1) (t := 33) (d := d1) (by rw [Try.params6]; rfl) rfl)
  exact AcM.findManys a0 a1 cap1 l1 W w0 w1 ok1 le1 mx1 sh1

theorem FindManysHolds : Rows.FindManysSaid :=
  OpenClaim.holds_of_wide 6 Try.f6 rfl rfl rfl rfl rfl rfl rfl ⟨rfl, rfl, rfl, rfl, rfl⟩ rfl rfl rfl rfl rfl (by kernel_rfl) Try.func6 (by kernel_rfl)
    (of_decide_eq_true (by kernel_rfl)) (by unfold Func.isWrapper; first | (rw [if_pos (by decide +kernel)]; kernel_rfl) | (rw [if_neg (by decide +kernel)]; exact ⟨rfl, rfl⟩))
    (fun os started H enc _ => FindManysLifted os started H enc)

end Go.Proofs.Ytkiebkjndmcddaa
