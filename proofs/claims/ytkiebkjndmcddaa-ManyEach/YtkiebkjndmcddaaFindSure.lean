/-
  fustiankeep.findSure; calls of package find at texts within the bounds.
-/
import Derived.Test.YtkiebkjndmcddaaFindAllP
import Derived.Test.YtkiebkjndmcddaaSameK
import Derived.Test.YtkiebkjndmcddaaFew
namespace Go.Proofs.Ytkiebkjndmcddaa.FindK
open Go.RowKit Kit LineM FindM FindR FindP EditM FewT

theorem same (v1 v2 : Value) (zs : List Int) (w : World) (h1 : IsV w v1 zs) (h2 : IsV w v2 zs) (hl : zs.length ≤ 100000) :
    Calls Try.prog 33 #[v1, v2] w fun e w' => e = .returned (.bool true) ∧ Below w.heap.size w w' :=
  SameK.same v1 v2 zs w (IsV.row h1) (IsV.row h2) (by unfold maxLen; omega)
theorem lit_two (w : World) (a b : Int) : IsV (w.alloc (.cells #[.int .i64 a, .int .i64 b] 3)) (.slice (some ⟨w.heap.size, 0, none⟩) 2 2) [a, b] :=
  SlV.of_owns ic_len (e := 3) (World.ownsRow_lit w #[.int .i64 a, .int .i64 b] 2 (Nat.le_refl _) (by unfold maxLen; decide) rfl)
theorem sure_hits : ints (hits (⟨#[97, 97, 97]⟩ : ByteArray).data.toList (⟨#[97, 97]⟩ : ByteArray).data.toList) = [0, 1] := by decide
set_option maxHeartbeats 1000000 in
theorem findSure (w : World) : Calls Try.prog 22 #[] w fun e w' => e = .returned (.bool true) ∧ Below w.heap.size w w' := by
  have AL := Lib.hid (all_ok ⟨#[97, 97, 97]⟩ ⟨#[97, 97]⟩ w (by decide))
  rw [sure_hits] at AL
  have SM := Lib.hid (fun v1 v2 W h1 h2 => same v1 v2 [0, 1] W h1 h2 (by simp))
  go_enter Try.func22, Try.ntmps22
  go_wp2_with fail
  refine AL.out.mono ?_
  rintro e w1 ⟨v1, rfl, hv1, hb1⟩
  have V1 := Lib.hid hv1
  have B1 := Lib.hid hb1
  clear hv1 hb1 AL
  have LT := Lib.hid (lit_two w1 0 1)
  have SS := Lib.hid (SM.out v1 _ _ (V1.out.next (balloc (Below.refl _ _) (.cells #[.int .i64 0, .int .i64 1] 3))) LT.out)
  go_wp2_with fail
  refine SS.out.mono ?_
  rintro e w2 ⟨rfl, hb2⟩
  have B2 := Lib.hid (bstep (balloc B1.out _) hb2)
  clear hb2 SS LT SM
  go_wp2_with fail
  go_ret
  exact ⟨rfl, B2.out⟩
end Go.Proofs.Ytkiebkjndmcddaa.FindK
