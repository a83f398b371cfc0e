/-
  Package edit: what inverse answers.
-/
import Derived.Test.YtkeacipjjoeieaaChecked
import Derived.Test.YtkeacipjjoeieaaEditMath
import Derived.WalkSpells
import Derived.Lib.Strings
namespace Go.Proofs.Ytkeacipjjoeieaa.EditC
open Go.RowKit Kit EditM

theorem mid_str (t : ByteArray) (a c : Nat) : t.extract a (a + c) = str ((t.data.toList.drop a).take c) := by
  apply ByteArray.ext
  apply Array.toList_inj.1
  rw [Lib.extract_data, list_str]
  congr 1; omega

set_option maxHeartbeats 1000000 in
theorem inverse (t s : ByteArray) (a c : Nat) (w : World) (h : a + c ≤ t.size) (h3 : t.size ≤ 600) :
    Calls Try.prog 34 #[.string t, .agg #[.int .i64 (a : Int), .int .i64 (c : Int), .string s]] w fun e w' => e = .returned (.agg #[.int .i64 (a : Int), .int .i64 (s.size : Int), .string (str ((t.data.toList.drop a).take c))]) ∧ Below w.heap.size w w' := by
  have E := Lib.hid (mid_str t a c)
  have hw : IntKind.i64.wrap ((a : Int) + (c : Int)) = (a : Int) + (c : Int) := IntWalk.i64_in _ (by omega)
  have h0 : (0 : Int) ≤ (a : Int) + (c : Int) := by omega
  have ht : ((a : Int) + (c : Int)).toNat = a + c := by omega
  go_enter Try.func34, Try.ntmps34
  go_wp2
  go_region
  all_goals
    go_wp2
    rw [← E.out]
    refine bodyPost_ret (v := .agg #[.int .i64 (a : Int), .int .i64 (s.size : Int), .string (t.extract a (a + c))]) (by simp [results, Try.results34, go_sem]) rfl ⟨rfl, bdrew (balloc (balloc (Below.refl _ _) _) _)⟩

end Go.Proofs.Ytkeacipjjoeieaa.EditC
