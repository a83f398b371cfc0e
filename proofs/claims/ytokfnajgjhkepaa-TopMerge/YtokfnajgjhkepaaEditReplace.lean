/-
  Package edit: what replace answers.
-/
import Derived.Test.YtokfnajgjhkepaaChecked
import Derived.Test.YtokfnajgjhkepaaBnd2
import Derived.WalkSpells
import Derived.Lib.Strings
namespace Go.Proofs.Ytokfnajgjhkepaa.EditC
open Go.RowKit Kit EditM

theorem made_str (t s : ByteArray) (a c : Nat) : t.extract 0 a ++ s ++ t.extract (a + c) t.size = str (made t.data.toList a c s.data.toList) := by
  apply ByteArray.ext
  apply Array.toList_inj.1
  have e1 : (t.extract 0 a).data.toList = t.data.toList.take a := by rw [Lib.extract_data]; simp
  have e2 : (t.extract (a + c) t.size).data.toList = t.data.toList.drop (a + c) := by
    rw [Lib.extract_data]; apply List.take_of_length_le; simp
  simp only [ByteArray.data_append, Array.toList_append, e1, e2, list_str, made]

set_option maxHeartbeats 1000000 in
theorem replace (t s : ByteArray) (a c : Nat) (w : World) (h : a + c ≤ t.size) (h2 : t.size - c + s.size ≤ 600) (h3 : t.size ≤ 600) :
    Calls Try.prog 31 #[.string t, .agg #[.int .i64 (a : Int), .int .i64 (c : Int), .string s]] w fun e w' => e = .returned (.string (str (made t.data.toList a c s.data.toList))) ∧ Below w.heap.size w w' := by
  have E := Lib.hid (made_str t s a c)
  have hw : IntKind.i64.wrap ((a : Int) + (c : Int)) = (a : Int) + (c : Int) := IntWalk.i64_in _ (by omega)
  have h0 : (0 : Int) ≤ (a : Int) + (c : Int) := by omega
  have ht : ((a : Int) + (c : Int)).toNat = a + c := by omega
  have hz : (t.extract 0 a).size = a := by simp; omega
  have hn1 : ¬ 9223372036854775807 < a + s.size := by omega
  go_enter Try.func31, Try.ntmps31
  go_wp2
  go_quiet (fail)
  go_wp2
  go_ret
  exact ⟨ret_str E.out, bdrewN (balloc (Below.refl _ _) _) _⟩

end Go.Proofs.Ytokfnajgjhkepaa.EditC
