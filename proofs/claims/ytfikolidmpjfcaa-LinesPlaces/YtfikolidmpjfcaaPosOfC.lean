/-
  Package pos: what Of answers.
-/
import Derived.Test.YtfikolidmpjfcaaStr
namespace Go.Proofs.Ytfikolidmpjfcaa.PosOfC
open Go.RowKit PosM Kit StrC

/-- the extent of a text, as a value -/
abbrev posV (b l c : Int) : Value := .agg #[.int .i64 b, .int .i64 l, .int .i64 c]

set_option maxHeartbeats 400000 in
theorem of (s : ByteArray) (w : World) (hs : s.size ≤ maxLen) :
    Calls Try.prog 23 #[.string s] w fun e w' => e = .returned (posV s.size (lns s.data.toList) (col s.data.toList)) ∧ Below w.heap.size w w' := by
  have hcl := col_len s.data.toList
  have hlen : s.data.toList.length = s.size := by simp
  rw [hlen] at hcl
  have hs' := hs
  unfold maxLen at hs'
  go_enter Try.func23, Try.ntmps23
  go_wp2_with (first | (go_at_call 37; refine (lastIndex _ _ hs).mono ?_; rintro e w' ⟨rfl, rfl⟩) | (go_at_call 38; refine (count _ _).mono ?_; rintro e w' ⟨rfl, rfl⟩))
  have e1 : (s.size : Int) - ((s.size : Int) - 1 - col s.data.toList + 1) = col s.data.toList := by omega
  refine bodyPost_ret (v := posV s.size (lns s.data.toList) (col s.data.toList)) (by simp [results, Try.results23, go_sem, e1]) rfl ⟨rfl, ?_⟩
  repeat (first | exact Below.refl _ _ | refine balloc ?_ _ | refine Below.setCell ?_ (by simp; omega) _ | refine bstep ?_ (by assumption) | refine Below.drew ?_)

end Go.Proofs.Ytfikolidmpjfcaa.PosOfC
