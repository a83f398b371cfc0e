/-
  Package poly: what Of, May and Join answer, in the code and in the document's answer; the laws PolyOfs, PolyMays, PolyJoins.
-/
import Derived.Test.YteahnhemcceebaaPolyC
import Derived.Test.YteahnhemcceebaaLift
import Derived.Test.YteahnhemcceebaaKit
import Derived.Test.YteahnhemcceebaaPolyMath
import Derived.Lib.Strings
import Derived.RegionTactic
import Derived.ChangeAlike
namespace Go.Proofs.Yteahnhemcceebaa.PolyC
open Go.ChangeShapes Go.WideShapes Go.ChangeAt Go.RowKit PolyM Kit

theorem ref_cast {a b c d : Nat} (h : a = (b + (c + 1) * d) % 2147483647) : (a : Int) = ((b : Int) + ((c : Int) + 1) * d) % 2147483647 := by
  have e : ((c : Int) + 1) * d = (((c + 1) * d : Nat) : Int) := by simp
  rw [e]; omega
theorem small_prod {c d : Nat} (hc : c < 256) (hd : d < 2147483647) : 0 ≤ ((c : Int) + 1) * d ∧ ((c : Int) + 1) * d ≤ 549755813632 := by
  refine ⟨Int.mul_nonneg (by omega) (by omega), ?_⟩
  have : ((c : Int) + 1) * d ≤ 256 * 2147483647 := Int.mul_le_mul (by omega) (by omega) (by omega) (by omega)
  omega
theorem drop_at (s : ByteArray) (k : Nat) (h : k < s.size) : s.data.toList.drop k = s[k] :: s.data.toList.drop (k + 1) := by
  rw [List.drop_eq_getElem_cons (by simpa using h)]; rfl

set_option maxHeartbeats 1000000 in
theorem refOf (s : ByteArray) (w : World) (hsz : s.size ≤ maxLen) :
    Calls Try.prog 17 #[.string s] w fun e w' => e = .returned (hashV (hv s.data.toList) (hs s.size)) ∧ Below w.heap.size w w' := by
  unfold maxLen at hsz
  go_enter Try.func17, Try.ntmps17
  go_wp2
  go_loop [3, 4, 5] (fun p u i => ∃ k : Nat, k ≤ s.size ∧ i = .int .i64 ((k : Int) - 1) ∧ p = .int .i64 (hs (s.size - k)) ∧ u = .int .i64 (hv (s.data.toList.drop k))) (fun _ _ i => (intOf i + 1).toNat)
  case atStart => exact ⟨s.size, by omega, rfl, by simp [hs_zero], by rw [List.drop_of_length_le (by simp)]; rfl⟩
  case round =>
    obtain ⟨k, hk, rfl, rfl, rfl⟩ := hrel
    by_cases hlt : 0 < k
    · obtain ⟨j, rfl⟩ : ∃ j, k = j + 1 := ⟨k - 1, by omega⟩
      have hj : j < s.size := by omega
      have h1 := ref_cast (hv_cons s[j] (s.data.toList.drop (j + 1)))
      rw [← drop_at s j hj] at h1
      have e0 : (s.data.toList.drop (j + 1)).length = s.size - (j + 1) := by simp
      rw [e0] at h1
      have h2 := hs_cast (hs_succ (s.size - (j + 1)))
      have e1 : s.size - (j + 1) + 1 = s.size - j := by omega
      rw [e1] at h2
      have b1 := hv_lt (s.data.toList.drop (j + 1))
      have b2 := hs_lt (s.size - (j + 1))
      have H := Lib.hid (And.intro h1 h2)
      have b3 := s[j].toNat_lt
      clear h1 h2 e0 e1
      generalize hv (s.data.toList.drop (j + 1)) = a at *
      generalize hs (s.size - (j + 1)) = b at *
      obtain ⟨b4, b5⟩ := small_prod b3 b2
      have e2 : ((j + 1 : Nat) : Int) - 1 = (j : Int) := by omega
      rw [e2]
      clear e2
      go_wp2
      go_round
      case rel => exact ⟨j, by omega, rfl, by rw [H.out.2], by rw [H.out.1]⟩
      case measure => simp [intOf]
    · obtain rfl : k = 0 := by omega
      have e2 : ((0 : Nat) : Int) - 1 = -1 := by omega
      rw [e2]
      clear e2
      go_wp2
      refine bodyPost_ret (v := hashV (hv s.data.toList) (hs s.size)) (by simp [results, Try.results17, go_sem]) rfl ⟨rfl, ?_⟩
      repeat (first | exact Below.refl _ _ | refine balloc ?_ _ | refine Below.setCell ?_ (by simp) _ | refine bdrewN ?_ _)

end Go.Proofs.Yteahnhemcceebaa.PolyC
