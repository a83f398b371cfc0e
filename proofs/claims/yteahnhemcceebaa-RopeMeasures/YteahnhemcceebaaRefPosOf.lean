/-
  Package pos: what Of and At answer, in the code and in the document's answer, and the laws PosOfs, PosAts.
-/
import Derived.Test.YteahnhemcceebaaPosOfC
import Derived.Test.YteahnhemcceebaaStr
namespace Go.Proofs.Yteahnhemcceebaa.PosOfC
open Go.ChangeShapes Go.WideShapes Go.ChangeAt Go.RowKit PosM Kit StrC

theorem take_snoc (s : ByteArray) (k : Nat) (h : k < s.size) : s.data.toList.take (k + 1) = s.data.toList.take k ++ [s[k]] := by
  rw [List.take_succ_eq_append_getElem (by simpa using h)]; rfl

set_option maxHeartbeats 1000000 in
theorem refOf (s : ByteArray) (w : World) (hs : s.size ≤ maxLen) :
    Calls Try.prog 16 #[.string s] w fun e w' => e = .returned (posV s.size (lns s.data.toList) (col s.data.toList)) ∧ Below w.heap.size w w' := by
  unfold maxLen at hs
  go_enter Try.func16, Try.ntmps16
  go_wp2
  go_loopw [4] (fun i wr => ∃ k : Nat, k ≤ s.size ∧ i = .int .i64 k ∧ wr = (w.alloc (.cells #[.int .i64 0, .int .i64 0, .int .i64 0] 36)).alloc (.cells #[.int .i64 k, .int .i64 (lns (s.data.toList.take k)), .int .i64 (col (s.data.toList.take k))] 36)) (fun i _ => s.size - (intOf i).toNat)
  case atStart => exact ⟨0, Nat.zero_le _, rfl, by simp [lns, col]⟩
  case round =>
    obtain ⟨k, hk, rfl, rfl⟩ := hrel
    by_cases hlt : k < s.size
    · have h1 := lns_snoc (s.data.toList.take k) s[k]
      have h2 := col_snoc (s.data.toList.take k) s[k]
      rw [← take_snoc s k hlt] at h1 h2
      have h3 := lns_col_le (s.data.toList.take k)
      rw [List.length_take] at h3
      have b1 : lns (s.data.toList.take k) ≤ k := by omega
      have b2 : col (s.data.toList.take k) ≤ k := by omega
      by_cases hc : s[k] = 10
      · have hb : ((s[k].toNat : Int) == 10) = true := by rw [hc]; rfl
        rw [if_pos hc] at h1 h2
        have H := Lib.hid (And.intro h1 h2)
        clear h1 h2 h3 hc
        go_wp2
        refine ⟨⟨k + 1, by omega, by go_num, ?_⟩, by simp [intOf]; omega⟩
        rw [H.out.1, H.out.2]; simp
      · have hb : ((s[k].toNat : Int) == 10) = false := byte_ne hc
        rw [if_neg hc] at h1 h2
        have H := Lib.hid (And.intro h1 h2)
        clear h1 h2 h3 hc
        go_wp2
        refine ⟨⟨k + 1, by omega, by go_num, ?_⟩, by simp [intOf]; omega⟩
        rw [H.out.1, H.out.2]; simp
    · have e1 : s.data.toList.take k = s.data.toList := List.take_of_length_le (by simp; omega)
      have e2 : k = s.size := by omega
      subst e2
      rw [e1]
      clear e1
      go_wp2
      refine bodyPost_ret (v := posV s.size (lns s.data.toList) (col s.data.toList)) (by simp [results, Try.results16, go_sem]) rfl ⟨rfl, ?_⟩
      repeat (first | exact Below.refl _ _ | refine balloc ?_ _ | refine Below.setCell ?_ (by simp; omega) _ | refine bstep ?_ (by assumption) | refine Below.drew ?_)

end Go.Proofs.Yteahnhemcceebaa.PosOfC
