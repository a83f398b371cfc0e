/-
  Package find: apart.
-/
import Derived.Test.YtkiebkjndmcddaaFindAllP
namespace Go.Proofs.Ytkiebkjndmcddaa.FindP
open Go.RowKit Kit LineM FindM FindR EditM

theorem ints_get {l : List Nat} {k x : Nat} (h : l[k]? = some x) : (ints l)[k]? = some (x : Int) := by simp [ints, h]
theorem ints_len (l : List Nat) : (ints l).length = l.length := by simp [ints]
theorem keep_take {z : Nat} {l : List Nat} {k x : Nat} (h : l[k]? = some x) : keep z 0 (l.take (k + 1)) = keep z 0 (l.take k) ++ (if kend z 0 (l.take k) ≤ x then [x] else []) ∧ kend z 0 (l.take (k + 1)) = if kend z 0 (l.take k) ≤ x then x + z else kend z 0 (l.take k) := by
  have : l.take (k + 1) = l.take k ++ [x] := by rw [List.take_add_one, h]; rfl
  rw [this]
  exact keep_snoc z (l.take k) 0 x
set_option maxRecDepth 100000 in
set_option maxHeartbeats 4000000 in
theorem apart (l : List Nat) (z : Nat) (v : Value) (w : World) (hv : IsV w v (ints l)) (hn : l.length ≤ 1000) (hm : ∀ a ∈ l, a + z ≤ 1000) (hz : z ≤ 1000) :
    Calls Try.prog 28 #[v, .int .i64 (z : Int)] w (fun e w' => ∃ v', e = .returned v' ∧ IK w (ints (keep z 0 l)) v' w') := by
  obtain ⟨i0, hi, hz0, hz1, hz2⟩ := info_parts infoInt
  have HI := Lib.hid (And.intro hi (And.intro hz0 (And.intro hz1 hz2)))
  clear hi hz0 hz1 hz2
  obtain ⟨al, cap, rfl, hle, ha, _⟩ := hv
  have HA := Lib.hid ha
  obtain ⟨n, hn0⟩ : ∃ n, (ints l).length = n := ⟨_, rfl⟩
  rw [hn0] at hle ⊢
  have hn1 : n = l.length := hn0.symm.trans (ints_len l)
  have HN := Lib.hid hn1
  have hn2 : n ≤ 1000 := by omega
  clear hn0 ha hn1
  go_enter Try.func28, Try.ntmps28
  go_wp2_with fail
  go_loopw [5, 6, 11] (fun vo ve vi wr => ∃ k e : Nat, k ≤ n ∧ e ≤ 1000 ∧ vi = .int .i64 (k : Int) ∧ ve = .int .i64 (e : Int) ∧ Hid (e = kend z 0 (l.take k)) ∧ Hid (IK w (ints (keep z 0 (l.take k))) vo wr)) (fun _ _ vi _ => n - (intOf vi).toNat)
  case atStart => exact ⟨0, 0, by omega, by omega, rfl, rfl, Lib.hid rfl, Lib.hid (IK.nil (Below.refl _ _))⟩
  case round =>
    obtain ⟨k, e, hk, he, rfl, rfl, HE, HK⟩ := hrel
    by_cases hlt : k < n
    · obtain ⟨x, hx⟩ : ∃ x, l[k]? = some x := ⟨l[k]'(by have := HN.out; omega), List.getElem?_eq_getElem (by have := HN.out; omega)⟩
      obtain ⟨g, off, rfl, hg, c0⟩ := IsAt.get (HA.out.next HK.out.bel) (ints_get hx)
      have hxm := hm x (List.mem_of_getElem? hx)
      have u0 : (0 : Int) ≤ (k : Int) := by omega
      have u1 : (k : Int) < (n : Int) := by omega
      have r1 : IntKind.i64.wrap ((k : Int) + 1) = (k : Int) + 1 := IntWalk.i64_in _ (by omega)
      have r2 : IntKind.i64.wrap ((x : Int) + (z : Int)) = (x : Int) + (z : Int) := IntWalk.i64_in _ (by omega)
      have HT := Lib.hid (keep_take (z := z) hx)
      rw [← HE.out] at HT
      have hlen : (ints (keep z 0 (l.take k))).length ≤ 1000 := by
        have := keep_len z (l.take k) 0
        have h2 := List.length_take_le k l
        rw [ints_len]; have := HN.out; omega
      clear hx
      by_cases hex : e ≤ x
      · have q1 : decide ((x : Int) ≥ (e : Int)) = true := decide_eq_true (by omega)
        have HKL : Hid (ints (keep z 0 (l.take (k + 1))) = ints (keep z 0 (l.take k)) ++ [(x : Int)]) := Lib.hid (by rw [HT.out.1, if_pos hex]; simp [ints])
        have HE2 : Hid (x + z = kend z 0 (l.take (k + 1))) := Lib.hid (by rw [HT.out.2, if_pos hex])
        clear HT
        generalize ints (keep z 0 (l.take k)) = L at *
        have hsz := HK.out.bel.size
        have HROW := Lib.hid (HK.out.row)
        go_wp2_with (at_builtin; refine wpList_append_lies _ rfl _ _ 22 rfl w.heap.size 3 i0 _ 1 8 Try.underlying22 HI.out.1 HI.out.2.1 HI.out.2.2.1 HI.out.2.2.2 rfl (by decide) _ L.length (flatC ic L) rfl (HROW.out.alloc _) ⟨wr.heap.size, 0, none⟩ 1 1 [.int .i64 (x : Int)] rfl rfl (cell_one_new _ _ _) (by simp [Value.oneCell']) (by omega) (by unfold maxLen; omega) (by omega) (by simp; omega) _ rfl ?_; intro g1 cap1 w1 hown1 hgrow1 _ _)
        go_roundw
        case rel => exact ⟨k + 1, x + z, by omega, by omega, by go_num, by go_num, HE2, Lib.hid ⟨by rw [HKL.out, List.length_append, flatC_append]; exact hown1, bgrow (balloc HK.out.bel _) (HROW.out.alloc _) hgrow1⟩⟩
        case measure => simp [intOf]; omega
      · have q1 : decide ((x : Int) ≥ (e : Int)) = false := decide_eq_false (by omega)
        have HKL : Hid (ints (keep z 0 (l.take (k + 1))) = ints (keep z 0 (l.take k))) := Lib.hid (by rw [HT.out.1, if_neg hex, List.append_nil])
        have HE2 : Hid (e = kend z 0 (l.take (k + 1))) := Lib.hid (by rw [HT.out.2, if_neg hex])
        clear HT
        go_wp2_with fail
        go_roundw
        case rel => exact ⟨k + 1, e, by omega, he, by go_num, rfl, HE2, Lib.hid (by rw [HKL.out]; exact HK.out)⟩
        case measure => simp [intOf]; omega
    · have u1 : ¬ (k : Int) < (n : Int) := by omega
      have e1 : l.take k = l := List.take_of_length_le (by have := HN.out; omega)
      rw [e1] at HK
      clear e1 HE
      go_wp2_with fail
      go_ret
      exact ⟨_, rfl, HK.out⟩
end Go.Proofs.Ytkiebkjndmcddaa.FindP
