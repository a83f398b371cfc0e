/-
  The document: standsAt, findFault, FindAll.
-/
import Derived.Test.YtkiebkjndmcddaaChecked
import Derived.Test.YtkiebkjndmcddaaFindMath
import Derived.Test.YtkiebkjndmcddaaLineAt
import Derived.Deep.AppendLies
import Derived.Maps.AppendAt
import Derived.Lib.Strings
namespace Go.Proofs.Ytkiebkjndmcddaa.FindR
open Go.RowKit Kit FindM LineM EditM

/-- does it stand at a place, which may be none? -/
def stn (t f : Bs) (a : Int) : Bool := decide (0 ≤ a) && stands t f a.toNat
theorem stn_nat (t f : Bs) (k : Nat) : stn t f (k : Int) = stands t f k := by simp [stn]
theorem ext_eq (t f : ByteArray) (k : Nat) (h : k + f.size ≤ t.size) : ((t.extract k (k + f.size)).toList == f.toList) = stands t.data.toList f.data.toList k := by
  rw [Lib.toList_data, Lib.toList_data, Lib.extract_data, Bool.eq_iff_iff, stands_iff]
  simp only [beq_iff_eq]
  have e1 : t.data.toList.length = t.size := size_list t
  have e2 : f.data.toList.length = f.size := size_list f
  rw [e1, e2]
  constructor
  · intro h1
    refine ⟨h, ?_⟩
    rw [← h1]
    simp
  · rintro ⟨_, h1⟩
    conv => rhs; rw [← h1]
    simp
set_option maxRecDepth 100000 in
set_option maxHeartbeats 1000000 in
theorem standsAt (t f : ByteArray) (a : Int) (w : World) (hf : f.size ≤ 20) (ha : -1000 ≤ a) (ha2 : a ≤ 1000) :
    Calls Try.prog 26 #[.string t, .string f, .int .i64 a] w fun e w' => e = .returned (.bool (stn t.data.toList f.data.toList a)) ∧ w = w' := by
  have r1 : IntKind.i64.wrap (a + (f.size : Int)) = a + (f.size : Int) := IntWalk.i64_in _ (by omega)
  by_cases h0 : 0 ≤ a
  · obtain ⟨k, rfl⟩ : ∃ k : Nat, a = (k : Int) := ⟨a.toNat, by omega⟩
    rw [stn_nat]
    have q0 : decide ((k : Int) ≥ 0) = true := decide_eq_true (by omega)
    by_cases h1 : k + f.size ≤ t.size
    · have HE := Lib.hid (ext_eq t f k h1)
      have q1 : (0 : Int) ≤ (k : Int) := by omega
      have q2 : (k : Int) ≤ (k : Int) + (f.size : Int) := by omega
      have q3 : (k : Int) + (f.size : Int) ≤ (t.size : Int) := by omega
      have q4 : decide ((k : Int) + (f.size : Int) ≤ (t.size : Int)) = true := decide_eq_true q3
      generalize stands t.data.toList f.data.toList k = b at *
      go_enter Try.func26, Try.ntmps26
      go_wp2_with fail
      go_ret
      exact ⟨by rw [← HE.out]; rfl, rfl⟩
    · have hb : stands t.data.toList f.data.toList k = false := by
        cases hs : stands t.data.toList f.data.toList k
        · rfl
        · have := (stands_iff.1 hs).1
          rw [size_list, size_list] at this
          exact absurd this h1
      rw [hb]
      have q3 : ¬ ((k : Int) + (f.size : Int) ≤ (t.size : Int)) := by omega
      have q4 : decide ((k : Int) + (f.size : Int) ≤ (t.size : Int)) = false := decide_eq_false q3
      go_enter Try.func26, Try.ntmps26
      go_wp2_with fail
      go_ret
      exact ⟨rfl, rfl⟩
  · have hb : stn t.data.toList f.data.toList a = false := by unfold stn; rw [decide_eq_false h0]; rfl
    rw [hb]
    have q0 : decide (a ≥ 0) = false := decide_eq_false (by omega)
    have q1 : decide (0 ≤ a) = false := decide_eq_false h0
    go_enter Try.func26, Try.ntmps26
    go_wp2_with fail
    go_ret
    exact ⟨rfl, rfl⟩

/-- what is refused of a search -/
def ffault (n m : Nat) : Int := if 600 < n ∨ 20 < m then 1 else if m = 0 then 4 else 0
theorem empty_list (f : ByteArray) (h : f.size = 0) : f.toList.isEmpty = true := by
  rw [Lib.toList_data, List.isEmpty_iff]
  exact List.eq_nil_of_length_eq_zero (by rw [size_list]; exact h)
theorem some_list (f : ByteArray) (h : f.size ≠ 0) : f.toList.isEmpty = false := by
  rw [Lib.toList_data]
  cases hq : f.data.toList.isEmpty
  · rfl
  · rw [List.isEmpty_iff] at hq
    have := size_list f
    rw [hq] at this
    exact absurd this.symm h
set_option maxHeartbeats 1000000 in
theorem findFault (t f : ByteArray) (w : World) : Calls Try.prog 25 #[.string t, .string f] w fun e w' => e = .returned (.int .i64 (ffault t.size f.size)) ∧ w = w' := by
  by_cases h1 : 600 < t.size
  · have e : ffault t.size f.size = 1 := if_pos (.inl h1)
    rw [e]
    go_enter Try.func25, Try.ntmps25
    go_wp2_with fail
    go_ret
    exact ⟨rfl, rfl⟩
  · by_cases h2 : 20 < f.size
    · have e : ffault t.size f.size = 1 := if_pos (.inr h2)
      rw [e]
      go_enter Try.func25, Try.ntmps25
      go_wp2_with fail
      go_ret
      exact ⟨rfl, rfl⟩
    · by_cases h3 : f.size = 0
      · have e : ffault t.size f.size = 4 := by unfold ffault; rw [if_neg (by omega), if_pos h3]
        have hb := empty_list f h3
        rw [e]
        clear e h3
        go_enter Try.func25, Try.ntmps25
        go_wp2_with fail
        go_ret
        exact ⟨rfl, rfl⟩
      · have e : ffault t.size f.size = 0 := by unfold ffault; rw [if_neg (by omega), if_neg h3]
        have hb := some_list f h3
        rw [e]
        clear e h3
        go_enter Try.func25, Try.ntmps25
        go_wp2_with fail
        go_ret
        exact ⟨rfl, rfl⟩

/-- places, as numbers of the machine -/
def ints (l : List Nat) : List Int := l.map fun (i : Nat) => (i : Int)
theorem ffault_ok {n m : Nat} (h : ffault n m = 0) : n ≤ 600 ∧ m ≤ 20 ∧ 0 < m := by
  unfold ffault at h
  split at h
  · cases h
  · split at h
    · cases h
    · omega
theorem ffault_cases (n m : Nat) : ffault n m = 0 ∨ ffault n m = 1 ∨ ffault n m = 4 := by
  unfold ffault; split
  · simp
  · split <;> simp
set_option maxHeartbeats 1000000 in
theorem findAll_no (t f : ByteArray) (w : World) (h : ffault t.size f.size ≠ 0) : Calls Try.prog 13 #[.string t, .string f] w (IsPost w [] (ffault t.size f.size)) := by
  have F := Lib.hid (findFault t f w)
  have hb : (ffault t.size f.size == 0) = false := by simpa using h
  have hc := ffault_cases t.size f.size
  clear h
  generalize ffault t.size f.size = c at *
  go_enter Try.func13, Try.ntmps13
  go_wp2_with (go_at_call 25; refine F.out.mono ?_; rintro e w1 ⟨rfl, rfl⟩)
  go_ret2
  exact ⟨_, rfl, IK.nil (Below.refl _ _)⟩
set_option maxRecDepth 100000 in
set_option maxHeartbeats 2000000 in
theorem findAll (t f : ByteArray) (w : World) (h : ffault t.size f.size = 0) : Calls Try.prog 13 #[.string t, .string f] w (IsPost w (ints (hits t.data.toList f.data.toList)) 0) := by
  obtain ⟨i0, hi, hz0, hz1, hz2⟩ := info_parts infoInt
  have HI := Lib.hid (And.intro hi (And.intro hz0 (And.intro hz1 hz2)))
  clear hi hz0 hz1 hz2
  obtain ⟨ht, hf, hf0⟩ := ffault_ok h
  have F := Lib.hid (findFault t f w)
  rw [h] at F
  have ST := Lib.hid (fun (k : Nat) W (hk : k ≤ t.size) => standsAt t f (k : Int) W hf (by omega) (by omega))
  simp only [stn_nat] at ST
  clear h
  go_enter Try.func13, Try.ntmps13
  go_wp2_with (go_at_call 25; refine F.out.mono ?_; rintro e w1 ⟨rfl, rfl⟩)
  go_loopw [7, 17] (fun vo vi wr => ∃ k : Nat, k ≤ t.size ∧ vi = .int .i64 (k : Int) ∧ Hid (IK w (ints (hitsTo t.data.toList f.data.toList k)) vo wr)) (fun _ vi _ => t.size - (intOf vi).toNat)
  case atStart => exact ⟨0, by omega, rfl, Lib.hid (IK.nil (Below.refl _ _))⟩
  case round =>
    obtain ⟨k, hk, rfl, HK⟩ := hrel
    by_cases hlt : k < t.size
    · have HS := Lib.hid (hitsTo_succ t.data.toList f.data.toList k)
      have r1 : IntKind.i64.wrap ((k : Int) + 1) = (k : Int) + 1 := IntWalk.i64_in _ (by omega)
      have HW := Lib.hid (ST.out k wr hk)
      have hL : (ints (hitsTo t.data.toList f.data.toList k)).length ≤ 600 := by
        unfold ints hitsTo
        rw [List.length_map]
        have := List.length_filter_le (stands t.data.toList f.data.toList) (List.range k)
        rw [List.length_range] at this
        omega
      cases hs : stands t.data.toList f.data.toList k
      · rw [hs] at HW HS
        simp only [Bool.false_eq_true, if_false, List.append_nil] at HS
        clear hs
        go_wp2_with (go_at_call 26; refine HW.out.mono ?_; rintro e w1 ⟨rfl, rfl⟩)
        go_roundw
        case rel => exact ⟨k + 1, by omega, by go_num, Lib.hid (by rw [HS.out]; exact HK.out)⟩
        case measure => simp [intOf]; omega
      · rw [hs] at HW HS
        simp only [if_true] at HS
        clear hs
        have HL : Hid (ints (hitsTo t.data.toList f.data.toList (k + 1)) = ints (hitsTo t.data.toList f.data.toList k) ++ [(k : Int)]) := Lib.hid (by rw [HS.out]; simp [ints])
        clear HS
        generalize ints (hitsTo t.data.toList f.data.toList k) = L at *
        have hsz := HK.out.bel.size
        have HROW := Lib.hid (HK.out.row)
        go_wp2_with (first
          | (go_at_call 26; refine HW.out.mono ?_; rintro e w1 ⟨rfl, rfl⟩)
          | (at_builtin; refine wpList_append_lies _ rfl _ _ 22 rfl w.heap.size 3 i0 _ 1 8 Try.underlying22 HI.out.1 HI.out.2.1 HI.out.2.2.1 HI.out.2.2.2 rfl (by decide) _ L.length (flatC ic L) rfl (HROW.out.alloc _) ⟨wr.heap.size, 0, none⟩ 1 1 [.int .i64 (k : Int)] rfl rfl (cell_one_new _ _ _) (by simp [Value.oneCell']) (by omega) (by unfold maxLen; omega) (by omega) (by simp; omega) _ rfl ?_; intro g cap w1 hown1 hgrow1 _ _))
        go_roundw
        case rel => exact ⟨k + 1, by omega, by go_num, Lib.hid ⟨by rw [HL.out, List.length_append, flatC_append]; exact hown1, bgrow (balloc HK.out.bel _) (HROW.out.alloc _) hgrow1⟩⟩
        case measure => simp [intOf]; omega
    · have e1 : k = t.data.toList.length := by rw [size_list]; omega
      rw [e1] at HK
      clear e1
      go_wp2_with fail
      go_ret2
      exact ⟨_, rfl, HK.out⟩
end Go.Proofs.Ytkiebkjndmcddaa.FindR
