/-
  What strings.LastIndex, Count and Index hand back where the second string is one line feed.
-/
import Derived.Test.YtfikolidmpjfcaaLift
import Derived.Test.YtfikolidmpjfcaaKit
import Derived.Test.YtfikolidmpjfcaaPosMath
import Derived.Lib.Strings
import Derived.Lib.Slices
import Derived.Lib.Walk
import Derived.Lib.Bytealg
namespace Go.Proofs.Ytfikolidmpjfcaa.StrC
open Go.RowKit PosM Kit

theorem ret_int {k : IntKind} {a b : Int} (h : a = b) : Ending.returned (.int k a) = .returned (.int k b) := by rw [h]
theorem at_byte (s : ByteArray) (i : Nat) (h : i < s.size) : s.data.toList[i]'(by simpa using h) = s[i] := rfl

theorem byte_ne {c : UInt8} (h : ¬ c = 10) : ((c.toNat : Int) == 10) = false := by
  have : c.toNat ≠ 10 := fun e => h (UInt8.toNat_inj.1 (by simpa using e))
  simp; omega

set_option maxHeartbeats 400000 in
theorem lastByte (s : ByteArray) (w : World) (hs : s.size ≤ maxLen) :
    Calls Try.prog 44 #[.string s, .int .u8 10] w fun e w' => e = .returned (.int .i64 ((s.size : Int) - 1 - col s.data.toList)) ∧ w = w' := by
  unfold maxLen at hs
  have hcl := col_len s.data.toList
  have hlen : s.data.toList.length = s.size := by simp
  rw [hlen] at hcl
  go_enter Try.func44, Try.ntmps44
  go_wp2
  go_loop [5] (fun i => ∃ k : Nat, k ≤ s.size ∧ k ≤ col s.data.toList ∧ i = .int .i64 ((s.size : Int) - 1 - k)) (fun i => (intOf i + 1).toNat)
  case atStart => exact ⟨0, by omega, by omega, by simp⟩
  case round =>
    obtain ⟨k, hk, hkc, rfl⟩ := hrel
    by_cases hlt : k < s.size
    · have hst := col_step s.data.toList k (by omega) hkc
      simp only [hlen] at hst
      rw [at_byte s (s.size - 1 - k) (by omega)] at hst
      have e1 : ((s.size : Int) - 1 - k) = ((s.size - 1 - k : Nat) : Int) := by omega
      rw [e1]
      by_cases hc : s[s.size - 1 - k] = 10
      · have hcol := hst.2 hc
        have H1 := Lib.hid hcol
        have hb : ((s[s.size - 1 - k].toNat : Int) == 10) = true := by rw [hc]; rfl
        clear hst hcol hc
        go_wp2
        go_ret
        exact ⟨ret_int (by rw [H1.out]; omega), rfl⟩
      · have hcol := hst.1 hc
        have hb := byte_ne hc
        clear hst hc
        go_wp2
        go_round
        case rel => exact ⟨k + 1, by omega, hcol, congrArg (Value.int IntKind.i64) (by omega)⟩
        case measure => (simp [intOf] <;> omega)
    · have hge : ¬ (0 : Int) ≤ (s.size : Int) - 1 - k := by omega
      go_wp2
      go_ret
      exact ⟨ret_int (by omega), rfl⟩

set_option maxHeartbeats 400000 in
theorem lastIndex (s : ByteArray) (w : World) (hs : s.size ≤ maxLen) :
    Calls Try.prog 37 #[.string s, .string ⟨#[10]⟩] w fun e w' => e = .returned (.int .i64 ((s.size : Int) - 1 - col s.data.toList)) ∧ w = w' := by
  go_enter Try.func37, Try.ntmps37
  go_wp2_with (go_at_call 44; refine (lastByte _ _ hs).mono ?_; rintro e w' ⟨rfl, rfl⟩)
  go_ret
  exact ⟨rfl, rfl⟩

set_option maxHeartbeats 400000 in
set_option maxRecDepth 100000 in
theorem count (s : ByteArray) (w : World) :
    Calls Try.prog 38 #[.string s, .string ⟨#[10]⟩] w fun e w' => e = .returned (.int .i64 (lns s.data.toList)) ∧ w = w' := by
  go_enter Try.func38, Try.ntmps38
  go_wp2
  rw [run_callFunc_extern Try.func47 (by kernel_rfl) (by kernel_rfl) (by kernel_rfl) (e := Extern.BytealgCount.count) (by kernel_rfl), Lib.run_countString]
  simp only [Result.andThen]
  rw [Oper.upon_value]
  go_wp2
  go_ret
  exact ⟨rfl, rfl⟩

/-- where the first feed is, or -1 -/
def feed (l : List UInt8) : Int := if first l < l.length then first l else -1
theorem indexByte_feed (l : List UInt8) : Lib.indexByte l 10 = feed l := by
  induction l with
  | nil => rfl
  | cons b l ih =>
    unfold Lib.indexByte
    rw [ih]
    by_cases h : b = 10
    · simp [h, feed, first]
    · have hb : (b == 10) = false := by simpa using h
      have e : first (b :: l) = first l + 1 := by simp [first, h]
      by_cases hl : first l < l.length
      · have f1 : feed l = first l := by simp [feed, hl]
        have f2 : feed (b :: l) = first l + 1 := by simp [feed, e, hl]
        have f3 : (((first l : Nat) : Int) == -1) = false := by simp
        simp [f1, f2, f3, hb]
      · have f1 : feed l = -1 := by simp [feed, hl]
        have f2 : feed (b :: l) = -1 := by simp [feed, e, hl]
        simp [f1, f2, hb]

set_option maxHeartbeats 400000 in
set_option maxRecDepth 100000 in
theorem indexByte (s : ByteArray) (w : World) :
    Calls Try.prog 55 #[.string s, .int .u8 10] w fun e w' => e = .returned (.int .i64 (feed s.data.toList)) ∧ w = w' := by
  have h := indexByte_feed s.data.toList
  have H := Lib.hid h
  clear h
  go_enter Try.func55, Try.ntmps55
  go_wp2
  rw [run_callFunc_extern Try.func59 (by kernel_rfl) (by kernel_rfl) (by kernel_rfl) (e := Extern.BytealgIndexByte.indexByte) (by kernel_rfl), Lib.run_indexByteString]
  simp only [Result.andThen]
  rw [Oper.upon_value]
  go_wp2
  go_ret
  exact ⟨ret_int H.out, rfl⟩

set_option maxHeartbeats 400000 in
theorem sliteIndex (s : ByteArray) (w : World) :
    Calls Try.prog 53 #[.string s, .string ⟨#[10]⟩] w fun e w' => e = .returned (.int .i64 (feed s.data.toList)) ∧ w = w' := by
  go_enter Try.func53, Try.ntmps53
  go_wp2_with (go_at_call 55; refine (indexByte _ _).mono ?_; rintro e w' ⟨rfl, rfl⟩)
  · have h : ([10] == s.toList) = true := by assumption
    go_ret
    have e : s.data.toList = [10] := by rw [← Lib.toList_data]; exact (beq_iff_eq.1 h).symm
    exact ⟨ret_int (by rw [e]; rfl), rfl⟩
  · go_ret
    exact ⟨rfl, rfl⟩

set_option maxHeartbeats 400000 in
theorem index (s : ByteArray) (w : World) :
    Calls Try.prog 48 #[.string s, .string ⟨#[10]⟩] w fun e w' => e = .returned (.int .i64 (feed s.data.toList)) ∧ w = w' := by
  go_enter Try.func48, Try.ntmps48
  go_wp2_with (go_at_call 53; refine (sliteIndex _ _).mono ?_; rintro e w' ⟨rfl, rfl⟩)
  go_ret
  exact ⟨rfl, rfl⟩

end Go.Proofs.Ytfikolidmpjfcaa.StrC
