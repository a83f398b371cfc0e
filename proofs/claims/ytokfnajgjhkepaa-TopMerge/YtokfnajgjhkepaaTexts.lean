/-
  The drawn texts of the kept statements: TextOf.
-/
import Derived.Test.YtokfnajgjhkepaaPick
namespace Go.Proofs.Ytokfnajgjhkepaa.Txt
open Go.RowKit Kit Lift

def letter (r : Nat) : UInt8 := [97, 98, 32, 10, 97, 98, 99, 100, 32, 98, 10, 97].getD r 0
/-- the text that raw numbers stand for -/
def textL (zs : List Int) : List UInt8 := zs.map fun z => letter (z % 12).toNat
def textS (zs : List Int) : ByteArray := ⟨(textL zs).toArray⟩

theorem textS_list (zs : List Int) : (textS zs).data.toList = textL zs := by simp [textS]
theorem textS_size (zs : List Int) : (textS zs).size = zs.length := by simp [textS, textL, ByteArray.size]

theorem letter_cut (r : Nat) (h : r < 12) : ((⟨#[97, 98, 32, 10, 97, 98, 99, 100, 32, 98, 10, 97]⟩ : ByteArray).extract r 12).extract 0 1 = ⟨#[letter r]⟩ := by
  have : ∀ r, r < 12 → ((⟨#[97, 98, 32, 10, 97, 98, 99, 100, 32, 98, 10, 97]⟩ : ByteArray).extract r 12).extract 0 1 = ⟨#[letter r]⟩ := by decide +kernel
  exact this r h
theorem textS_snoc (zs : List Int) (z : Int) : textS (zs ++ [z]) = textS zs ++ ⟨#[letter (z % 12).toNat]⟩ := by
  apply ByteArray.ext
  simp [textS, textL]

set_option maxHeartbeats 400000 in
theorem textOf (a : Option Addr) (len cap : Nat) (zs : List Int) (n : Nat) (w : World) (h : IsRow .i64 w a len cap zs) (hn : n ≤ 1000) :
    Calls Try.prog 15 #[.slice a len cap, .int .i64 n] w fun e w' => e = .returned (.string (textS ((zs.take len).take n))) ∧ w = w' := by
  obtain ⟨h1, h2⟩ := row_len h
  unfold maxLen at h2
  have HR := Lib.hid h
  clear h
  go_enter Try.func15, Try.ntmps15
  go_wp2
  go_loop [5, 6] (fun o i => ∃ k : Nat, k ≤ len ∧ k ≤ n ∧ i = .int .i64 k ∧ o = .string (textS (zs.take k))) (fun _ i => len - (intOf i).toNat)
  case atStart => exact ⟨0, Nat.zero_le _, Nat.zero_le _, rfl, rfl⟩
  case round =>
    obtain ⟨k, hk, hkn, rfl, rfl⟩ := hrel
    by_cases hlt : k < len
    · by_cases hlt2 : k < n
      · obtain ⟨b, off, rfl, _, hc⟩ := row_at HR.out (by omega)
        have hck := hc k (by omega)
        have HP := Lib.hid (fun w => picked (zs.getD k 0) 12 w (by omega) (by omega))
        have r0 := Int.emod_nonneg (zs.getD k 0) (show (12 : Int) ≠ 0 by omega)
        have r1 := Int.emod_lt_of_pos (zs.getD k 0) (show (0 : Int) < 12 by omega)
        obtain ⟨r, hr⟩ := Int.eq_ofNat_of_zero_le r0
        rw [hr] at HP r1
        have HE : Hid (textS (zs.take (k + 1)) = textS (zs.take k) ++ ⟨#[letter r]⟩) := by
          show _ = _
          rw [List.take_succ_eq_append_getElem (by omega), textS_snoc]
          have : zs[k] = zs.getD k 0 := by simp [List.getD, List.getElem?_eq_getElem (show k < zs.length by omega)]
          rw [this, hr]; simp
        have HL := Lib.hid (letter_cut r (by omega))
        have hb : (textS (zs.take k)).size ≤ 1000 := by rw [textS_size, List.length_take]; omega
        have r2 : r < 12 := by omega
        clear r0 hr hc r1
        generalize zs.getD k 0 = z at *
        go_wp2_with fail
        refine (HP.out _).mono ?_
        rintro e w' ⟨rfl, rfl⟩
        go_wp2
        go_round
        case rel => exact ⟨k + 1, by omega, by omega, by go_num, by rw [HL.out, HE.out]⟩
        case measure => simp [intOf]; omega
      · go_wp2
        go_ret
        have e : k = n := by omega
        subst e
        exact ⟨by rw [List.take_take, Nat.min_eq_left hk]; rfl, rfl⟩
    · go_wp2
      go_ret
      have e : k = len := by omega
      subst e
      exact ⟨by rw [List.take_take, Nat.min_eq_right hkn]; rfl, rfl⟩

end Go.Proofs.Ytokfnajgjhkepaa.Txt
