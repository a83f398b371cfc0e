/-
  The drawn texts of the kept statements: Picked and TextOf.
-/
import Derived.Test.YtedlgobpoifnfaaLift
import Derived.Test.YtedlgobpoifnfaaKit
import Derived.WalkSpells
import Derived.Lib.Strings
namespace Go.Proofs.Ytedlgobpoifnfaa.Txt
open Go.RowKit Kit Lift

theorem ret_int {k : IntKind} {a b : Int} (h : a = b) : Ending.returned (.int k a) = .returned (.int k b) := by rw [h]

theorem tmod_neg {a n : Int} (hn : 0 < n) (h : a.tmod n < 0) : a.tmod n + n = a % n := by
  rw [Int.tmod_eq_emod] at h ⊢
  have := Int.emod_nonneg a (show n ≠ 0 by omega)
  split at h <;> split <;> omega
theorem tmod_pos {a n : Int} (hn : 0 < n) (h : ¬ a.tmod n < 0) : a.tmod n = a % n := by
  rw [Int.tmod_eq_emod] at h ⊢
  have h1 := Int.emod_nonneg a (show n ≠ 0 by omega)
  have h2 := Int.emod_lt_of_pos a hn
  split at h <;> split <;> omega

set_option maxHeartbeats 400000 in
theorem picked (a n : Int) (w : World) (hn : 0 < n) (hn2 : n ≤ 9223372036854775807) :
    Calls Try.prog 23 #[.int .i64 a, .int .i64 n] w fun e w' => e = .returned (.int .i64 (a % n)) ∧ w = w' := by
  have h1 : -n < a.tmod n := Int.lt_tmod_of_pos a hn
  have h2 : a.tmod n < n := Int.tmod_lt_of_pos a hn
  have hz : (n == 0) = false := by simp; omega
  by_cases h : a.tmod n < 0
  · have e := tmod_neg hn h
    have E := Lib.hid e
    clear e
    go_enter Try.func23, Try.ntmps23
    go_wp2
    go_ret
    exact ⟨ret_int E.out, rfl⟩
  · have e := tmod_pos hn h
    have E := Lib.hid e
    clear e
    go_enter Try.func23, Try.ntmps23
    go_wp2
    go_ret
    exact ⟨ret_int E.out, rfl⟩

/-- a slice of integers that came in, its cells spelt as the walk spells them -/
theorem row_at {k : IntKind} {w : World} {a : Option Addr} {len cap : Nat} {zs : List Int} (h : IsRow k w a len cap zs) (hl : 0 < len) :
    ∃ b off, a = some ⟨b, off, none⟩ ∧ len ≤ zs.length ∧ ∀ i, i < zs.length → w.cell? ⟨b, off + i, none⟩ = some (.int k (zs.getD i 0)) := by
  rcases h with ⟨_, h, _, _⟩ | ⟨x, rfl, h1, h2, h3, h4, _⟩
  · omega
  · obtain ⟨b, off, spot⟩ := x
    have hc := h4 0 (by omega)
    have hspot : spot = none := by simpa [Addr.add] using World.cell?_spot hc
    subst hspot
    exact ⟨b, off, rfl, by omega, fun i hi => by
      have := h4 i hi
      cases i with
      | zero => simpa [Addr.add] using this
      | succ i => simpa [Addr.add] using this⟩
theorem row_len {k : IntKind} {w : World} {a : Option Addr} {len cap : Nat} {zs : List Int} (h : IsRow k w a len cap zs) : len ≤ zs.length ∧ zs.length ≤ maxLen := by
  rcases h with ⟨_, rfl, _, rfl⟩ | ⟨x, rfl, h1, h2, h3, h4, _⟩
  · simp
  · omega

def letter (r : Nat) : UInt8 := [97, 98, 32, 10, 97, 98, 99, 100, 32, 98, 10, 97].getD r 0
/-- the text that raw numbers stand for -/
def textL (zs : List Int) : List UInt8 := zs.map fun z => letter (z % 12).toNat
def textS (zs : List Int) : ByteArray := ⟨(textL zs).toArray⟩

theorem textS_list (zs : List Int) : (textS zs).data.toList = textL zs := by simp [textS]
theorem textS_size (zs : List Int) : (textS zs).size = zs.length := by simp [textS, textL, ByteArray.size]

theorem letter_cut (r : Nat) (h : r < 12) : ((⟨#[97, 98, 32, 10, 97, 98, 99, 100, 32, 98, 10, 97]⟩ : ByteArray).extract r 12).extract 0 1 = ⟨#[letter r]⟩ := by
  have : ∀ r, r < 12 → ((⟨#[97, 98, 32, 10, 97, 98, 99, 100, 32, 98, 10, 97]⟩ : ByteArray).extract r 12).extract 0 1 = ⟨#[letter r]⟩ := by decide +kernel
  exact this r h
theorem textS_snoc (zs : List Int) (z : Int) : textS (zs ++ [z]) = textS zs ++ ⟨#[letter (z % 12).toNat]⟩ := by
  apply ByteArray.ext
  simp [textS, textL]

set_option maxHeartbeats 400000 in
theorem textOf (a : Option Addr) (len cap : Nat) (zs : List Int) (n : Nat) (w : World) (h : IsRow .i64 w a len cap zs) (hn : n ≤ 1000) :
    Calls Try.prog 17 #[.slice a len cap, .int .i64 n] w fun e w' => e = .returned (.string (textS ((zs.take len).take n))) ∧ w = w' := by
  obtain ⟨h1, h2⟩ := row_len h
  unfold maxLen at h2
  have HR := Lib.hid h
  clear h
  go_enter Try.func17, Try.ntmps17
  go_wp2
  go_loop [5, 6] (fun o i => ∃ k : Nat, k ≤ len ∧ k ≤ n ∧ i = .int .i64 k ∧ o = .string (textS (zs.take k))) (fun _ i => len - (intOf i).toNat)
  case atStart => exact ⟨0, Nat.zero_le _, Nat.zero_le _, rfl, rfl⟩
  case round =>
    obtain ⟨k, hk, hkn, rfl, rfl⟩ := hrel
    by_cases hlt : k < len
    · by_cases hlt2 : k < n
      · obtain ⟨b, off, rfl, _, hc⟩ := row_at HR.out (by omega)
        have hck := hc k (by omega)
        have HP := Lib.hid (fun w => picked (zs.getD k 0) 12 w (by omega) (by omega))
        have r0 := Int.emod_nonneg (zs.getD k 0) (show (12 : Int) ≠ 0 by omega)
        have r1 := Int.emod_lt_of_pos (zs.getD k 0) (show (0 : Int) < 12 by omega)
        obtain ⟨r, hr⟩ := Int.eq_ofNat_of_zero_le r0
        rw [hr] at HP r1
        have HE : Hid (textS (zs.take (k + 1)) = textS (zs.take k) ++ ⟨#[letter r]⟩) := by
          show _ = _
          rw [List.take_succ_eq_append_getElem (by omega), textS_snoc]
          have : zs[k] = zs.getD k 0 := by simp [List.getD, List.getElem?_eq_getElem (show k < zs.length by omega)]
          rw [this, hr]; simp
        have HL := Lib.hid (letter_cut r (by omega))
        have hb : (textS (zs.take k)).size ≤ 1000 := by rw [textS_size, List.length_take]; omega
        have r2 : r < 12 := by omega
        clear r0 hr hc r1
        generalize zs.getD k 0 = z at *
        go_wp2_with fail
        refine (HP.out _).mono ?_
        rintro e w' ⟨rfl, rfl⟩
        go_wp2
        go_round
        case rel => exact ⟨k + 1, by omega, by omega, by go_num, by rw [HL.out, HE.out]⟩
        case measure => simp [intOf]; omega
      · go_wp2
        go_ret
        have e : k = n := by omega
        subst e
        exact ⟨by rw [List.take_take, Nat.min_eq_left hk]; rfl, rfl⟩
    · go_wp2
      go_ret
      have e : k = len := by omega
      subst e
      exact ⟨by rw [List.take_take, Nat.min_eq_right hkn]; rfl, rfl⟩

end Go.Proofs.Ytedlgobpoifnfaa.Txt
