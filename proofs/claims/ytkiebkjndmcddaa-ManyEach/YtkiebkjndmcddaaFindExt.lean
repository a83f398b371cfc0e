/-
  Package find: extend, failure.
-/
import Derived.Test.YtkiebkjndmcddaaFindRow
import Derived.Test.YtkiebkjndmcddaaBordMath
import Derived.Shelf.Abstract
import Derived.Lib.Slices
import Derived.Lib.Walk
namespace Go.Proofs.Ytkiebkjndmcddaa.FindP
open Go.RowKit Kit LineM FindM FindR EditM

theorem sget (s : ByteArray) (k : Nat) (h : k < s.size) : s.data.toList[k]? = some s[k] := by
  rw [List.getElem?_eq_getElem (by rw [size_list]; exact h)]
  rfl
/-- what extend answers, where it begins with a candidate -/
def ExtPost (P : Nat → Prop) (f : List UInt8) (c : UInt8) (w : World) (e : Ending) (w' : World) : Prop := ∃ r : Nat, e = .returned (.int .i64 (r : Int)) ∧ ((∃ j, P j ∧ f[j]? = some c ∧ r = j + 1) ∨ (P 0 ∧ f[0]? ≠ some c ∧ r = 0)) ∧ w = w'
set_option maxRecDepth 100000 in
set_option maxHeartbeats 2000000 in
theorem extend (P : Nat → Prop) (s : ByteArray) (g n cap k : Nat) (c : UInt8) (w : World) (hs : s.size ≤ 9223372036854775806) (hk : P k) (hP : ∀ j, P j → j < s.size ∧ j ≤ n) (hB : ∀ j, P j → 0 < j → s.data.toList[j]? ≠ some c → P (bord s.data.toList j))
    (hc : ∀ j, P (j + 1) → w.cell? ⟨g, j, none⟩ = some (.int .i64 (bord s.data.toList (j + 1) : Int))) :
    Calls Try.prog 34 #[.string s, .slice (some ⟨g, 0, none⟩) n cap, .int .i64 (k : Int), .int .u8 (c.toNat : Int)] w (ExtPost P s.data.toList c w) := by
  have HP := Lib.hid hP
  have HB := Lib.hid hB
  have HC := Lib.hid hc
  have HK := Lib.hid hk
  clear hP hB hc hk
  go_enter Try.func34, Try.ntmps34
  go_wp2_with fail
  go_loopw [2] (fun vm wr => ∃ m : Nat, vm = .int .i64 (m : Int) ∧ Hid (P m) ∧ wr = w) (fun vm _ => (intOf vm).toNat)
  case atStart => exact ⟨k, rfl, HK, rfl⟩
  case round =>
    obtain ⟨m, rfl, HM, rfl⟩ := hrel
    clear HK
    obtain ⟨hms, hmn⟩ := HP.out m HM.out
    have G := Lib.hid (sget s m hms)
    have hi0 : (0 : Int) ≤ (m : Int) := by omega
    have hi1 : (m : Int) < (s.size : Int) := by omega
    by_cases he : s[m] = c
    · have q1 : ((s[m].toNat : Int) == (c.toNat : Int)) = true := by rw [he]; simp
      have q3 : ((s[m].toNat : Int) != (c.toNat : Int)) = false := by rw [he]; simp
      have r1 : IntKind.i64.wrap ((m : Int) + 1) = (m : Int) + 1 := IntWalk.i64_in _ (by omega)
      have R : Hid (ExtPost P s.data.toList c wr (.returned (.int .i64 ((m : Int) + 1))) wr) := Lib.hid ⟨m + 1, rfl, .inl ⟨m, HM.out, by rw [G.out, he], rfl⟩, rfl⟩
      clear HP HB HC G he
      by_cases hm : 0 < m
      · have q2 : decide ((m : Int) > 0) = true := decide_eq_true (by omega)
        go_wp2_with fail
        go_ret
        exact R.out
      · have q2 : decide ((m : Int) > 0) = false := decide_eq_false (by omega)
        go_wp2_with fail
        go_ret
        exact R.out
    · have hne : s[m].toNat ≠ c.toNat := fun e => he (UInt8.toNat_inj.1 e)
      have hne2 : s.data.toList[m]? ≠ some c := by rw [G.out]; simpa using he
      have q1 : ((s[m].toNat : Int) == (c.toNat : Int)) = false := by rw [beq_eq_false_iff_ne]; omega
      have q3 : ((s[m].toNat : Int) != (c.toNat : Int)) = true := by rw [bne_iff_ne]; omega
      by_cases hm : 0 < m
      · have hb := (bord_is s.data.toList (n := m) (by omega)).1
        have C1 : wr.cell? ⟨g, m - 1, none⟩ = some (.int .i64 (bord s.data.toList m : Int)) := by
          obtain ⟨j, rfl⟩ : ∃ j, m = j + 1 := ⟨m - 1, by omega⟩
          exact HC.out j HM.out
        have HM2 := Lib.hid (HB.out m HM.out hm hne2)
        have q2 : decide ((m : Int) > 0) = true := decide_eq_true (by omega)
        have r1 : IntKind.i64.wrap ((m : Int) - 1) = (m : Int) - 1 := IntWalk.i64_in _ (by omega)
        have r2 : ((m : Int) - 1).toNat = m - 1 := by omega
        have i0 : (0 : Int) ≤ (m : Int) - 1 := by omega
        have i1 : (m : Int) - 1 < (n : Int) := by omega
        clear HP HM HC HB hne2 hne G he
        generalize bord s.data.toList m = b at *
        go_wp2_with fail
        go_roundw
        case rel => exact ⟨b, rfl, HM2, trivial⟩
        case measure => simp [intOf]; omega
      · obtain rfl : m = 0 := by omega
        have q2 : decide (((0 : Nat) : Int) > 0) = false := by decide
        have R : Hid (ExtPost P s.data.toList c wr (.returned (.int .i64 ((0 : Nat) : Int))) wr) := Lib.hid ⟨0, rfl, .inr ⟨HM.out, hne2, rfl⟩, rfl⟩
        clear HP HM HC HB hne2 hne G he
        go_wp2_with fail
        go_ret
        exact R.out
end Go.Proofs.Ytkiebkjndmcddaa.FindP
