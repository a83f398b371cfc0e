/-
  Package words: its letters, and each: the words of a text are handed to a function value one by one.
-/
import Derived.Test.YtedlgobpoifnfaaChecked
import Derived.Test.YtedlgobpoifnfaaWordMath
import Derived.Shelf.Abstract
import Derived.Lib.Strings
import Derived.Lib.Slices
import Derived.Lib.Walk
namespace Go.Proofs.Ytedlgobpoifnfaa.WordC
open Go.RowKit Kit WordM Go.Shelf

set_option maxRecDepth 100000 in
set_option maxHeartbeats 1000000 in
theorem inWord (c : UInt8) (w : World) : Calls Try.prog 50 #[.int .u8 (c.toNat : Int)] w fun e w' => e = .returned (.bool (letB c)) ∧ w = w' := by
  have hc : c.toNat < 256 := c.toNat_lt
  have E : Hid (letB c = ((decide (97 ≤ c.toNat) && decide (c.toNat ≤ 122)) || (decide (65 ≤ c.toNat) && decide (c.toNat ≤ 90)) || (decide (48 ≤ c.toNat) && decide (c.toNat ≤ 57)))) := Lib.hid rfl
  generalize letB c = b at *
  generalize c.toNat = n at *
  rcases (by omega : n < 48 ∨ (48 ≤ n ∧ n ≤ 57) ∨ (57 < n ∧ n < 65) ∨ (65 ≤ n ∧ n ≤ 90) ∨ (90 < n ∧ n < 97) ∨ (97 ≤ n ∧ n ≤ 122) ∨ 122 < n) with h | h | h | h | h | h | h
  all_goals
    have h1 : decide ((97 : Int) ≤ (n : Int)) = decide (97 ≤ n) := by apply decide_eq_decide.2; omega
    have h2 : decide ((n : Int) ≤ 122) = decide (n ≤ 122) := by apply decide_eq_decide.2; omega
    have h3 : decide ((65 : Int) ≤ (n : Int)) = decide (65 ≤ n) := by apply decide_eq_decide.2; omega
    have h4 : decide ((n : Int) ≤ 90) = decide (n ≤ 90) := by apply decide_eq_decide.2; omega
    have h5 : decide ((48 : Int) ≤ (n : Int)) = decide (48 ≤ n) := by apply decide_eq_decide.2; omega
    have h6 : decide ((n : Int) ≤ 57) = decide (n ≤ 57) := by apply decide_eq_decide.2; omega
    go_enter Try.func50, Try.ntmps50
    go_wp2
    go_ret
    refine ⟨?_, rfl⟩
    rw [E.out]
    refine congrArg Ending.returned ?_
    show Value.bool _ = Value.bool _
    refine congrArg Value.bool ?_
    rw [Bool.eq_iff_iff]
    simp only [Bool.or_eq_true, Bool.and_eq_true, decide_eq_true_eq, true_iff, false_iff, Bool.false_eq_true, eq_self]
    omega
/-- a text, out of its bytes -/
abbrev bs (l : List UInt8) : ByteArray := ⟨l.toArray⟩
theorem bs_data (s : ByteArray) : bs s.data.toList = s := rfl
theorem bs_size (l : List UInt8) : (bs l).size = l.length := by simp [ByteArray.size]
theorem bs_inj {x y : List UInt8} (h : bs x = bs y) : x = y := by simpa [bs] using h
theorem extract_bs (s : ByteArray) (a b : Nat) : s.extract a b = bs ((s.data.toList.drop a).take (b - a)) := by
  apply ByteArray.ext
  apply Array.ext'
  simp [ByteArray.data_extract, List.extract_eq_take_drop]
theorem letAt_b (s : ByteArray) (i : Nat) (h : i < s.size) : letAt s.data.toList i = letB s[i] := letAt_get _ (by simpa using h)
/-- what is asked of the function value -/
def VisOk (g : Nat) (lb : Array Value) (n : Nat) (J : List (Int × List UInt8) → World → Prop) : Prop :=
  ∀ (o : List (Int × List UInt8)) (a : Nat) (v : List UInt8) (W : World), J o W → o.length < n → a < n → v.length ≤ 12 →
    Calls Try.prog g (#[.int .i64 (a : Int), .string (bs v)] ++ lb) W fun e w' => e = .returned (.tuple #[]) ∧ J (o ++ [((a : Int), v)]) w'

set_option maxRecDepth 100000 in
set_option maxHeartbeats 2000000 in
theorem each (g : Nat) (lb : Array Value) (eg : ∀ args w, (callFunc g args).run Try.prog w = .ok (.enter g args) w) (J : List (Int × List UInt8) → World → Prop) (s : ByteArray) (hs : s.size ≤ 140737488351232) (HV : VisOk g lb s.size J) (w : World) (h0 : J [] w) :
    Calls Try.prog 30 #[.string s, .func (.func g) #[] lb] w fun e w' => e = .returned (.tuple #[]) ∧ J (occ s.data.toList) w' := by
  have HL := Lib.hid (fun c w => inWord c w)
  have HV' := Lib.hid HV
  have H0 := Lib.hid h0
  clear HV h0
  have hlen : s.data.toList.length = s.size := by simp
  have r0 : IntKind.i64.wrap ((s.size : Int) + 1) = (s.size : Int) + 1 := IntWalk.i64_in _ (by omega)
  go_enter Try.func30, Try.ntmps30
  go_wp2_with fail
  go_loopw [4, 10] (fun vs vm wr => ∃ a m : Nat, vs = .int .i64 (a : Int) ∧ vm = .int .i64 (m : Int) ∧ a ≤ m ∧ m ≤ s.size + 1 ∧ Hid ((a = 0 ∨ letAt s.data.toList (a - 1) = false) ∧ (∀ i, a ≤ i → i < m → letAt s.data.toList i = true) ∧ J (occTo s.data.toList a) wr)) (fun _ vm _ => s.size + 1 - (intOf vm).toNat)
  case atStart => exact ⟨0, 0, rfl, rfl, by omega, by omega, Lib.hid ⟨.inl rfl, fun i h1 h2 => by omega, H0.out⟩⟩
  case round =>
    obtain ⟨a, m, rfl, rfl, ham, hm, HK⟩ := hrel
    clear H0
    by_cases hlt : m < s.size + 1
    · have r1 : IntKind.i64.wrap ((m : Int) + 1) = (m : Int) + 1 := IntWalk.i64_in _ (by omega)
      have r2 : IntKind.i64.wrap ((m : Int) - (a : Int)) = (m : Int) - (a : Int) := IntWalk.i64_in _ (by omega)
      have r3 : IntKind.i64.wrap (a : Int) = (a : Int) := IntWalk.i64_in _ (by omega)
      have g0 : decide ((m : Int) < (s.size : Int) + 1) = true := decide_eq_true (by omega)
      by_cases hin : m < s.size ∧ letAt s.data.toList m = true
      · obtain ⟨hin1, hin2⟩ := hin
        have HB : Hid (letB s[m] = true) := Lib.hid (by rw [← letAt_b s m hin1]; exact hin2)
        have HK' : Hid ((a = 0 ∨ letAt s.data.toList (a - 1) = false) ∧ (∀ i, a ≤ i → i < m + 1 → letAt s.data.toList i = true) ∧ J (occTo s.data.toList a) wr) := Lib.hid ⟨HK.out.1, fun i h1 h2 => by
          by_cases e : i = m
          · subst e; exact hin2
          · exact HK.out.2.1 i h1 (by omega), HK.out.2.2⟩
        clear HK hin2
        have g1 : decide ((m : Int) < (s.size : Int)) = true := decide_eq_true (by omega)
        go_wp2_with (go_at_call 50; refine (HL.out _ _).mono ?_; rintro e w1 ⟨rfl, rfl⟩; rw [HB.out])
        go_roundw
        case rel => exact ⟨a, m + 1, rfl, by go_num, by omega, by omega, HK'⟩
        case measure => simp [intOf]; omega
      · have hstop : letAt s.data.toList m = false := by
          by_cases h : m < s.size
          · cases hl : letAt s.data.toList m
            · rfl
            · exact absurd ⟨h, hl⟩ hin
          · exact letAt_end _ (by omega)
        have HW : Hid (occTo s.data.toList (m + 1) = occTo s.data.toList a ++ (if a < m ∧ m - a ≤ 12 then [((a : Int), (s.data.toList.drop a).take (m - a))] else [])) := Lib.hid (occTo_word _ a m ham (by omega) HK.out.1 HK.out.2.1 hstop)
        have HJ := Lib.hid HK.out.2.2
        have HS : Hid ((m + 1 = 0 ∨ letAt s.data.toList (m + 1 - 1) = false) ∧ (∀ i, m + 1 ≤ i → i < m + 1 → letAt s.data.toList i = true)) := Lib.hid ⟨.inr (by simpa using hstop), fun i h1 h2 => by omega⟩
        have HC : m < s.size → Hid (∀ h : m < s.size, letB s[m] = false) := fun h => Lib.hid (fun h => by rw [← letAt_b s m h]; exact hstop)
        clear HK hin hstop
        by_cases hw : a < m ∧ m - a ≤ 12
        · have HX := Lib.hid (extract_bs s a m)
          rw [if_pos hw] at HW
          obtain ⟨hw1, hw2⟩ := hw
          have HN := Lib.hid (HV'.out (occTo s.data.toList a) a ((s.data.toList.drop a).take (m - a)) wr HJ.out (Nat.lt_of_le_of_lt (occTo_len _ _) (by omega)) (by omega) (by simp; omega))
          generalize (s.data.toList.drop a).take (m - a) = v at *
          have g2 : decide ((0 : Int) < (m : Int) - (a : Int)) = true := decide_eq_true (by omega)
          have g3 : decide ((m : Int) - (a : Int) ≤ 12) = true := decide_eq_true (by omega)
          have q1 : (0 : Int) ≤ (a : Int) := by omega
          have q2 : (a : Int) ≤ (m : Int) := by omega
          have q3 : (m : Int) ≤ (s.size : Int) := by omega
          have q4 : a ≤ m := by omega
          have q5 : m ≤ s.size := by omega
          by_cases h : m < s.size
          · have HB := Lib.hid ((HC h).out h)
            clear HC
            have g1 : decide ((m : Int) < (s.size : Int)) = true := decide_eq_true (by omega)
            go_wp2_with (first | (go_at_call 50; refine (HL.out _ _).mono ?_; rintro e w1 ⟨rfl, rfl⟩; rw [HB.out]) | (go_at_fn g; rw [HX.out]; refine HN.out.mono ?_; rintro e w1 ⟨rfl, hj⟩))
            have HJ1 := Lib.hid hj
            clear hj
            go_roundw
            case rel => exact ⟨m + 1, m + 1, by go_num, by go_num, by omega, by omega, Lib.hid ⟨HS.out.1, HS.out.2, by rw [HW.out]; exact HJ1.out⟩⟩
            case measure => simp [intOf]; omega
          · have g1 : decide ((m : Int) < (s.size : Int)) = false := decide_eq_false (by omega)
            clear HC
            go_wp2_with (go_at_fn g; rw [HX.out]; refine HN.out.mono ?_; rintro e w1 ⟨rfl, hj⟩)
            have HJ1 := Lib.hid hj
            clear hj
            go_roundw
            case rel => exact ⟨m + 1, m + 1, by go_num, by go_num, by omega, by omega, Lib.hid ⟨HS.out.1, HS.out.2, by rw [HW.out]; exact HJ1.out⟩⟩
            case measure => simp [intOf]; omega
        · rw [if_neg hw, List.append_nil] at HW
          have HE : Hid (∀ wr', wr' = wr → ((m + 1 = 0 ∨ letAt s.data.toList (m + 1 - 1) = false) ∧ (∀ i, m + 1 ≤ i → i < m + 1 → letAt s.data.toList i = true) ∧ J (occTo s.data.toList (m + 1)) wr')) := Lib.hid (fun wr' e => by subst e; exact ⟨HS.out.1, HS.out.2, by rw [HW.out]; exact HJ.out⟩)
          clear HW HS HJ
          rcases (by omega : a = m ∨ (a < m ∧ 12 < m - a)) with hz | ⟨hz1, hz2⟩
          · have g2 : decide ((0 : Int) < (m : Int) - (a : Int)) = false := decide_eq_false (by omega)
            clear hw
            by_cases h : m < s.size
            · have HB := Lib.hid ((HC h).out h)
              clear HC
              have g1 : decide ((m : Int) < (s.size : Int)) = true := decide_eq_true (by omega)
              go_wp2_with (go_at_call 50; refine (HL.out _ _).mono ?_; rintro e w1 ⟨rfl, rfl⟩; rw [HB.out])
              go_roundw
              case rel => exact ⟨m + 1, m + 1, by go_num, by go_num, by omega, by omega, Lib.hid (HE.out _ rfl)⟩
              case measure => simp [intOf]; omega
            · have g1 : decide ((m : Int) < (s.size : Int)) = false := decide_eq_false (by omega)
              clear HC
              go_wp2_with fail
              go_roundw
              case rel => exact ⟨m + 1, m + 1, by go_num, by go_num, by omega, by omega, Lib.hid (HE.out _ rfl)⟩
              case measure => simp [intOf]; omega
          · have g2 : decide ((0 : Int) < (m : Int) - (a : Int)) = true := decide_eq_true (by omega)
            have g3 : decide ((m : Int) - (a : Int) ≤ 12) = false := decide_eq_false (by omega)
            clear hw
            by_cases h : m < s.size
            · have HB := Lib.hid ((HC h).out h)
              clear HC
              have g1 : decide ((m : Int) < (s.size : Int)) = true := decide_eq_true (by omega)
              go_wp2_with (go_at_call 50; refine (HL.out _ _).mono ?_; rintro e w1 ⟨rfl, rfl⟩; rw [HB.out])
              go_roundw
              case rel => exact ⟨m + 1, m + 1, by go_num, by go_num, by omega, by omega, Lib.hid (HE.out _ rfl)⟩
              case measure => simp [intOf]; omega
            · have g1 : decide ((m : Int) < (s.size : Int)) = false := decide_eq_false (by omega)
              clear HC
              go_wp2_with fail
              go_roundw
              case rel => exact ⟨m + 1, m + 1, by go_num, by go_num, by omega, by omega, Lib.hid (HE.out _ rfl)⟩
              case measure => simp [intOf]; omega
    · have HF : Hid (J (occ s.data.toList) wr) := Lib.hid (by
        obtain ⟨h1, h2, h3⟩ := HK.out
        have ha : a = s.size + 1 := by
          by_cases h : a ≤ s.size
          · have := h2 s.size h (by omega)
            rw [letAt_end _ (by omega)] at this; cases this
          · omega
        rw [ha, ← hlen, occTo_last] at h3
        exact h3)
      clear HK
      have g0 : decide ((m : Int) < (s.size : Int) + 1) = false := decide_eq_false (by omega)
      go_wp2_with fail
      go_end0
      exact ⟨rfl, HF.out⟩
end Go.Proofs.Ytedlgobpoifnfaa.WordC
