/-
  The document: letter and wordAt.
-/
import Derived.Test.YtedlgobpoifnfaaChecked
import Derived.Test.YtedlgobpoifnfaaWordEach
import Derived.Shelf.Abstract
import Derived.Lib.Strings
import Derived.Lib.Slices
import Derived.Lib.Walk
namespace Go.Proofs.Ytedlgobpoifnfaa.WordR
open Go.RowKit Kit WordM Go.Shelf

set_option maxRecDepth 100000 in
set_option maxHeartbeats 1000000 in
theorem letter (c : UInt8) (w : World) : Calls Try.prog 43 #[.int .u8 (c.toNat : Int)] w fun e w' => e = .returned (.bool (letB c)) ∧ w = w' := by
  have hc : c.toNat < 256 := c.toNat_lt
  have E : Hid (letB c = ((decide (97 ≤ c.toNat) && decide (c.toNat ≤ 122)) || (decide (65 ≤ c.toNat) && decide (c.toNat ≤ 90)) || (decide (48 ≤ c.toNat) && decide (c.toNat ≤ 57)))) := Lib.hid rfl
  generalize letB c = b at *
  generalize c.toNat = n at *
  rcases (by omega : n < 48 ∨ (48 ≤ n ∧ n ≤ 57) ∨ (57 < n ∧ n < 65) ∨ (65 ≤ n ∧ n ≤ 90) ∨ (90 < n ∧ n < 97) ∨ (97 ≤ n ∧ n ≤ 122) ∨ 122 < n) with h | h | h | h | h | h | h
  all_goals
    have h1 : decide ((97 : Int) ≤ (n : Int)) = decide (97 ≤ n) := by apply decide_eq_decide.2; omega
    have h2 : decide ((n : Int) ≤ 122) = decide (n ≤ 122) := by apply decide_eq_decide.2; omega
    have h3 : decide ((65 : Int) ≤ (n : Int)) = decide (65 ≤ n) := by apply decide_eq_decide.2; omega
    have h4 : decide ((n : Int) ≤ 90) = decide (n ≤ 90) := by apply decide_eq_decide.2; omega
    have h5 : decide ((48 : Int) ≤ (n : Int)) = decide (48 ≤ n) := by apply decide_eq_decide.2; omega
    have h6 : decide ((n : Int) ≤ 57) = decide (n ≤ 57) := by apply decide_eq_decide.2; omega
    go_enter Try.func43, Try.ntmps43
    go_wp2
    go_ret
    refine ⟨?_, rfl⟩
    rw [E.out]
    refine congrArg Ending.returned ?_
    show Value.bool _ = Value.bool _
    refine congrArg Value.bool ?_
    rw [Bool.eq_iff_iff]
    simp only [Bool.or_eq_true, Bool.and_eq_true, decide_eq_true_eq, true_iff, false_iff, Bool.false_eq_true, eq_self]
    omega
open WordC in
set_option maxRecDepth 100000 in
set_option maxHeartbeats 2000000 in
theorem wordAt (s : ByteArray) (a : Nat) (w : World) (hs : s.size ≤ 140737488351232) (ha : a ≤ s.size) : Calls Try.prog 26 #[.string s, .int .i64 (a : Int)] w fun e w' => e = .returned (.string (bs (wat s.data.toList a))) ∧ w = w' := by
  have HL := Lib.hid (fun c w => letter c w)
  have tail : (a = 0 ∨ letAt s.data.toList (a - 1) = false) → ∀ m, a ≤ m → m ≤ s.size → (∀ i, a ≤ i → i < m → letAt s.data.toList i = true) → letAt s.data.toList m = false → (if 12 < m - a then bs (wat s.data.toList a) = ⟨#[]⟩ else bs (wat s.data.toList a) = s.extract a m) := by
    intro h m h1 h2 h3 h4
    have hr := runAt_is s.data.toList a m h1 (by simpa using h2) h3 h4
    have hw := wat_start s.data.toList a h
    have hl : (runAt s.data.toList a).length = m - a := by rw [hr]; simp; omega
    rw [hl] at hw
    by_cases hc : 12 < m - a
    · rw [if_pos hc] at hw
      rw [if_pos hc, hw]
    · rw [if_neg hc] at hw
      rw [if_neg hc, hw, hr, extract_bs]
  have T := Lib.hid tail
  clear tail
  by_cases h0 : 0 < a ∧ letAt s.data.toList (a - 1) = true
  · obtain ⟨k, rfl⟩ : ∃ k, a = k + 1 := ⟨a - 1, by omega⟩
    have hk : k < s.size := by omega
    have HB : Hid (letB s[k] = true) := Lib.hid (by rw [← letAt_b s k hk]; simpa using h0.2)
    have HW : Hid (bs (wat s.data.toList (k + 1)) = ⟨#[]⟩) := Lib.hid (by rw [wat_inner _ _ h0.1 h0.2])
    clear h0 T
    generalize bs (wat s.data.toList (k + 1)) = R at *
    have g0 : (0 : Int) < (k : Int) + 1 := by omega
    have g1 : decide ((k : Int) + 1 > 0) = true := decide_eq_true (by omega)
    have r1 : IntKind.i64.wrap ((k : Int) + 1 - 1) = (k : Int) := by rw [show (k : Int) + 1 - 1 = (k : Int) by omega]; exact IntWalk.i64_in _ (by omega)
    have r2 : IntKind.i64.wrap (k : Int) = (k : Int) := IntWalk.i64_in _ (by omega)
    go_enter Try.func26, Try.ntmps26
    go_wp2_with (go_at_call 43; refine (HL.out _ _).mono ?_; rintro e w1 ⟨rfl, rfl⟩; rw [HB.out])
    go_ret
    exact ⟨by rw [HW.out]; rfl, rfl⟩
  · have hst : a = 0 ∨ letAt s.data.toList (a - 1) = false := by
      by_cases hz : a = 0
      · exact .inl hz
      · right
        cases hl : letAt s.data.toList (a - 1)
        · rfl
        · exact absurd ⟨by omega, hl⟩ h0
    have T1 := Lib.hid (T.out hst)
    clear T
    have loop : ∀ (P : Prop), True → True := fun _ h => h
    clear loop
    have HST := Lib.hid hst
    clear h0 hst
    generalize bs (wat s.data.toList a) = R at *
    by_cases hz : a = 0
    · have g1 : decide ((a : Int) > 0) = false := decide_eq_false (by omega)
      have g2 : decide ((0 : Int) < (a : Int)) = false := decide_eq_false (by omega)
      have g3 : decide (0 < a) = false := decide_eq_false (by omega)
      have g4 : ¬ (0 : Int) < (a : Int) := by omega
      clear hz
      go_enter Try.func26, Try.ntmps26
      go_wp2_with fail
      go_loop [5] (fun vm => ∃ m : Nat, vm = .int .i64 (m : Int) ∧ a ≤ m ∧ m ≤ s.size ∧ Hid (∀ i, a ≤ i → i < m → letAt s.data.toList i = true)) (fun vm => s.size - (intOf vm).toNat)
      case atStart => exact ⟨a, rfl, by omega, by omega, Lib.hid (fun i h1 h2 => by omega)⟩
      case round =>
        obtain ⟨m, rfl, ham, hm, HM⟩ := hrel
        by_cases hin : m < s.size ∧ letAt s.data.toList m = true
        · obtain ⟨hin1, hin2⟩ := hin
          have HB : Hid (letB s[m] = true) := Lib.hid (by rw [← letAt_b s m hin1]; exact hin2)
          have HM' : Hid (∀ i, a ≤ i → i < m + 1 → letAt s.data.toList i = true) := Lib.hid (fun i h1 h2 => by
            by_cases e : i = m
            · subst e; exact hin2
            · exact HM.out i h1 (by omega))
          clear hin2 HM
          have r1 : IntKind.i64.wrap ((m : Int) + 1) = (m : Int) + 1 := IntWalk.i64_in _ (by omega)
          have g1 : decide ((m : Int) < (s.size : Int)) = true := decide_eq_true (by omega)
          go_wp2_with (go_at_call 43; refine (HL.out _ _).mono ?_; rintro e w1 ⟨rfl, rfl⟩; rw [HB.out])
          go_round
          case rel => exact ⟨m + 1, by go_num, by omega, by omega, HM'⟩
          case measure => simp [intOf]; omega
        · have hstop : letAt s.data.toList m = false := by
            by_cases h : m < s.size
            · cases hl : letAt s.data.toList m
              · rfl
              · exact absurd ⟨h, hl⟩ hin
            · exact letAt_end _ (by simp; omega)
          have HR := Lib.hid (T1.out m ham hm HM.out hstop)
          have HC : Hid (∀ h : m < s.size, letB s[m] = false) := Lib.hid (fun h => by rw [← letAt_b s m h]; exact hstop)
          clear hin hstop HM T1
          have r2 : IntKind.i64.wrap ((m : Int) - (a : Int)) = (m : Int) - (a : Int) := IntWalk.i64_in _ (by omega)
          have q1 : (0 : Int) ≤ (a : Int) := by omega
          have q2 : (a : Int) ≤ (m : Int) := by omega
          have q3 : (m : Int) ≤ (s.size : Int) := by omega
          by_cases hc : 12 < m - a
          · have HR1 : Hid (R = ⟨#[]⟩) := Lib.hid (by have := HR.out; rwa [if_pos hc] at this)
            clear HR
            have g2 : decide ((m : Int) - (a : Int) > 12) = true := decide_eq_true (by omega)
            have g3 : decide ((12 : Int) < (m : Int) - (a : Int)) = true := decide_eq_true (by omega)
            by_cases h : m < s.size
            · have HB := Lib.hid (HC.out h)
              have g1 : decide ((m : Int) < (s.size : Int)) = true := decide_eq_true (by omega)
              clear hc
              go_wp2_with (go_at_call 43; refine (HL.out _ _).mono ?_; rintro e w1 ⟨rfl, rfl⟩; rw [HB.out])
              go_ret
              exact ⟨by rw [HR1.out]; rfl, rfl⟩
            · have g1 : decide ((m : Int) < (s.size : Int)) = false := decide_eq_false (by omega)
              clear hc
              go_wp2_with fail
              go_ret
              exact ⟨by rw [HR1.out]; rfl, rfl⟩
          · have HR1 : Hid (R = s.extract a m) := Lib.hid (by have := HR.out; rwa [if_neg hc] at this)
            clear HR
            have g2 : decide ((m : Int) - (a : Int) > 12) = false := decide_eq_false (by omega)
            have g3 : decide ((12 : Int) < (m : Int) - (a : Int)) = false := decide_eq_false (by omega)
            by_cases h : m < s.size
            · have HB := Lib.hid (HC.out h)
              have g1 : decide ((m : Int) < (s.size : Int)) = true := decide_eq_true (by omega)
              clear hc
              go_wp2_with (go_at_call 43; refine (HL.out _ _).mono ?_; rintro e w1 ⟨rfl, rfl⟩; rw [HB.out])
              go_ret
              exact ⟨by rw [HR1.out]; rfl, rfl⟩
            · have g1 : decide ((m : Int) < (s.size : Int)) = false := decide_eq_false (by omega)
              clear hc
              go_wp2_with fail
              go_ret
              exact ⟨by rw [HR1.out]; rfl, rfl⟩
    · obtain ⟨k, rfl⟩ : ∃ k, a = k + 1 := ⟨a - 1, by omega⟩
      have hk : k < s.size := by omega
      have HB : Hid (letB s[k] = false) := Lib.hid (by rw [← letAt_b s k hk]; simpa using HST.out)
      have g0 : (0 : Int) < (k : Int) + 1 := by omega
      have g1 : decide ((k : Int) + 1 > 0) = true := decide_eq_true (by omega)
      have r1 : IntKind.i64.wrap ((k : Int) + 1 - 1) = (k : Int) := by rw [show (k : Int) + 1 - 1 = (k : Int) by omega]; exact IntWalk.i64_in _ (by omega)
      have r2 : IntKind.i64.wrap (k : Int) = (k : Int) := IntWalk.i64_in _ (by omega)
      go_enter Try.func26, Try.ntmps26
      go_wp2_with (go_at_call 43; refine (HL.out _ _).mono ?_; rintro e w1 ⟨rfl, rfl⟩; rw [HB.out])
      obtain ⟨a, hak⟩ : ∃ a, a = k + 1 := ⟨_, rfl⟩
      have ha' : ((k : Int) + 1) = (a : Int) := by omega
      rw [← hak] at T1
      simp only [ha']
      have ha2 : a ≤ s.size := by omega
      clear g0 g1 r1 r2 ha' hak hz HST ha
      go_loop [5] (fun vm => ∃ m : Nat, vm = .int .i64 (m : Int) ∧ a ≤ m ∧ m ≤ s.size ∧ Hid (∀ i, a ≤ i → i < m → letAt s.data.toList i = true)) (fun vm => s.size - (intOf vm).toNat)
      case atStart => exact ⟨a, rfl, by omega, by omega, Lib.hid (fun i h1 h2 => by omega)⟩
      case round =>
        obtain ⟨m, rfl, ham, hm, HM⟩ := hrel
        by_cases hin : m < s.size ∧ letAt s.data.toList m = true
        · obtain ⟨hin1, hin2⟩ := hin
          have HB : Hid (letB s[m] = true) := Lib.hid (by rw [← letAt_b s m hin1]; exact hin2)
          have HM' : Hid (∀ i, a ≤ i → i < m + 1 → letAt s.data.toList i = true) := Lib.hid (fun i h1 h2 => by
            by_cases e : i = m
            · subst e; exact hin2
            · exact HM.out i h1 (by omega))
          clear hin2 HM
          have r1 : IntKind.i64.wrap ((m : Int) + 1) = (m : Int) + 1 := IntWalk.i64_in _ (by omega)
          have g1 : decide ((m : Int) < (s.size : Int)) = true := decide_eq_true (by omega)
          go_wp2_with (go_at_call 43; refine (HL.out _ _).mono ?_; rintro e w1 ⟨rfl, rfl⟩; rw [HB.out])
          go_round
          case rel => exact ⟨m + 1, by go_num, by omega, by omega, HM'⟩
          case measure => simp [intOf]; omega
        · have hstop : letAt s.data.toList m = false := by
            by_cases h : m < s.size
            · cases hl : letAt s.data.toList m
              · rfl
              · exact absurd ⟨h, hl⟩ hin
            · exact letAt_end _ (by simp; omega)
          have HR := Lib.hid (T1.out m ham hm HM.out hstop)
          have HC : Hid (∀ h : m < s.size, letB s[m] = false) := Lib.hid (fun h => by rw [← letAt_b s m h]; exact hstop)
          clear hin hstop HM T1
          have r2 : IntKind.i64.wrap ((m : Int) - (a : Int)) = (m : Int) - (a : Int) := IntWalk.i64_in _ (by omega)
          have q1 : (0 : Int) ≤ (a : Int) := by omega
          have q2 : (a : Int) ≤ (m : Int) := by omega
          have q3 : (m : Int) ≤ (s.size : Int) := by omega
          by_cases hc : 12 < m - a
          · have HR1 : Hid (R = ⟨#[]⟩) := Lib.hid (by have := HR.out; rwa [if_pos hc] at this)
            clear HR
            have g2 : decide ((m : Int) - (a : Int) > 12) = true := decide_eq_true (by omega)
            have g3 : decide ((12 : Int) < (m : Int) - (a : Int)) = true := decide_eq_true (by omega)
            by_cases h : m < s.size
            · have HB := Lib.hid (HC.out h)
              have g1 : decide ((m : Int) < (s.size : Int)) = true := decide_eq_true (by omega)
              clear hc
              go_wp2_with (go_at_call 43; refine (HL.out _ _).mono ?_; rintro e w1 ⟨rfl, rfl⟩; rw [HB.out])
              go_ret
              exact ⟨by rw [HR1.out]; rfl, rfl⟩
            · have g1 : decide ((m : Int) < (s.size : Int)) = false := decide_eq_false (by omega)
              clear hc
              go_wp2_with fail
              go_ret
              exact ⟨by rw [HR1.out]; rfl, rfl⟩
          · have HR1 : Hid (R = s.extract a m) := Lib.hid (by have := HR.out; rwa [if_neg hc] at this)
            clear HR
            have g2 : decide ((m : Int) - (a : Int) > 12) = false := decide_eq_false (by omega)
            have g3 : decide ((12 : Int) < (m : Int) - (a : Int)) = false := decide_eq_false (by omega)
            by_cases h : m < s.size
            · have HB := Lib.hid (HC.out h)
              have g1 : decide ((m : Int) < (s.size : Int)) = true := decide_eq_true (by omega)
              clear hc
              go_wp2_with (go_at_call 43; refine (HL.out _ _).mono ?_; rintro e w1 ⟨rfl, rfl⟩; rw [HB.out])
              go_ret
              exact ⟨by rw [HR1.out]; rfl, rfl⟩
            · have g1 : decide ((m : Int) < (s.size : Int)) = false := decide_eq_false (by omega)
              clear hc
              go_wp2_with fail
              go_ret
              exact ⟨by rw [HR1.out]; rfl, rfl⟩
end Go.Proofs.Ytedlgobpoifnfaa.WordR
