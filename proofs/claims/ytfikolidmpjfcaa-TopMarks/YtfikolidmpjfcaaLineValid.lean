/-
  Package lines: what valid answers.
-/
import Derived.Test.YtfikolidmpjfcaaLineAt
import Derived.WalkSpells
import Derived.RegionTactic
namespace Go.Proofs.Ytfikolidmpjfcaa.LineC
open Go.RowKit Kit EditM LineM

set_option maxRecDepth 100000 in
set_option maxHeartbeats 4000000 in
theorem valid (size : Int) (zs : List Int) (al : Option Addr) (cap : Nat) (w : World) (h : IsAt w al zs) (hc : zs.length ≤ cap) (hm : zs.length ≤ maxLen) :
    Calls Try.prog 28 #[.slice al zs.length cap, .int .i64 size] w fun e w' => e = .returned (.bool (goodB size zs)) ∧ w = w' := by
  unfold maxLen at hm
  have HZ := Lib.hid h
  clear h
  obtain ⟨n, hn⟩ : ∃ n, n = zs.length := ⟨_, rfl⟩
  have HN := Lib.hid hn
  rw [← hn] at hc hm ⊢
  clear hn
  rcases Nat.eq_zero_or_pos n with hn0 | hn0
  · subst hn0
    have hz : zs = [] := List.eq_nil_of_length_eq_zero HN.out.symm
    subst hz
    rw [goodB_no (bad_nil size)]
    clear HZ HN
    go_enter Try.func28, Try.ntmps28
    go_wp2
    go_ret
    exact ⟨rfl, rfl⟩
  · have HG : Hid (∀ i, i < n → zs[i]? = some (zs.getD i 0)) := Lib.hid fun i hi => by rw [HN.out] at hi; simp [List.getD, hi]
    obtain ⟨g, off, rfl, hg, c0⟩ := HZ.out.get (HG.out 0 hn0)
    have HC : Hid (∀ i, i < n → w.cell? ⟨g, off + i, none⟩ = some (.int .i64 (zs.getD i 0))) := Lib.hid fun i hi => by
      obtain ⟨g', off', e', _, c⟩ := HZ.out.get (HG.out i hi)
      simp only [Option.some.injEq, Addr.mk.injEq, and_true] at e'
      obtain ⟨rfl, rfl⟩ := e'
      exact c
    clear HZ c0 hg
    have c0 := HC.out 0 hn0
    have hz0 := Lib.hid (HG.out 0 hn0)
    rw [Nat.add_zero] at c0
    generalize zs.getD 0 0 = z0 at *
    by_cases e0 : z0 = 0
    · subst e0
      obtain ⟨m, rfl⟩ : ∃ m, n = m + 1 := ⟨n - 1, by omega⟩
      obtain ⟨cp, rfl⟩ : ∃ cp, cap = cp + 1 := ⟨cap - 1, by omega⟩
      by_cases hcp : cp = 0
      · subst hcp
        obtain rfl : m = 0 := by omega
        have FIN : Hid (goodB size zs = decide (0 ≤ size)) := Lib.hid (by
          have := good_last (size := size) (m := 0) hz0.out (Inc.all (Inc.zero zs) (by rw [← HN.out]; omega)) HN.out.symm hz0.out
          by_cases q : Vld size zs
          · rw [goodB_yes q, decide_eq_true (this.1 q).1]
          · rw [goodB_no q, decide_eq_false (fun q2 => q (this.2 ⟨q2, by omega⟩))])
        rw [FIN.out]
        clear HC HG FIN HN hz0
        by_cases q : 600 < size
        all_goals
          go_enter Try.func28, Try.ntmps28
          go_wp2
          go_loopw [19] (fun vi wr => vi = .int .i64 0 ∧ wr = w) (fun _ _ => 0)
          case atStart => exact ⟨rfl, rfl⟩
          case round =>
            obtain ⟨rfl, rfl⟩ := hrel
            go_wp2
            go_ret
            exact ⟨by first | rfl | (simp; omega), rfl⟩
      go_enter Try.func28, Try.ntmps28
      go_wp2
      go_loopw [19] (fun vi wr => ∃ k : Nat, k ≤ m ∧ vi = .int .i64 (k : Int) ∧ wr = w ∧ Hid (Inc zs k)) (fun vi _ => m - (intOf vi).toNat)
      case atStart => exact ⟨0, by omega, rfl, rfl, Lib.hid (Inc.zero zs)⟩
      case round =>
        obtain ⟨k, hk, rfl, rfl, HI⟩ := hrel
        clear c0
        by_cases hlt : k < m
        · have ca := HC.out k (by omega)
          have cb := HC.out (k + 1) (by omega)
          have za := Lib.hid (HG.out k (by omega))
          have zb := Lib.hid (HG.out (k + 1) (by omega))
          generalize zs.getD k 0 = x at *
          generalize zs.getD (k + 1) 0 = y at *
          rw [show off + (k + 1) = off + 1 + k by omega] at cb
          have i1 : (k : Int) < ((m + 1 : Nat) : Int) := by omega
          have i2 : (0 : Int) ≤ (k : Int) := by omega
          have i3 : (k : Int) < (m : Int) := by omega
          by_cases hxy : y ≤ x
          · have FIN := Lib.hid (goodB_no (bad_inc (size := size) za.out zb.out hxy))
            clear HC HG HI
            go_wp2
            go_ret
            exact ⟨by rw [FIN.out]; rfl, rfl⟩
          · have NX := Lib.hid (HI.out.next za.out zb.out (by omega))
            clear HC HG HI
            go_wp2
            go_roundw
            case rel => exact ⟨k + 1, by omega, by go_num, by first | rfl | trivial, NX⟩
            case measure => simp [intOf]; omega
        · obtain rfl : k = m := by omega
          have cz := HC.out k (by omega)
          have zz := Lib.hid (HG.out k (by omega))
          generalize zs.getD k 0 = z at *
          have FIN : Hid (goodB size zs = (decide (z ≤ size) && decide (z ≤ 600))) := Lib.hid (by
            have := good_last (size := size) hz0.out (HI.out.all (by rw [← HN.out]; omega)) HN.out.symm zz.out
            by_cases q : Vld size zs
            · rw [goodB_yes q, decide_eq_true (this.1 q).1, decide_eq_true (this.1 q).2]; rfl
            · rw [goodB_no q]
              by_cases q1 : z ≤ size
              · rw [decide_eq_false (fun q2 => q (this.2 ⟨q1, q2⟩)), Bool.and_false]
              · rw [decide_eq_false q1]; rfl)
          have i1 : (k : Int) < ((k + 1 : Nat) : Int) := by omega
          have i2 : (0 : Int) ≤ (k : Int) := by omega
          have r1 : IntKind.i64.wrap ((k : Int) + 1 - 1) = (k : Int) := by rw [show (k : Int) + 1 - 1 = (k : Int) by omega]; exact IntWalk.i64_in _ (by omega)
          have r2 : IntKind.i64.wrap (((k + 1 : Nat) : Int) - 1) = (k : Int) := by rw [show ((k + 1 : Nat) : Int) - 1 = (k : Int) by omega]; exact IntWalk.i64_in _ (by omega)
          clear HC HG HI
          by_cases q : 600 < size
          · have e1 : (decide (z ≤ size) && decide (z ≤ 600)) = decide (z ≤ 600) := by
              by_cases q2 : z ≤ 600
              · rw [decide_eq_true (show z ≤ size by omega)]; rfl
              · rw [decide_eq_false q2, Bool.and_false]
            rw [e1] at FIN
            clear e1
            go_wp2
            go_ret
            exact ⟨by rw [FIN.out]; rfl, rfl⟩
          · have e1 : (decide (z ≤ size) && decide (z ≤ 600)) = decide (z ≤ size) := by
              by_cases q2 : z ≤ size
              · rw [decide_eq_true (show z ≤ 600 by omega), Bool.and_true]
              · rw [decide_eq_false q2]; rfl
            rw [e1] at FIN
            clear e1
            go_wp2
            go_ret
            exact ⟨by rw [FIN.out]; rfl, rfl⟩
    · have FIN := Lib.hid (goodB_no (bad_head (size := size) hz0.out e0))
      rw [FIN.out]
      clear HC HG FIN
      have g : (z0 != 0) = true := by simpa using e0
      go_enter Try.func28, Try.ntmps28
      go_wp2
      go_ret
      exact ⟨rfl, rfl⟩
end Go.Proofs.Ytfikolidmpjfcaa.LineC
