/-
  The document's answer: startsMay.
-/
import Derived.Test.YtfikolidmpjfcaaLineAt
import Derived.WalkSpells
import Derived.RegionTactic
namespace Go.Proofs.Ytfikolidmpjfcaa.LineR
open Go.RowKit Kit EditM LineM

/-- what the document asks of starts, but for the size -/
theorem vld_bound {zs : List Int} {k : Nat} {x : Int} (hx : zs[k]? = some x) (h : 600 < x) (size : Int) : ¬ Vld size zs := fun g => by
  have := g.le x (List.mem_of_getElem? hx); omega
set_option maxRecDepth 100000 in
set_option maxHeartbeats 4000000 in
theorem startsMay (zs : List Int) (al : Option Addr) (cap : Nat) (w : World) (h : IsAt w al zs) (hm : zs.length ≤ maxLen) :
    Calls Try.prog 31 #[.slice al zs.length cap] w fun e w' => e = .returned (.bool (goodB 600 zs)) ∧ Below w.heap.size w w' := by
  unfold maxLen at hm
  have HZ := Lib.hid h
  clear h
  obtain ⟨n, hn⟩ : ∃ n, n = zs.length := ⟨_, rfl⟩
  have HN := Lib.hid hn
  rw [← hn] at hm ⊢
  clear hn
  rcases Nat.eq_zero_or_pos n with hn0 | hn0
  · subst hn0
    have hz : zs = [] := List.eq_nil_of_length_eq_zero HN.out.symm
    subst hz
    rw [goodB_no (bad_nil 600)]
    clear HZ HN
    go_enter Try.func31, Try.ntmps31
    go_wp2
    go_ret
    exact ⟨rfl, Below.refl _ _⟩
  · have HG : Hid (∀ i, i < n → zs[i]? = some (zs.getD i 0)) := Lib.hid fun i hi => by rw [HN.out] at hi; simp [List.getD, hi]
    obtain ⟨g, off, rfl, hg, c0⟩ := HZ.out.get (HG.out 0 hn0)
    have HC : Hid (∀ i, i < n → w.cell? ⟨g, off + i, none⟩ = some (.int .i64 (zs.getD i 0))) := Lib.hid fun i hi => by
      obtain ⟨g', off', e', _, c⟩ := HZ.out.get (HG.out i hi)
      simp only [Option.some.injEq, Addr.mk.injEq, and_true] at e'
      obtain ⟨rfl, rfl⟩ := e'
      exact c
    clear HZ c0 hg
    have c0 := HC.out 0 hn0
    have hz0 := Lib.hid (HG.out 0 hn0)
    rw [Nat.add_zero] at c0
    generalize zs.getD 0 0 = z0 at *
    by_cases e0 : z0 = 0
    · subst e0
      obtain ⟨m, rfl⟩ : ∃ m, n = m + 1 := ⟨n - 1, by omega⟩
      have g0 : (((m : Int) + 1) == 0) = false := by simp; omega
      go_enter Try.func31, Try.ntmps31
      go_wp2
      clear c0
      go_loopw [3] (fun vi wr => ∃ k : Nat, k ≤ m ∧ vi = .int .i64 ((k : Int) + 1) ∧ (∃ q, wr = w.drewN q) ∧ Hid (Inc zs k ∧ ∀ x ∈ zs.take (k + 1), x ≤ 600)) (fun vi _ => m + 1 - (intOf vi).toNat)
      case atStart => exact ⟨0, by omega, rfl, ⟨0, rfl⟩, Lib.hid ⟨Inc.zero zs, fun x hx => by
        obtain ⟨j, hj, rfl⟩ := List.mem_iff_getElem.1 hx
        rw [List.length_take] at hj
        obtain rfl : j = 0 := by omega
        rw [List.getElem_take]
        have := hz0.out
        rw [List.getElem?_eq_getElem (by omega)] at this
        simp at this; omega⟩⟩
      case round =>
        obtain ⟨k, hk, rfl, ⟨qn, rfl⟩, HI⟩ := hrel
        by_cases hlt : k < m
        · have ca := HC.out k (by omega)
          have cb := HC.out (k + 1) (by omega)
          have za := Lib.hid (HG.out k (by omega))
          have zb := Lib.hid (HG.out (k + 1) (by omega))
          generalize zs.getD k 0 = x at *
          generalize zs.getD (k + 1) 0 = y at *
          have i1 : (k : Int) + 1 < ((m + 1 : Nat) : Int) := by omega
          have i2 : (0 : Int) ≤ (k : Int) + 1 := by omega
          have i3 : ((k : Int) + 1).toNat = k + 1 := by omega
          have r1 : IntKind.i64.wrap ((k : Int) + 1 - 1) = (k : Int) := by rw [show (k : Int) + 1 - 1 = (k : Int) by omega]; exact IntWalk.i64_in _ (by omega)
          by_cases hxy : y ≤ x
          · have FIN := Lib.hid (goodB_no (bad_inc (size := 600) za.out zb.out hxy))
            have g1 : decide (y ≤ x) = true := decide_eq_true hxy
            clear HC HG HI
            go_wp2
            go_quiet (fail)
            go_wp2
            go_ret
            exact ⟨by rw [FIN.out]; rfl, bdrewN (bdrewN (Below.refl _ _) _) _⟩
          · have g1 : decide (y ≤ x) = false := decide_eq_false hxy
            by_cases h6 : 600 < y
            · have FIN := Lib.hid (goodB_no (vld_bound zb.out h6 600))
              have g2 : decide (600 < y) = true := decide_eq_true h6
              clear HC HG HI
              go_wp2
              go_quiet (fail)
              go_wp2
              go_ret
              exact ⟨by rw [FIN.out]; rfl, bdrewN (bdrewN (Below.refl _ _) _) _⟩
            · have NX : Hid (Inc zs (k + 1) ∧ ∀ x ∈ zs.take (k + 1 + 1), x ≤ 600) := Lib.hid ⟨HI.out.1.next za.out zb.out (by omega), fun u hu => by
                rw [take_next zb.out, List.mem_append, List.mem_singleton] at hu
                rcases hu with hu | rfl
                · exact HI.out.2 u hu
                · omega⟩
              have g2 : decide (600 < y) = false := decide_eq_false h6
              clear HC HG HI
              go_wp2
              go_quiet (fail)
              go_wp2
              go_roundw
              case rel => exact ⟨k + 1, by omega, by go_num, ⟨_, rfl⟩, NX⟩
              case measure => simp [intOf]; omega
        · obtain rfl : k = m := by omega
          have FIN : Hid (goodB 600 zs = true) := Lib.hid (goodB_yes ⟨hz0.out, HI.out.1.all (by rw [← HN.out]; omega), fun x hx => by
            have := HI.out.2 x (by rw [List.take_of_length_le (by rw [← HN.out]; omega)]; exact hx)
            omega⟩)
          clear HC HG HI
          go_wp2
          go_ret
          exact ⟨by rw [FIN.out]; rfl, bdrewN (Below.refl _ _) _⟩
    · have FIN := Lib.hid (goodB_no (bad_head (size := 600) hz0.out e0))
      rw [FIN.out]
      clear HC HG FIN
      have g : (z0 != 0) = true := by simpa using e0
      go_enter Try.func31, Try.ntmps31
      go_wp2
      go_ret
      exact ⟨rfl, Below.refl _ _⟩
end Go.Proofs.Ytfikolidmpjfcaa.LineR
