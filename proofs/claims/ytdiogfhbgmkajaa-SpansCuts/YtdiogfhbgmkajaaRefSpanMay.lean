/-
  The document's answer: SpansMay.
-/
import Derived.Test.YtdiogfhbgmkajaaSpanMay
namespace Go.Proofs.Ytdiogfhbgmkajaa.SpanR
open Go.RowKit Kit SpanM SpanC

set_option maxRecDepth 100000 in
set_option maxHeartbeats 2000000 in
theorem may_ref (n : Int) (l : List SpM) (al : Option Addr) (cap : Nat) (w : World) (hl : SpsAt w al l) (hmx : l.length ≤ 9223372036854775807) :
    Calls Try.prog 16 #[.int .i64 n, .slice al l.length cap] w fun e w' => e = .returned (.bool (mayB n l)) ∧ Below w.heap.size w w' := by
  by_cases h1 : n < 0
  · have E : Hid (mayB n l = false) := Lib.hid (mayB_no fun h => by have := h.n0; omega)
    rw [E.out]
    clear hl
    generalize l.length = N at *
    go_enter Try.func16, Try.ntmps16
    go_wp2
    go_ret
    exact ⟨rfl, Below.refl _ _⟩
  by_cases h2 : 600 < n
  · have E : Hid (mayB n l = false) := Lib.hid (mayB_no fun h => by have := h.n1; omega)
    rw [E.out]
    clear hl
    generalize l.length = N at *
    go_enter Try.func16, Try.ntmps16
    go_wp2
    go_ret
    exact ⟨rfl, Below.refl _ _⟩
  by_cases h3 : 40 < l.length
  · have E : Hid (mayB n l = false) := Lib.hid (mayB_no fun h => by have := h.len; omega)
    rw [E.out]
    clear hl
    generalize l.length = N at *
    have g : (40 : Int) < (N : Int) := by omega
    go_enter Try.func16, Try.ntmps16
    go_wp2
    go_ret
    exact ⟨rfl, Below.refl _ _⟩
  have HL := Lib.hid hl
  obtain ⟨N, hN⟩ : ∃ N, N = l.length := ⟨_, rfl⟩
  have HN := Lib.hid hN
  rw [← hN] at h3 ⊢
  have g : ¬ (40 : Int) < (N : Int) := by omega
  clear hl hN hmx
  go_enter Try.func16, Try.ntmps16
  go_wp2_with fail
  go_loopw [20] (fun vi wr => ∃ (k : Nat) (b : Int), k ≤ N ∧ vi = .int .i64 (k : Int) ∧ Hid (Scan n (l.take k) b ∧ Below w.heap.size w wr)) (fun vi _ => N - (intOf vi).toNat)
  case atStart => exact ⟨0, 0, by omega, rfl, Lib.hid ⟨Scan.nil (by omega), Below.refl _ _⟩⟩
  case round =>
    obtain ⟨k, b, hk, rfl, HK⟩ := hrel
    by_cases hlt : k < N
    · obtain ⟨s, hs⟩ : ∃ s, l[k]? = some s := ⟨l[k]'(by have := HN.out; omega), by simp [← HN.out, hlt]⟩
      obtain ⟨g', off, rfl, hg', c0, c1⟩ := SpsAt.get (HL.out.next HK.out.2) hs
      have i1 : (k : Int) < (N : Int) := by omega
      have i2 : (0 : Int) ≤ (k : Int) := by omega
      have hb0 := HK.out.1.lo
      have OR := Lib.hid HK.out.1.or_
      have NX := Lib.hid (fun h1 h2 h3 => by have := HK.out.1.next (s := s) h1 h2 h3; rw [← take_next hs] at this; exact this)
      have BD := Lib.hid (fun h => mayB_no (HK.out.1.badAt hs h))
      have PV : Hid (∀ j x, k = j + 1 → l[j]? = some x → wr.cell? ⟨g', off + j * 2 + 1, none⟩ = some (.int .i64 x.hi)) := Lib.hid fun j x _ hj => by
        obtain ⟨g2, off2, e, _, _, c3⟩ := SpsAt.get (HL.out.next HK.out.2) hj
        simp only [Option.some.injEq, Addr.mk.injEq, and_true] at e
        obtain ⟨rfl, rfl⟩ := e
        exact c3
      have DRN := fun nq => Lib.hid (bdrewN (balloc HK.out.2 (.cells #[.int .i64 s.lo, .int .i64 s.hi] 25)) nq)
      have hgl : g' < wr.heap.size := hg'
      clear HK hs
      obtain ⟨lo, hi⟩ := s
      dsimp only at *
      by_cases q1 : lo < 0
      · have E := Lib.hid (BD.out (.inl (by omega)))
        have g1 : decide (lo < 0) = true := decide_eq_true q1
        clear NX BD OR PV
        go_wp2_with fail
        go_quiet (fail)
        go_wp2_with fail
        go_ret
        exact ⟨ret_bool E.out.symm, (DRN _).out⟩
      have g1 : decide (lo < 0) = false := decide_eq_false q1
      by_cases q2 : hi ≤ lo
      · have E := Lib.hid (BD.out (.inr (.inl q2)))
        have g2 : decide (hi ≤ lo) = true := decide_eq_true q2
        clear NX BD OR PV
        go_wp2_with fail
        go_quiet (fail)
        go_wp2_with fail
        go_ret
        exact ⟨ret_bool E.out.symm, (DRN _).out⟩
      have g2 : decide (hi ≤ lo) = false := decide_eq_false q2
      by_cases q3 : n < hi
      · have E := Lib.hid (BD.out (.inr (.inr q3)))
        have g3 : decide (n < hi) = true := decide_eq_true q3
        clear NX BD OR PV
        go_wp2_with fail
        go_quiet (fail)
        go_wp2_with fail
        go_ret
        exact ⟨ret_bool E.out.symm, (DRN _).out⟩
      have g3 : decide (n < hi) = false := decide_eq_false q3
      by_cases k0 : k = 0
      · subst k0
        have E : Hid (Scan n (l.take (0 + 1)) (hi + 1)) := Lib.hid (by
          rcases OR.out with ⟨_, rfl⟩ | ⟨q, x, e, _⟩
          · exact NX.out (by omega) (by omega) (by omega)
          · simp at e)
        have c0' : wr.cell? ⟨g', off, none⟩ = some (.int .i64 lo) := by simpa using c0
        have c1' : wr.cell? ⟨g', off + 1, none⟩ = some (.int .i64 hi) := by simpa using c1
        clear NX BD OR PV
        go_wp2_with fail
        go_quiet (fail)
        go_wp2_with fail
        go_roundw
        case rel => exact ⟨0 + 1, hi + 1, by omega, by go_num, Lib.hid ⟨E.out, (DRN _).out⟩⟩
        case measure => simp [intOf]; omega
      · obtain ⟨j, rfl⟩ : ∃ j, k = j + 1 := ⟨k - 1, by omega⟩
        obtain ⟨x, hx⟩ : ∃ x, l[j]? = some x := ⟨l[j]'(by have := HN.out; omega), by simp⟩
        have p1 := PV.out j x rfl hx
        have BX : b = x.hi + 1 := by
          rcases OR.out with ⟨e, _⟩ | ⟨q, y, e, eb⟩
          · have := congrArg List.length e
            simp [← HN.out] at this; omega
          · rw [take_next hx] at e
            have := List.append_inj' e rfl
            obtain ⟨_, e2⟩ := this
            simp at e2
            rw [e2]; exact eb
        have j1 : (j : Int) < (N : Int) := by omega
        have j2 : (0 : Int) ≤ (j : Int) := by omega
        have r1 : IntKind.i64.wrap (j : Int) = (j : Int) := IntWalk.i64_in _ (by omega)
        have g4 : decide ((j : Int) + 1 > 0) = true := decide_eq_true (by omega)
        have g4' : decide ((0 : Int) < (j : Int) + 1) = true := decide_eq_true (by omega)
        obtain ⟨xl, xh⟩ := x
        dsimp only at *
        clear OR PV hx k0
        have gne : g' ≠ wr.heap.size := by omega
        by_cases q4 : lo ≤ xh
        · have E := Lib.hid (BD.out (.inl (by omega)))
          have g5 : decide (lo ≤ xh) = true := decide_eq_true q4
          clear NX BD BX hb0
          go_wp2_with fail
          go_quiet (fail)
          go_wp2_with fail
          go_ret
          exact ⟨ret_bool E.out.symm, (DRN _).out⟩
        · have g5 : decide (lo ≤ xh) = false := decide_eq_false q4
          have E := Lib.hid (NX.out (by omega) (by omega) (by omega))
          clear NX BD BX hb0
          go_wp2_with fail
          go_quiet (fail)
          go_wp2_with fail
          go_roundw
          case rel => exact ⟨j + 1 + 1, hi + 1, by omega, by go_num, Lib.hid ⟨E.out, (DRN _).out⟩⟩
          case measure => simp [intOf]; omega
    · obtain rfl : k = N := by omega
      have E : Hid (mayB n l = true) := Lib.hid (mayB_yes (by
        have := HK.out.1
        rw [HN.out, List.take_length] at this
        exact this.all (by omega) (by omega) (by have := HN.out; omega)))
      go_wp2_with fail
      go_ret
      exact ⟨ret_bool E.out.symm, HK.out.2⟩
end Go.Proofs.Ytdiogfhbgmkajaa.SpanR
