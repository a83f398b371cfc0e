/-
  slices.swapRangeCmpFunc and slices.rotateCmpFunc at []int.
-/
import Derived.Test.YtllpglanpfjcnaaLift
import Derived.Test.YtllpglanpfjcnaaSortRow
import Derived.Shelf.RegionOpenPlain
import Derived.WalkSpells
namespace Go.Proofs.Ytllpglanpfjcnaa.SortC
open Go.RowKit Kit SortM

set_option maxHeartbeats 2000000 in
theorem swapRange (w0 : World) (blk n cap a b k : Nat) (fv : Value) (d : Nat → Nat) (w : World) (h : SR w0 blk n d w) (h1 : a + k ≤ b) (h2 : b + k ≤ n) (hn : n ≤ 1000000) :
    Calls Try.prog 55 #[.slice (some ⟨blk, 0, none⟩) n cap, .int .i64 (a : Int), .int .i64 (b : Int), .int .i64 (k : Int), fv] w fun e w' => e = .returned (.tuple #[]) ∧ SR w0 blk n (swr a b k d) w' := by
  have HS := Lib.hid h
  clear h
  have mixed : Try.prog.follows .mixedOrders = true := by kernel_rfl
  go_enter Try.func55, Try.ntmps55
  go_wp2
  go_loopw [10] (fun i wr => ∃ j : Nat, j ≤ k ∧ i = .int .i64 (j : Int) ∧ Hid (SR w0 blk n (swr a b j d) wr)) (fun i _ => k - (intOf i).toNat)
  case atStart => exact ⟨0, Nat.zero_le _, rfl, Lib.hid (by rw [swr_zero]; exact HS.out)⟩
  case round =>
    obtain ⟨j, hj, rfl, HR⟩ := hrel
    by_cases hlt : j < k
    · have S2 := Lib.hid (HR.out.swap (i := a + j) (j := b + j) (by omega) (by omega) (by omega))
      rw [swr_next a b j d (by omega)] at S2
      have c1 := HR.out.cell (a + j) (by omega)
      have c2 := HR.out.cell (b + j) (by omega)
      have f1 := HR.out.free (a + j) (by omega)
      have f2 := HR.out.free (b + j) (by omega)
      have c3 := HR.out.two (i := a + j) (j := b + j) (by omega) (by omega) (.int .i64 (swr a b j d (b + j) : Int))
      have e1 : ((a : Int) + (j : Int)).toNat = a + j := by omega
      have e2 : ((b : Int) + (j : Int)).toNat = b + j := by omega
      have p1 : (0 : Int) ≤ (a : Int) + (j : Int) := by omega
      have p2 : (0 : Int) ≤ (b : Int) + (j : Int) := by omega
      have b1 : (a : Int) + (j : Int) < (n : Int) := by omega
      have b2 : (b : Int) + (j : Int) < (n : Int) := by omega
      have r1 : IntKind.i64.wrap ((a : Int) + (j : Int)) = (a : Int) + (j : Int) := IntWalk.i64_in _ (by omega)
      have r2 : IntKind.i64.wrap ((b : Int) + (j : Int)) = (b : Int) + (j : Int) := IntWalk.i64_in _ (by omega)
      obtain ⟨x, hx⟩ : ∃ x, x = swr a b j d (a + j) := ⟨_, rfl⟩
      obtain ⟨y, hy⟩ : ∃ y, y = swr a b j d (b + j) := ⟨_, rfl⟩
      rw [← hx, ← hy] at S2
      rw [← hx] at c1
      rw [← hy] at c2 c3
      clear hx hy HR
      obtain ⟨p, hp⟩ : ∃ p, p = a + j := ⟨_, rfl⟩
      obtain ⟨q, hq⟩ : ∃ q, q = b + j := ⟨_, rfl⟩
      rw [← hp] at c1 c3 f1 e1 S2
      rw [← hq] at c2 c3 f2 e2 S2
      clear hp hq
      go_wp2_with fail
      go_big_region_o
      clear c1 c2 c3 f1 f2
      generalize ((wr.setCell ⟨blk, p, none⟩ (.int .i64 (y : Int))).setCell ⟨blk, q, none⟩ (.int .i64 (x : Int))).drew = w3 at S2 ⊢
      clear e1 e2 p1 p2 b1 b2 r1 r2
      go_wp2_with fail
      go_roundw
      case rel => exact ⟨j + 1, by omega, by go_num, S2⟩
      case measure => simp [intOf]; omega
    · obtain rfl : j = k := by omega
      go_wp2
      go_end0
      exact ⟨rfl, HR.out⟩

set_option maxHeartbeats 2000000 in
theorem rotate (w0 : World) (blk n cap a m b : Nat) (fv : Value) (d : Nat → Nat) (w : World) (h : SR w0 blk n d w) (h1 : a < m) (h2 : m < b) (hb : b ≤ n) (hn : n ≤ 1000000) :
    Calls Try.prog 54 #[.slice (some ⟨blk, 0, none⟩) n cap, .int .i64 (a : Int), .int .i64 (m : Int), .int .i64 (b : Int), fv] w fun e w' => e = .returned (.tuple #[]) ∧ SR w0 blk n (rot a m b d) w' := by
  have HS := Lib.hid h
  clear h
  have SW := Lib.hid (fun a b k d w h h1 h2 => swapRange w0 blk n cap a b k fv d w h h1 h2 hn)
  go_enter Try.func54, Try.ntmps54
  go_wp2
  go_loopw [10, 11] (fun vi vj wr => ∃ (i j : Nat) (dk : Nat → Nat), vi = .int .i64 (i : Int) ∧ vj = .int .i64 (j : Int) ∧ 0 < i ∧ 0 < j ∧ a + i ≤ m ∧ m + j ≤ b ∧ Hid (rot (m - i) m (m + j) dk = rot a m b d) ∧ Hid (SR w0 blk n dk wr)) (fun vi vj _ => (intOf vi).toNat + (intOf vj).toNat)
  case atStart => exact ⟨m - a, b - m, d, by go_num, by go_num, by omega, by omega, by omega, by omega, Lib.hid (by rw [show m - (m - a) = a by omega, show m + (b - m) = b by omega]), HS⟩
  case round =>
    obtain ⟨i, j, dk, rfl, rfl, hi, hj, hia, hjb, HR, HD⟩ := hrel
    clear HS
    by_cases e : i = j
    · subst e
      have hne : ((i : Int) != (i : Int)) = false := by simp
      have C := Lib.hid (SW.out (m - i) m i dk wr HD.out (by omega) (by omega))
      rw [rot_same m i dk (by omega), HR.out] at C
      have ez : (m : Int) - (i : Int) = ((m - i : Nat) : Int) := by omega
      have r1 : IntKind.i64.wrap ((m : Int) - (i : Int)) = ((m - i : Nat) : Int) := by rw [ez]; exact IntWalk.i64_in _ (by omega)
      clear SW HR HD
      go_wp2_with fail
      refine C.out.mono ?_
      rintro e w1 ⟨rfl, hw1⟩
      go_wp2_with fail
      go_end0
      exact ⟨rfl, hw1⟩
    · have hne : ((i : Int) != (j : Int)) = true := by simp; omega
      by_cases c : j < i
      · have C := Lib.hid (SW.out (m - i) m j dk wr HD.out (by omega) (by omega))
        have HR2 := Lib.hid ((rot_left m i j dk (by omega) c).trans HR.out)
        have ez : (m : Int) - (i : Int) = ((m - i : Nat) : Int) := by omega
        have r1 : IntKind.i64.wrap ((m : Int) - (i : Int)) = ((m - i : Nat) : Int) := by rw [ez]; exact IntWalk.i64_in _ (by omega)
        clear SW HR HD
        go_wp2_with fail
        refine C.out.mono ?_
        rintro e w1 ⟨rfl, hw1⟩
        have HD1 := Lib.hid hw1
        clear hw1
        go_wp2_with fail
        go_roundw
        case rel => exact ⟨i - j, j, _, by go_num, rfl, by omega, by omega, by omega, by omega, HR2, HD1⟩
        case measure => simp [intOf]; omega
      · have C := Lib.hid (SW.out (m - i) (m + j - i) i dk wr HD.out (by omega) (by omega))
        have HR2 := Lib.hid ((rot_right m i j dk (by omega) (by omega)).trans HR.out)
        have ez : (m : Int) - (i : Int) = ((m - i : Nat) : Int) := by omega
        have r1 : IntKind.i64.wrap ((m : Int) - (i : Int)) = ((m - i : Nat) : Int) := by rw [ez]; exact IntWalk.i64_in _ (by omega)
        have ez2 : (m : Int) + (j : Int) - (i : Int) = ((m + j - i : Nat) : Int) := by omega
        have r2 : IntKind.i64.wrap ((m : Int) + (j : Int)) = (m : Int) + (j : Int) := IntWalk.i64_in _ (by omega)
        have r3 : IntKind.i64.wrap ((m : Int) + (j : Int) - (i : Int)) = ((m + j - i : Nat) : Int) := by rw [ez2]; exact IntWalk.i64_in _ (by omega)
        clear SW HR HD
        go_wp2_with fail
        refine C.out.mono ?_
        rintro e w1 ⟨rfl, hw1⟩
        have HD1 := Lib.hid hw1
        clear hw1
        go_wp2_with fail
        go_roundw
        case rel => exact ⟨i, j - i, _, rfl, by go_num, by omega, by omega, by omega, by omega, HR2, HD1⟩
        case measure => simp [intOf]; omega

end Go.Proofs.Ytllpglanpfjcnaa.SortC
