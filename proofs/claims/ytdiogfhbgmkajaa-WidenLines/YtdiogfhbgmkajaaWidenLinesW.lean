/-
  The law WidenLines, walked.
-/
import Derived.Test.YtdiogfhbgmkajaaSpanWiden
import Derived.Test.YtdiogfhbgmkajaaChange1
namespace Go.Proofs.Ytdiogfhbgmkajaa.SpanK
open Go.RowKit Kit SpanM SpanC WideM Lift Txt StrB

theorem picked_nat (x : Int) (N : Nat) : ∃ K : Nat, x % ((N : Int) + 1) = (K : Int) ∧ K ≤ N := by
  have h1 := Int.emod_nonneg x (show (N : Int) + 1 ≠ 0 by omega)
  have h2 := Int.emod_lt_of_pos x (show (0 : Int) < (N : Int) + 1 by omega)
  exact ⟨(x % ((N : Int) + 1)).toNat, by omega, by omega⟩
theorem get_byte {t : ByteArray} {i : Nat} {b : UInt8} (h : t.data.toList[i]? = some b) : ∃ h : i < t.size, t[i] = b := by
  obtain ⟨h1, h2⟩ := List.getElem?_eq_some_iff.1 h
  exact ⟨by simpa using h1, h2⟩
theorem two_lines : wl [97, 98] 1 = 0 ∧ wh [97, 98] 1 = 2 := by decide
set_option maxRecDepth 100000 in
set_option maxHeartbeats 4000000 in
theorem widenLines (a0 : Option Addr) (len0 cap0 : Nat) (z0 : List Int) (a b : Int) (w : World) (hz : IsRow .i64 w a0 len0 cap0 z0) {X : Prop} (_ : X) {Y : Prop} (_ : Y) :
    Calls Try.prog 12 #[.slice a0 len0 cap0, .int .i64 a, .int .i64 b] w fun e w' => e = .returned (.bool true) ∧ Below w.heap.size w w' := by
  have TO := Lib.hid (textOf a0 len0 cap0 z0 100 w hz (by omega))
  have hts : (textS ((z0.take len0).take 100)).size ≤ 100 := by rw [textS_size]; simp only [List.length_take]; omega
  generalize textS ((z0.take len0).take 100) = t at *
  clear hz
  have P1 := Lib.hid (fun W => picked a ((t.size : Int) + 1) W (by omega) (by omega))
  obtain ⟨lo, e1, h1⟩ := picked_nat a t.size
  rw [e1] at P1
  have P2 := Lib.hid (fun W => picked b ((t.size : Int) - lo + 1) W (by omega) (by omega))
  obtain ⟨k, e2, h2⟩ := picked_nat b (t.size - lo)
  rw [show (((t.size - lo : Nat) : Int)) = (t.size : Int) - lo by omega] at e2
  rw [e2] at P2
  clear e1 e2
  have W1 := Lib.hid (fun W => widen_ok t lo (lo + k) W (by omega) (by omega) (by omega))
  have W2 := Lib.hid (fun W => widen_ok ⟨#[97, 98]⟩ 1 1 W (by decide) (by decide) (by decide))
  rw [show (⟨#[97, 98]⟩ : ByteArray).data.toList = [97, 98] from rfl, two_lines.1, two_lines.2] at W2
  have LS := wl_ls t.data.toList (lo := lo) (by simp; omega)
  have LE := wh_le t.data.toList (hi := lo + k) (by simp; omega)
  generalize wl t.data.toList lo = el at *
  generalize wh t.data.toList (lo + k) = eh at *
  obtain ⟨l1, l2, _⟩ := LS
  obtain ⟨m1, m2, m3⟩ := LE
  rw [show t.data.toList.length = t.size by simp] at m2
  have r1 : IntKind.i64.wrap ((t.size : Int) - (lo : Int)) = (t.size : Int) - (lo : Int) := IntWalk.i64_in _ (by omega)
  have r2 : IntKind.i64.wrap ((t.size : Int) - (lo : Int) + 1) = (t.size : Int) - (lo : Int) + 1 := IntWalk.i64_in _ (by omega)
  have A0 := Lib.hid (balloc (Below.refl w.heap.size w) (.cells #[.int .i64 (lo : Int), .int .i64 ((lo : Int) + (k : Int))] 25))
  have X0 := Lib.hid (B2.new w (.int .i64 (lo : Int)) (.int .i64 ((lo : Int) + (k : Int))) 25)
  have s1 : ¬ (lo : Int) < (el : Int) := by omega
  have s2 : ¬ (eh : Int) < (lo : Int) + (k : Int) := by omega
  have s3 : ¬ (el : Int) < 0 := by omega
  have s4 : ¬ (t.size : Int) < (eh : Int) := by omega
  have L : (el : Int) = 0 ∨ ∃ y : Nat, el = y + 1 ∧ ∃ h : y < t.size, t[y] = 10 := by
    rcases l2 with rfl | ⟨y, e, h⟩
    · exact .inl rfl
    · exact .inr ⟨y, e, get_byte h⟩
  have R : (eh : Int) = t.size ∨ ((eh : Int) ≠ t.size ∧ ∃ y : Nat, eh = y + 1 ∧ ∃ h : y < t.size, t[y] = 10) := by
    by_cases q : (eh : Int) = t.size
    · exact .inl q
    · right
      refine ⟨q, ?_⟩
      rcases m3 with ⟨y, e, _, h, _⟩ | ⟨e, _⟩
      · exact ⟨y, e, get_byte h⟩
      · exact absurd (by rw [e]; simp) q
  clear l2 m3
  go_enter Try.func12, Try.ntmps12
  go_wp2_with fail
  refine TO.out.mono ?_
  rintro e w0 ⟨rfl, rfl⟩
  go_wp2_with fail
  refine (P1.out _).mono ?_
  rintro e w0 ⟨rfl, rfl⟩
  go_wp2_with fail
  refine (P2.out _).mono ?_
  rintro e w0 ⟨rfl, rfl⟩
  rcases L with q1 | ⟨y, rfl, hy, q1⟩
  · have g1 : ((el : Int) == 0) = true := by simp [q1]
    clear q1
    rcases R with q2 | ⟨q2, z, rfl, hz, q3⟩
    · have g2 : ((eh : Int) == (t.size : Int)) = true := by simp [q2]
      clear q2
      go_wp2_with fail
      refine (W1.out _).mono ?_
      rintro e w1 ⟨rfl, hb1⟩
      have A1 := Lib.hid (balloc (bstep A0.out hb1) (.cells #[.int .i64 (el : Int), .int .i64 (eh : Int)] 25))
      have X1 := Lib.hid ((B2.new w1 (.int .i64 (el : Int)) (.int .i64 (eh : Int)) 25))
      have X0' := Lib.hid ((X0.out.next hb1).alloc (.cells #[.int .i64 (el : Int), .int .i64 (eh : Int)] 25))
      clear hb1 W1 X0
      dsimp only at *
      go_wp2_with fail
      refine (W2.out _).mono ?_
      rintro e w2 ⟨rfl, hb2⟩
      have A2 := Lib.hid (balloc (bstep A1.out hb2) (.cells #[.int .i64 0, .int .i64 2] 25))
      obtain ⟨xl, x0, x1, _, _⟩ := X1.out.next hb2
      obtain ⟨yl, y0, y1, _, _⟩ := X0'.out.next hb2
      have n1 : w1.heap.size ≠ w2.heap.size := by omega
      have n2 : w.heap.size ≠ w2.heap.size := by omega
      clear hb2 W2 X1 X0'
      go_wp2_with fail
      go_ret
      exact ⟨by first | rfl | simp [*], A2.out⟩
    · have g2 : ((z : Int) + 1 == (t.size : Int)) = false := by simpa using q2
      have g3 : (0 : Int) < (z : Int) + 1 := by omega
      have g4 : ((t[z].toNat : Int) == 10) = true := by rw [q3]; rfl
      have r3 : IntKind.i64.wrap (z : Int) = (z : Int) := IntWalk.i64_in _ (by omega)
      have i1 : (z : Int) < (t.size : Int) := by omega
      have i2 : (0 : Int) ≤ (z : Int) := by omega
      clear q2 q3
      go_wp2_with fail
      refine (W1.out _).mono ?_
      rintro e w1 ⟨rfl, hb1⟩
      have A1 := Lib.hid (balloc (bstep A0.out hb1) (.cells #[.int .i64 (el : Int), .int .i64 ((z : Int) + 1)] 25))
      have X1 := Lib.hid ((B2.new w1 (.int .i64 (el : Int)) (.int .i64 ((z : Int) + 1)) 25))
      have X0' := Lib.hid ((X0.out.next hb1).alloc (.cells #[.int .i64 (el : Int), .int .i64 ((z : Int) + 1)] 25))
      clear hb1 W1 X0
      dsimp only at *
      go_wp2_with fail
      refine (W2.out _).mono ?_
      rintro e w2 ⟨rfl, hb2⟩
      have A2 := Lib.hid (balloc (bstep A1.out hb2) (.cells #[.int .i64 0, .int .i64 2] 25))
      obtain ⟨xl, x0, x1, _, _⟩ := X1.out.next hb2
      obtain ⟨yl, y0, y1, _, _⟩ := X0'.out.next hb2
      have n1 : w1.heap.size ≠ w2.heap.size := by omega
      have n2 : w.heap.size ≠ w2.heap.size := by omega
      clear hb2 W2 X1 X0'
      go_wp2_with fail
      go_ret
      exact ⟨by first | rfl | simp [*], A2.out⟩
  · have g1 : ((y : Int) + 1 == 0) = false := by simp; omega
    have g5 : ((t[y].toNat : Int) == 10) = true := by rw [q1]; rfl
    have r4 : IntKind.i64.wrap (y : Int) = (y : Int) := IntWalk.i64_in _ (by omega)
    have i3 : (y : Int) < (t.size : Int) := by omega
    have i4 : (0 : Int) ≤ (y : Int) := by omega
    clear q1
    rcases R with q2 | ⟨q2, z, rfl, hz, q3⟩
    · have g2 : ((eh : Int) == (t.size : Int)) = true := by simp [q2]
      clear q2
      go_wp2_with fail
      refine (W1.out _).mono ?_
      rintro e w1 ⟨rfl, hb1⟩
      have A1 := Lib.hid (balloc (bstep A0.out hb1) (.cells #[.int .i64 ((y : Int) + 1), .int .i64 (eh : Int)] 25))
      have X1 := Lib.hid ((B2.new w1 (.int .i64 ((y : Int) + 1)) (.int .i64 (eh : Int)) 25))
      have X0' := Lib.hid ((X0.out.next hb1).alloc (.cells #[.int .i64 ((y : Int) + 1), .int .i64 (eh : Int)] 25))
      clear hb1 W1 X0
      dsimp only at *
      go_wp2_with fail
      refine (W2.out _).mono ?_
      rintro e w2 ⟨rfl, hb2⟩
      have A2 := Lib.hid (balloc (bstep A1.out hb2) (.cells #[.int .i64 0, .int .i64 2] 25))
      obtain ⟨xl, x0, x1, _, _⟩ := X1.out.next hb2
      obtain ⟨yl, y0, y1, _, _⟩ := X0'.out.next hb2
      have n1 : w1.heap.size ≠ w2.heap.size := by omega
      have n2 : w.heap.size ≠ w2.heap.size := by omega
      clear hb2 W2 X1 X0'
      go_wp2_with fail
      go_ret
      exact ⟨by first | rfl | simp [*], A2.out⟩
    · have g2 : ((z : Int) + 1 == (t.size : Int)) = false := by simpa using q2
      have g3 : (0 : Int) < (z : Int) + 1 := by omega
      have g4 : ((t[z].toNat : Int) == 10) = true := by rw [q3]; rfl
      have r3 : IntKind.i64.wrap (z : Int) = (z : Int) := IntWalk.i64_in _ (by omega)
      have i1 : (z : Int) < (t.size : Int) := by omega
      have i2 : (0 : Int) ≤ (z : Int) := by omega
      clear q2 q3
      go_wp2_with fail
      refine (W1.out _).mono ?_
      rintro e w1 ⟨rfl, hb1⟩
      have A1 := Lib.hid (balloc (bstep A0.out hb1) (.cells #[.int .i64 ((y : Int) + 1), .int .i64 ((z : Int) + 1)] 25))
      have X1 := Lib.hid ((B2.new w1 (.int .i64 ((y : Int) + 1)) (.int .i64 ((z : Int) + 1)) 25))
      have X0' := Lib.hid ((X0.out.next hb1).alloc (.cells #[.int .i64 ((y : Int) + 1), .int .i64 ((z : Int) + 1)] 25))
      clear hb1 W1 X0
      dsimp only at *
      go_wp2_with fail
      refine (W2.out _).mono ?_
      rintro e w2 ⟨rfl, hb2⟩
      have A2 := Lib.hid (balloc (bstep A1.out hb2) (.cells #[.int .i64 0, .int .i64 2] 25))
      obtain ⟨xl, x0, x1, _, _⟩ := X1.out.next hb2
      obtain ⟨yl, y0, y1, _, _⟩ := X0'.out.next hb2
      have n1 : w1.heap.size ≠ w2.heap.size := by omega
      have n2 : w.heap.size ≠ w2.heap.size := by omega
      clear hb2 W2 X1 X0'
      go_wp2_with fail
      go_ret
      exact ⟨by first | rfl | simp [*], A2.out⟩
end Go.Proofs.Ytdiogfhbgmkajaa.SpanK
