/-
  Package spans: what Widen answers.
-/
import Derived.Test.YtdiogfhbgmkajaaStrB
import Derived.Test.YtdiogfhbgmkajaaWidenMath
import Derived.Test.YtdiogfhbgmkajaaSpanSmall
namespace Go.Proofs.Ytdiogfhbgmkajaa.SpanC
open Go.RowKit Kit SpanM WideM PosM StrB

/-- what Widen answers -/
def widC (t : ByteArray) (s : SpM) : Int := if 600 < t.size then 1 else if WithinP t.size s then 0 else 2
def widS (t : ByteArray) (s : SpM) : SpM := if widC t s = 0 then ⟨wl t.data.toList s.lo.toNat, wh t.data.toList s.hi.toNat⟩ else ⟨0, 0⟩
def WidPost (c : Int) (x : SpM) (w : World) (e : Ending) (w' : World) : Prop := e = .returned (.tuple #[.agg #[.int .i64 x.lo, .int .i64 x.hi], .int .i64 c]) ∧ Below w.heap.size w w'
theorem bput2 {w W : World} {k : Nat} (h : Below w.heap.size w W) (hk : w.heap.size ≤ k) (u v : Value) : Below w.heap.size w ((W.setCell ⟨k, 0, none⟩ u).setCell ⟨k, 1, none⟩ v) := (h.setCell (p := ⟨k, 0, none⟩) hk _).setCell (p := ⟨k, 1, none⟩) hk _
set_option maxHeartbeats 1000000 in
theorem widen_size (t : ByteArray) (s : SpM) (w : World) (h : 600 < t.size) :
    Calls Try.prog 25 #[.string t, .agg #[.int .i64 s.lo, .int .i64 s.hi]] w (WidPost 1 ⟨0, 0⟩ w) := by
  have A0 := Lib.hid (balloc (balloc (Below.refl w.heap.size w) (.cells #[.int .i64 s.lo, .int .i64 s.hi] 25)) (.cells #[.int .i64 0, .int .i64 0] 25))
  have g : (600 : Int) < (t.size : Int) := by omega
  go_enter Try.func25, Try.ntmps25
  go_wp2_with fail
  refine bodyPost_ret (v := .tuple #[.agg #[.int .i64 0, .int .i64 0], .int .i64 1]) (by simp [results, Try.results25, go_sem]) rfl ⟨rfl, A0.out⟩
set_option maxHeartbeats 1000000 in
theorem widen_range (t : ByteArray) (s : SpM) (w : World) (h : t.size ≤ 600) (hw : ¬ WithinP t.size s) :
    Calls Try.prog 25 #[.string t, .agg #[.int .i64 s.lo, .int .i64 s.hi]] w (WidPost 2 ⟨0, 0⟩ w) := by
  have A0 := Lib.hid (balloc (balloc (Below.refl w.heap.size w) (.cells #[.int .i64 s.lo, .int .i64 s.hi] 25)) (.cells #[.int .i64 0, .int .i64 0] 25))
  have X2 := Lib.hid (B2.new (w.alloc (.cells #[.int .i64 s.lo, .int .i64 s.hi] 25)) (.int .i64 0) (.int .i64 0) 25)
  rw [show (w.alloc (.cells #[.int .i64 s.lo, .int .i64 s.hi] 25)).heap.size = w.heap.size + 1 by simp] at X2
  have g : ¬ (600 : Int) < (t.size : Int) := by omega
  have WI := Lib.hid (fun W => within t.size s W)
  rw [decide_eq_false hw] at WI
  clear hw
  go_enter Try.func25, Try.ntmps25
  go_wp2_with fail
  refine (WI.out _).mono ?_
  rintro e w1 ⟨rfl, hb1⟩
  have B := Lib.hid (bstep A0.out hb1)
  obtain ⟨_, d0, d1, f0, f1⟩ := X2.out.next hb1
  clear hb1 WI
  go_wp2_with fail
  refine bodyPost_ret (v := .tuple #[.agg #[.int .i64 0, .int .i64 0], .int .i64 2]) (by simp [results, Try.results25, go_sem, *]) rfl ⟨rfl, bput2 B.out (by omega) _ _⟩
set_option maxRecDepth 100000 in
set_option maxHeartbeats 2000000 in
theorem widen_ok (t : ByteArray) (lo hi : Nat) (w : World) (h : t.size ≤ 600) (h1 : lo ≤ hi) (h2 : hi ≤ t.size) :
    Calls Try.prog 25 #[.string t, .agg #[.int .i64 (lo : Int), .int .i64 (hi : Int)]] w (WidPost 0 ⟨wl t.data.toList lo, wh t.data.toList hi⟩ w) := by
  have A0 := Lib.hid (balloc (balloc (Below.refl w.heap.size w) (.cells #[.int .i64 (lo : Int), .int .i64 (hi : Int)] 25)) (.cells #[.int .i64 0, .int .i64 0] 25))
  have X1 := Lib.hid ((B2.new w (.int .i64 (lo : Int)) (.int .i64 (hi : Int)) 25).alloc (.cells #[.int .i64 0, .int .i64 0] 25))
  have X2 := Lib.hid (B2.new (w.alloc (.cells #[.int .i64 (lo : Int), .int .i64 (hi : Int)] 25)) (.int .i64 0) (.int .i64 0) 25)
  rw [show (w.alloc (.cells #[.int .i64 (lo : Int), .int .i64 (hi : Int)] 25)).heap.size = w.heap.size + 1 by simp] at X2
  have g : ¬ (600 : Int) < (t.size : Int) := by omega
  have WI := Lib.hid (fun W => within t.size ⟨lo, hi⟩ W)
  rw [decide_eq_true (show WithinP t.size ⟨lo, hi⟩ from ⟨by dsimp only; omega, by dsimp only; omega, by dsimp only; omega⟩)] at WI
  have hcl := col_len (t.data.toList.take lo)
  have hll : t.data.toList.length = t.size := by simp
  rw [List.length_take, hll] at hcl
  have LB := Lib.hid (fun W => lastIndexByte (t.extract 0 lo) W (by rw [take_size t (by omega)]; unfold maxLen; omega))
  rw [take_list, take_size t (by omega)] at LB
  have IB := Lib.hid (fun W => indexByteS (t.extract hi t.size) W)
  rw [drop_list] at IB
  have EL : Hid ((wl t.data.toList lo : Int) = (lo : Int) - 1 - (col (t.data.toList.take lo) : Int) + 1) := Lib.hid (by unfold wl; omega)
  have EH : Hid (wh t.data.toList hi = if first (t.data.toList.drop hi) < (t.data.toList.drop hi).length then hi + first (t.data.toList.drop hi) + 1 else t.size) := Lib.hid (by unfold wh; rw [hll])
  have hfl := first_le (t.data.toList.drop hi)
  have FE : Hid (feed (t.data.toList.drop hi) = if first (t.data.toList.drop hi) < (t.data.toList.drop hi).length then (first (t.data.toList.drop hi) : Int) else -1) := Lib.hid rfl
  rw [FE.out] at IB
  have hdl : (t.data.toList.drop hi).length = t.size - hi := by rw [List.length_drop, hll]
  rw [hdl] at IB EH hfl
  clear FE hdl hll
  generalize first (t.data.toList.drop hi) = fd at *
  generalize wh t.data.toList hi = eh at *
  generalize wl t.data.toList lo = el at *
  generalize col (t.data.toList.take lo) = cl at *
  have r1 : IntKind.i64.wrap ((lo : Int) - 1 - (cl : Int) + 1) = (el : Int) := by rw [← EL.out]; exact IntWalk.i64_in _ (by have := EL.out; omega)
  by_cases q : fd < t.size - hi
  · rw [if_pos q] at IB
    have EQ : eh = hi + fd + 1 := by have := EH.out; rw [if_pos q] at this; exact this
    subst EQ
    clear EH
    go_enter Try.func25, Try.ntmps25
    go_wp2_with fail
    refine (WI.out _).mono ?_
    rintro e w1 ⟨rfl, hb1⟩
    have B := Lib.hid (bstep A0.out hb1)
    obtain ⟨y1, u0, u1, _, _⟩ := X1.out.next hb1
    obtain ⟨y2, d0, d1, f0, f1⟩ := X2.out.next hb1
    have yn1 : w.heap.size ≠ w1.heap.size := by omega
    have yn2 : w.heap.size + 1 ≠ w1.heap.size := by omega
    clear hb1 WI X1 X2
    go_wp2_with fail
    refine (LB.out _).mono ?_
    rintro e w2 ⟨rfl, rfl⟩
    go_wp2_with fail
    refine (IB.out _).mono ?_
    rintro e w2 ⟨rfl, rfl⟩
    go_wp2_with fail
    refine bodyPost_ret (v := .tuple #[.agg #[.int .i64 (el : Int), .int .i64 ((hi : Int) + fd + 1)], .int .i64 0]) (by simp [results, Try.results25, go_sem, *]) rfl ⟨rfl, ?_⟩
    first | exact bput2 (balloc B.out _) (by omega) _ _ | exact balloc (bput2 B.out (by omega) _ _) _
  · rw [if_neg q] at IB
    have EQ : eh = t.size := by have := EH.out; rw [if_neg q] at this; exact this
    subst EQ
    clear EH
    go_enter Try.func25, Try.ntmps25
    go_wp2_with fail
    refine (WI.out _).mono ?_
    rintro e w1 ⟨rfl, hb1⟩
    have B := Lib.hid (bstep A0.out hb1)
    obtain ⟨y1, u0, u1, _, _⟩ := X1.out.next hb1
    obtain ⟨y2, d0, d1, f0, f1⟩ := X2.out.next hb1
    have yn1 : w.heap.size ≠ w1.heap.size := by omega
    have yn2 : w.heap.size + 1 ≠ w1.heap.size := by omega
    clear hb1 WI X1 X2
    go_wp2_with fail
    refine (LB.out _).mono ?_
    rintro e w2 ⟨rfl, rfl⟩
    go_wp2_with fail
    refine (IB.out _).mono ?_
    rintro e w2 ⟨rfl, rfl⟩
    go_wp2_with fail
    refine bodyPost_ret (v := .tuple #[.agg #[.int .i64 (el : Int), .int .i64 ((t.size : Int))], .int .i64 0]) (by simp [results, Try.results25, go_sem, *]) rfl ⟨rfl, ?_⟩
    first | exact bput2 (balloc B.out _) (by omega) _ _ | exact balloc (bput2 B.out (by omega) _ _) _
/-- Widen, whatever it answers -/
theorem widen (t : ByteArray) (s : SpM) (w : World) :
    Calls Try.prog 25 #[.string t, .agg #[.int .i64 s.lo, .int .i64 s.hi]] w (WidPost (widC t s) (widS t s) w) := by
  by_cases h : 600 < t.size
  · have e : widC t s = 1 := by unfold widC; rw [if_pos h]
    rw [show widS t s = ⟨0, 0⟩ by unfold widS; rw [e]; rfl, e]
    exact widen_size t s w h
  · by_cases hw : WithinP t.size s
    · have e : widC t s = 0 := by unfold widC; rw [if_neg h, if_pos hw]
      rw [show widS t s = ⟨wl t.data.toList s.lo.toNat, wh t.data.toList s.hi.toNat⟩ by unfold widS; rw [e]; rfl, e]
      obtain ⟨h1, h2, h3⟩ := hw
      obtain ⟨lo, hi⟩ := s
      dsimp only at *
      obtain ⟨lo, rfl⟩ := Int.eq_ofNat_of_zero_le h1
      obtain ⟨hi, rfl⟩ := Int.eq_ofNat_of_zero_le (show 0 ≤ hi by omega)
      exact widen_ok t lo hi w (by omega) (by omega) (by omega)
    · have e : widC t s = 2 := by unfold widC; rw [if_neg h, if_neg hw]
      rw [show widS t s = ⟨0, 0⟩ by unfold widS; rw [e]; rfl, e]
      exact widen_range t s w (by omega) hw
end Go.Proofs.Ytdiogfhbgmkajaa.SpanC
