/-
  Package spans: what moved and Shift answer.
-/
import Derived.Test.YtdiogfhbgmkajaaSpanAdd
import Derived.Test.YtdiogfhbgmkajaaEditCheck
import Derived.Test.YtdiogfhbgmkajaaEditPlace
namespace Go.Proofs.Ytdiogfhbgmkajaa.SpanC
open Go.RowKit Kit SpanM EditM

theorem placed_behind {a c x : Int} {k : Nat} (h : a + c ≤ x) (hc : 0 ≤ c) : placed a c k x true = x + k - c := by
  unfold placed
  rw [if_neg (by omega)]
  split
  · simp; omega
  · rfl
/-- a span that lies behind an edit, moved -/
def mvS (s : SpM) (c k : Int) : SpM := if s.hi ≤ s.lo then ⟨0, 0⟩ else ⟨s.lo + k - c, s.hi + k - c⟩
theorem mvS_from (o : SpM) (a c k : Int) : mvS (froS o (a + c)) c k = movS o a c k := by unfold mvS movS froS; rfl
set_option maxHeartbeats 1000000 in
theorem moved (s : SpM) (a c : Int) (p : ByteArray) (w : World) (a0 : 0 ≤ a) (c0 : 0 ≤ c) (h : a + c ≤ s.lo) (h2 : s.hi ≤ 600) (hp : p.size ≤ 600) :
    Calls Try.prog 46 #[.agg #[.int .i64 s.lo, .int .i64 s.hi], .agg #[.int .i64 a, .int .i64 c, .string p]] w fun e w' => e = .returned (.agg #[.int .i64 (mvS s c p.size).lo, .int .i64 (mvS s c p.size).hi]) ∧ Below w.heap.size w w' := by
  have EM := Lib.hid (fun W => empty s W)
  have A0 := Lib.hid (balloc (balloc (balloc (Below.refl w.heap.size w) (.cells #[.int .i64 s.lo, .int .i64 s.hi] 25)) (.cells #[.int .i64 a, .int .i64 c, .string p] 33)) (.cells #[.int .i64 0, .int .i64 0] 25))
  have X0 := Lib.hid ((((B2.new w (.int .i64 s.lo) (.int .i64 s.hi) 25).alloc (.cells #[.int .i64 a, .int .i64 c, .string p] 33)).alloc (.cells #[.int .i64 0, .int .i64 0] 25)))
  have X1 := Lib.hid ((B3.new (w.alloc (.cells #[.int .i64 s.lo, .int .i64 s.hi] 25)) (.int .i64 a) (.int .i64 c) (.string p) 33).alloc (.cells #[.int .i64 0, .int .i64 0] 25))
  have X2 := Lib.hid (B2.new ((w.alloc (.cells #[.int .i64 s.lo, .int .i64 s.hi] 25)).alloc (.cells #[.int .i64 a, .int .i64 c, .string p] 33)) (.int .i64 0) (.int .i64 0) 25)
  have hz1 : (w.alloc (.cells #[.int .i64 s.lo, .int .i64 s.hi] 25)).heap.size = w.heap.size + 1 := by simp
  have hz2 : ((w.alloc (.cells #[.int .i64 s.lo, .int .i64 s.hi] 25)).alloc (.cells #[.int .i64 a, .int .i64 c, .string p] 33)).heap.size = w.heap.size + 2 := by simp
  rw [hz1] at X1
  rw [hz2] at X2
  clear hz1 hz2
  by_cases he : Emp s
  · rw [decide_eq_true he] at EM
    rw [show mvS s c p.size = ⟨0, 0⟩ by unfold mvS; exact if_pos he]
    clear he
    dsimp only
    go_enter Try.func46, Try.ntmps46
    go_wp2_with fail
    refine (EM.out _).mono ?_
    rintro e w1 ⟨rfl, hb1⟩
    have B := Lib.hid (bstep A0.out hb1)
    obtain ⟨_, d0, d1, f0, f1⟩ := X2.out.next hb1
    clear hb1 EM
    go_wp2_with fail
    refine bodyPost_ret (v := .agg #[.int .i64 0, .int .i64 0]) (by simp [results, Try.results46, go_sem, *]) rfl ⟨rfl, ?_⟩
    exact (B.out.setCell (p := ⟨w.heap.size + 2, 0, none⟩) (by dsimp only; omega) _).setCell (p := ⟨w.heap.size + 2, 1, none⟩) (by dsimp only; omega) _
  · rw [decide_eq_false he] at EM
    have hs : s.lo < s.hi := by unfold Emp at he; omega
    have P1 := Lib.hid (fun W => EditC.place_ok a c s.lo p true W a0 (by omega) c0 (by omega) (by omega) (by omega) (by omega))
    have P2 := Lib.hid (fun W => EditC.place_ok a c s.hi p true W a0 (by omega) c0 (by omega) (by omega) (by omega) (by omega))
    rw [placed_behind (by omega) c0] at P1 P2
    rw [show mvS s c p.size = ⟨s.lo + p.size - c, s.hi + p.size - c⟩ by unfold mvS; exact if_neg he]
    clear he
    dsimp only
    obtain ⟨lo, hi⟩ := s
    dsimp only at *
    generalize lo + (p.size : Int) - c = nl at *
    generalize hi + (p.size : Int) - c = nh at *
    go_enter Try.func46, Try.ntmps46
    go_wp2_with fail
    refine (EM.out _).mono ?_
    rintro e w1 ⟨rfl, hb1⟩
    have B := Lib.hid (bstep A0.out hb1)
    have Y0 := Lib.hid (X0.out.next hb1)
    have Y1 := Lib.hid (X1.out.next hb1)
    have Y2 := Lib.hid (X2.out.next hb1)
    obtain ⟨_, u0, u1, _, _⟩ := Y0.out
    obtain ⟨_, v0, v1, v2, _, _, _⟩ := Y1.out
    clear hb1 EM X0 X1 X2
    go_wp2_with fail
    refine (P1.out _).mono ?_
    rintro e w2 ⟨rfl, hb2⟩
    have B2' := Lib.hid (bstep B.out hb2)
    have Z0 := Lib.hid (Y0.out.next hb2)
    have Z1 := Lib.hid (Y1.out.next hb2)
    have Z2 := Lib.hid (Y2.out.next hb2)
    clear hb2 P1 u0 u1 v0 v1 v2 Y0 Y1 Y2
    obtain ⟨_, u0, u1, _, _⟩ := Z0.out
    obtain ⟨_, v0, v1, v2, _, _, _⟩ := Z1.out
    go_wp2_with fail
    refine (P2.out _).mono ?_
    rintro e w3 ⟨rfl, hb3⟩
    have B3' := Lib.hid (bstep B2'.out hb3)
    obtain ⟨_, d0, d1, f0, f1⟩ := Z2.out.next hb3
    clear hb3 P2 u0 u1 v0 v1 v2 Z0 Z1 Z2
    go_wp2_with fail
    refine bodyPost_ret (v := .agg #[.int .i64 nl, .int .i64 nh]) (by simp [results, Try.results46, go_sem, *]) rfl ⟨rfl, ?_⟩
    exact (B3'.out.setCell (p := ⟨w.heap.size + 2, 0, none⟩) (by dsimp only; omega) _).setCell (p := ⟨w.heap.size + 2, 1, none⟩) (by dsimp only; omega) _
end Go.Proofs.Ytdiogfhbgmkajaa.SpanC
