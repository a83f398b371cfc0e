/-
  The law SpansWidens, walked.
-/
import Derived.Test.YtdiogfhbgmkajaaRefWiden
import Derived.Test.YtdiogfhbgmkajaaSpanEql
namespace Go.Proofs.Ytdiogfhbgmkajaa.SpanR
open Go.RowKit Kit SpanM SpanC
set_option maxHeartbeats 1000000 in
theorem spansWidens (t : ByteArray) (s : SpM) (w : World) (hsz : t.size ≤ 140737488351232) {Y : Prop} (_ : Y) :
    Calls Try.prog 8 #[.string t, .agg #[.int .i64 s.lo, .int .i64 s.hi]] w fun e w' => e = .returned (.bool true) ∧ Below w.heap.size w w' := by
  have A0 := Lib.hid (balloc (Below.refl w.heap.size w) (.cells #[.int .i64 s.lo, .int .i64 s.hi] 25))
  have M' := Lib.hid (fun W => widen t s W)
  have R' := Lib.hid (fun W => widen_ref t s W hsz)
  have X0 := Lib.hid (B2.new w (.int .i64 s.lo) (.int .i64 s.hi) 25)
  have gs := guardSpan
  have es' := eqlSp
  generalize widC t s = c at *
  generalize widS t s = tk at *
  obtain ⟨tl, th⟩ := tk
  obtain ⟨lo, hi⟩ := s
  dsimp only at *
  go_enter Try.func8, Try.ntmps8
  go_wp2_with fail
  refine (M'.out _).mono ?_
  rintro e w1 ⟨rfl, hb1⟩
  have A1 := Lib.hid (balloc (bstep A0.out hb1) (.cells #[.int .i64 tl, .int .i64 th] 25))
  have X1 := Lib.hid (B2.new w1 (.int .i64 tl) (.int .i64 th) 25)
  have X2 := Lib.hid ((X0.out.next hb1).alloc (.cells #[.int .i64 tl, .int .i64 th] 25))
  obtain ⟨yl, y0, y1, _, _⟩ := X0.out.next hb1
  have hw1 : w.heap.size ≠ w1.heap.size := by omega
  clear hb1 M' X0
  go_wp2_with fail
  refine (R'.out _).mono ?_
  rintro e w2 ⟨rfl, hb2⟩
  have A2 := Lib.hid (balloc (bstep A1.out hb2) (.cells #[.int .i64 tl, .int .i64 th] 25))
  obtain ⟨xl, x0, x1, _, _⟩ := X1.out.next hb2
  have hwn : w1.heap.size ≠ w2.heap.size := by omega
  clear hb2 R' X1 X2
  dsimp only at *
  go_wp2_with fail
  go_ret
  exact ⟨by first | rfl | simp, A2.out⟩
end Go.Proofs.Ytdiogfhbgmkajaa.SpanR
