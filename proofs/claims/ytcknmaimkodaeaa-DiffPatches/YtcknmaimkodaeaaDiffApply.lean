/-
  Package diff: apply (one step of a patch).
-/
import Derived.Test.YtcknmaimkodaeaaDiffBox
import Derived.BigQuiet
import Derived.BigRegion
import Derived.Deep.RegionLaw
namespace Go.Proofs.Ytcknmaimkodaeaa.DiffP
open Go.RowKit Kit LineM StrM DiffM DiffA DiffR HistM

/-- what a step answers -/
def ApPost (w : World) (x z : List ByteArray) (bk : Nat) : Except Int (Nat × Nat × List ByteArray) → Ending → World → Prop
  | .error c, e, w' => e = .returned (.int .i64 c) ∧ Below w.heap.size w w'
  | .ok s, e, w' => e = .returned (.int .i64 0) ∧ PS w x z bk s.1 s.2.1 s.2.2 w'
theorem own_slice {w : World} {base e size n : Nat} {v : Value} {xs : List Value} (h : w.ownsRow base e size v n xs) : ∃ a cap, v = .slice a n cap := by
  rcases h.2 with ⟨e, h0⟩ | ⟨g, cap, cur, e, _⟩
  · exact ⟨none, 0, by rw [e, h0]⟩
  · exact ⟨_, cap, e⟩
def CoPost (c : Int) (w : World) (e : Ending) (w' : World) : Prop := e = .returned (.int .i64 c) ∧ Below w.heap.size w w'
set_option maxRecDepth 100000 in
set_option maxHeartbeats 4000000 in
theorem apply_kind (w W : World) (bk : Nat) (so sn vo : Value) (L : List ByteArray) (h : PB w bk so sn L vo W) (kd ct : Int) (h1 : kd ≠ 1) (h2 : kd ≠ 2) (h3 : kd ≠ 3) :
    Calls Try.prog 27 #[.pointer (some ⟨bk, 0, none⟩), .agg #[.int .i64 kd, .int .i64 ct]] W (CoPost 3 w) := by
  have B1 := Lib.hid (balloc h.bel (.cells #[.int .i64 kd, .int .i64 ct] 28))
  have hlt := h.box.lt
  have q1 : decide (kd = 1) = false := decide_eq_false h1
  have q2 : decide (kd = 2) = false := decide_eq_false h2
  have q3 : decide (kd = 3) = false := decide_eq_false h3
  clear h
  go_enter Try.func27, Try.ntmps27
  go_wp2_with fail
  go_ret
  exact ⟨rfl, B1.out⟩
set_option maxRecDepth 100000 in
set_option maxHeartbeats 4000000 in
theorem apply_range (w W : World) (bk : Nat) (so sn vo : Value) (L : List ByteArray) (h : PB w bk so sn L vo W) (kd ct : Int) (h1 : kd = 1 ∨ kd = 2 ∨ kd = 3) (h2 : ct < 1 ∨ 200 < ct) :
    Calls Try.prog 27 #[.pointer (some ⟨bk, 0, none⟩), .agg #[.int .i64 kd, .int .i64 ct]] W (CoPost 2 w) := by
  have B1 := Lib.hid (balloc h.bel (.cells #[.int .i64 kd, .int .i64 ct] 28))
  have hlt := h.box.lt
  have hcr2 : (ct < 1) ∨ (¬ ct < 1 ∧ ct > 200) := by omega
  clear h h2
  rcases h1 with rfl | rfl | rfl <;> rcases hcr2 with q1 | ⟨q1, q2⟩
  all_goals
    go_enter Try.func27, Try.ntmps27
    go_wp2_with fail
    go_ret
    exact ⟨rfl, B1.out⟩
set_option maxRecDepth 100000 in
set_option maxHeartbeats 4000000 in
theorem apply_short (w W : World) (bk na ca nb cb : Nat) (sa sb : Option Addr) (vo : Value) (L : List ByteArray) (h : PB w bk (.slice sa na ca) (.slice sb nb cb) L vo W) (kd : Int) (c : Nat) (hc1 : 1 ≤ c) (hc2 : c ≤ 200) (h1 : ((kd = 1 ∨ kd = 2) ∧ na < c) ∨ (kd = 3 ∧ nb < c)) :
    Calls Try.prog 27 #[.pointer (some ⟨bk, 0, none⟩), .agg #[.int .i64 kd, .int .i64 (c : Int)]] W (CoPost 5 w) := by
  have B1 := Lib.hid (fun n => bdrewN (balloc h.bel (.cells #[.int .i64 kd, .int .i64 (c : Int)] 28)) n)
  have hlt := h.box.lt
  have c0 := h.box.c0
  have c1 := h.box.c1
  have q1 : ¬ (c : Int) < 1 := by omega
  have q2 : ¬ (c : Int) > 200 := by omega
  clear h
  rcases h1 with ⟨rfl | rfl, q3⟩ | ⟨rfl, q3⟩
  all_goals
    go_enter Try.func27, Try.ntmps27
    go_wp2_with fail
    go_quiet (fail)
    go_wp2_with fail
    go_ret
    exact ⟨rfl, B1.out _⟩
end Go.Proofs.Ytcknmaimkodaeaa.DiffP
