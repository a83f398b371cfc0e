/-
  The law EditOvers.
-/
import Derived.Test.YtkckhjljindgmaaEditOverRef2
namespace Go.Proofs.Ytkckhjljindgmaa.EditR
open Go.RowKit Kit EditM EditC

set_option maxHeartbeats 1000000 in
theorem editOvers (n : Int) (a b : EdM) (w : World) {P : Prop} (_ : P) (ha : a.ok) (hb : b.ok) :
    Calls Try.prog 7 #[.int .i64 n, .agg #[.int .i64 a.at_, .int .i64 a.cut, .string a.put], .agg #[.int .i64 b.at_, .int .i64 b.cut, .string b.put]] w fun e w' => e = .returned (.bool true) ∧ Below w.heap.size w w' := by
  have C := Lib.hid (fun W => over n a b W ha hb)
  have D := Lib.hid (fun W => (overRef n a b W ha hb).mono fun _ _ h => show _ ∧ _ from h)
  generalize overR n a b = r at *
  generalize overC n a b = code at *
  clear ha hb
  go_enter Try.func7, Try.ntmps7
  go_wp2_with fail
  refine (C.out _).mono ?_
  rintro e w1 ⟨rfl, hb1⟩
  have z1 : w.heap.size + 1 < w1.heap.size := by have := hb1.size; simp at this; omega
  have z0 : w.heap.size < w1.heap.size := by omega
  have x0 : w1.cell? ⟨w.heap.size, 0, none⟩ = some (.int .i64 a.at_) := keep hb1 (by simp; try omega) (by simp)
  have x1 : w1.cell? ⟨w.heap.size, 1, none⟩ = some (.int .i64 a.cut) := keep hb1 (by simp; try omega) (by simp)
  have x2 : w1.cell? ⟨w.heap.size, 2, none⟩ = some (.string a.put) := keep hb1 (by simp; try omega) (by simp)
  have y0 : w1.cell? ⟨w.heap.size + 1, 0, none⟩ = some (.int .i64 b.at_) := keep hb1 (by simp; try omega) (by simp)
  have y1 : w1.cell? ⟨w.heap.size + 1, 1, none⟩ = some (.int .i64 b.cut) := keep hb1 (by simp; try omega) (by simp)
  have y2 : w1.cell? ⟨w.heap.size + 1, 2, none⟩ = some (.string b.put) := keep hb1 (by simp; try omega) (by simp)
  have q0 := Nat.ne_of_lt z0
  have q1 := Nat.ne_of_lt z1
  have B1 := Lib.hid (bstep (balloc (balloc (Below.refl _ _) _) _) hb1)
  clear hb1
  go_wp2_with fail
  refine (D.out _).mono ?_
  rintro e w2 ⟨rfl, hb2⟩
  obtain ⟨hc2, hf2, _⟩ := bfacts hb2
  have z2 : w1.heap.size < w2.heap.size := by have := hb2.size; simp at this; omega
  have B2 := Lib.hid (bstep (balloc B1.out _) hb2)
  clear hb2
  go_wp2_with fail
  go_ret
  exact ⟨rfl, balloc B2.out _⟩

end Go.Proofs.Ytkckhjljindgmaa.EditR
