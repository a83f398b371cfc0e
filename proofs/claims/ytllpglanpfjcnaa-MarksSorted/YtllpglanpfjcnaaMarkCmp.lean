/-
  Package marks: the comparisons of Order and Near.
-/
import Derived.Test.YtllpglanpfjcnaaMarkAt
import Derived.Test.YtllpglanpfjcnaaBoxes
import Derived.Deep.RegionHeld3
import Derived.Deep.RegionWith
import Derived.WalkSpells
namespace Go.Proofs.Ytllpglanpfjcnaa.MarkC
open Go.RowKit Kit EditM MarkM

def cmpI (a b : Int) : Int := if a < b then -1 else if b < a then 1 else 0
def sides (a b : Bool) : Int := if a = b then 0 else if b then -1 else 1
def orI (x y : Int) : Int := if x ≠ 0 then x else y
def ordI (a b : MkM) : Int := orI (cmpI a.at_ b.at_) (sides a.right b.right)

set_option maxHeartbeats 400000 in
theorem isNaN (a : Int) (w : World) : Calls Try.prog 49 #[.int .i64 a] w fun e w' => e = .returned (.bool false) ∧ w = w' := by
  go_enter Try.func49, Try.ntmps49
  go_wp2
  go_ret
  exact ⟨rfl, rfl⟩
set_option maxHeartbeats 400000 in
theorem compare (a b : Int) (w : World) : Calls Try.prog 32 #[.int .i64 a, .int .i64 b] w fun e w' => e = .returned (.int .i64 (cmpI a b)) ∧ w = w' := by
  have N := Lib.hid isNaN
  by_cases h1 : a < b
  · have E : Hid (cmpI a b = -1) := Lib.hid (if_pos h1)
    go_enter Try.func32, Try.ntmps32
    go_wp2_with (go_at_call 49; refine (N.out _ _).mono ?_; rintro e w' ⟨rfl, rfl⟩)
    go_ret
    exact ⟨ret_int E.out.symm, rfl⟩
  · by_cases h2 : b < a
    · have E : Hid (cmpI a b = 1) := Lib.hid (by unfold cmpI; rw [if_neg h1, if_pos h2])
      go_enter Try.func32, Try.ntmps32
      go_wp2_with (go_at_call 49; refine (N.out _ _).mono ?_; rintro e w' ⟨rfl, rfl⟩)
      go_ret
      exact ⟨ret_int E.out.symm, rfl⟩
    · have E : Hid (cmpI a b = 0) := Lib.hid (by unfold cmpI; rw [if_neg h1, if_neg h2])
      go_enter Try.func32, Try.ntmps32
      go_wp2_with (go_at_call 49; refine (N.out _ _).mono ?_; rintro e w' ⟨rfl, rfl⟩)
      go_ret
      exact ⟨ret_int E.out.symm, rfl⟩
set_option maxHeartbeats 400000 in
theorem compareSides (a b : Bool) (w : World) : Calls Try.prog 33 #[.bool a, .bool b] w fun e w' => e = .returned (.int .i64 (sides a b)) ∧ w = w' := by
  go_enter Try.func33, Try.ntmps33
  cases a <;> cases b <;> go_wp2 <;> go_ret <;> exact ⟨rfl, rfl⟩
set_option maxHeartbeats 1000000 in
theorem or2 (k : Nat) (x y : Int) (w : World) (c0 : w.cell? ⟨k, 0, none⟩ = some (.int .i64 x)) (c1 : w.cell? ⟨k, 1, none⟩ = some (.int .i64 y)) :
    Calls Try.prog 31 #[.slice (some ⟨k, 0, none⟩) 2 2] w fun e w' => e = .returned (.int .i64 (orI x y)) ∧ w = w' := by
  by_cases h : x = 0
  · subst h
    by_cases h2 : y = 0
    · subst h2
      have E : Hid (orI 0 0 = 0) := Lib.hid rfl
      go_enter Try.func31, Try.ntmps31
      go_wp2
      refine wp_loop_rounds 3 ?_
      rw [rounds_succ]
      go_wp2
      rw [rounds_succ]
      go_wp2
      rw [rounds_succ]
      go_wp2
      go_ret
      exact ⟨ret_int E.out.symm, rfl⟩
    · have hy : (y != 0) = true := by simpa using h2
      have E : Hid (orI 0 y = y) := Lib.hid rfl
      go_enter Try.func31, Try.ntmps31
      go_wp2
      refine wp_loop_rounds 2 ?_
      rw [rounds_succ]
      go_wp2
      rw [rounds_succ]
      go_wp2
      go_ret
      exact ⟨ret_int E.out.symm, rfl⟩
  · have hx : (x != 0) = true := by simpa using h
    have E : Hid (orI x y = x) := Lib.hid (if_pos h)
    go_enter Try.func31, Try.ntmps31
    go_wp2
    refine wp_loop_rounds 1 ?_
    rw [rounds_succ]
    go_wp2
    go_ret
    exact ⟨ret_int E.out.symm, rfl⟩
set_option maxHeartbeats 400000 in
theorem nearCmp (a b : MkM) (w : World) : Calls Try.prog 34 #[.agg #[.int .i64 a.at_, .bool a.right], .agg #[.int .i64 b.at_, .bool b.right]] w fun e w' => e = .returned (.int .i64 (cmpI a.at_ b.at_)) ∧ Below w.heap.size w w' := by
  have C := Lib.hid (fun W => compare a.at_ b.at_ W)
  go_enter Try.func34, Try.ntmps34
  go_wp2_with fail
  refine (C.out _).mono ?_
  rintro e w1 ⟨rfl, rfl⟩
  go_wp2_with fail
  go_ret
  exact ⟨rfl, balloc (balloc (Below.refl _ _) _) _⟩
/-- two boxes of two cells, as loads want them -/
def S22 (w : World) (x0 x1 y0 y1 : Value) (W : World) : Prop := Below w.heap.size w W ∧ w.heap.size + 1 < W.heap.size ∧ W.cell? ⟨w.heap.size, 0, none⟩ = some x0 ∧ W.cell? ⟨w.heap.size, 1, none⟩ = some x1 ∧ W.cell? ⟨w.heap.size + 1, 0, none⟩ = some y0 ∧ W.cell? ⟨w.heap.size + 1, 1, none⟩ = some y1
theorem S22.next {w W W' : World} {x0 x1 y0 y1 : Value} (h : S22 w x0 x1 y0 y1 W) (hb : Below W.heap.size W W') : S22 w x0 x1 y0 y1 W' := by
  obtain ⟨h1, h2, h3, h4, h5, h6⟩ := h
  exact ⟨bstep h1 hb, Nat.lt_of_lt_of_le h2 hb.size, keep hb (by omega) h3, keep hb (by omega) h4, keep hb h2 h5, keep hb h2 h6⟩
theorem S22.drew {w W : World} {x0 x1 y0 y1 : Value} (h : S22 w x0 x1 y0 y1 W) : S22 w x0 x1 y0 y1 W.drew := h.next ((Below.refl _ _).drew)
theorem S22.box (w : World) (x0 x1 y0 y1 : Value) (t t' : TypeId) : S22 w x0 x1 y0 y1 ((w.alloc (.cells #[x0, x1] t)).alloc (.cells #[y0, y1] t')) :=
  ⟨balloc (balloc (Below.refl _ _) _) _, by simp, by simp, by simp, by simp, by simp⟩
theorem cells_last (W : World) (cs : Array Value) (t : TypeId) (j k : Nat) (hk : W.heap.size = k) : (W.alloc (.cells cs t)).cell? ⟨k, j, none⟩ = cs[j]? := by subst hk; exact cells_new W cs t j
set_option maxRecDepth 100000 in
set_option maxHeartbeats 4000000 in
theorem orderCmp (a b : MkM) (w : World) : Calls Try.prog 30 #[.agg #[.int .i64 a.at_, .bool a.right], .agg #[.int .i64 b.at_, .bool b.right]] w fun e w' => e = .returned (.int .i64 (ordI a b)) ∧ Below w.heap.size w w' := by
  have C := Lib.hid (fun W => compare a.at_ b.at_ W)
  have D := Lib.hid (fun W => compareSides a.right b.right W)
  have Q := Lib.hid or2
  have E : Hid (ordI a b = orI (cmpI a.at_ b.at_) (sides a.right b.right)) := Lib.hid rfl
  generalize cmpI a.at_ b.at_ = x at *
  generalize sides a.right b.right = y at *
  go_enter Try.func30, Try.ntmps30
  go_wp2_with fail
  go_region_held3 (fun W => Below w.heap.size w W ∧ w.heap.size + 1 < W.heap.size ∧ W.cell? ⟨w.heap.size, 0, none⟩ = some (.int .i64 a.at_) ∧ W.cell? ⟨w.heap.size, 1, none⟩ = some (.bool a.right) ∧ W.cell? ⟨w.heap.size + 1, 0, none⟩ = some (.int .i64 b.at_) ∧ W.cell? ⟨w.heap.size + 1, 1, none⟩ = some (.bool b.right))
    (first | exact S22.drew (S22.box w _ _ _ _ _ _) | exact S22.drew (S22.next (S22.box w _ _ _ _ _ _) (balloc (Below.refl _ _) _)) | exact S22.next (by assumption) (balloc (Below.refl _ _) _))
    (first | (go_at_call 32; refine (C.out _).mono ?_; rintro e wz ⟨rfl, rfl⟩) | (go_at_call 33; refine (D.out _).mono ?_; rintro e wz ⟨rfl, rfl⟩) | (go_at_call 31; refine (Q.out _ x y _ (cells_last _ _ _ 0 _ (by simp)) (cells_last _ _ _ 1 _ (by simp))).mono ?_; rintro e wz ⟨rfl, rfl⟩))
  go_wp2_with fail
  go_ret
  exact ⟨ret_int E.out.symm, (balloc (balloc (balloc (Below.refl _ _) _) _) _).drew⟩

end Go.Proofs.Ytllpglanpfjcnaa.MarkC
