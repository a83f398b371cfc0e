/-
  The laws EditChecks and EditPlaces.
-/
import Derived.Test.YtkckhjljindgmaaEditAt
import Derived.Test.YtkckhjljindgmaaEditCheck
import Derived.Test.YtkckhjljindgmaaEditPlace
import Derived.Test.YtkckhjljindgmaaEditFaultRef
import Derived.Test.YtkckhjljindgmaaBoxes
namespace Go.Proofs.Ytkckhjljindgmaa.EditL
open Go.RowKit Kit EditM EditC EditR

/-- a box of three cells, as a load wants it -/
def S3 (w : World) (k : Nat) (v0 v1 v2 : Value) (w' : World) : Prop := Below w.heap.size w w' ∧ k < w'.heap.size ∧ w'.cell? ⟨k, 0, none⟩ = some v0 ∧ w'.cell? ⟨k, 1, none⟩ = some v1 ∧ w'.cell? ⟨k, 2, none⟩ = some v2
theorem S3.next {w w1 w2 : World} {k : Nat} {v0 v1 v2 : Value} (h : S3 w k v0 v1 v2 w1) (hb : Below w1.heap.size w1 w2) : S3 w k v0 v1 v2 w2 :=
  ⟨bstep h.1 hb, Nat.lt_of_lt_of_le h.2.1 hb.size, keep hb h.2.1 h.2.2.1, keep hb h.2.1 h.2.2.2.1, keep hb h.2.1 h.2.2.2.2⟩
theorem S3.drew {w w1 : World} {k : Nat} {v0 v1 v2 : Value} (h : S3 w k v0 v1 v2 w1) : S3 w k v0 v1 v2 w1.drew := h.next ((Below.refl _ _).drew)
theorem S3.box (w : World) (v0 v1 v2 : Value) (t : TypeId) : S3 w w.heap.size v0 v1 v2 (w.alloc (.cells #[v0, v1, v2] t)) :=
  ⟨(Below.refl _ _).alloc (Nat.le_refl _) _, by simp, by simp, by simp, by simp⟩

set_option maxHeartbeats 1000000 in
theorem editChecks (n : Int) (e : EdM) (w : World) (he : e.ok) :
    Calls Try.prog 3 #[.int .i64 n, .agg #[.int .i64 e.at_, .int .i64 e.cut, .string e.put]] w fun x w' => x = .returned (.bool true) ∧ Below w.heap.size w w' := by
  have C := Lib.hid (fun W => check n e.at_ e.cut e.put W he.a1 he.p)
  have F := Lib.hid (fun W => fault_ref n e.at_ e.cut e.put W he.a1 he.c1 he.p)
  generalize fault n e.at_ e.cut e.put.size = f at *
  clear he
  go_enter Try.func3, Try.ntmps3
  go_wp2_with fail
  go_region_held3 (fun w' => Below w.heap.size w w' ∧ w.heap.size < w'.heap.size ∧ w'.cell? ⟨w.heap.size, 0, none⟩ = some (.int .i64 e.at_) ∧ w'.cell? ⟨w.heap.size, 1, none⟩ = some (.int .i64 e.cut) ∧ w'.cell? ⟨w.heap.size, 2, none⟩ = some (.string e.put))
    (first | exact (S3.box w (.int .i64 e.at_) (.int .i64 e.cut) (.string e.put) _).drew | exact S3.next (by assumption) (by assumption))
    (first | (go_at_call 14; refine (C.out _).mono ?_; rintro x w' ⟨rfl, hb⟩) | (go_at_call 15; refine (F.out _).mono ?_; rintro x w' ⟨rfl, hb⟩))
  rename_i hH
  have hB := hH.1
  clear hH
  go_wp2
  go_ret
  exact ⟨rfl, hB⟩

set_option maxHeartbeats 2000000 in
theorem placeRef_ok (a c x : Int) (s : ByteArray) (r : Bool) (w : World) (a0 : 0 ≤ a) (a1 : a ≤ 1099511627776) (c0 : 0 ≤ c) (c1 : c ≤ 1099511627776) (x0 : 0 ≤ x) (x1 : x ≤ 1099511627776) (hs : s.size ≤ 140737488351232) :
    Calls Try.prog 21 #[.agg #[.int .i64 a, .int .i64 c, .string s], .int .i64 x, .bool r] w fun e w' => e = .returned (.tuple #[.int .i64 (placed a c s.size x r), .int .i64 0]) ∧ Below w.heap.size w w' := by
  have P := Lib.hid (fun W => editPlace a c x s r W a0 a1 c0 c1 x0 x1 hs)
  generalize placed a c s.size x r = v at *
  have g1 : decide (a < 0) = false := by simp; omega
  have g2 : decide (c < 0) = false := by simp; omega
  have g3 : decide (x < 0) = false := by simp; omega
  have g4 : decide (1099511627776 < a) = false := by simp; omega
  have g5 : decide (1099511627776 < c) = false := by simp; omega
  have g6 : decide (1099511627776 < x) = false := by simp; omega
  go_enter Try.func21, Try.ntmps21
  go_wp2_with fail
  refine (P.out _).mono ?_
  rintro e w1 ⟨rfl, hb⟩
  go_wp2_with fail
  go_ret2
  exact ⟨rfl, bstep (balloc (Below.refl _ _) _) hb⟩
set_option maxHeartbeats 2000000 in
theorem placeRef_range (a c x : Int) (s : ByteArray) (r : Bool) (w : World) (h : ¬ ((0 ≤ a ∧ a ≤ 1099511627776) ∧ (0 ≤ c ∧ c ≤ 1099511627776) ∧ 0 ≤ x ∧ x ≤ 1099511627776)) :
    Calls Try.prog 21 #[.agg #[.int .i64 a, .int .i64 c, .string s], .int .i64 x, .bool r] w fun e w' => e = .returned (.tuple #[.int .i64 0, .int .i64 2]) ∧ Below w.heap.size w w' := by
  by_cases g1 : a < 0
  · clear h
    go_enter Try.func21, Try.ntmps21
    go_wp2_with fail
    go_ret2
    exact ⟨rfl, balloc (Below.refl _ _) _⟩
  by_cases g2 : c < 0
  · clear h
    go_enter Try.func21, Try.ntmps21
    go_wp2_with fail
    go_ret2
    exact ⟨rfl, balloc (Below.refl _ _) _⟩
  by_cases g3 : x < 0
  · clear h
    go_enter Try.func21, Try.ntmps21
    go_wp2_with fail
    go_ret2
    exact ⟨rfl, balloc (Below.refl _ _) _⟩
  by_cases g4 : 1099511627776 < a
  · clear h
    go_enter Try.func21, Try.ntmps21
    go_wp2_with fail
    go_ret2
    exact ⟨rfl, balloc (Below.refl _ _) _⟩
  by_cases g5 : 1099511627776 < c
  · clear h
    go_enter Try.func21, Try.ntmps21
    go_wp2_with fail
    go_ret2
    exact ⟨rfl, balloc (Below.refl _ _) _⟩
  have g6 : 1099511627776 < x := by omega
  clear h
  go_enter Try.func21, Try.ntmps21
  go_wp2_with fail
  go_ret2
  exact ⟨rfl, balloc (Below.refl _ _) _⟩

set_option maxHeartbeats 1000000 in
theorem editPlaces (e : EdM) (x : Int) (r : Bool) (w : World) (he : e.ok) :
    Calls Try.prog 6 #[.agg #[.int .i64 e.at_, .int .i64 e.cut, .string e.put], .int .i64 x, .bool r] w fun x w' => x = .returned (.bool true) ∧ Below w.heap.size w w' := by
  by_cases h : (0 ≤ e.at_ ∧ e.at_ ≤ 1099511627776) ∧ (0 ≤ e.cut ∧ e.cut ≤ 1099511627776) ∧ 0 ≤ x ∧ x ≤ 1099511627776
  · have P := Lib.hid (fun W => place_ok e.at_ e.cut x e.put r W h.1.1 h.1.2 h.2.1.1 h.2.1.2 h.2.2.1 h.2.2.2 he.p)
    have Q := Lib.hid (fun W => placeRef_ok e.at_ e.cut x e.put r W h.1.1 h.1.2 h.2.1.1 h.2.1.2 h.2.2.1 h.2.2.2 he.p)
    generalize placed e.at_ e.cut e.put.size x r = v at *
    clear h he
    go_enter Try.func6, Try.ntmps6
    go_wp2_with fail
    refine (P.out _).mono ?_
    rintro y w1 ⟨rfl, hb⟩
    obtain ⟨hc, hf, _⟩ := bfacts hb
    go_wp2_with fail
    refine (Q.out _).mono ?_
    rintro y w2 ⟨rfl, hb2⟩
    go_wp2_with fail
    go_ret
    exact ⟨rfl, bstep (bstep (balloc (Below.refl _ _) _) hb) hb2⟩
  · have P := Lib.hid (fun W => place_range e.at_ e.cut x e.put r W h)
    have Q := Lib.hid (fun W => placeRef_range e.at_ e.cut x e.put r W h)
    clear h he
    go_enter Try.func6, Try.ntmps6
    go_wp2_with fail
    refine (P.out _).mono ?_
    rintro y w1 ⟨rfl, hb⟩
    obtain ⟨hc, hf, _⟩ := bfacts hb
    go_wp2_with fail
    refine (Q.out _).mono ?_
    rintro y w2 ⟨rfl, hb2⟩
    go_wp2_with fail
    go_ret
    exact ⟨rfl, bstep (bstep (balloc (Below.refl _ _) _) hb) hb2⟩

end Go.Proofs.Ytkckhjljindgmaa.EditL
