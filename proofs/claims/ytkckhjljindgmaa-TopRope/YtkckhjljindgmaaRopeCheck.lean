/-
  Package rope: what check answers.
-/
import Derived.Test.YtkckhjljindgmaaRopeCreate
namespace Go.Proofs.Ytkckhjljindgmaa.RopeC
open Go.RowKit Kit RopeM

set_option maxRecDepth 100000 in
set_option maxHeartbeats 2000000 in
theorem check_low (k : Int) (s : ByteArray) (a b at_ cnt : Int) (p : Option Addr) (n cap : Nat) (w : World) (h : k < 1) :
    Calls Try.prog 51 #[.agg #[.int .i64 k, .string s, .int .i64 a, .int .i64 b, .int .i64 at_, .int .i64 cnt], .slice p n cap] w fun e w' => e = .returned (.int .i64 3) ∧ Below w.heap.size w w' := by
  go_enter Try.func51, Try.ntmps51
  go_wp2_with fail
  go_ret
  exact ⟨rfl, ((Below.refl _ _).alloc (Nat.le_refl _) _)⟩
set_option maxRecDepth 100000 in
set_option maxHeartbeats 2000000 in
theorem check_high (k : Int) (s : ByteArray) (a b at_ cnt : Int) (p : Option Addr) (n cap : Nat) (w : World) (h : 5 < k) :
    Calls Try.prog 51 #[.agg #[.int .i64 k, .string s, .int .i64 a, .int .i64 b, .int .i64 at_, .int .i64 cnt], .slice p n cap] w fun e w' => e = .returned (.int .i64 3) ∧ Below w.heap.size w w' := by
  go_enter Try.func51, Try.ntmps51
  go_wp2_with fail
  go_ret
  exact ⟨rfl, ((Below.refl _ _).alloc (Nat.le_refl _) _)⟩
set_option maxRecDepth 100000 in
set_option maxHeartbeats 2000000 in
theorem check_noA (k : Int) (s : ByteArray) (a b at_ cnt : Int) (p : Option Addr) (n cap : Nat) (w : World) (h1 : 1 < k) (h5 : k ≤ 5) (ha : has a n = false) :
    Calls Try.prog 51 #[.agg #[.int .i64 k, .string s, .int .i64 a, .int .i64 b, .int .i64 at_, .int .i64 cnt], .slice p n cap] w fun e w' => e = .returned (.int .i64 7) ∧ Below w.heap.size w w' := by
  have Ea := Lib.hid (fun W : World => exists_ a p n cap W)
  rw [ha] at Ea
  go_enter Try.func51, Try.ntmps51
  go_wp2_with fail
  refine (Ea.out _).mono ?_
  rintro e wa ⟨rfl, rfl⟩
  go_wp2_with fail
  go_ret
  exact ⟨rfl, ((Below.refl _ _).alloc (Nat.le_refl _) _)⟩
set_option maxRecDepth 100000 in
set_option maxHeartbeats 2000000 in
theorem check_noB (s : ByteArray) (a b at_ cnt : Int) (p : Option Addr) (n cap : Nat) (w : World) (ha : has a n = true) (hb : has b n = false) :
    Calls Try.prog 51 #[.agg #[.int .i64 2, .string s, .int .i64 a, .int .i64 b, .int .i64 at_, .int .i64 cnt], .slice p n cap] w fun e w' => e = .returned (.int .i64 7) ∧ Below w.heap.size w w' := by
  have Ea := Lib.hid (fun W : World => exists_ a p n cap W)
  have Eb := Lib.hid (fun W : World => exists_ b p n cap W)
  rw [ha] at Ea
  rw [hb] at Eb
  go_enter Try.func51, Try.ntmps51
  go_wp2_with fail
  refine (Ea.out _).mono ?_
  rintro e wa ⟨rfl, rfl⟩
  go_wp2_with fail
  refine (Eb.out _).mono ?_
  rintro e wb ⟨rfl, rfl⟩
  go_wp2_with fail
  go_ret
  exact ⟨rfl, ((Below.refl _ _).alloc (Nat.le_refl _) _)⟩
set_option maxRecDepth 100000 in
set_option maxHeartbeats 2000000 in
theorem check_text_range (s : ByteArray) (a b at_ cnt : Int) (p : Option Addr) (n cap : Nat) (w : World)  (R : Hid (∀ W : World, Below w.heap.size w W → Calls Try.prog 64 #[.agg #[.int .i64 1, .string s, .int .i64 a, .int .i64 b, .int .i64 at_, .int .i64 cnt], .slice p n cap] W fun e w' => e = .returned (.bool false) ∧ Below W.heap.size W w')) :
    Calls Try.prog 51 #[.agg #[.int .i64 1, .string s, .int .i64 a, .int .i64 b, .int .i64 at_, .int .i64 cnt], .slice p n cap] w fun e w' => e = .returned (.int .i64 2) ∧ Below w.heap.size w w' := by
  have hbx : Hid (∀ W : World, Below (w.alloc (.cells #[.int .i64 1, .string s, .int .i64 a, .int .i64 b, .int .i64 at_, .int .i64 cnt] 55)).heap.size (w.alloc (.cells #[.int .i64 1, .string s, .int .i64 a, .int .i64 b, .int .i64 at_, .int .i64 cnt] 55)) W → (W.cell? ⟨w.heap.size, 0, none⟩ = some (.int .i64 1) ∧ W.cell? ⟨w.heap.size, 1, none⟩ = some (.string s) ∧ W.cell? ⟨w.heap.size, 2, none⟩ = some (.int .i64 a) ∧ W.cell? ⟨w.heap.size, 3, none⟩ = some (.int .i64 b) ∧ W.cell? ⟨w.heap.size, 4, none⟩ = some (.int .i64 at_) ∧ W.cell? ⟨w.heap.size, 5, none⟩ = some (.int .i64 cnt)) ∧ Below w.heap.size w W) := Lib.hid fun W hW => by
    have hlt : w.heap.size < (w.alloc (.cells #[.int .i64 1, .string s, .int .i64 a, .int .i64 b, .int .i64 at_, .int .i64 cnt] 55)).heap.size := by simp
    exact ⟨⟨keep hW hlt (by simp), keep hW hlt (by simp), keep hW hlt (by simp), keep hW hlt (by simp), keep hW hlt (by simp), keep hW hlt (by simp)⟩, bstep ((Below.refl _ _).alloc (Nat.le_refl _) _) hW⟩
  go_enter Try.func51, Try.ntmps51
  go_wp2_with fail
  refine (R.out _ ((Below.refl _ _).alloc (Nat.le_refl _) _)).mono ?_
  rintro e w1 ⟨rfl, hb1⟩
  obtain ⟨⟨x0, x1, x2, x3, x4, x5⟩, hb2⟩ := hbx.out w1 hb1
  clear hb1
  go_wp2_with fail
  go_ret
  exact ⟨rfl, hb2⟩
set_option maxRecDepth 100000 in
set_option maxHeartbeats 2000000 in
theorem check_text_full (s : ByteArray) (a b at_ cnt : Int) (p : Option Addr) (n cap : Nat) (w : World)  (hn : 60 ≤ n) (R : Hid (∀ W : World, Below w.heap.size w W → Calls Try.prog 64 #[.agg #[.int .i64 1, .string s, .int .i64 a, .int .i64 b, .int .i64 at_, .int .i64 cnt], .slice p n cap] W fun e w' => e = .returned (.bool true) ∧ Below W.heap.size W w')) :
    Calls Try.prog 51 #[.agg #[.int .i64 1, .string s, .int .i64 a, .int .i64 b, .int .i64 at_, .int .i64 cnt], .slice p n cap] w fun e w' => e = .returned (.int .i64 8) ∧ Below w.heap.size w w' := by
  have hbx : Hid (∀ W : World, Below (w.alloc (.cells #[.int .i64 1, .string s, .int .i64 a, .int .i64 b, .int .i64 at_, .int .i64 cnt] 55)).heap.size (w.alloc (.cells #[.int .i64 1, .string s, .int .i64 a, .int .i64 b, .int .i64 at_, .int .i64 cnt] 55)) W → (W.cell? ⟨w.heap.size, 0, none⟩ = some (.int .i64 1) ∧ W.cell? ⟨w.heap.size, 1, none⟩ = some (.string s) ∧ W.cell? ⟨w.heap.size, 2, none⟩ = some (.int .i64 a) ∧ W.cell? ⟨w.heap.size, 3, none⟩ = some (.int .i64 b) ∧ W.cell? ⟨w.heap.size, 4, none⟩ = some (.int .i64 at_) ∧ W.cell? ⟨w.heap.size, 5, none⟩ = some (.int .i64 cnt)) ∧ Below w.heap.size w W) := Lib.hid fun W hW => by
    have hlt : w.heap.size < (w.alloc (.cells #[.int .i64 1, .string s, .int .i64 a, .int .i64 b, .int .i64 at_, .int .i64 cnt] 55)).heap.size := by simp
    exact ⟨⟨keep hW hlt (by simp), keep hW hlt (by simp), keep hW hlt (by simp), keep hW hlt (by simp), keep hW hlt (by simp), keep hW hlt (by simp)⟩, bstep ((Below.refl _ _).alloc (Nat.le_refl _) _) hW⟩
  go_enter Try.func51, Try.ntmps51
  go_wp2_with fail
  refine (R.out _ ((Below.refl _ _).alloc (Nat.le_refl _) _)).mono ?_
  rintro e w1 ⟨rfl, hb1⟩
  obtain ⟨⟨x0, x1, x2, x3, x4, x5⟩, hb2⟩ := hbx.out w1 hb1
  clear hb1
  go_wp2_with fail
  go_ret
  exact ⟨rfl, hb2⟩
set_option maxRecDepth 100000 in
set_option maxHeartbeats 2000000 in
theorem check_text_size (s : ByteArray) (a b at_ cnt : Int) (p : Option Addr) (n cap : Nat) (w : World)  (hn : n < 60) (m : Nat) (hm : 600 < m) (R : Hid (∀ W : World, Below w.heap.size w W → Calls Try.prog 64 #[.agg #[.int .i64 1, .string s, .int .i64 a, .int .i64 b, .int .i64 at_, .int .i64 cnt], .slice p n cap] W fun e w' => e = .returned (.bool true) ∧ Below W.heap.size W w')) (N : Hid (∀ W : World, Below w.heap.size w W → Calls Try.prog 65 #[.agg #[.int .i64 1, .string s, .int .i64 a, .int .i64 b, .int .i64 at_, .int .i64 cnt], .slice p n cap] W fun e w' => e = .returned (.int .i64 (m : Int)) ∧ Below W.heap.size W w')) :
    Calls Try.prog 51 #[.agg #[.int .i64 1, .string s, .int .i64 a, .int .i64 b, .int .i64 at_, .int .i64 cnt], .slice p n cap] w fun e w' => e = .returned (.int .i64 1) ∧ Below w.heap.size w w' := by
  have hbx : Hid (∀ W : World, Below (w.alloc (.cells #[.int .i64 1, .string s, .int .i64 a, .int .i64 b, .int .i64 at_, .int .i64 cnt] 55)).heap.size (w.alloc (.cells #[.int .i64 1, .string s, .int .i64 a, .int .i64 b, .int .i64 at_, .int .i64 cnt] 55)) W → (W.cell? ⟨w.heap.size, 0, none⟩ = some (.int .i64 1) ∧ W.cell? ⟨w.heap.size, 1, none⟩ = some (.string s) ∧ W.cell? ⟨w.heap.size, 2, none⟩ = some (.int .i64 a) ∧ W.cell? ⟨w.heap.size, 3, none⟩ = some (.int .i64 b) ∧ W.cell? ⟨w.heap.size, 4, none⟩ = some (.int .i64 at_) ∧ W.cell? ⟨w.heap.size, 5, none⟩ = some (.int .i64 cnt)) ∧ Below w.heap.size w W) := Lib.hid fun W hW => by
    have hlt : w.heap.size < (w.alloc (.cells #[.int .i64 1, .string s, .int .i64 a, .int .i64 b, .int .i64 at_, .int .i64 cnt] 55)).heap.size := by simp
    exact ⟨⟨keep hW hlt (by simp), keep hW hlt (by simp), keep hW hlt (by simp), keep hW hlt (by simp), keep hW hlt (by simp), keep hW hlt (by simp)⟩, bstep ((Below.refl _ _).alloc (Nat.le_refl _) _) hW⟩
  go_enter Try.func51, Try.ntmps51
  go_wp2_with fail
  refine (R.out _ ((Below.refl _ _).alloc (Nat.le_refl _) _)).mono ?_
  rintro e w1 ⟨rfl, hb1⟩
  obtain ⟨⟨x0, x1, x2, x3, x4, x5⟩, hb2⟩ := hbx.out w1 hb1
  clear hb1
  go_wp2_with fail
  refine (N.out _ hb2).mono ?_
  rintro e w2 ⟨rfl, hb3⟩
  go_wp2_with fail
  go_ret
  exact ⟨rfl, bstep hb2 hb3⟩
set_option maxRecDepth 100000 in
set_option maxHeartbeats 2000000 in
theorem check_text_ok (s : ByteArray) (a b at_ cnt : Int) (p : Option Addr) (n cap : Nat) (w : World)  (hn : n < 60) (m : Nat) (hm : m ≤ 600) (R : Hid (∀ W : World, Below w.heap.size w W → Calls Try.prog 64 #[.agg #[.int .i64 1, .string s, .int .i64 a, .int .i64 b, .int .i64 at_, .int .i64 cnt], .slice p n cap] W fun e w' => e = .returned (.bool true) ∧ Below W.heap.size W w')) (N : Hid (∀ W : World, Below w.heap.size w W → Calls Try.prog 65 #[.agg #[.int .i64 1, .string s, .int .i64 a, .int .i64 b, .int .i64 at_, .int .i64 cnt], .slice p n cap] W fun e w' => e = .returned (.int .i64 (m : Int)) ∧ Below W.heap.size W w')) :
    Calls Try.prog 51 #[.agg #[.int .i64 1, .string s, .int .i64 a, .int .i64 b, .int .i64 at_, .int .i64 cnt], .slice p n cap] w fun e w' => e = .returned (.int .i64 0) ∧ Below w.heap.size w w' := by
  have hbx : Hid (∀ W : World, Below (w.alloc (.cells #[.int .i64 1, .string s, .int .i64 a, .int .i64 b, .int .i64 at_, .int .i64 cnt] 55)).heap.size (w.alloc (.cells #[.int .i64 1, .string s, .int .i64 a, .int .i64 b, .int .i64 at_, .int .i64 cnt] 55)) W → (W.cell? ⟨w.heap.size, 0, none⟩ = some (.int .i64 1) ∧ W.cell? ⟨w.heap.size, 1, none⟩ = some (.string s) ∧ W.cell? ⟨w.heap.size, 2, none⟩ = some (.int .i64 a) ∧ W.cell? ⟨w.heap.size, 3, none⟩ = some (.int .i64 b) ∧ W.cell? ⟨w.heap.size, 4, none⟩ = some (.int .i64 at_) ∧ W.cell? ⟨w.heap.size, 5, none⟩ = some (.int .i64 cnt)) ∧ Below w.heap.size w W) := Lib.hid fun W hW => by
    have hlt : w.heap.size < (w.alloc (.cells #[.int .i64 1, .string s, .int .i64 a, .int .i64 b, .int .i64 at_, .int .i64 cnt] 55)).heap.size := by simp
    exact ⟨⟨keep hW hlt (by simp), keep hW hlt (by simp), keep hW hlt (by simp), keep hW hlt (by simp), keep hW hlt (by simp), keep hW hlt (by simp)⟩, bstep ((Below.refl _ _).alloc (Nat.le_refl _) _) hW⟩
  go_enter Try.func51, Try.ntmps51
  go_wp2_with fail
  refine (R.out _ ((Below.refl _ _).alloc (Nat.le_refl _) _)).mono ?_
  rintro e w1 ⟨rfl, hb1⟩
  obtain ⟨⟨x0, x1, x2, x3, x4, x5⟩, hb2⟩ := hbx.out w1 hb1
  clear hb1
  go_wp2_with fail
  refine (N.out _ hb2).mono ?_
  rintro e w2 ⟨rfl, hb3⟩
  go_wp2_with fail
  go_ret
  exact ⟨rfl, bstep hb2 hb3⟩
set_option maxRecDepth 100000 in
set_option maxHeartbeats 2000000 in
theorem check_cat_range (s : ByteArray) (a b at_ cnt : Int) (p : Option Addr) (n cap : Nat) (w : World) (ha : has a n = true) (hb : has b n = true) (R : Hid (∀ W : World, Below w.heap.size w W → Calls Try.prog 64 #[.agg #[.int .i64 2, .string s, .int .i64 a, .int .i64 b, .int .i64 at_, .int .i64 cnt], .slice p n cap] W fun e w' => e = .returned (.bool false) ∧ Below W.heap.size W w')) :
    Calls Try.prog 51 #[.agg #[.int .i64 2, .string s, .int .i64 a, .int .i64 b, .int .i64 at_, .int .i64 cnt], .slice p n cap] w fun e w' => e = .returned (.int .i64 2) ∧ Below w.heap.size w w' := by
  have Ea := Lib.hid (fun W : World => exists_ a p n cap W)
  have Eb := Lib.hid (fun W : World => exists_ b p n cap W)
  rw [ha] at Ea
  rw [hb] at Eb
  have hbx : Hid (∀ W : World, Below (w.alloc (.cells #[.int .i64 2, .string s, .int .i64 a, .int .i64 b, .int .i64 at_, .int .i64 cnt] 55)).heap.size (w.alloc (.cells #[.int .i64 2, .string s, .int .i64 a, .int .i64 b, .int .i64 at_, .int .i64 cnt] 55)) W → (W.cell? ⟨w.heap.size, 0, none⟩ = some (.int .i64 2) ∧ W.cell? ⟨w.heap.size, 1, none⟩ = some (.string s) ∧ W.cell? ⟨w.heap.size, 2, none⟩ = some (.int .i64 a) ∧ W.cell? ⟨w.heap.size, 3, none⟩ = some (.int .i64 b) ∧ W.cell? ⟨w.heap.size, 4, none⟩ = some (.int .i64 at_) ∧ W.cell? ⟨w.heap.size, 5, none⟩ = some (.int .i64 cnt)) ∧ Below w.heap.size w W) := Lib.hid fun W hW => by
    have hlt : w.heap.size < (w.alloc (.cells #[.int .i64 2, .string s, .int .i64 a, .int .i64 b, .int .i64 at_, .int .i64 cnt] 55)).heap.size := by simp
    exact ⟨⟨keep hW hlt (by simp), keep hW hlt (by simp), keep hW hlt (by simp), keep hW hlt (by simp), keep hW hlt (by simp), keep hW hlt (by simp)⟩, bstep ((Below.refl _ _).alloc (Nat.le_refl _) _) hW⟩
  go_enter Try.func51, Try.ntmps51
  go_wp2_with fail
  refine (Ea.out _).mono ?_
  rintro e wa ⟨rfl, rfl⟩
  go_wp2_with fail
  refine (Eb.out _).mono ?_
  rintro e wb ⟨rfl, rfl⟩
  go_wp2_with fail
  refine (R.out _ ((Below.refl _ _).alloc (Nat.le_refl _) _)).mono ?_
  rintro e w1 ⟨rfl, hb1⟩
  obtain ⟨⟨x0, x1, x2, x3, x4, x5⟩, hb2⟩ := hbx.out w1 hb1
  clear hb1
  go_wp2_with fail
  go_ret
  exact ⟨rfl, hb2⟩
set_option maxRecDepth 100000 in
set_option maxHeartbeats 2000000 in
theorem check_cat_full (s : ByteArray) (a b at_ cnt : Int) (p : Option Addr) (n cap : Nat) (w : World) (ha : has a n = true) (hb : has b n = true) (hn : 60 ≤ n) (R : Hid (∀ W : World, Below w.heap.size w W → Calls Try.prog 64 #[.agg #[.int .i64 2, .string s, .int .i64 a, .int .i64 b, .int .i64 at_, .int .i64 cnt], .slice p n cap] W fun e w' => e = .returned (.bool true) ∧ Below W.heap.size W w')) :
    Calls Try.prog 51 #[.agg #[.int .i64 2, .string s, .int .i64 a, .int .i64 b, .int .i64 at_, .int .i64 cnt], .slice p n cap] w fun e w' => e = .returned (.int .i64 8) ∧ Below w.heap.size w w' := by
  have Ea := Lib.hid (fun W : World => exists_ a p n cap W)
  have Eb := Lib.hid (fun W : World => exists_ b p n cap W)
  rw [ha] at Ea
  rw [hb] at Eb
  have hbx : Hid (∀ W : World, Below (w.alloc (.cells #[.int .i64 2, .string s, .int .i64 a, .int .i64 b, .int .i64 at_, .int .i64 cnt] 55)).heap.size (w.alloc (.cells #[.int .i64 2, .string s, .int .i64 a, .int .i64 b, .int .i64 at_, .int .i64 cnt] 55)) W → (W.cell? ⟨w.heap.size, 0, none⟩ = some (.int .i64 2) ∧ W.cell? ⟨w.heap.size, 1, none⟩ = some (.string s) ∧ W.cell? ⟨w.heap.size, 2, none⟩ = some (.int .i64 a) ∧ W.cell? ⟨w.heap.size, 3, none⟩ = some (.int .i64 b) ∧ W.cell? ⟨w.heap.size, 4, none⟩ = some (.int .i64 at_) ∧ W.cell? ⟨w.heap.size, 5, none⟩ = some (.int .i64 cnt)) ∧ Below w.heap.size w W) := Lib.hid fun W hW => by
    have hlt : w.heap.size < (w.alloc (.cells #[.int .i64 2, .string s, .int .i64 a, .int .i64 b, .int .i64 at_, .int .i64 cnt] 55)).heap.size := by simp
    exact ⟨⟨keep hW hlt (by simp), keep hW hlt (by simp), keep hW hlt (by simp), keep hW hlt (by simp), keep hW hlt (by simp), keep hW hlt (by simp)⟩, bstep ((Below.refl _ _).alloc (Nat.le_refl _) _) hW⟩
  go_enter Try.func51, Try.ntmps51
  go_wp2_with fail
  refine (Ea.out _).mono ?_
  rintro e wa ⟨rfl, rfl⟩
  go_wp2_with fail
  refine (Eb.out _).mono ?_
  rintro e wb ⟨rfl, rfl⟩
  go_wp2_with fail
  refine (R.out _ ((Below.refl _ _).alloc (Nat.le_refl _) _)).mono ?_
  rintro e w1 ⟨rfl, hb1⟩
  obtain ⟨⟨x0, x1, x2, x3, x4, x5⟩, hb2⟩ := hbx.out w1 hb1
  clear hb1
  go_wp2_with fail
  go_ret
  exact ⟨rfl, hb2⟩
set_option maxRecDepth 100000 in
set_option maxHeartbeats 2000000 in
theorem check_cat_size (s : ByteArray) (a b at_ cnt : Int) (p : Option Addr) (n cap : Nat) (w : World) (ha : has a n = true) (hb : has b n = true) (hn : n < 60) (m : Nat) (hm : 600 < m) (R : Hid (∀ W : World, Below w.heap.size w W → Calls Try.prog 64 #[.agg #[.int .i64 2, .string s, .int .i64 a, .int .i64 b, .int .i64 at_, .int .i64 cnt], .slice p n cap] W fun e w' => e = .returned (.bool true) ∧ Below W.heap.size W w')) (N : Hid (∀ W : World, Below w.heap.size w W → Calls Try.prog 65 #[.agg #[.int .i64 2, .string s, .int .i64 a, .int .i64 b, .int .i64 at_, .int .i64 cnt], .slice p n cap] W fun e w' => e = .returned (.int .i64 (m : Int)) ∧ Below W.heap.size W w')) :
    Calls Try.prog 51 #[.agg #[.int .i64 2, .string s, .int .i64 a, .int .i64 b, .int .i64 at_, .int .i64 cnt], .slice p n cap] w fun e w' => e = .returned (.int .i64 1) ∧ Below w.heap.size w w' := by
  have Ea := Lib.hid (fun W : World => exists_ a p n cap W)
  have Eb := Lib.hid (fun W : World => exists_ b p n cap W)
  rw [ha] at Ea
  rw [hb] at Eb
  have hbx : Hid (∀ W : World, Below (w.alloc (.cells #[.int .i64 2, .string s, .int .i64 a, .int .i64 b, .int .i64 at_, .int .i64 cnt] 55)).heap.size (w.alloc (.cells #[.int .i64 2, .string s, .int .i64 a, .int .i64 b, .int .i64 at_, .int .i64 cnt] 55)) W → (W.cell? ⟨w.heap.size, 0, none⟩ = some (.int .i64 2) ∧ W.cell? ⟨w.heap.size, 1, none⟩ = some (.string s) ∧ W.cell? ⟨w.heap.size, 2, none⟩ = some (.int .i64 a) ∧ W.cell? ⟨w.heap.size, 3, none⟩ = some (.int .i64 b) ∧ W.cell? ⟨w.heap.size, 4, none⟩ = some (.int .i64 at_) ∧ W.cell? ⟨w.heap.size, 5, none⟩ = some (.int .i64 cnt)) ∧ Below w.heap.size w W) := Lib.hid fun W hW => by
    have hlt : w.heap.size < (w.alloc (.cells #[.int .i64 2, .string s, .int .i64 a, .int .i64 b, .int .i64 at_, .int .i64 cnt] 55)).heap.size := by simp
    exact ⟨⟨keep hW hlt (by simp), keep hW hlt (by simp), keep hW hlt (by simp), keep hW hlt (by simp), keep hW hlt (by simp), keep hW hlt (by simp)⟩, bstep ((Below.refl _ _).alloc (Nat.le_refl _) _) hW⟩
  go_enter Try.func51, Try.ntmps51
  go_wp2_with fail
  refine (Ea.out _).mono ?_
  rintro e wa ⟨rfl, rfl⟩
  go_wp2_with fail
  refine (Eb.out _).mono ?_
  rintro e wb ⟨rfl, rfl⟩
  go_wp2_with fail
  refine (R.out _ ((Below.refl _ _).alloc (Nat.le_refl _) _)).mono ?_
  rintro e w1 ⟨rfl, hb1⟩
  obtain ⟨⟨x0, x1, x2, x3, x4, x5⟩, hb2⟩ := hbx.out w1 hb1
  clear hb1
  go_wp2_with fail
  refine (N.out _ hb2).mono ?_
  rintro e w2 ⟨rfl, hb3⟩
  go_wp2_with fail
  go_ret
  exact ⟨rfl, bstep hb2 hb3⟩
set_option maxRecDepth 100000 in
set_option maxHeartbeats 2000000 in
theorem check_cat_ok (s : ByteArray) (a b at_ cnt : Int) (p : Option Addr) (n cap : Nat) (w : World) (ha : has a n = true) (hb : has b n = true) (hn : n < 60) (m : Nat) (hm : m ≤ 600) (R : Hid (∀ W : World, Below w.heap.size w W → Calls Try.prog 64 #[.agg #[.int .i64 2, .string s, .int .i64 a, .int .i64 b, .int .i64 at_, .int .i64 cnt], .slice p n cap] W fun e w' => e = .returned (.bool true) ∧ Below W.heap.size W w')) (N : Hid (∀ W : World, Below w.heap.size w W → Calls Try.prog 65 #[.agg #[.int .i64 2, .string s, .int .i64 a, .int .i64 b, .int .i64 at_, .int .i64 cnt], .slice p n cap] W fun e w' => e = .returned (.int .i64 (m : Int)) ∧ Below W.heap.size W w')) :
    Calls Try.prog 51 #[.agg #[.int .i64 2, .string s, .int .i64 a, .int .i64 b, .int .i64 at_, .int .i64 cnt], .slice p n cap] w fun e w' => e = .returned (.int .i64 0) ∧ Below w.heap.size w w' := by
  have Ea := Lib.hid (fun W : World => exists_ a p n cap W)
  have Eb := Lib.hid (fun W : World => exists_ b p n cap W)
  rw [ha] at Ea
  rw [hb] at Eb
  have hbx : Hid (∀ W : World, Below (w.alloc (.cells #[.int .i64 2, .string s, .int .i64 a, .int .i64 b, .int .i64 at_, .int .i64 cnt] 55)).heap.size (w.alloc (.cells #[.int .i64 2, .string s, .int .i64 a, .int .i64 b, .int .i64 at_, .int .i64 cnt] 55)) W → (W.cell? ⟨w.heap.size, 0, none⟩ = some (.int .i64 2) ∧ W.cell? ⟨w.heap.size, 1, none⟩ = some (.string s) ∧ W.cell? ⟨w.heap.size, 2, none⟩ = some (.int .i64 a) ∧ W.cell? ⟨w.heap.size, 3, none⟩ = some (.int .i64 b) ∧ W.cell? ⟨w.heap.size, 4, none⟩ = some (.int .i64 at_) ∧ W.cell? ⟨w.heap.size, 5, none⟩ = some (.int .i64 cnt)) ∧ Below w.heap.size w W) := Lib.hid fun W hW => by
    have hlt : w.heap.size < (w.alloc (.cells #[.int .i64 2, .string s, .int .i64 a, .int .i64 b, .int .i64 at_, .int .i64 cnt] 55)).heap.size := by simp
    exact ⟨⟨keep hW hlt (by simp), keep hW hlt (by simp), keep hW hlt (by simp), keep hW hlt (by simp), keep hW hlt (by simp), keep hW hlt (by simp)⟩, bstep ((Below.refl _ _).alloc (Nat.le_refl _) _) hW⟩
  go_enter Try.func51, Try.ntmps51
  go_wp2_with fail
  refine (Ea.out _).mono ?_
  rintro e wa ⟨rfl, rfl⟩
  go_wp2_with fail
  refine (Eb.out _).mono ?_
  rintro e wb ⟨rfl, rfl⟩
  go_wp2_with fail
  refine (R.out _ ((Below.refl _ _).alloc (Nat.le_refl _) _)).mono ?_
  rintro e w1 ⟨rfl, hb1⟩
  obtain ⟨⟨x0, x1, x2, x3, x4, x5⟩, hb2⟩ := hbx.out w1 hb1
  clear hb1
  go_wp2_with fail
  refine (N.out _ hb2).mono ?_
  rintro e w2 ⟨rfl, hb3⟩
  go_wp2_with fail
  go_ret
  exact ⟨rfl, bstep hb2 hb3⟩
set_option maxRecDepth 100000 in
set_option maxHeartbeats 2000000 in
theorem check_more_range (k : Int) (s : ByteArray) (a b at_ cnt : Int) (p : Option Addr) (n cap : Nat) (w : World) (h3 : 3 ≤ k) (h5 : k ≤ 5) (ha : has a n = true) (R : Hid (∀ W : World, Below w.heap.size w W → Calls Try.prog 64 #[.agg #[.int .i64 k, .string s, .int .i64 a, .int .i64 b, .int .i64 at_, .int .i64 cnt], .slice p n cap] W fun e w' => e = .returned (.bool false) ∧ Below W.heap.size W w')) :
    Calls Try.prog 51 #[.agg #[.int .i64 k, .string s, .int .i64 a, .int .i64 b, .int .i64 at_, .int .i64 cnt], .slice p n cap] w fun e w' => e = .returned (.int .i64 2) ∧ Below w.heap.size w w' := by
  have Ea := Lib.hid (fun W : World => exists_ a p n cap W)
  rw [ha] at Ea
  have h1 : (k == 1) = false := by simp; omega
  have h2 : (k == 2) = false := by simp; omega
  have hbx : Hid (∀ W : World, Below (w.alloc (.cells #[.int .i64 k, .string s, .int .i64 a, .int .i64 b, .int .i64 at_, .int .i64 cnt] 55)).heap.size (w.alloc (.cells #[.int .i64 k, .string s, .int .i64 a, .int .i64 b, .int .i64 at_, .int .i64 cnt] 55)) W → (W.cell? ⟨w.heap.size, 0, none⟩ = some (.int .i64 k) ∧ W.cell? ⟨w.heap.size, 1, none⟩ = some (.string s) ∧ W.cell? ⟨w.heap.size, 2, none⟩ = some (.int .i64 a) ∧ W.cell? ⟨w.heap.size, 3, none⟩ = some (.int .i64 b) ∧ W.cell? ⟨w.heap.size, 4, none⟩ = some (.int .i64 at_) ∧ W.cell? ⟨w.heap.size, 5, none⟩ = some (.int .i64 cnt)) ∧ Below w.heap.size w W) := Lib.hid fun W hW => by
    have hlt : w.heap.size < (w.alloc (.cells #[.int .i64 k, .string s, .int .i64 a, .int .i64 b, .int .i64 at_, .int .i64 cnt] 55)).heap.size := by simp
    exact ⟨⟨keep hW hlt (by simp), keep hW hlt (by simp), keep hW hlt (by simp), keep hW hlt (by simp), keep hW hlt (by simp), keep hW hlt (by simp)⟩, bstep ((Below.refl _ _).alloc (Nat.le_refl _) _) hW⟩
  go_enter Try.func51, Try.ntmps51
  go_wp2_with fail
  refine (Ea.out _).mono ?_
  rintro e wa ⟨rfl, rfl⟩
  go_wp2_with fail
  refine (R.out _ ((Below.refl _ _).alloc (Nat.le_refl _) _)).mono ?_
  rintro e w1 ⟨rfl, hb1⟩
  obtain ⟨⟨x0, x1, x2, x3, x4, x5⟩, hb2⟩ := hbx.out w1 hb1
  clear hb1
  go_wp2_with fail
  go_ret
  exact ⟨rfl, hb2⟩
set_option maxRecDepth 100000 in
set_option maxHeartbeats 2000000 in
theorem check_more_full (k : Int) (s : ByteArray) (a b at_ cnt : Int) (p : Option Addr) (n cap : Nat) (w : World) (h3 : 3 ≤ k) (h5 : k ≤ 5) (ha : has a n = true) (hn : 60 ≤ n) (R : Hid (∀ W : World, Below w.heap.size w W → Calls Try.prog 64 #[.agg #[.int .i64 k, .string s, .int .i64 a, .int .i64 b, .int .i64 at_, .int .i64 cnt], .slice p n cap] W fun e w' => e = .returned (.bool true) ∧ Below W.heap.size W w')) :
    Calls Try.prog 51 #[.agg #[.int .i64 k, .string s, .int .i64 a, .int .i64 b, .int .i64 at_, .int .i64 cnt], .slice p n cap] w fun e w' => e = .returned (.int .i64 8) ∧ Below w.heap.size w w' := by
  have Ea := Lib.hid (fun W : World => exists_ a p n cap W)
  rw [ha] at Ea
  have h1 : (k == 1) = false := by simp; omega
  have h2 : (k == 2) = false := by simp; omega
  have hbx : Hid (∀ W : World, Below (w.alloc (.cells #[.int .i64 k, .string s, .int .i64 a, .int .i64 b, .int .i64 at_, .int .i64 cnt] 55)).heap.size (w.alloc (.cells #[.int .i64 k, .string s, .int .i64 a, .int .i64 b, .int .i64 at_, .int .i64 cnt] 55)) W → (W.cell? ⟨w.heap.size, 0, none⟩ = some (.int .i64 k) ∧ W.cell? ⟨w.heap.size, 1, none⟩ = some (.string s) ∧ W.cell? ⟨w.heap.size, 2, none⟩ = some (.int .i64 a) ∧ W.cell? ⟨w.heap.size, 3, none⟩ = some (.int .i64 b) ∧ W.cell? ⟨w.heap.size, 4, none⟩ = some (.int .i64 at_) ∧ W.cell? ⟨w.heap.size, 5, none⟩ = some (.int .i64 cnt)) ∧ Below w.heap.size w W) := Lib.hid fun W hW => by
    have hlt : w.heap.size < (w.alloc (.cells #[.int .i64 k, .string s, .int .i64 a, .int .i64 b, .int .i64 at_, .int .i64 cnt] 55)).heap.size := by simp
    exact ⟨⟨keep hW hlt (by simp), keep hW hlt (by simp), keep hW hlt (by simp), keep hW hlt (by simp), keep hW hlt (by simp), keep hW hlt (by simp)⟩, bstep ((Below.refl _ _).alloc (Nat.le_refl _) _) hW⟩
  go_enter Try.func51, Try.ntmps51
  go_wp2_with fail
  refine (Ea.out _).mono ?_
  rintro e wa ⟨rfl, rfl⟩
  go_wp2_with fail
  refine (R.out _ ((Below.refl _ _).alloc (Nat.le_refl _) _)).mono ?_
  rintro e w1 ⟨rfl, hb1⟩
  obtain ⟨⟨x0, x1, x2, x3, x4, x5⟩, hb2⟩ := hbx.out w1 hb1
  clear hb1
  go_wp2_with fail
  go_ret
  exact ⟨rfl, hb2⟩
set_option maxRecDepth 100000 in
set_option maxHeartbeats 2000000 in
theorem check_more_size (k : Int) (s : ByteArray) (a b at_ cnt : Int) (p : Option Addr) (n cap : Nat) (w : World) (h3 : 3 ≤ k) (h5 : k ≤ 5) (ha : has a n = true) (hn : n < 60) (m : Nat) (hm : 600 < m) (R : Hid (∀ W : World, Below w.heap.size w W → Calls Try.prog 64 #[.agg #[.int .i64 k, .string s, .int .i64 a, .int .i64 b, .int .i64 at_, .int .i64 cnt], .slice p n cap] W fun e w' => e = .returned (.bool true) ∧ Below W.heap.size W w')) (N : Hid (∀ W : World, Below w.heap.size w W → Calls Try.prog 65 #[.agg #[.int .i64 k, .string s, .int .i64 a, .int .i64 b, .int .i64 at_, .int .i64 cnt], .slice p n cap] W fun e w' => e = .returned (.int .i64 (m : Int)) ∧ Below W.heap.size W w')) :
    Calls Try.prog 51 #[.agg #[.int .i64 k, .string s, .int .i64 a, .int .i64 b, .int .i64 at_, .int .i64 cnt], .slice p n cap] w fun e w' => e = .returned (.int .i64 1) ∧ Below w.heap.size w w' := by
  have Ea := Lib.hid (fun W : World => exists_ a p n cap W)
  rw [ha] at Ea
  have h1 : (k == 1) = false := by simp; omega
  have h2 : (k == 2) = false := by simp; omega
  have hbx : Hid (∀ W : World, Below (w.alloc (.cells #[.int .i64 k, .string s, .int .i64 a, .int .i64 b, .int .i64 at_, .int .i64 cnt] 55)).heap.size (w.alloc (.cells #[.int .i64 k, .string s, .int .i64 a, .int .i64 b, .int .i64 at_, .int .i64 cnt] 55)) W → (W.cell? ⟨w.heap.size, 0, none⟩ = some (.int .i64 k) ∧ W.cell? ⟨w.heap.size, 1, none⟩ = some (.string s) ∧ W.cell? ⟨w.heap.size, 2, none⟩ = some (.int .i64 a) ∧ W.cell? ⟨w.heap.size, 3, none⟩ = some (.int .i64 b) ∧ W.cell? ⟨w.heap.size, 4, none⟩ = some (.int .i64 at_) ∧ W.cell? ⟨w.heap.size, 5, none⟩ = some (.int .i64 cnt)) ∧ Below w.heap.size w W) := Lib.hid fun W hW => by
    have hlt : w.heap.size < (w.alloc (.cells #[.int .i64 k, .string s, .int .i64 a, .int .i64 b, .int .i64 at_, .int .i64 cnt] 55)).heap.size := by simp
    exact ⟨⟨keep hW hlt (by simp), keep hW hlt (by simp), keep hW hlt (by simp), keep hW hlt (by simp), keep hW hlt (by simp), keep hW hlt (by simp)⟩, bstep ((Below.refl _ _).alloc (Nat.le_refl _) _) hW⟩
  go_enter Try.func51, Try.ntmps51
  go_wp2_with fail
  refine (Ea.out _).mono ?_
  rintro e wa ⟨rfl, rfl⟩
  go_wp2_with fail
  refine (R.out _ ((Below.refl _ _).alloc (Nat.le_refl _) _)).mono ?_
  rintro e w1 ⟨rfl, hb1⟩
  obtain ⟨⟨x0, x1, x2, x3, x4, x5⟩, hb2⟩ := hbx.out w1 hb1
  clear hb1
  go_wp2_with fail
  refine (N.out _ hb2).mono ?_
  rintro e w2 ⟨rfl, hb3⟩
  go_wp2_with fail
  go_ret
  exact ⟨rfl, bstep hb2 hb3⟩
set_option maxRecDepth 100000 in
set_option maxHeartbeats 2000000 in
theorem check_more_ok (k : Int) (s : ByteArray) (a b at_ cnt : Int) (p : Option Addr) (n cap : Nat) (w : World) (h3 : 3 ≤ k) (h5 : k ≤ 5) (ha : has a n = true) (hn : n < 60) (m : Nat) (hm : m ≤ 600) (R : Hid (∀ W : World, Below w.heap.size w W → Calls Try.prog 64 #[.agg #[.int .i64 k, .string s, .int .i64 a, .int .i64 b, .int .i64 at_, .int .i64 cnt], .slice p n cap] W fun e w' => e = .returned (.bool true) ∧ Below W.heap.size W w')) (N : Hid (∀ W : World, Below w.heap.size w W → Calls Try.prog 65 #[.agg #[.int .i64 k, .string s, .int .i64 a, .int .i64 b, .int .i64 at_, .int .i64 cnt], .slice p n cap] W fun e w' => e = .returned (.int .i64 (m : Int)) ∧ Below W.heap.size W w')) :
    Calls Try.prog 51 #[.agg #[.int .i64 k, .string s, .int .i64 a, .int .i64 b, .int .i64 at_, .int .i64 cnt], .slice p n cap] w fun e w' => e = .returned (.int .i64 0) ∧ Below w.heap.size w w' := by
  have Ea := Lib.hid (fun W : World => exists_ a p n cap W)
  rw [ha] at Ea
  have h1 : (k == 1) = false := by simp; omega
  have h2 : (k == 2) = false := by simp; omega
  have hbx : Hid (∀ W : World, Below (w.alloc (.cells #[.int .i64 k, .string s, .int .i64 a, .int .i64 b, .int .i64 at_, .int .i64 cnt] 55)).heap.size (w.alloc (.cells #[.int .i64 k, .string s, .int .i64 a, .int .i64 b, .int .i64 at_, .int .i64 cnt] 55)) W → (W.cell? ⟨w.heap.size, 0, none⟩ = some (.int .i64 k) ∧ W.cell? ⟨w.heap.size, 1, none⟩ = some (.string s) ∧ W.cell? ⟨w.heap.size, 2, none⟩ = some (.int .i64 a) ∧ W.cell? ⟨w.heap.size, 3, none⟩ = some (.int .i64 b) ∧ W.cell? ⟨w.heap.size, 4, none⟩ = some (.int .i64 at_) ∧ W.cell? ⟨w.heap.size, 5, none⟩ = some (.int .i64 cnt)) ∧ Below w.heap.size w W) := Lib.hid fun W hW => by
    have hlt : w.heap.size < (w.alloc (.cells #[.int .i64 k, .string s, .int .i64 a, .int .i64 b, .int .i64 at_, .int .i64 cnt] 55)).heap.size := by simp
    exact ⟨⟨keep hW hlt (by simp), keep hW hlt (by simp), keep hW hlt (by simp), keep hW hlt (by simp), keep hW hlt (by simp), keep hW hlt (by simp)⟩, bstep ((Below.refl _ _).alloc (Nat.le_refl _) _) hW⟩
  go_enter Try.func51, Try.ntmps51
  go_wp2_with fail
  refine (Ea.out _).mono ?_
  rintro e wa ⟨rfl, rfl⟩
  go_wp2_with fail
  refine (R.out _ ((Below.refl _ _).alloc (Nat.le_refl _) _)).mono ?_
  rintro e w1 ⟨rfl, hb1⟩
  obtain ⟨⟨x0, x1, x2, x3, x4, x5⟩, hb2⟩ := hbx.out w1 hb1
  clear hb1
  go_wp2_with fail
  refine (N.out _ hb2).mono ?_
  rintro e w2 ⟨rfl, hb3⟩
  go_wp2_with fail
  go_ret
  exact ⟨rfl, bstep hb2 hb3⟩

end Go.Proofs.Ytkckhjljindgmaa.RopeC
