/-
  Package rope: what inRange answers.
-/
import Derived.Test.YtkckhjljindgmaaRopeRepeat
namespace Go.Proofs.Ytkckhjljindgmaa.RopeC
open Go.RowKit Kit RopeM

theorem lengthQ (t : RT) (w : World) (h : RopeAt w t) : Hid (∀ (W : World) (n : Nat), Below w.heap.size w (W.drewN n) → Calls Try.prog 77 #[.pointer t.addr] (W.drewN n) fun e w'' => e = .returned (.int .i64 (t.len : Int)) ∧ ∃ m, w'' = W.drewN m) :=
  Lib.hid fun _ _ hW => Calls.quiet_of_same ((lengthOf t _ (h.next hW)).mono fun _ _ ⟨h1, h2⟩ => ⟨h1, h2.symm⟩)
theorem lengthM (t : RT) (w : World) (h : RopeAt w t) : Hid (∀ (W : World), Below w.heap.size w W → Calls Try.prog 77 #[.pointer t.addr] W fun e w' => e = .returned (.int .i64 (t.len : Int)) ∧ W = w') :=
  Lib.hid fun _ hW => lengthOf t _ (h.next hW)

set_option maxRecDepth 100000 in
set_option maxHeartbeats 2000000 in
/-- Head, Tail: an offset that is not negative -/
theorem inRange_at (k : Int) (s : ByteArray) (i : Nat) (b at_ cnt : Int) (g n cap : Nat) (t : RT) (w : World) (hk : k = 3 ∨ k = 4) (hi : i < n) (hg : g < w.heap.size) (hc : w.cell? ⟨g, i, none⟩ = some (.pointer t.addr)) (ht : RopeAt w t) (hat : 0 ≤ at_) :
    Calls Try.prog 64 #[.agg #[.int .i64 k, .string s, .int .i64 (i : Int), .int .i64 b, .int .i64 at_, .int .i64 cnt], .slice (some ⟨g, 0, none⟩) n cap] w fun e w' => e = .returned (.bool (decide (at_ ≤ (t.len : Int)))) ∧ Below w.heap.size w w' := by
  have L := lengthQ t w ht
  have hne := Nat.ne_of_lt hg
  generalize t.addr = ta at *
  generalize t.len = tn at *
  clear ht
  rcases hk with rfl | rfl
  · go_enter Try.func64, Try.ntmps64
    go_upto_region 4 with fail
    go_quiet (first | (go_at_call 77; exact L.out _ _ (bdrewN ((Below.refl _ _).alloc (Nat.le_refl _) _) _)))
    go_wp2_with fail
    go_ret
    exact ⟨rfl, bdrewN ((Below.refl _ _).alloc (Nat.le_refl _) _) _⟩
  · go_enter Try.func64, Try.ntmps64
    go_upto_region 4 with fail
    go_quiet (first | (go_at_call 77; exact L.out _ _ (bdrewN ((Below.refl _ _).alloc (Nat.le_refl _) _) _)))
    go_wp2_with fail
    go_ret
    exact ⟨rfl, bdrewN ((Below.refl _ _).alloc (Nat.le_refl _) _) _⟩

set_option maxRecDepth 100000 in
set_option maxHeartbeats 2000000 in
theorem inRange_neg (k : Int) (s : ByteArray) (a b at_ cnt : Int) (p : Option Addr) (n cap : Nat) (w : World) (hk : k = 3 ∨ k = 4) (hat : at_ < 0) :
    Calls Try.prog 64 #[.agg #[.int .i64 k, .string s, .int .i64 a, .int .i64 b, .int .i64 at_, .int .i64 cnt], .slice p n cap] w fun e w' => e = .returned (.bool false) ∧ Below w.heap.size w w' := by
  have hd : decide (0 ≤ at_) = false := by rw [decide_eq_false_iff_not]; omega
  have hd' : ¬ 0 ≤ at_ := by omega
  rcases hk with rfl | rfl
  · go_enter Try.func64, Try.ntmps64
    go_upto_region 4 with fail
    go_quiet (fail)
    go_wp2_with fail
    go_ret
    exact ⟨rfl, bdrewN ((Below.refl _ _).alloc (Nat.le_refl _) _) _⟩
  · go_enter Try.func64, Try.ntmps64
    go_upto_region 4 with fail
    go_quiet (fail)
    go_wp2_with fail
    go_ret
    exact ⟨rfl, bdrewN ((Below.refl _ _).alloc (Nat.le_refl _) _) _⟩
set_option maxRecDepth 100000 in
set_option maxHeartbeats 2000000 in
theorem inRange_copy (s : ByteArray) (a b at_ cnt : Int) (p : Option Addr) (n cap : Nat) (w : World) :
    Calls Try.prog 64 #[.agg #[.int .i64 5, .string s, .int .i64 a, .int .i64 b, .int .i64 at_, .int .i64 cnt], .slice p n cap] w fun e w' => e = .returned (.bool (decide (0 ≤ cnt) && decide (cnt ≤ 4))) ∧ Below w.heap.size w w' := by
  by_cases h : 0 ≤ cnt
  · go_enter Try.func64, Try.ntmps64
    go_wp2_with fail
    go_ret
    exact ⟨by simp [h], ((Below.refl _ _).alloc (Nat.le_refl _) _)⟩
  · have h' : cnt < 0 := by omega
    go_enter Try.func64, Try.ntmps64
    go_wp2_with fail
    go_ret
    exact ⟨by simp; omega, ((Below.refl _ _).alloc (Nat.le_refl _) _)⟩
set_option maxRecDepth 100000 in
set_option maxHeartbeats 2000000 in
theorem inRange_rest (k : Int) (s : ByteArray) (a b at_ cnt : Int) (p : Option Addr) (n cap : Nat) (w : World) (h3 : (k == 3) = false) (h4 : (k == 4) = false) (h5 : (k == 5) = false) :
    Calls Try.prog 64 #[.agg #[.int .i64 k, .string s, .int .i64 a, .int .i64 b, .int .i64 at_, .int .i64 cnt], .slice p n cap] w fun e w' => e = .returned (.bool true) ∧ Below w.heap.size w w' := by
  go_enter Try.func64, Try.ntmps64
  go_wp2_with fail
  go_ret
  exact ⟨rfl, ((Below.refl _ _).alloc (Nat.le_refl _) _)⟩

/-- inRange -/
theorem inRange (o : OpM) (p : Option Addr) (cap : Nat) (ts : List RT) (w : World) (hts : Ropes w p ts) (ha : o.kind = 3 ∨ o.kind = 4 → has o.a ts.length = true) :
    Calls Try.prog 64 #[o.val, .slice p ts.length cap] w fun e w' => e = .returned (.bool (inR o (txts ts))) ∧ Below w.heap.size w w' := by
  obtain ⟨k, s, a, b, at_, cnt⟩ := o
  unfold inR OpM.val OpM.cells
  simp only at ha ⊢
  by_cases hk : k = 3 ∨ k = 4
  · rw [if_pos hk]
    by_cases hat : 0 ≤ at_
    · obtain ⟨i, t, rfl, hi, hti, hn⟩ := has_some (ha hk)
      obtain ⟨g, rfl, hg, hc⟩ := hts.cell i t hti
      rw [hn, RT.txt_len]
      refine (inRange_at k s i b at_ cnt g ts.length cap t w hk hi hg hc (hts.rope i t hti) hat).mono ?_
      rintro e w' ⟨rfl, h⟩
      exact ⟨by simp [hat], h⟩
    · refine (inRange_neg k s a b at_ cnt p ts.length cap w hk (by omega)).mono ?_
      rintro e w' ⟨rfl, h⟩
      exact ⟨by simp [hat], h⟩
  · rw [if_neg hk]
    by_cases h5 : k = 5
    · rw [if_pos h5]
      subst h5
      exact inRange_copy s a b at_ cnt p ts.length cap w
    · rw [if_neg h5]
      exact inRange_rest k s a b at_ cnt p ts.length cap w (by simp; omega) (by simp; omega) (by simp; omega)

end Go.Proofs.Ytkckhjljindgmaa.RopeC
