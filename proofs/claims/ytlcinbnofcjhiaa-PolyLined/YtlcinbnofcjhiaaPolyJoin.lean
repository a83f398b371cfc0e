/-
  Package poly: what Join answers, in the code and in the document's answer; the law PolyJoins.
-/
import Derived.Test.YtlcinbnofcjhiaaPoly
namespace Go.Proofs.Ytlcinbnofcjhiaa.PolyC
open Go.ChangeShapes Go.WideShapes Go.ChangeAt Go.RowKit PolyM Kit

theorem two_mods {a b p : Int} (h : a = b) : a % p = b % p := by rw [h]

set_option maxHeartbeats 1000000 in
theorem join_ok (av at_ bv bt : Int) (w : World) (h1 : mayH av at_ = true) (h2 : mayH bv bt = true) :
    Calls Try.prog 15 #[hashV av at_, hashV bv bt] w fun e w' => e = .returned (.tuple #[hashV ((av * bt + bv) % 2147483647) (at_ * bt % 2147483647), .int .i64 0]) ∧ Below w.heap.size w w' := by
  obtain ⟨⟨p1, p2⟩, p3, p4⟩ := (mayH_iff _ _).1 h1
  obtain ⟨⟨q1, q2⟩, q3, q4⟩ := (mayH_iff _ _).1 h2
  obtain ⟨r1, r2⟩ := prod_bd p1 p2 (Int.le_of_lt q3) q4
  obtain ⟨r3, r4⟩ := prod_bd (Int.le_of_lt p3) p4 (Int.le_of_lt q3) q4
  go_enter Try.func15, Try.ntmps15
  go_wp2_with (go_at_call 13; refine (may _ _ _).mono ?_; rintro e w' ⟨rfl, hb⟩; obtain ⟨hc, hf, _⟩ := bfacts hb; have zz := hb.size; (try simp at zz); have z2 : w.heap.size + 1 + 1 < w'.heap.size := (by omega); have z1 : w.heap.size + 1 < w'.heap.size := (by omega); have z0 : w.heap.size < w'.heap.size := (by omega); clear zz)
  refine bodyPost_ret (v := .tuple #[hashV ((av * bt + bv) % 2147483647) (at_ * bt % 2147483647), .int .i64 0]) (by simp [results, Try.results15, go_sem, *]) rfl ⟨rfl, ?_⟩
  repeat (first | exact Below.refl _ _ | refine balloc ?_ _ | refine Below.setCell ?_ (by simp; omega) _ | refine bstep ?_ (by assumption) | refine Below.drew ?_)
set_option maxHeartbeats 1000000 in
theorem join_noA (av at_ bv bt : Int) (w : World) (h1 : mayH av at_ = false) :
    Calls Try.prog 15 #[hashV av at_, hashV bv bt] w fun e w' => e = .returned (.tuple #[hashV 0 0, .int .i64 4]) ∧ Below w.heap.size w w' := by
  go_enter Try.func15, Try.ntmps15
  go_wp2_with (go_at_call 13; refine (may _ _ _).mono ?_; rintro e w' ⟨rfl, hb⟩; obtain ⟨hc, hf, _⟩ := bfacts hb; have zz := hb.size; (try simp at zz); have z2 : w.heap.size + 1 + 1 < w'.heap.size := (by omega); have z1 : w.heap.size + 1 < w'.heap.size := (by omega); have z0 : w.heap.size < w'.heap.size := (by omega); clear zz)
  refine bodyPost_ret (v := .tuple #[hashV 0 0, .int .i64 4]) (by simp [results, Try.results15, go_sem, *]) rfl ⟨rfl, ?_⟩
  repeat (first | exact Below.refl _ _ | refine balloc ?_ _ | refine Below.setCell ?_ (by simp; omega) _ | refine bstep ?_ (by assumption) | refine Below.drew ?_)
set_option maxHeartbeats 1000000 in
theorem join_noB (av at_ bv bt : Int) (w : World) (h1 : mayH av at_ = true) (h2 : mayH bv bt = false) :
    Calls Try.prog 15 #[hashV av at_, hashV bv bt] w fun e w' => e = .returned (.tuple #[hashV 0 0, .int .i64 4]) ∧ Below w.heap.size w w' := by
  go_enter Try.func15, Try.ntmps15
  go_wp2_with (go_at_call 13; refine (may _ _ _).mono ?_; rintro e w' ⟨rfl, hb⟩; obtain ⟨hc, hf, _⟩ := bfacts hb; have zz := hb.size; (try simp at zz); have z2 : w.heap.size + 1 + 1 < w'.heap.size := (by omega); have z1 : w.heap.size + 1 < w'.heap.size := (by omega); have z0 : w.heap.size < w'.heap.size := (by omega); clear zz)
  refine bodyPost_ret (v := .tuple #[hashV 0 0, .int .i64 4]) (by simp [results, Try.results15, go_sem, *]) rfl ⟨rfl, ?_⟩
  repeat (first | exact Below.refl _ _ | refine balloc ?_ _ | refine Below.setCell ?_ (by simp; omega) _ | refine bstep ?_ (by assumption) | refine Below.drew ?_)

set_option maxHeartbeats 1000000 in
theorem refJoin_ok (av at_ bv bt : Int) (w : World) (h1 : mayH av at_ = true) (h2 : mayH bv bt = true) :
    Calls Try.prog 16 #[hashV av at_, hashV bv bt] w fun e w' => e = .returned (.tuple #[hashV ((av * bt + bv) % 2147483647) (at_ * bt % 2147483647), .int .i64 0]) ∧ Below w.heap.size w w' := by
  obtain ⟨⟨p1, p2⟩, p3, p4⟩ := (mayH_iff _ _).1 h1
  obtain ⟨⟨q1, q2⟩, q3, q4⟩ := (mayH_iff _ _).1 h2
  obtain ⟨r1, r2⟩ := prod_bd p1 p2 (Int.le_of_lt q3) q4
  obtain ⟨r3, r4⟩ := prod_bd (Int.le_of_lt q3) q4 (Int.le_of_lt p3) p4
  have g1 : (av * bt % 2147483647 + bv) % 2147483647 = (av * bt + bv) % 2147483647 := by omega
  have g2 : bt * at_ = at_ * bt := Int.mul_comm _ _
  have G := Lib.hid (And.intro g1 g2)
  clear g1 g2
  go_enter Try.func16, Try.ntmps16
  go_wp2_with (go_at_call 14; refine (refMay _ _ _).mono ?_; rintro e w' ⟨rfl, hb⟩; obtain ⟨hc, hf, _⟩ := bfacts hb; have zz := hb.size; (try simp at zz); have z2 : w.heap.size + 1 + 1 < w'.heap.size := (by omega); have z1 : w.heap.size + 1 < w'.heap.size := (by omega); have z0 : w.heap.size < w'.heap.size := (by omega); clear zz)
  refine bodyPost_ret (v := .tuple #[hashV ((av * bt + bv) % 2147483647) (at_ * bt % 2147483647), .int .i64 0]) (by simp [results, Try.results16, go_sem, *]; rw [G.out.2]) rfl ⟨rfl, ?_⟩
  repeat (first | exact Below.refl _ _ | refine balloc ?_ _ | refine Below.setCell ?_ (by simp; omega) _ | refine bstep ?_ (by assumption) | refine Below.drew ?_)
set_option maxHeartbeats 1000000 in
theorem refJoin_noA (av at_ bv bt : Int) (w : World) (h1 : mayH av at_ = false) :
    Calls Try.prog 16 #[hashV av at_, hashV bv bt] w fun e w' => e = .returned (.tuple #[hashV 0 0, .int .i64 4]) ∧ Below w.heap.size w w' := by
  go_enter Try.func16, Try.ntmps16
  go_wp2_with (go_at_call 14; refine (refMay _ _ _).mono ?_; rintro e w' ⟨rfl, hb⟩; obtain ⟨hc, hf, _⟩ := bfacts hb; have zz := hb.size; (try simp at zz); have z2 : w.heap.size + 1 + 1 < w'.heap.size := (by omega); have z1 : w.heap.size + 1 < w'.heap.size := (by omega); have z0 : w.heap.size < w'.heap.size := (by omega); clear zz)
  refine bodyPost_ret (v := .tuple #[hashV 0 0, .int .i64 4]) (by simp [results, Try.results16, go_sem, *]) rfl ⟨rfl, ?_⟩
  repeat (first | exact Below.refl _ _ | refine balloc ?_ _ | refine Below.setCell ?_ (by simp; omega) _ | refine bstep ?_ (by assumption) | refine Below.drew ?_)
set_option maxHeartbeats 1000000 in
theorem refJoin_noB (av at_ bv bt : Int) (w : World) (h1 : mayH av at_ = true) (h2 : mayH bv bt = false) :
    Calls Try.prog 16 #[hashV av at_, hashV bv bt] w fun e w' => e = .returned (.tuple #[hashV 0 0, .int .i64 4]) ∧ Below w.heap.size w w' := by
  go_enter Try.func16, Try.ntmps16
  go_wp2_with (go_at_call 14; refine (refMay _ _ _).mono ?_; rintro e w' ⟨rfl, hb⟩; obtain ⟨hc, hf, _⟩ := bfacts hb; have zz := hb.size; (try simp at zz); have z2 : w.heap.size + 1 + 1 < w'.heap.size := (by omega); have z1 : w.heap.size + 1 < w'.heap.size := (by omega); have z0 : w.heap.size < w'.heap.size := (by omega); clear zz)
  refine bodyPost_ret (v := .tuple #[hashV 0 0, .int .i64 4]) (by simp [results, Try.results16, go_sem, *]) rfl ⟨rfl, ?_⟩
  repeat (first | exact Below.refl _ _ | refine balloc ?_ _ | refine Below.setCell ?_ (by simp; omega) _ | refine bstep ?_ (by assumption) | refine Below.drew ?_)

set_option maxHeartbeats 1000000 in
theorem polyJoins (av at_ bv bt : Int) (w : World) : Calls Try.prog 5 #[hashV av at_, hashV bv bt] w fun e w' => e = .returned (.bool true) ∧ Below w.heap.size w w' := by
  have fin : ∀ (V : Value) (n : Int), (∃ v s, V = .tuple #[hashV v s, .int .i64 n]) → (∀ w, Calls Try.prog 15 #[hashV av at_, hashV bv bt] w fun e w' => e = .returned V ∧ Below w.heap.size w w') → (∀ w, Calls Try.prog 16 #[hashV av at_, hashV bv bt] w fun e w' => e = .returned V ∧ Below w.heap.size w w') → Calls Try.prog 5 #[hashV av at_, hashV bv bt] w fun e w' => e = .returned (.bool true) ∧ Below w.heap.size w w' := by
    rintro V n ⟨v, s, rfl⟩ H1 H2
    have J1 := Lib.hid H1
    have J2 := Lib.hid H2
    clear H1 H2
    go_enter Try.func5, Try.ntmps5
    go_wp2_with fail
    refine (J1.out _).mono ?_
    rintro e w1 ⟨rfl, hb⟩; obtain ⟨hc, hf, _⟩ := bfacts hb
    have z0 : w.heap.size < w1.heap.size := by have := hb.size; simp at this; omega
    have z1 : w.heap.size + 1 < w1.heap.size := by have := hb.size; simp at this; omega
    go_wp2_with fail
    refine (J2.out _).mono ?_
    rintro e w2 ⟨rfl, hb2⟩; obtain ⟨hc2, hf2, _⟩ := bfacts hb2; have zz := hb2.size; simp at zz
    have z3 : w1.heap.size < w2.heap.size := by omega
    go_wp2_with fail
    go_ret
    refine ⟨rfl, ?_⟩
    repeat (first | exact Below.refl _ _ | refine balloc ?_ _ | refine Below.setCell ?_ (by simp; omega) _ | refine bstep ?_ (by assumption) | refine Below.drew ?_)
  by_cases h1 : mayH av at_ = true
  · by_cases h2 : mayH bv bt = true
    · exact fin _ _ ⟨_, _, rfl⟩ (fun w => join_ok av at_ bv bt w h1 h2) (fun w => refJoin_ok av at_ bv bt w h1 h2)
    · exact fin _ _ ⟨_, _, rfl⟩ (fun w => join_noB av at_ bv bt w h1 (not_true h2)) (fun w => refJoin_noB av at_ bv bt w h1 (not_true h2))
  · exact fin _ _ ⟨_, _, rfl⟩ (fun w => join_noA av at_ bv bt w (not_true h1)) (fun w => refJoin_noA av at_ bv bt w (not_true h1))

end Go.Proofs.Ytlcinbnofcjhiaa.PolyC
