/-
  Package poly: what Join answers, in the code and in the document's answer; the law PolyJoins.
-/
import Derived.Test.YtkckhjljindgmaaPolyC
namespace Go.Proofs.Ytkckhjljindgmaa.PolyC
open Go.ChangeShapes Go.WideShapes Go.ChangeAt Go.RowKit PolyM Kit

theorem two_mods {a b p : Int} (h : a = b) : a % p = b % p := by rw [h]

set_option maxHeartbeats 1000000 in
theorem join_ok (av at_ bv bt : Int) (w : World) (h1 : mayH av at_ = true) (h2 : mayH bv bt = true) :
    Calls Try.prog 57 #[hashV av at_, hashV bv bt] w fun e w' => e = .returned (.tuple #[hashV ((av * bt + bv) % 2147483647) (at_ * bt % 2147483647), .int .i64 0]) ∧ Below w.heap.size w w' := by
  obtain ⟨⟨p1, p2⟩, p3, p4⟩ := (mayH_iff _ _).1 h1
  obtain ⟨⟨q1, q2⟩, q3, q4⟩ := (mayH_iff _ _).1 h2
  obtain ⟨r1, r2⟩ := prod_bd p1 p2 (Int.le_of_lt q3) q4
  obtain ⟨r3, r4⟩ := prod_bd (Int.le_of_lt p3) p4 (Int.le_of_lt q3) q4
  go_enter Try.func57, Try.ntmps57
  go_wp2_with (go_at_call 74; refine (may _ _ _).mono ?_; rintro e w' ⟨rfl, hb⟩; obtain ⟨hc, hf, _⟩ := bfacts hb; have zz := hb.size; (try simp at zz); have z2 : w.heap.size + 1 + 1 < w'.heap.size := (by omega); have z1 : w.heap.size + 1 < w'.heap.size := (by omega); have z0 : w.heap.size < w'.heap.size := (by omega); clear zz)
  refine bodyPost_ret (v := .tuple #[hashV ((av * bt + bv) % 2147483647) (at_ * bt % 2147483647), .int .i64 0]) (by simp [results, Try.results57, go_sem, *]) rfl ⟨rfl, ?_⟩
  repeat (first | exact Below.refl _ _ | refine balloc ?_ _ | refine Below.setCell ?_ (by simp; omega) _ | refine bstep ?_ (by assumption) | refine Below.drew ?_)
set_option maxHeartbeats 1000000 in
theorem join_noA (av at_ bv bt : Int) (w : World) (h1 : mayH av at_ = false) :
    Calls Try.prog 57 #[hashV av at_, hashV bv bt] w fun e w' => e = .returned (.tuple #[hashV 0 0, .int .i64 4]) ∧ Below w.heap.size w w' := by
  go_enter Try.func57, Try.ntmps57
  go_wp2_with (go_at_call 74; refine (may _ _ _).mono ?_; rintro e w' ⟨rfl, hb⟩; obtain ⟨hc, hf, _⟩ := bfacts hb; have zz := hb.size; (try simp at zz); have z2 : w.heap.size + 1 + 1 < w'.heap.size := (by omega); have z1 : w.heap.size + 1 < w'.heap.size := (by omega); have z0 : w.heap.size < w'.heap.size := (by omega); clear zz)
  refine bodyPost_ret (v := .tuple #[hashV 0 0, .int .i64 4]) (by simp [results, Try.results57, go_sem, *]) rfl ⟨rfl, ?_⟩
  repeat (first | exact Below.refl _ _ | refine balloc ?_ _ | refine Below.setCell ?_ (by simp; omega) _ | refine bstep ?_ (by assumption) | refine Below.drew ?_)
set_option maxHeartbeats 1000000 in
theorem join_noB (av at_ bv bt : Int) (w : World) (h1 : mayH av at_ = true) (h2 : mayH bv bt = false) :
    Calls Try.prog 57 #[hashV av at_, hashV bv bt] w fun e w' => e = .returned (.tuple #[hashV 0 0, .int .i64 4]) ∧ Below w.heap.size w w' := by
  go_enter Try.func57, Try.ntmps57
  go_wp2_with (go_at_call 74; refine (may _ _ _).mono ?_; rintro e w' ⟨rfl, hb⟩; obtain ⟨hc, hf, _⟩ := bfacts hb; have zz := hb.size; (try simp at zz); have z2 : w.heap.size + 1 + 1 < w'.heap.size := (by omega); have z1 : w.heap.size + 1 < w'.heap.size := (by omega); have z0 : w.heap.size < w'.heap.size := (by omega); clear zz)
  refine bodyPost_ret (v := .tuple #[hashV 0 0, .int .i64 4]) (by simp [results, Try.results57, go_sem, *]) rfl ⟨rfl, ?_⟩
  repeat (first | exact Below.refl _ _ | refine balloc ?_ _ | refine Below.setCell ?_ (by simp; omega) _ | refine bstep ?_ (by assumption) | refine Below.drew ?_)

theorem val_cast (a b : List UInt8) : ((hv a : Int) * hs b.length + hv b) % 2147483647 = (hv (a ++ b) : Nat) := by rw [hv_append]; simp
theorem shift_cast (m n : Nat) : (hs m : Int) * hs n % 2147483647 = (hs (m + n) : Nat) := by rw [hs_add]; simp

/-- the join of two texts' hashes is the hash of both -/
theorem join_of (a b : List UInt8) (w : World) :
    Calls Try.prog 57 #[hashV (hv a) (hs a.length), hashV (hv b) (hs b.length)] w fun e w' => e = .returned (.tuple #[hashV (hv (a ++ b)) (hs (a ++ b).length), .int .i64 0]) ∧ Below w.heap.size w w' := by
  have := join_ok (hv a) (hs a.length) (hv b) (hs b.length) w (mayH_of a _) (mayH_of b _)
  rw [val_cast, shift_cast, ← List.length_append] at this
  exact this

/-- a hash of a text is given as a list -/
theorem of_list (s : ByteArray) (w : World) (hsz : s.size ≤ maxLen) :
    Calls Try.prog 33 #[.string s] w fun e w' => e = .returned (hashV (hv s.data.toList) (hs s.data.toList.length)) ∧ Below w.heap.size w w' := by
  have := of s w hsz
  have e : s.data.toList.length = s.size := by simp
  rw [e]; exact this

theorem field0 (a b : Value) (w : World) : (Instr.field 71 (.agg #[a, b]) 0).run Try.prog w = .ok a w := by kernel_rfl

end Go.Proofs.Ytkckhjljindgmaa.PolyC
