/-
  Package poly: the law PolyParts.
-/
import Derived.Test.YtlcinbnofcjhiaaPolyJoin
import Derived.Deep.DeepCutAuto
namespace Go.Proofs.Ytlcinbnofcjhiaa.PolyC
open Go.ChangeShapes Go.WideShapes Go.ChangeAt Go.RowKit PolyM Kit

theorem val_cast (a b : List UInt8) : ((hv a : Int) * hs b.length + hv b) % 2147483647 = (hv (a ++ b) : Nat) := by rw [hv_append]; simp
theorem shift_cast (m n : Nat) : (hs m : Int) * hs n % 2147483647 = (hs (m + n) : Nat) := by rw [hs_add]; simp

/-- the join of two texts' hashes is the hash of both -/
theorem join_of (a b : List UInt8) (w : World) :
    Calls Try.prog 15 #[hashV (hv a) (hs a.length), hashV (hv b) (hs b.length)] w fun e w' => e = .returned (.tuple #[hashV (hv (a ++ b)) (hs (a ++ b).length), .int .i64 0]) ∧ Below w.heap.size w w' := by
  have := join_ok (hv a) (hs a.length) (hv b) (hs b.length) w (mayH_of a _) (mayH_of b _)
  rw [val_cast, shift_cast, ← List.length_append] at this
  exact this

/-- a hash of a text is given as a list -/
theorem of_list (s : ByteArray) (w : World) (hsz : s.size ≤ maxLen) :
    Calls Try.prog 11 #[.string s] w fun e w' => e = .returned (hashV (hv s.data.toList) (hs s.data.toList.length)) ∧ Below w.heap.size w w' := by
  have := of s w hsz
  have e : s.data.toList.length = s.size := by simp
  rw [e]; exact this

theorem field0 (a b : Value) (w : World) : (Instr.field 23 (.agg #[a, b]) 0).run Try.prog w = .ok a w := by kernel_rfl

theorem one_letter (w : World) : Calls Try.prog 11 #[.string ⟨#[97]⟩] w fun e w' => e = .returned (hashV 98 257) ∧ Below w.heap.size w w' := by
  exact of ⟨#[97]⟩ w (by unfold maxLen; decide)

theorem Bx.setCell {k : Nat} {a b : Value} {w : World} (h : Bx k a b w) {n o : Nat} (hk : k ≠ n) (v : Value) : Bx k a b (w.setCell ⟨n, o, none⟩ v) := by
  have e : ∀ i, (w.setCell ⟨n, o, none⟩ v).cell? ⟨k, i, none⟩ = w.cell? ⟨k, i, none⟩ := fun i => World.cell?_setCell_other _ _ _ _ (fun e => hk (by injection e with e; exact e.symm))
  exact ⟨by simpa [World.setCell] using h.1, (e 0).trans h.2.1, (e 1).trans h.2.2⟩
theorem Bx.set2 {k : Nat} {a b a' b' : Value} {w : World} (h : Bx k a' b' w) : Bx k a b ((w.setCell ⟨k, 0, none⟩ a).setCell ⟨k, 1, none⟩ b) := by
  obtain ⟨h0, h1, h2⟩ := h
  refine ⟨by simpa [World.setCell] using h0, ?_, ?_⟩
  · rw [World.cell?_setCell_other _ _ _ _ (by simp)]; exact World.cell?_setCell_same _ _ _ h1
  · exact World.cell?_setCell_same _ _ _ ((World.cell?_setCell_other _ _ _ _ (by simp)).trans h2)

def T2 (w : World) (k : Nat) (a b : Value) (k' : Nat) (a' b' : Value) (w' : World) : Prop := Below w.heap.size w w' ∧ Bx k a b w' ∧ Bx k' a' b' w'
section
variable {w : World} {k k' : Nat} {a b a' b' : Value} {w1 w2 : World}
theorem T2.next (h : T2 w k a b k' a' b' w1) (hb : Below w1.heap.size w1 w2) : T2 w k a b k' a' b' w2 := ⟨bstep h.1 hb, h.2.1.next hb, h.2.2.next hb⟩
theorem T2.alloc (h : T2 w k a b k' a' b' w1) (o : Obj) : T2 w k a b k' a' b' (w1.alloc o) := h.next ((Below.refl _ _).alloc (Nat.le_refl _) o)
theorem T2.drew (h : T2 w k a b k' a' b' w1) : T2 w k a b k' a' b' w1.drew := h.next ((Below.refl _ _).drew)
theorem T2.setCell2 {n : Nat} {v v' : Value} (h : T2 w k a b k' a' b' w1) (hk : k ≠ n) (hk' : k' ≠ n) (hw : w.heap.size ≤ n) : T2 w k a b k' a' b' ((w1.setCell ⟨n, 0, none⟩ v).setCell ⟨n, 1, none⟩ v') :=
  ⟨(h.1.setCell hw _).setCell hw _, (h.2.1.setCell hk _).setCell hk _, (h.2.2.setCell hk' _).setCell hk' _⟩
end
def T3 (w : World) (k1 : Nat) (a1 b1 : Value) (k2 : Nat) (a2 b2 : Value) (k3 : Nat) (a3 b3 : Value) (w' : World) : Prop := T2 w k1 a1 b1 k2 a2 b2 w' ∧ Bx k3 a3 b3 w'
section
variable {w : World} {k1 k2 k3 : Nat} {a1 b1 a2 b2 a3 b3 : Value} {w1 w2 : World}
theorem T3.next (h : T3 w k1 a1 b1 k2 a2 b2 k3 a3 b3 w1) (hb : Below w1.heap.size w1 w2) : T3 w k1 a1 b1 k2 a2 b2 k3 a3 b3 w2 := ⟨h.1.next hb, h.2.next hb⟩
theorem T3.alloc (h : T3 w k1 a1 b1 k2 a2 b2 k3 a3 b3 w1) (o : Obj) : T3 w k1 a1 b1 k2 a2 b2 k3 a3 b3 (w1.alloc o) := h.next ((Below.refl _ _).alloc (Nat.le_refl _) o)
theorem T3.drew (h : T3 w k1 a1 b1 k2 a2 b2 k3 a3 b3 w1) : T3 w k1 a1 b1 k2 a2 b2 k3 a3 b3 w1.drew := h.next ((Below.refl _ _).drew)
theorem T3.setCell2 {n : Nat} {v v' : Value} (h : T3 w k1 a1 b1 k2 a2 b2 k3 a3 b3 w1) (h1 : k1 ≠ n) (h2 : k2 ≠ n) (h3 : k3 ≠ n) (hw : w.heap.size ≤ n) : T3 w k1 a1 b1 k2 a2 b2 k3 a3 b3 ((w1.setCell ⟨n, 0, none⟩ v).setCell ⟨n, 1, none⟩ v') :=
  ⟨h.1.setCell2 h1 h2 hw, (h.2.setCell h3 _).setCell h3 _⟩
end
def U3 (w : World) (k1 : Nat) (a1 b1 : Value) (k2 : Nat) (a2 b2 : Value) (k3 : Nat) (a3 b3 : Value) (w' : World) : Prop := Below w.heap.size w w' ∧ Bx k1 a1 b1 w' ∧ Bx k2 a2 b2 w' ∧ Bx k3 a3 b3 w'
theorem U3.next {w : World} {k1 k2 k3 : Nat} {a1 b1 a2 b2 a3 b3 : Value} {w1 w2 : World} (h : U3 w k1 a1 b1 k2 a2 b2 k3 a3 b3 w1) (hb : Below w1.heap.size w1 w2) : U3 w k1 a1 b1 k2 a2 b2 k3 a3 b3 w2 := ⟨bstep h.1 hb, h.2.1.next hb, h.2.2.1.next hb, h.2.2.2.next hb⟩

set_option maxHeartbeats 4000000 in
set_option maxRecDepth 100000 in
theorem polyParts (a b c : ByteArray) (w : World) (s0 : a.size ≤ 140737488351232) (s1 : b.size ≤ 140737488351232) (s2 : c.size ≤ 140737488351232) :
    Calls Try.prog 7 #[.string a, .string b, .string c] w fun e w' => e = .returned (.bool true) ∧ Below w.heap.size w w' := by
  have sab : (a ++ b).data.toList = a.data.toList ++ b.data.toList := by simp [ByteArray.data_append]
  have sabc : (a ++ b ++ c).data.toList = a.data.toList ++ b.data.toList ++ c.data.toList := by simp [ByteArray.data_append]
  have zab : (a ++ b).size = a.size + b.size := ByteArray.size_append ..
  have zabc : (a ++ b ++ c).size = a.size + b.size + c.size := by rw [ByteArray.size_append, ByteArray.size_append]
  have j1 := fun w => join_of a.data.toList b.data.toList w
  have j2 := fun w => join_of b.data.toList c.data.toList w
  have j3 := fun w => join_of (a.data.toList ++ b.data.toList) c.data.toList w
  have j4 := fun w => join_of a.data.toList (b.data.toList ++ c.data.toList) w
  rw [← List.append_assoc] at j4
  have oa := fun w => of_list a w (by unfold maxLen; omega)
  have ob := fun w => of_list b w (by unfold maxLen; omega)
  have oc := fun w => of_list c w (by unfold maxLen; omega)
  have oab := fun w => of_list (a ++ b) w (by unfold maxLen; omega)
  have oabc := fun w => of_list (a ++ b ++ c) w (by unfold maxLen; omega)
  rw [sab] at oab
  rw [sabc] at oabc
  clear sab sabc
  generalize hs (a.data.toList ++ b.data.toList ++ c.data.toList).length = t6 at *
  generalize hv (a.data.toList ++ b.data.toList ++ c.data.toList) = v6 at *
  generalize hs (a.data.toList ++ b.data.toList).length = t4 at *
  generalize hv (a.data.toList ++ b.data.toList) = v4 at *
  generalize hs (b.data.toList ++ c.data.toList).length = t5 at *
  generalize hv (b.data.toList ++ c.data.toList) = v5 at *
  generalize hs a.data.toList.length = t1 at *
  generalize hv a.data.toList = v1 at *
  generalize hs b.data.toList.length = t2 at *
  generalize hv b.data.toList = v2 at *
  generalize hs c.data.toList.length = t3 at *
  generalize hv c.data.toList = v3 at *
  have J1 := Lib.hid j1
  have J2 := Lib.hid j2
  have J3 := Lib.hid j3
  have J4 := Lib.hid j4
  have OA := Lib.hid oa
  have OB := Lib.hid ob
  have OC := Lib.hid oc
  have OAB := Lib.hid oab
  have OABC := Lib.hid oabc
  have OL := Lib.hid one_letter
  clear j1 j2 j3 j4 oa ob oc oab oabc zab zabc
  have hfl := field0
  go_enter Try.func7, Try.ntmps7
  go_wp2_with fail
  refine (OA.out _).mono ?_
  rintro e w1 ⟨rfl, hb1⟩
  go_wp2_with fail
  refine (OB.out _).mono ?_
  rintro e w2 ⟨rfl, hb2⟩
  go_wp2_with fail
  refine (J1.out _).mono ?_
  rintro e w3 ⟨rfl, hb3⟩
  go_wp2_with fail
  refine (OB.out _).mono ?_
  rintro e w4 ⟨rfl, hb4⟩
  obtain ⟨hc4, hf4, _⟩ := bfacts hb4
  have y4 : w3.heap.size < w4.heap.size := by have := hb4.size; simp at this; omega
  go_wp2_with fail
  refine (OC.out _).mono ?_
  rintro e w5 ⟨rfl, hb5⟩
  obtain ⟨hc5, hf5, _⟩ := bfacts hb5
  have y5 : w3.heap.size < w5.heap.size := by have := hb5.size; omega
  go_wp2_with fail
  refine (J2.out _).mono ?_
  rintro e w6 ⟨rfl, hb6⟩
  obtain ⟨hc6, hf6, _⟩ := bfacts hb6
  have y6 : w3.heap.size < w6.heap.size := by have := hb6.size; omega
  go_upto_region 3 with fail
  have X1 : Bx w3.heap.size (.int .i64 v4) (.int .i64 t4) (w6.alloc (.cells #[.int .i64 v5, .int .i64 t5] 23)) := ((((Bx.new w3 (.int .i64 v4) (.int .i64 t4) _).next hb4).next hb5).next hb6).alloc _
  have Y1 : Bx w6.heap.size (.int .i64 v5) (.int .i64 t5) (w6.alloc (.cells #[.int .i64 v5, .int .i64 t5] 23)) := Bx.new w6 _ _ _
  have B1 : Below w.heap.size w (w6.alloc (.cells #[.int .i64 v5, .int .i64 t5] 23)) := by
    repeat (first | exact Below.refl _ _ | refine balloc ?_ _ | refine bstep ?_ (by assumption))
  clear hb1 hb2 hb3 hb4 hb5 hb6 hc4 hf4 hc5 hf5 hc6 hf6 y4 y5 y6
  generalize w3.heap.size = kx at *
  generalize w6.heap.size = ky at *
  generalize w6.alloc (.cells #[.int .i64 v5, .int .i64 t5] 23) = W1 at *
  have T1 : Hid (T2 w ky (.int .i64 v5) (.int .i64 t5) kx (.int .i64 v4) (.int .i64 t4) W1) := ⟨B1, Y1, X1⟩
  clear B1 Y1 X1
  go_cut [11, 12] (fun s14 s15 wx => ∃ ku : Nat, s14 = .pointer (some ⟨ku, 0, none⟩) ∧ s15 = .int .i64 0 ∧ T3 w kx (.int .i64 v4) (.int .i64 t4) ku (.int .i64 v6) (.int .i64 t6) ky (.int .i64 v5) (.int .i64 t5) wx)
  case first =>
    have q1 := T1.out.2.1.1
    have q2 := T1.out.2.2.1
    have q3 := Nat.ne_of_lt q1
    have q4 := Nat.ne_of_lt q2
    have q5 := T1.out.1.size
    go_region_held3 (fun w' => Below w.heap.size w w' ∧ Bx ky (.int .i64 v5) (.int .i64 t5) w' ∧ (kx < w'.heap.size ∧ w'.cell? ⟨kx, 0, none⟩ = some (.int .i64 v4) ∧ w'.cell? ⟨kx, 1, none⟩ = some (.int .i64 t4)))
      (first | exact T1.out.drew | exact (T1.out.alloc _).drew | (refine T2.alloc ?_ _; assumption) | (apply T2.setCell2 <;> assumption) | exact ((T1.out.drew.next (by assumption)).next (by assumption)).alloc _ | exact T2.next (by assumption) (by assumption))
      (first | (go_at_call 11; refine (OC.out _).mono ?_; rintro e w' ⟨rfl, hb⟩; have hS : T2 w ky (.int .i64 v5) (.int .i64 t5) kx (.int .i64 v4) (.int .i64 t4) w' := (T2.next (by assumption) hb); have q1 := hS.2.1.1; have q2 := hS.2.2.1; have q3 := Nat.ne_of_lt q1; have q4 := Nat.ne_of_lt q2; have q5 := hS.1.size; clear hS; obtain ⟨hc, hf, _⟩ := bfacts hb) | (go_at_call 15; refine (J3.out _).mono ?_; rintro e w' ⟨rfl, hb⟩; have hS : T2 w ky (.int .i64 v5) (.int .i64 t5) kx (.int .i64 v4) (.int .i64 t4) w' := (T2.next (by assumption) hb); have q1 := hS.2.1.1; have q2 := hS.2.2.1; have q3 := Nat.ne_of_lt q1; have q4 := Nat.ne_of_lt q2; have q5 := hS.1.size; clear hS; obtain ⟨hc, hf, _⟩ := bfacts hb))
    all_goals go_wp2_with fail
    all_goals go_meet
    all_goals rename_i hH
    · exact ⟨_, rfl, rfl, ⟨hH.1, hH.2.2, Bx.new _ _ _ _⟩, hH.2.1⟩
    · exact ⟨_, rfl, rfl, ⟨hH.1, hH.2.2, ((Bx.new _ (.int .i64 0) (.int .i64 0) _).next (by assumption)).set2⟩, hH.2.1⟩
    · exact ⟨_, rfl, rfl, ⟨hH.1, hH.2.2, (((Bx.new _ (.int .i64 0) (.int .i64 0) _).drew.next (by assumption)).next (by assumption)).set2⟩, hH.2.1⟩
  case rest =>
    obtain ⟨ku, rfl, rfl, hcut⟩ := hcut
    have T2' := Lib.hid hcut
    clear hcut
    go_upto_region 4 with fail
    go_cut [13, 14] (fun s16 s17 wx => ∃ kv : Nat, s16 = .pointer (some ⟨kv, 0, none⟩) ∧ s17 = .int .i64 0 ∧ T3 w kx (.int .i64 v4) (.int .i64 t4) ku (.int .i64 v6) (.int .i64 t6) kv (.int .i64 v6) (.int .i64 t6) wx)
    case first =>
      have q1 := Nat.ne_of_lt T2'.out.1.2.1.1
      have q2 := Nat.ne_of_lt T2'.out.1.2.2.1
      have q3 := Nat.ne_of_lt T2'.out.2.1
      have q6 := T2'.out.2.1
      have q5 := T2'.out.1.1.size
      go_region_held3 (fun w' => T2 w kx (.int .i64 v4) (.int .i64 t4) ku (.int .i64 v6) (.int .i64 t6) w' ∧ (ky < w'.heap.size ∧ w'.cell? ⟨ky, 0, none⟩ = some (.int .i64 v5) ∧ w'.cell? ⟨ky, 1, none⟩ = some (.int .i64 t5)))
        (first | exact T2'.out.drew | exact (T2'.out.alloc _).drew | (refine T3.alloc ?_ _; assumption) | (apply T3.setCell2 <;> assumption) | exact ((T2'.out.drew.next (by assumption)).next (by assumption)).alloc _ | exact T3.next (by assumption) (by assumption))
        (first | (go_at_call 11; refine (OA.out _).mono ?_; rintro e w' ⟨rfl, hb⟩; have hS : T3 w kx (.int .i64 v4) (.int .i64 t4) ku (.int .i64 v6) (.int .i64 t6) ky (.int .i64 v5) (.int .i64 t5) w' := (T3.next (by assumption) hb); have q1 := Nat.ne_of_lt hS.1.2.1.1; have q2 := Nat.ne_of_lt hS.1.2.2.1; have q3 := Nat.ne_of_lt hS.2.1; have q6 := hS.2.1; have q5 := hS.1.1.size; clear hS; obtain ⟨hc, hf, _⟩ := bfacts hb) | (go_at_call 15; refine (J4.out _).mono ?_; rintro e w' ⟨rfl, hb⟩; have hS : T3 w kx (.int .i64 v4) (.int .i64 t4) ku (.int .i64 v6) (.int .i64 t6) ky (.int .i64 v5) (.int .i64 t5) w' := (T3.next (by assumption) hb); have q1 := Nat.ne_of_lt hS.1.2.1.1; have q2 := Nat.ne_of_lt hS.1.2.2.1; have q3 := Nat.ne_of_lt hS.2.1; have q6 := hS.2.1; have q5 := hS.1.1.size; clear hS; obtain ⟨hc, hf, _⟩ := bfacts hb))
      all_goals go_wp2_with fail
      all_goals go_meet
      all_goals rename_i hH
      · exact ⟨_, rfl, rfl, hH.1, Bx.new _ _ _ _⟩
      · exact ⟨_, rfl, rfl, hH.1, ((Bx.new _ (.int .i64 0) (.int .i64 0) _).next (by assumption)).set2⟩
      · exact ⟨_, rfl, rfl, hH.1, (((Bx.new _ (.int .i64 0) (.int .i64 0) _).drew.next (by assumption)).next (by assumption)).set2⟩
    case rest =>
      obtain ⟨kv, rfl, rfl, hcut⟩ := hcut
      have T3' := Lib.hid hcut
      clear hcut
      go_upto_region 5 with fail
      have g1 : ¬ 9223372036854775807 < a.size + b.size := by omega
      have g2 : ¬ 9223372036854775807 < a.size + b.size + c.size := by omega
      go_region_held3 (fun w' => Below w.heap.size w w' ∧ (kx < w'.heap.size ∧ w'.cell? ⟨kx, 0, none⟩ = some (.int .i64 v4) ∧ w'.cell? ⟨kx, 1, none⟩ = some (.int .i64 t4)) ∧ (ku < w'.heap.size ∧ w'.cell? ⟨ku, 0, none⟩ = some (.int .i64 v6) ∧ w'.cell? ⟨ku, 1, none⟩ = some (.int .i64 t6)) ∧ (kv < w'.heap.size ∧ w'.cell? ⟨kv, 0, none⟩ = some (.int .i64 v6) ∧ w'.cell? ⟨kv, 1, none⟩ = some (.int .i64 t6)))
        (first | exact ⟨T3'.out.1.1.drew, T3'.out.1.2.1.drew, T3'.out.1.2.2.drew, T3'.out.2.drew⟩ | exact U3.next (by assumption) (by assumption))
        (first | (go_at_call_of 11 (Value.string ⟨#[97]⟩); refine (OL.out _).mono ?_; rintro e w' ⟨rfl, hb⟩) | (go_at_call_of 11 (Value.string (a ++ b)); refine (OAB.out _).mono ?_; rintro e w' ⟨rfl, hb⟩) | (go_at_call_of 11 (Value.string (a ++ b ++ c)); refine (OABC.out _).mono ?_; rintro e w' ⟨rfl, hb⟩))
      rename_i hH
      have hB := hH.1
      clear hH
      go_wp2
      go_ret
      exact ⟨rfl, hB⟩

end Go.Proofs.Ytlcinbnofcjhiaa.PolyC
