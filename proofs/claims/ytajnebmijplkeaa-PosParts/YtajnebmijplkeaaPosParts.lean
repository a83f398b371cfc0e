/-
  Package pos: the law PosParts.
-/
import Derived.Test.YtajnebmijplkeaaPosKeep
import Derived.Test.YtajnebmijplkeaaPosJoin
import Derived.Deep.DeepCutAuto
namespace Go.Proofs.Ytajnebmijplkeaa.PosC
open Go.ChangeShapes Go.WideShapes Go.ChangeAt Go.RowKit PosM Kit StrC Txt

theorem colJ_of (a b : List UInt8) : colJ (col a) (lns b) (col b) = (col (a ++ b) : Nat) := by
  rw [col_append]
  unfold colJ
  by_cases h : lns b = 0
  · have := col_of_lns_zero h
    rw [if_pos (by omega), if_pos h]; omega
  · rw [if_neg (by omega), if_neg h]

/-- the join of two texts' extents is the extent of both -/
theorem join_of (a b : List UInt8) (w : World) (h : (a ++ b).length ≤ 1099511627776) :
    Calls Try.prog 15 #[posV a.length (lns a) (col a), posV b.length (lns b) (col b)] w fun e w' => e = .returned (.tuple #[posV (a ++ b).length (lns (a ++ b)) (col (a ++ b)), .int .i64 0]) ∧ Below w.heap.size w w' := by
  have h1 : (((a.length : Nat) : Int) + ((b.length : Nat) : Int)) = ((a ++ b).length : Nat) := by rw [List.length_append]; omega
  have h2 : (((lns a : Nat) : Int) + ((lns b : Nat) : Int)) = (lns (a ++ b) : Nat) := by rw [lns_append]; omega
  have hl := h
  rw [List.length_append] at hl
  have ok : okJ a.length (lns a) (col a) b.length (lns b) (col b) = true := by
    unfold okJ
    rw [h1, h2, colJ_of, mayB_of a (by omega), mayB_of b (by omega), mayB_of (a ++ b) h]
    rfl
  have := join_ok (w := w) ok
  rw [h1, h2, colJ_of] at this
  exact this

/-- an extent of a text is given as a list -/
theorem of_list (s : ByteArray) (w : World) (hs : s.size ≤ maxLen) :
    Calls Try.prog 11 #[.string s] w fun e w' => e = .returned (posV s.data.toList.length (lns s.data.toList) (col s.data.toList)) ∧ Below w.heap.size w w' := by
  have := of s w hs
  have e : s.data.toList.length = s.size := by simp
  rw [e]; exact this

/-- a box of three cells at block k -/
def Bx (k : Nat) (n l c : Int) (w : World) : Prop := k < w.heap.size ∧ w.cell? ⟨k, 0, none⟩ = some (.int .i64 n) ∧ w.cell? ⟨k, 1, none⟩ = some (.int .i64 l) ∧ w.cell? ⟨k, 2, none⟩ = some (.int .i64 c)
theorem Bx.next {k : Nat} {n l c : Int} {w1 w2 : World} (h : Bx k n l c w1) (hb : Below w1.heap.size w1 w2) : Bx k n l c w2 :=
  ⟨Nat.lt_of_lt_of_le h.1 hb.size, (hb.cell h.1).trans h.2.1, (hb.cell h.1).trans h.2.2.1, (hb.cell h.1).trans h.2.2.2⟩
theorem Bx.new (w : World) (n l c : Int) (t : TypeId) : Bx w.heap.size n l c (w.alloc (.cells #[.int .i64 n, .int .i64 l, .int .i64 c] t)) := ⟨by simp, by simp, by simp, by simp⟩
theorem Bx.alloc {k : Nat} {n l c : Int} {w : World} (h : Bx k n l c w) (o : Obj) : Bx k n l c (w.alloc o) := h.next ((Below.refl _ _).alloc (Nat.le_refl _) o)

def S2 (w : World) (k : Nat) (n l c : Int) (k' : Nat) (n' l' c' : Int) (w' : World) : Prop := Below w.heap.size w w' ∧ Bx k n l c w' ∧ Bx k' n' l' c' w'
theorem S2.next {w : World} {k k' : Nat} {n l c n' l' c' : Int} {w1 w2 : World} (h : S2 w k n l c k' n' l' c' w1) (hb : Below w1.heap.size w1 w2) : S2 w k n l c k' n' l' c' w2 :=
  ⟨bstep h.1 hb, h.2.1.next hb, h.2.2.next hb⟩
theorem S2.alloc {w : World} {k k' : Nat} {n l c n' l' c' : Int} {w1 : World} (h : S2 w k n l c k' n' l' c' w1) (o : Obj) : S2 w k n l c k' n' l' c' (w1.alloc o) := h.next ((Below.refl _ _).alloc (Nat.le_refl _) o)
theorem Bx.setCell {k : Nat} {n l c : Int} {w : World} (h : Bx k n l c w) {b o : Nat} (hk : k ≠ b) (v : Value) : Bx k n l c (w.setCell ⟨b, o, none⟩ v) := by
  have e : ∀ i, (w.setCell ⟨b, o, none⟩ v).cell? ⟨k, i, none⟩ = w.cell? ⟨k, i, none⟩ := fun i => World.cell?_setCell_other _ _ _ _ (fun e => hk (by injection e with e; exact e.symm))
  exact ⟨by simpa [World.setCell] using h.1, (e 0).trans h.2.1, (e 1).trans h.2.2.1, (e 2).trans h.2.2.2⟩
theorem S2.setCell {w : World} {k k' : Nat} {n l c n' l' c' : Int} {w1 : World} {b o : Nat} {v : Value} (h : S2 w k n l c k' n' l' c' w1) (hk : k ≠ b) (hk' : k' ≠ b) (hw : w.heap.size ≤ b) : S2 w k n l c k' n' l' c' (w1.setCell ⟨b, o, none⟩ v) :=
  ⟨h.1.setCell hw _, h.2.1.setCell hk _, h.2.2.setCell hk' _⟩
theorem S2.setCell3 {w : World} {k k' : Nat} {n l c n' l' c' : Int} {w1 : World} {b : Nat} {v v' v'' : Value} (h : S2 w k n l c k' n' l' c' w1) (hk : k ≠ b) (hk' : k' ≠ b) (hw : w.heap.size ≤ b) : S2 w k n l c k' n' l' c' (((w1.setCell ⟨b, 0, none⟩ v).setCell ⟨b, 1, none⟩ v').setCell ⟨b, 2, none⟩ v'') :=
  ((h.setCell hk hk' hw).setCell hk hk' hw).setCell hk hk' hw
theorem S2.drew {w : World} {k k' : Nat} {n l c n' l' c' : Int} {w1 : World} (h : S2 w k n l c k' n' l' c' w1) : S2 w k n l c k' n' l' c' w1.drew := h.next ((Below.refl _ _).drew)

theorem Bx.drew {k : Nat} {n l c : Int} {w : World} (h : Bx k n l c w) : Bx k n l c w.drew := h.next ((Below.refl _ _).drew)
theorem Bx.set3 {k : Nat} {n l c n' l' c' : Int} {w : World} (h : Bx k n' l' c' w) : Bx k n l c (((w.setCell ⟨k, 0, none⟩ (.int .i64 n)).setCell ⟨k, 1, none⟩ (.int .i64 l)).setCell ⟨k, 2, none⟩ (.int .i64 c)) := by
  obtain ⟨h0, h1, h2, h3⟩ := h
  refine ⟨by simpa [World.setCell] using h0, ?_, ?_, ?_⟩
  · rw [World.cell?_setCell_other _ _ _ _ (by simp), World.cell?_setCell_other _ _ _ _ (by simp)]; exact World.cell?_setCell_same _ _ _ h1
  · rw [World.cell?_setCell_other _ _ _ _ (by simp)]; exact World.cell?_setCell_same _ _ _ ((World.cell?_setCell_other _ _ _ _ (by simp)).trans h2)
  · exact World.cell?_setCell_same _ _ _ ((World.cell?_setCell_other _ _ _ _ (by simp)).trans ((World.cell?_setCell_other _ _ _ _ (by simp)).trans h3))

def T3 (w : World) (k1 : Nat) (n1 l1 c1 : Int) (k2 : Nat) (n2 l2 c2 : Int) (k : Nat) (n l c : Int) (w' : World) : Prop := S2 w k1 n1 l1 c1 k2 n2 l2 c2 w' ∧ Bx k n l c w'
section
variable {w : World} {k1 k2 k : Nat} {n1 l1 c1 n2 l2 c2 n l c : Int} {w1 w2 : World}
theorem T3.next (h : T3 w k1 n1 l1 c1 k2 n2 l2 c2 k n l c w1) (hb : Below w1.heap.size w1 w2) : T3 w k1 n1 l1 c1 k2 n2 l2 c2 k n l c w2 := ⟨h.1.next hb, h.2.next hb⟩
theorem T3.alloc (h : T3 w k1 n1 l1 c1 k2 n2 l2 c2 k n l c w1) (o : Obj) : T3 w k1 n1 l1 c1 k2 n2 l2 c2 k n l c (w1.alloc o) := h.next ((Below.refl _ _).alloc (Nat.le_refl _) o)
theorem T3.drew (h : T3 w k1 n1 l1 c1 k2 n2 l2 c2 k n l c w1) : T3 w k1 n1 l1 c1 k2 n2 l2 c2 k n l c w1.drew := h.next ((Below.refl _ _).drew)
theorem T3.setCell3 {b : Nat} {v v' v'' : Value} (h : T3 w k1 n1 l1 c1 k2 n2 l2 c2 k n l c w1) (h1 : k1 ≠ b) (h2 : k2 ≠ b) (h3 : k ≠ b) (hw : w.heap.size ≤ b) : T3 w k1 n1 l1 c1 k2 n2 l2 c2 k n l c (((w1.setCell ⟨b, 0, none⟩ v).setCell ⟨b, 1, none⟩ v').setCell ⟨b, 2, none⟩ v'') :=
  ⟨h.1.setCell3 h1 h2 hw, ((h.2.setCell h3 _).setCell h3 _).setCell h3 _⟩
end

def U3 (w : World) (k1 : Nat) (n1 l1 c1 : Int) (k2 : Nat) (n2 l2 c2 : Int) (k : Nat) (n l c : Int) (w' : World) : Prop := Below w.heap.size w w' ∧ Bx k1 n1 l1 c1 w' ∧ Bx k2 n2 l2 c2 w' ∧ Bx k n l c w'
theorem U3.next {w : World} {k1 k2 k : Nat} {n1 l1 c1 n2 l2 c2 n l c : Int} {w1 w2 : World} (h : U3 w k1 n1 l1 c1 k2 n2 l2 c2 k n l c w1) (hb : Below w1.heap.size w1 w2) : U3 w k1 n1 l1 c1 k2 n2 l2 c2 k n l c w2 := ⟨bstep h.1 hb, h.2.1.next hb, h.2.2.1.next hb, h.2.2.2.next hb⟩

set_option maxHeartbeats 4000000 in
set_option maxRecDepth 100000 in
theorem posParts (a0 : Option Addr) (len0 cap0 : Nat) (z0 : List Int) (a1 : Option Addr) (len1 cap1 : Nat) (z1 : List Int) (a2 : Option Addr) (len2 cap2 : Nat) (z2 : List Int) (w : World)
    (h0 : Lift.IsRow .i64 w a0 len0 cap0 z0) (h1 : Lift.IsRow .i64 w a1 len1 cap1 z1) (h2 : Lift.IsRow .i64 w a2 len2 cap2 z2) :
    Calls Try.prog 8 #[.slice a0 len0 cap0, .slice a1 len1 cap1, .slice a2 len2 cap2] w fun e w' => e = .returned (.bool true) ∧ Below w.heap.size w w' := by
  have HA := Lib.hid (fun w' (e : w = w') => e ▸ textOf a0 len0 cap0 z0 60 w h0 (by omega))
  have HB := Lib.hid (fun w' (e : w = w') => e ▸ textOf a1 len1 cap1 z1 60 w h1 (by omega))
  have HC := Lib.hid (fun w' (e : w = w') => e ▸ textOf a2 len2 cap2 z2 60 w h2 (by omega))
  have s0 : (textS ((z0.take len0).take 60)).size ≤ 60 := by rw [textS_size, List.length_take]; omega
  have s1 : (textS ((z1.take len1).take 60)).size ≤ 60 := by rw [textS_size, List.length_take]; omega
  have s2 : (textS ((z2.take len2).take 60)).size ≤ 60 := by rw [textS_size, List.length_take]; omega
  clear h0 h1 h2
  generalize textS ((z0.take len0).take 60) = a at *
  generalize textS ((z1.take len1).take 60) = b at *
  generalize textS ((z2.take len2).take 60) = c at *
  have la : a.data.toList.length = a.size := by simp
  have lb : b.data.toList.length = b.size := by simp
  have lc : c.data.toList.length = c.size := by simp
  have sab : (a ++ b).data.toList = a.data.toList ++ b.data.toList := by simp [ByteArray.data_append]
  have sabc : (a ++ b ++ c).data.toList = a.data.toList ++ b.data.toList ++ c.data.toList := by simp [ByteArray.data_append]
  have zab : (a ++ b).size = a.size + b.size := ByteArray.size_append ..
  have zabc : (a ++ b ++ c).size = a.size + b.size + c.size := by rw [ByteArray.size_append, ByteArray.size_append]
  have j1 := fun w => join_of a.data.toList b.data.toList w (by rw [List.length_append]; omega)
  have j2 := fun w => join_of b.data.toList c.data.toList w (by rw [List.length_append]; omega)
  have j3 := fun w => join_of (a.data.toList ++ b.data.toList) c.data.toList w (by rw [List.length_append, List.length_append]; omega)
  have j4 := fun w => join_of a.data.toList (b.data.toList ++ c.data.toList) w (by rw [List.length_append, List.length_append]; omega)
  rw [← List.append_assoc] at j4
  have oa := fun w => of_list a w (by unfold maxLen; omega)
  have ob := fun w => of_list b w (by unfold maxLen; omega)
  have oc := fun w => of_list c w (by unfold maxLen; omega)
  have oab := fun w => of_list (a ++ b) w (by unfold maxLen; omega)
  have oabc := fun w => of_list (a ++ b ++ c) w (by unfold maxLen; omega)
  rw [sab] at oab
  rw [sabc] at oabc
  have my := fun w => may (a.data.toList ++ b.data.toList ++ c.data.toList).length (lns (a.data.toList ++ b.data.toList ++ c.data.toList)) (col (a.data.toList ++ b.data.toList ++ c.data.toList)) w
  rw [mayB_of _ (by rw [List.length_append, List.length_append]; omega)] at my
  have ol := fun w => of ⟨#[98, 10, 97]⟩ w (by rw [lit3]; decide)
  have e3 : ((⟨#[98, 10, 97]⟩ : ByteArray).size : Int) = 3 := rfl
  rw [e3] at ol
  clear e3 sab sabc la lb lc
  generalize (a.data.toList ++ b.data.toList ++ c.data.toList).length = n6 at *
  generalize lns (a.data.toList ++ b.data.toList ++ c.data.toList) = l6 at *
  generalize col (a.data.toList ++ b.data.toList ++ c.data.toList) = c6 at *
  generalize (a.data.toList ++ b.data.toList).length = n4 at *
  generalize lns (a.data.toList ++ b.data.toList) = l4 at *
  generalize col (a.data.toList ++ b.data.toList) = c4 at *
  generalize (b.data.toList ++ c.data.toList).length = n5 at *
  generalize lns (b.data.toList ++ c.data.toList) = l5 at *
  generalize col (b.data.toList ++ c.data.toList) = c5 at *
  generalize a.data.toList.length = n1 at *
  generalize lns a.data.toList = l1 at *
  generalize col a.data.toList = c1 at *
  generalize b.data.toList.length = n2 at *
  generalize lns b.data.toList = l2 at *
  generalize col b.data.toList = c2 at *
  generalize c.data.toList.length = n3 at *
  generalize lns c.data.toList = l3 at *
  generalize col c.data.toList = c3 at *
  have J1 := Lib.hid j1
  have J2 := Lib.hid j2
  have J3 := Lib.hid j3
  have J4 := Lib.hid j4
  have OA := Lib.hid oa
  have OB := Lib.hid ob
  have OC := Lib.hid oc
  have OAB := Lib.hid oab
  have OABC := Lib.hid oabc
  have MY := Lib.hid my
  have OL := Lib.hid ol
  clear j1 j2 j3 j4 oa ob oc oab oabc my ol zab zabc
  have hfl := field0
  go_enter Try.func8, Try.ntmps8
  go_wp2_with fail
  refine (HA.out _ rfl).mono ?_
  rintro e w1 ⟨rfl, rfl⟩
  go_wp2_with fail
  refine (HB.out _ rfl).mono ?_
  rintro e w1 ⟨rfl, rfl⟩
  go_wp2_with fail
  refine (HC.out _ rfl).mono ?_
  rintro e w1 ⟨rfl, rfl⟩
  go_wp2_with fail
  refine (OA.out _).mono ?_
  rintro e w1 ⟨rfl, hb1⟩
  go_wp2_with fail
  refine (OB.out _).mono ?_
  rintro e w2 ⟨rfl, hb2⟩
  go_wp2_with fail
  refine (J1.out _).mono ?_
  rintro e w3 ⟨rfl, hb3⟩
  go_wp2_with fail
  refine (OB.out _).mono ?_
  rintro e w4 ⟨rfl, hb4⟩
  obtain ⟨hc4, hf4, _⟩ := bfacts hb4
  have y4 : w3.heap.size < w4.heap.size := by have := hb4.size; simp at this; omega
  go_wp2_with fail
  refine (OC.out _).mono ?_
  rintro e w5 ⟨rfl, hb5⟩
  obtain ⟨hc5, hf5, _⟩ := bfacts hb5
  have y5 : w3.heap.size < w5.heap.size := by have := hb5.size; omega
  go_wp2_with fail
  refine (J2.out _).mono ?_
  rintro e w6 ⟨rfl, hb6⟩
  obtain ⟨hc6, hf6, _⟩ := bfacts hb6
  have y6 : w3.heap.size < w6.heap.size := by have := hb6.size; omega
  go_upto_region 6 with fail
  have X1 : Bx w3.heap.size n4 l4 c4 (w6.alloc (.cells #[.int .i64 n5, .int .i64 l5, .int .i64 c5] 23)) := ((((Bx.new w3 n4 l4 c4 _).next hb4).next hb5).next hb6).alloc _
  have Y1 : Bx w6.heap.size n5 l5 c5 (w6.alloc (.cells #[.int .i64 n5, .int .i64 l5, .int .i64 c5] 23)) := Bx.new w6 n5 l5 c5 _
  have B1 : Below w.heap.size w (w6.alloc (.cells #[.int .i64 n5, .int .i64 l5, .int .i64 c5] 23)) := by
    repeat (first | exact Below.refl _ _ | refine balloc ?_ _ | refine bstep ?_ (by assumption))
  clear hb1 hb2 hb3 hb4 hb5 hb6 hc4 hf4 hc5 hf5 hc6 hf6 y4 y5 y6
  generalize w3.heap.size = kx at *
  generalize w6.heap.size = ky at *
  generalize w6.alloc (.cells #[.int .i64 n5, .int .i64 l5, .int .i64 c5] 23) = W1 at *
  have T1 : Hid (S2 w ky n5 l5 c5 kx n4 l4 c4 W1) := ⟨B1, Y1, X1⟩
  clear B1 Y1 X1
  go_cut [14, 15] (fun s14 s15 wx => ∃ ku : Nat, s14 = .pointer (some ⟨ku, 0, none⟩) ∧ s15 = .int .i64 0 ∧ T3 w kx n4 l4 c4 ku n6 l6 c6 ky n5 l5 c5 wx)
  case first =>
    have q1 := T1.out.2.1.1
    have q2 := T1.out.2.2.1
    have q3 := Nat.ne_of_lt q1
    have q4 := Nat.ne_of_lt q2
    have q5 := T1.out.1.size
    go_region_held3 (fun w' => Below w.heap.size w w' ∧ Bx ky n5 l5 c5 w' ∧ (kx < w'.heap.size ∧ w'.cell? ⟨kx, 0, none⟩ = some (.int .i64 n4) ∧ w'.cell? ⟨kx, 1, none⟩ = some (.int .i64 l4) ∧ w'.cell? ⟨kx, 2, none⟩ = some (.int .i64 c4)))
      (first | exact T1.out.drew | exact (T1.out.alloc _).drew | (refine S2.alloc ?_ _; assumption) | (apply S2.setCell3 <;> assumption) | exact ((T1.out.drew.next (by assumption)).next (by assumption)).alloc _ | exact S2.next (by assumption) (by assumption))
      (first | (go_at_call 11; refine (OC.out _).mono ?_; rintro e w' ⟨rfl, hb⟩; have hS : S2 w ky n5 l5 c5 kx n4 l4 c4 w' := (S2.next (by assumption) hb); have q1 := hS.2.1.1; have q2 := hS.2.2.1; have q3 := Nat.ne_of_lt q1; have q4 := Nat.ne_of_lt q2; have q5 := hS.1.size; clear hS; obtain ⟨hc, hf, _⟩ := bfacts hb) | (go_at_call 15; refine (J3.out _).mono ?_; rintro e w' ⟨rfl, hb⟩; have hS : S2 w ky n5 l5 c5 kx n4 l4 c4 w' := (S2.next (by assumption) hb); have q1 := hS.2.1.1; have q2 := hS.2.2.1; have q3 := Nat.ne_of_lt q1; have q4 := Nat.ne_of_lt q2; have q5 := hS.1.size; clear hS; obtain ⟨hc, hf, _⟩ := bfacts hb))
    all_goals go_wp2_with fail
    all_goals go_meet
    all_goals rename_i hH
    · exact ⟨_, rfl, rfl, ⟨hH.1, hH.2.2, Bx.new _ _ _ _ _⟩, hH.2.1⟩
    · exact ⟨_, rfl, rfl, ⟨hH.1, hH.2.2, ((Bx.new _ 0 0 0 _).next (by assumption)).set3⟩, hH.2.1⟩
    · exact ⟨_, rfl, rfl, ⟨hH.1, hH.2.2, (((Bx.new _ 0 0 0 _).drew.next (by assumption)).next (by assumption)).set3⟩, hH.2.1⟩
  case rest =>
    obtain ⟨ku, rfl, rfl, hcut⟩ := hcut
    have T2 := Lib.hid hcut
    clear hcut
    go_upto_region 7 with fail
    go_cut [16, 17] (fun s16 s17 wx => ∃ kv : Nat, s16 = .pointer (some ⟨kv, 0, none⟩) ∧ s17 = .int .i64 0 ∧ T3 w kx n4 l4 c4 ku n6 l6 c6 kv n6 l6 c6 wx)
    case first =>
      have q1 := Nat.ne_of_lt T2.out.1.2.1.1
      have q2 := Nat.ne_of_lt T2.out.1.2.2.1
      have q3 := Nat.ne_of_lt T2.out.2.1
      have q6 := T2.out.2.1
      have q5 := T2.out.1.1.size
      go_region_held3 (fun w' => S2 w kx n4 l4 c4 ku n6 l6 c6 w' ∧ (ky < w'.heap.size ∧ w'.cell? ⟨ky, 0, none⟩ = some (.int .i64 n5) ∧ w'.cell? ⟨ky, 1, none⟩ = some (.int .i64 l5) ∧ w'.cell? ⟨ky, 2, none⟩ = some (.int .i64 c5)))
        (first | exact T2.out.drew | exact (T2.out.alloc _).drew | (refine T3.alloc ?_ _; assumption) | (apply T3.setCell3 <;> assumption) | exact ((T2.out.drew.next (by assumption)).next (by assumption)).alloc _ | exact T3.next (by assumption) (by assumption))
        (first | (go_at_call 11; refine (OA.out _).mono ?_; rintro e w' ⟨rfl, hb⟩; have hS : T3 w kx n4 l4 c4 ku n6 l6 c6 ky n5 l5 c5 w' := (T3.next (by assumption) hb); have q1 := Nat.ne_of_lt hS.1.2.1.1; have q2 := Nat.ne_of_lt hS.1.2.2.1; have q3 := Nat.ne_of_lt hS.2.1; have q6 := hS.2.1; have q5 := hS.1.1.size; clear hS; obtain ⟨hc, hf, _⟩ := bfacts hb) | (go_at_call 15; refine (J4.out _).mono ?_; rintro e w' ⟨rfl, hb⟩; have hS : T3 w kx n4 l4 c4 ku n6 l6 c6 ky n5 l5 c5 w' := (T3.next (by assumption) hb); have q1 := Nat.ne_of_lt hS.1.2.1.1; have q2 := Nat.ne_of_lt hS.1.2.2.1; have q3 := Nat.ne_of_lt hS.2.1; have q6 := hS.2.1; have q5 := hS.1.1.size; clear hS; obtain ⟨hc, hf, _⟩ := bfacts hb))
      all_goals go_wp2_with fail
      all_goals go_meet
      all_goals rename_i hH
      · exact ⟨_, rfl, rfl, hH.1, Bx.new _ _ _ _ _⟩
      · exact ⟨_, rfl, rfl, hH.1, ((Bx.new _ 0 0 0 _).next (by assumption)).set3⟩
      · exact ⟨_, rfl, rfl, hH.1, (((Bx.new _ 0 0 0 _).drew.next (by assumption)).next (by assumption)).set3⟩
    case rest =>
      obtain ⟨kv, rfl, rfl, hcut⟩ := hcut
      have T3' := Lib.hid hcut
      clear hcut
      go_upto_region 8 with fail
      have g1 : ¬ 9223372036854775807 < a.size + b.size := by omega
      have g2 : ¬ 9223372036854775807 < a.size + b.size + c.size := by omega
      go_region_held3 (fun w' => Below w.heap.size w w' ∧ (kx < w'.heap.size ∧ w'.cell? ⟨kx, 0, none⟩ = some (.int .i64 n4) ∧ w'.cell? ⟨kx, 1, none⟩ = some (.int .i64 l4) ∧ w'.cell? ⟨kx, 2, none⟩ = some (.int .i64 c4)) ∧ (ku < w'.heap.size ∧ w'.cell? ⟨ku, 0, none⟩ = some (.int .i64 n6) ∧ w'.cell? ⟨ku, 1, none⟩ = some (.int .i64 l6) ∧ w'.cell? ⟨ku, 2, none⟩ = some (.int .i64 c6)) ∧ (kv < w'.heap.size ∧ w'.cell? ⟨kv, 0, none⟩ = some (.int .i64 n6) ∧ w'.cell? ⟨kv, 1, none⟩ = some (.int .i64 l6) ∧ w'.cell? ⟨kv, 2, none⟩ = some (.int .i64 c6)))
        (first | exact ⟨T3'.out.1.1.drew, T3'.out.1.2.1.drew, T3'.out.1.2.2.drew, T3'.out.2.drew⟩ | exact U3.next (by assumption) (by assumption))
        (first | (go_at_call_of 11 (Value.string ⟨#[98, 10, 97]⟩); refine (OL.out _).mono ?_; rintro e w' ⟨rfl, hb⟩) | (go_at_call_of 11 (Value.string (a ++ b)); refine (OAB.out _).mono ?_; rintro e w' ⟨rfl, hb⟩) | (go_at_call_of 11 (Value.string (a ++ b ++ c)); refine (OABC.out _).mono ?_; rintro e w' ⟨rfl, hb⟩) | (go_at_call 13; refine (MY.out _).mono ?_; rintro e w' ⟨rfl, hb⟩))
      rename_i hH
      have hB := hH.1
      clear hH
      go_wp2
      go_ret
      exact ⟨rfl, hB⟩

end Go.Proofs.Ytajnebmijplkeaa.PosC
