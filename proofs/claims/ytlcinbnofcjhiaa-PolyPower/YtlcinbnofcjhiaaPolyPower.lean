/-
  Package poly: the law PolyPower.
-/
import Derived.Test.YtlcinbnofcjhiaaPolyParts
import Derived.Test.YtlcinbnofcjhiaaTexts
namespace Go.Proofs.Ytlcinbnofcjhiaa.PolyC
open Go.ChangeShapes Go.WideShapes Go.ChangeAt Go.RowKit PolyM Kit Txt

/-- a box of two cells that may be written -/
def Bf (k : Nat) (a b : Value) (w : World) : Prop := Bx k a b w ∧ w.frozen? ⟨k, 0, none⟩ = false ∧ w.frozen? ⟨k, 1, none⟩ = false
theorem Bf.next {k : Nat} {a b : Value} {w1 w2 : World} (h : Bf k a b w1) (hb : Below w1.heap.size w1 w2) : Bf k a b w2 :=
  ⟨h.1.next hb, (hb.frozen (p := ⟨k, 0, none⟩) h.1.1).trans h.2.1, (hb.frozen (p := ⟨k, 1, none⟩) h.1.1).trans h.2.2⟩
theorem Bf.new (w : World) (a b : Value) (t : TypeId) : Bf w.heap.size a b (w.alloc (.cells #[a, b] t)) := ⟨Bx.new _ _ _ _, by simp, by simp⟩
theorem Bf.alloc {k : Nat} {a b : Value} {w : World} (h : Bf k a b w) (o : Obj) : Bf k a b (w.alloc o) := h.next ((Below.refl _ _).alloc (Nat.le_refl _) o)
theorem Bf.setCell {k : Nat} {a b : Value} {w : World} (h : Bf k a b w) {n o : Nat} (hk : k ≠ n) (v : Value) : Bf k a b (w.setCell ⟨n, o, none⟩ v) :=
  ⟨h.1.setCell hk v, by rw [World.frozen?_setCell]; exact h.2.1, by rw [World.frozen?_setCell]; exact h.2.2⟩
theorem Bf.set2 {k : Nat} {a b a' b' : Value} {w : World} (h : Bf k a' b' w) : Bf k a b ((w.setCell ⟨k, 0, none⟩ a).setCell ⟨k, 1, none⟩ b) :=
  ⟨h.1.set2, by rw [World.frozen?_setCell, World.frozen?_setCell]; exact h.2.1, by rw [World.frozen?_setCell, World.frozen?_setCell]; exact h.2.2⟩

def repS (l : List UInt8) (k : Nat) : ByteArray := ⟨(rep l k).toArray⟩
theorem repS_list (l : List UInt8) (k : Nat) : (repS l k).data.toList = rep l k := by simp [repS]
theorem repS_size (l : List UInt8) (k : Nat) : (repS l k).size = k * l.length := by
  have : (repS l k).size = (rep l k).length := by simp [repS, ByteArray.size]
  rw [this, rep_length]
theorem repS_succ (s : ByteArray) (k : Nat) : repS s.data.toList (k + 1) = repS s.data.toList k ++ s := by
  apply ByteArray.ext
  simp [repS, rep_succ]

def hvr (l : List UInt8) (a : Nat) : Nat := hv (rep l a)
def hsr (l : List UInt8) (a : Nat) : Nat := hs (rep l a).length
theorem hvr_may (l : List UInt8) (a : Nat) : mayH (hvr l a) (hsr l a) = true := mayH_of _ _

/-- what the halving loop keeps -/
def Pow (l : List UInt8) (w : World) (k9 k10 : Nat) (a t : Nat) (wr : World) : Prop :=
  Below w.heap.size w wr ∧ Bf k9 (.int .i64 (hvr l a)) (.int .i64 (hsr l a)) wr ∧ Bf k10 (.int .i64 (hvr l t)) (.int .i64 (hsr l t)) wr ∧ w.heap.size ≤ k9 ∧ k9 < k10

theorem Pow.next {l : List UInt8} {w : World} {k9 k10 a t : Nat} {w1 w2 : World} (h : Pow l w k9 k10 a t w1) (hb : Below w1.heap.size w1 w2) : Pow l w k9 k10 a t w2 :=
  ⟨bstep h.1 hb, h.2.1.next hb, h.2.2.1.next hb, h.2.2.2⟩
theorem Pow.alloc {l : List UInt8} {w : World} {k9 k10 a t : Nat} {w1 : World} (h : Pow l w k9 k10 a t w1) (o : Obj) : Pow l w k9 k10 a t (w1.alloc o) := h.next ((Below.refl _ _).alloc (Nat.le_refl _) o)
theorem Pow.out {l : List UInt8} {w : World} {k9 k10 a t : Nat} {w1 : World} (h : Pow l w k9 k10 a t w1) (a' : Nat) : Pow l w k9 k10 a' t ((w1.setCell ⟨k9, 0, none⟩ (.int .i64 (hvr l a'))).setCell ⟨k9, 1, none⟩ (.int .i64 (hsr l a'))) :=
  ⟨(h.1.setCell h.2.2.2.1 _).setCell h.2.2.2.1 _, h.2.1.set2, (h.2.2.1.setCell (by have := h.2.2.2.2; omega) _).setCell (by have := h.2.2.2.2; omega) _, h.2.2.2⟩
theorem Pow.twice {l : List UInt8} {w : World} {k9 k10 a t : Nat} {w1 : World} (h : Pow l w k9 k10 a t w1) (t' : Nat) : Pow l w k9 k10 a t' ((w1.setCell ⟨k10, 0, none⟩ (.int .i64 (hvr l t'))).setCell ⟨k10, 1, none⟩ (.int .i64 (hsr l t'))) :=
  have hk : w.heap.size ≤ k10 := by have := h.2.2.2; omega
  ⟨(h.1.setCell hk _).setCell hk _, (h.2.1.setCell (by have := h.2.2.2.2; omega) _).setCell (by have := h.2.2.2.2; omega) _, h.2.2.1.set2, h.2.2.2⟩

theorem join_rep (l : List UInt8) (a b : Nat) (w : World) :
    Calls Try.prog 15 #[hashV (hvr l a) (hsr l a), hashV (hvr l b) (hsr l b)] w fun e w' => e = .returned (.tuple #[hashV (hvr l (a + b)) (hsr l (a + b)), .int .i64 0]) ∧ Below w.heap.size w w' := by
  have := join_of (rep l a) (rep l b) w
  rw [← rep_add] at this
  exact this
theorem of_none (l : List UInt8) (w : World) : Calls Try.prog 11 #[.string ⟨#[]⟩] w fun e w' => e = .returned (hashV (hvr l 0) (hsr l 0)) ∧ Below w.heap.size w w' :=
  of_list ⟨#[]⟩ w (by unfold maxLen; decide)
theorem of_rep (s : ByteArray) (k : Nat) (w : World) (h : (repS s.data.toList k).size ≤ maxLen) : Calls Try.prog 11 #[.string (repS s.data.toList k)] w fun e w' => e = .returned (hashV (hvr s.data.toList k) (hsr s.data.toList k)) ∧ Below w.heap.size w w' := by
  have := of_list (repS s.data.toList k) w h
  rw [repS_list] at this
  exact this
theorem of_once (s : ByteArray) (w : World) (h : s.size ≤ maxLen) : Calls Try.prog 11 #[.string s] w fun e w' => e = .returned (hashV (hvr s.data.toList 1) (hsr s.data.toList 1)) ∧ Below w.heap.size w w' := by
  have := of_list s w h
  rw [← rep_one s.data.toList] at this
  exact this

set_option maxHeartbeats 2000000 in
theorem polyPower (a0 : Option Addr) (len0 cap0 : Nat) (z0 : List Int) (n : Int) (w : World) (h0 : Lift.IsRow .i64 w a0 len0 cap0 z0) (_h1 : (Lit.int .i64 n).wf = true) :
    Calls Try.prog 10 #[.slice a0 len0 cap0, .int .i64 n] w fun e w' => e = .returned (.bool true) ∧ Below w.heap.size w w' := by
  have HA := Lib.hid (fun w' (e : w = w') => e ▸ textOf a0 len0 cap0 z0 20 w h0 (by omega))
  have s0 : (textS ((z0.take len0).take 20)).size ≤ 20 := by rw [textS_size, List.length_take]; omega
  clear h0
  generalize textS ((z0.take len0).take 20) = s at *
  have HP := Lib.hid (fun w => picked n 30 w (by omega) (by omega))
  have r0 := Int.emod_nonneg n (show (30 : Int) ≠ 0 by omega)
  have r1 := Int.emod_lt_of_pos n (show (0 : Int) < 30 by omega)
  generalize n % 30 = kk at *
  obtain ⟨k, rfl⟩ := Int.eq_ofNat_of_zero_le r0
  clear r0
  have hl : s.data.toList.length = s.size := by simp
  have OE := Lib.hid (fun w => of_none s.data.toList w)
  have OS := Lib.hid (fun w => of_once s w (by unfold maxLen; omega))
  have JR := Lib.hid (fun a b w => join_rep s.data.toList a b w)
  have MY := Lib.hid (fun w => may (hvr s.data.toList k) (hsr s.data.toList k) w)
  rw [hvr_may] at MY
  have OR := Lib.hid (fun w => of_rep s k w (by rw [repS_size, hl]; have := Nat.mul_le_mul (show k ≤ 30 by omega) s0; unfold maxLen; omega))
  have OL := Lib.hid one_letter
  have hfl := field0
  go_enter Try.func10, Try.ntmps10
  go_wp2_with fail
  refine (HA.out _ rfl).mono ?_
  rintro e w1 ⟨rfl, rfl⟩
  go_wp2_with fail
  refine (HP.out _).mono ?_
  rintro e w1 ⟨rfl, rfl⟩
  go_wp2_with fail
  go_loop [7, 8] (fun o i => ∃ j : Nat, j ≤ k ∧ i = .int .i64 j ∧ o = .string (repS s.data.toList j)) (fun _ i => k - (intOf i).toNat)
  case atStart => exact ⟨0, Nat.zero_le _, rfl, rfl⟩
  case round =>
    obtain ⟨j, hj, rfl, rfl⟩ := hrel
    by_cases hlt : j < k
    · have b1 := repS_size s.data.toList j
      have E := Lib.hid (repS_succ s j)
      have b2 : (repS s.data.toList j).size ≤ 600 := by
        rw [b1, hl]
        have := Nat.mul_le_mul (show j ≤ 30 by omega) s0
        omega
      clear b1 hl
      go_wp2
      go_round
      case rel => exact ⟨j + 1, by omega, by go_num, by rw [E.out]⟩
      case measure => simp [intOf]; omega
    · obtain rfl : k = j := by omega
      clear hl
      go_wp2_with fail
      refine (OE.out _).mono ?_
      rintro e w1 ⟨rfl, hb1⟩
      go_wp2_with fail
      refine (OS.out _).mono ?_
      rintro e w2 ⟨rfl, hb2⟩
      generalize s.data.toList = l at *
      go_wp2_with fail
      have B0 : Below w.heap.size w (w2.alloc (.cells #[.int .i64 (hvr l 1), .int .i64 (hsr l 1)] 23)) := by
        repeat (first | exact Below.refl _ _ | refine balloc ?_ _ | refine bstep ?_ (by assumption))
      have T0 := Lib.hid (show Pow l w w1.heap.size w2.heap.size 0 1 (w2.alloc (.cells #[.int .i64 (hvr l 1), .int .i64 (hsr l 1)] 23)) from ⟨B0, ((Bf.new w1 _ _ _).next hb2).alloc _, Bf.new w2 _ _ _, hb1.size, by have := hb2.size; simp at this; omega⟩)
      clear B0 hb1 hb2
      generalize w1.heap.size = k9 at *
      generalize w2.heap.size = k10 at *
      generalize w2.alloc (.cells #[.int .i64 (hvr l 1), .int .i64 (hsr l 1)] 23) = W at *
      go_loopw [11] (fun mm wr => ∃ m a t : Nat, m ≤ k ∧ mm = .int .i64 m ∧ a + t * m = k ∧ Pow l w k9 k10 a t wr) (fun mm _ => (intOf mm).toNat)
      case atStart => exact ⟨k, 0, 1, Nat.le_refl _, rfl, by omega, T0.out⟩
      case round =>
        obtain ⟨m, a, t, hm, rfl, hsum, hP⟩ := hrel
        clear T0
        have HS := Lib.hid hsum
        clear hsum
        obtain ⟨B1, ⟨⟨x1, x2, x3⟩, x4, x5⟩, ⟨⟨y1, y2, y3⟩, y4, y5⟩, z1, z2⟩ := id hP
        have HP' := Lib.hid hP
        clear hP
        by_cases hpos : 0 < m
        · by_cases hodd : m % 2 = 1
          · have g1 : ((m : Int) % 2 == 1) = true := by simp; omega
            have e1 : a + t + (t + t) * (m / 2) = k := by
              have h2 : t * m = t + (t + t) * (m / 2) := by
                have : m = 1 + 2 * (m / 2) := by omega
                conv => lhs; rw [this]
                rw [Nat.mul_add, Nat.mul_one, ← Nat.mul_assoc, Nat.mul_two]
              have := HS.out
              omega
            have HE := Lib.hid e1
            clear e1
            go_wp2_with fail
            refine (JR.out _ _ _).mono ?_
            rintro e w3 ⟨rfl, hb3⟩
            clear B1 x1 x2 x3 x4 x5 y1 y2 y3 y4 y5
            have P3 := Lib.hid (HP'.out.next hb3)
            clear hb3 HP'
            obtain ⟨B1, ⟨⟨x1, x2, x3⟩, x4, x5⟩, ⟨⟨y1, y2, y3⟩, y4, y5⟩, _, _⟩ := P3.out
            have ne : k10 ≠ k9 := by omega
            have ne3 : k9 ≠ w3.heap.size := by omega
            go_upto_region 18 with fail
            clear B1 x1 x2 x3 x4 x5 y1 y2 y3 y4 y5
            have P4 := Lib.hid ((P3.out.out (a + t)).alloc (.cells #[.int .i64 (hvr l (a + t)), .int .i64 (hsr l (a + t))] 23))
            clear P3
            generalize (((w3.setCell ⟨k9, 0, none⟩ (.int .i64 (hvr l (a + t)))).setCell ⟨k9, 1, none⟩ (.int .i64 (hsr l (a + t)))).alloc (.cells #[.int .i64 (hvr l (a + t)), .int .i64 (hsr l (a + t))] 23)) = w4 at *
            obtain ⟨B1, ⟨⟨x1, x2, x3⟩, x4, x5⟩, ⟨⟨y1, y2, y3⟩, y4, y5⟩, _, _⟩ := P4.out
            go_wp2_with fail
            refine (JR.out _ _ _).mono ?_
            rintro e w5 ⟨rfl, hb5⟩
            clear B1 x1 x2 x3 x4 x5 y1 y2 y3 y4 y5
            have P5 := Lib.hid (P4.out.next hb5)
            clear hb5 P4
            obtain ⟨B1, ⟨⟨x1, x2, x3⟩, x4, x5⟩, ⟨⟨y1, y2, y3⟩, y4, y5⟩, _, _⟩ := P5.out
            go_wp2_with fail
            refine ⟨⟨m / 2, a + t, t + t, by omega, by go_num, HE.out, ?_⟩, by simp [intOf]; omega⟩
            exact (P5.out.twice _).alloc _
          · have g1 : ((m : Int) % 2 == 1) = false := by simp; omega
            have e1 : a + (t + t) * (m / 2) = k := by
              have h2 : t * m = (t + t) * (m / 2) := by
                have : m = 2 * (m / 2) := by omega
                conv => lhs; rw [this]
                rw [← Nat.mul_assoc, Nat.mul_two]
              have := HS.out
              omega
            have HE := Lib.hid e1
            clear e1
            go_wp2_with fail
            refine (JR.out _ _ _).mono ?_
            rintro e w5 ⟨rfl, hb5⟩
            clear B1 x1 x2 x3 x4 x5 y1 y2 y3 y4 y5
            have P5 := Lib.hid (HP'.out.next hb5)
            clear hb5 HP'
            obtain ⟨B1, ⟨⟨x1, x2, x3⟩, x4, x5⟩, ⟨⟨y1, y2, y3⟩, y4, y5⟩, _, _⟩ := P5.out
            go_wp2_with fail
            refine ⟨⟨m / 2, a, t + t, by omega, by go_num, HE.out, ?_⟩, by simp [intOf]; omega⟩
            exact (P5.out.twice _).alloc _
        · obtain rfl : m = 0 := by omega
          obtain rfl : a = k := by have := HS.out; omega
          go_wp2_with fail
          go_region_held3 (fun w' => Below w.heap.size w w' ∧ (k9 < w'.heap.size ∧ w'.cell? ⟨k9, 0, none⟩ = some (.int .i64 (hvr l a)) ∧ w'.cell? ⟨k9, 1, none⟩ = some (.int .i64 (hsr l a))))
            (first | exact (show S2 w k9 _ _ _ from ⟨HP'.out.1, HP'.out.2.1.1⟩).drew | exact S2.next (by assumption) (by assumption))
            (first | (go_at_call_of 11 (Value.string ⟨#[97]⟩); refine (OL.out _).mono ?_; rintro e w' ⟨rfl, hb⟩) | (go_at_call_of 11 (Value.string (repS l a)); refine (OR.out _).mono ?_; rintro e w' ⟨rfl, hb⟩) | (go_at_call 13; refine (MY.out _).mono ?_; rintro e w' ⟨rfl, hb⟩))
          rename_i hH
          have hB := hH.1
          clear hH
          go_wp2
          go_ret
          exact ⟨rfl, hB⟩

end Go.Proofs.Ytlcinbnofcjhiaa.PolyC
