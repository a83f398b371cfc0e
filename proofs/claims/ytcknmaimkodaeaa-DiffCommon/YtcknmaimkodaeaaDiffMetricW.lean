/-
  The law DiffMetric, walked, where package diff keeps its contracts.
-/
import Derived.Test.YtcknmaimkodaeaaKeepSame
import Derived.Test.YtcknmaimkodaeaaKeepLines
namespace Go.Proofs.Ytcknmaimkodaeaa.DiffK
open Go.RowKit Kit Lift Txt LineM StrM DiffM DiffA DiffR DiffL

theorem LnOk.ok {n : Nat} {L : List ByteArray} (h : LnOk n L) (hn : n ≤ 80) : okL L := ⟨by have := h.len; omega, fun s hs => by rw [h.one s hs]; omega⟩
theorem kinds8 (kd : Int) : 1 ≤ 1 + kd % 8 ∧ 1 + kd % 8 ≤ 8 := by
  have h1 := Int.emod_nonneg kd (show (8 : Int) ≠ 0 by omega)
  have h2 := Int.emod_lt_of_pos kd (show (0 : Int) < 8 by omega)
  omega
set_option maxRecDepth 100000 in
set_option maxHeartbeats 8000000 in
theorem diffMetric (P : DiffProg) (a0 : Option Addr) (len0 cap0 : Nat) (zs : List Int) (a1 : Option Addr) (len1 cap1 : Nat) (ys : List Int) (a2 : Option Addr) (len2 cap2 : Nat) (xs : List Int) (kd : Int) (w : World) (h0 : IsRow .i64 w a0 len0 cap0 zs) (h1 : IsRow .i64 w a1 len1 cap1 ys) (h2 : IsRow .i64 w a2 len2 cap2 xs) {X : Prop} (_ : X) :
    Calls Try.prog 8 #[.slice a0 len0 cap0, .slice a1 len1 cap1, .slice a2 len2 cap2, .int .i64 kd] w fun e w' => e = .returned (.bool true) ∧ Below w.heap.size w w' := by
  obtain ⟨hk1, hk8⟩ := kinds8 kd
  have PK := Lib.hid (fun W => picked kd 8 W (by omega) (by omega))
  obtain ⟨r, hr⟩ : ∃ r, kd % 8 = r := ⟨_, rfl⟩
  rw [hr] at hk1 hk8 PK
  clear hr
  have L0 := Lib.hid (fun W (hW : Below w.heap.size w W) => lines a0 len0 cap0 zs 25 (1 + r) W (kept h0 hW) (by omega) hk1 hk8)
  have L1 := Lib.hid (fun W (hW : Below w.heap.size w W) => lines a1 len1 cap1 ys 25 (1 + r) W (kept h1 hW) (by omega) hk1 hk8)
  have L2 := Lib.hid (fun W (hW : Below w.heap.size w W) => lines a2 len2 cap2 xs 25 (1 + r) W (kept h2 hW) (by omega) hk1 hk8)
  have CO := Lib.hid (fun v1 v2 la lb W h1 h2 ha hb => costOf P v1 v2 la lb W h1 h2 ha hb)
  have ST := Lib.hid (fun v1 v2 la lb W h1 h2 hl => sameTexts v1 v2 la lb W h1 h2 hl)
  have r0 : IntKind.i64.wrap (1 + r) = 1 + r := IntWalk.i64_in _ (by omega)
  clear h0 h1 h2 P
  go_enter Try.func8, Try.ntmps8
  go_wp2_with fail
  refine (PK.out _).mono ?_
  rintro e w' ⟨rfl, rfl⟩
  clear PK
  go_wp2_with fail
  refine (L0.out _ (Below.refl _ _)).mono ?_
  rintro e w1 ⟨v1, la, rfl, hs1, ho1⟩
  have B1 := Lib.hid hs1.bel
  have V1 := Lib.hid hs1.val
  have OA := Lib.hid (ho1.ok (by omega))
  have hla := ho1.len
  clear hs1 ho1 L0
  go_wp2_with fail
  refine (L1.out _ B1.out).mono ?_
  rintro e w2 ⟨v2, lb, rfl, hs2, ho2⟩
  have B2 := Lib.hid (bstep B1.out hs2.bel)
  have V1' := Lib.hid (V1.out.next hs2.bel)
  have V2 := Lib.hid hs2.val
  have OB := Lib.hid (ho2.ok (by omega))
  have hlb := ho2.len
  clear hs2 ho2 L1 V1 B1
  go_wp2_with fail
  refine (L2.out _ B2.out).mono ?_
  rintro e w3 ⟨v3, lc, rfl, hs3, ho3⟩
  have B3 := Lib.hid (bstep B2.out hs3.bel)
  have W1 := Lib.hid (V1'.out.next hs3.bel)
  have W2 := Lib.hid (V2.out.next hs3.bel)
  have W3 := Lib.hid hs3.val
  have OC := Lib.hid (ho3.ok (by omega))
  clear hs3 ho3 L2 V1' V2 B2
  obtain ⟨a4, c4, rfl, _, _, _⟩ := W1.out
  obtain ⟨a5, c5, rfl, _, _, _⟩ := W2.out
  obtain ⟨n, hn⟩ : ∃ n, la.length = n := ⟨_, rfl⟩
  obtain ⟨m, hm⟩ : ∃ m, lb.length = m := ⟨_, rfl⟩
  have hpar := cost_even la lb
  have htri := cost_way la lb lc
  have hself := cost_self la
  have hcom := cost_comm lb la
  have hz : cost la lb = 0 ↔ la = lb := ⟨cost_zero, fun e => by rw [e]; exact cost_self lb⟩
  have hle : cost la lb ≤ 100 ∧ cost lb lc ≤ 200 := by
    have h1 := cost_eq la lb
    have h2 := cost_eq lb lc
    have h3 := OC.out.1
    omega
  have K1 := Lib.hid (fun W (hW : Below w3.heap.size w3 W) => CO.out _ _ la lb W (W1.out.next hW) (W2.out.next hW) OA.out OB.out)
  have K2 := Lib.hid (fun W (hW : Below w3.heap.size w3 W) => CO.out _ _ lb la W (W2.out.next hW) (W1.out.next hW) OB.out OA.out)
  have K3 := Lib.hid (fun W (hW : Below w3.heap.size w3 W) => CO.out _ _ la la W (W1.out.next hW) (W1.out.next hW) OA.out OA.out)
  have K4 : Hid (∀ W, Below w3.heap.size w3 W → Calls Try.prog 19 #[.slice a4 la.length c4, .slice a5 lb.length c5] W fun e w' => e = .returned (.bool ((cost la lb : Int) == 0)) ∧ Below W.heap.size W w') := Lib.hid (fun W hW => by
    refine (ST.out _ _ la lb W (W1.out.next hW) (W2.out.next hW) (by omega)).mono ?_
    rintro e w' ⟨b, rfl, hb, hbw⟩
    have e1 : b = ((cost la lb : Int) == 0) := by
      rw [Bool.eq_iff_iff, beq_iff_eq, hb, ← hz]; omega
    rw [e1]
    exact ⟨rfl, hbw⟩)
  have K5 := Lib.hid (fun W (hW : Below w3.heap.size w3 W) => CO.out _ _ la lc W (W1.out.next hW) (W3.out.next hW) OA.out OC.out)
  have K6 := Lib.hid (fun W (hW : Below w3.heap.size w3 W) => CO.out _ _ lb lc W (W2.out.next hW) (W3.out.next hW) OB.out OC.out)
  rw [hself] at K3
  rw [hcom] at K2
  rw [hn] at hla hpar K1 K2 K3 K4 K5 ⊢
  rw [hm] at hlb hpar K1 K2 K4 K6 ⊢
  clear hself hcom hz CO ST W1 W2 W3 OA OB OC hn hm
  generalize cost la lb = x at *
  generalize cost la lc = y at *
  generalize cost lb lc = z at *
  go_wp2_with fail
  refine (K1.out _ (Below.refl _ _)).mono ?_
  rintro e w4 ⟨rfl, hb4⟩
  have B4 := Lib.hid hb4
  clear hb4
  have q0 : (0 : Int) ≤ (x : Int) := by omega
  have q1 : decide ((x : Int) ≥ 0) = true := decide_eq_true q0
  go_wp2_with fail
  refine (K2.out _ B4.out).mono ?_
  rintro e w5 ⟨rfl, hb5⟩
  have B5 := Lib.hid (bstep B4.out hb5)
  clear hb5
  go_wp2_with fail
  refine (K3.out _ B5.out).mono ?_
  rintro e w6 ⟨rfl, hb6⟩
  have B6 := Lib.hid (bstep B5.out hb6)
  clear hb6
  go_wp2_with fail
  refine (K4.out _ B6.out).mono ?_
  rintro e w7 ⟨rfl, hb7⟩
  have B7 := Lib.hid (bstep B6.out hb7)
  have r1 : IntKind.i64.wrap ((x : Int) + (z : Int)) = (x : Int) + (z : Int) := IntWalk.i64_in _ (by omega)
  have r2 : IntKind.i64.wrap ((x : Int) + (n : Int)) = (x : Int) + (n : Int) := IntWalk.i64_in _ (by omega)
  have r3 : IntKind.i64.wrap ((x : Int) + (n : Int) + (m : Int)) = (x : Int) + (n : Int) + (m : Int) := IntWalk.i64_in _ (by omega)
  have r4 : Int.tmod ((x : Int) + (n : Int) + (m : Int)) 2 = 0 := by
    rw [Int.tmod_eq_emod_of_nonneg (by omega)]; omega
  have r4' : ((x : Int) + (n : Int) + (m : Int)) % 2 = 0 := by omega
  have r5 : (y : Int) ≤ (x : Int) + (z : Int) := by omega
  have r6 : decide ((y : Int) ≤ (x : Int) + (z : Int)) = true := decide_eq_true r5
  clear hb7 hpar htri hle K1 K2 K3 K4
  go_wp2_with fail
  refine (K5.out _ B7.out).mono ?_
  rintro e w8 ⟨rfl, hb8⟩
  have B8 := Lib.hid (bstep B7.out hb8)
  clear hb8
  go_wp2_with fail
  refine (K6.out _ B8.out).mono ?_
  rintro e w9 ⟨rfl, hb9⟩
  have B9 := Lib.hid (bstep B3.out (bstep B8.out hb9))
  clear hb9
  go_wp2_with fail
  go_ret
  exact ⟨by first | rfl | simp, B9.out⟩
end Go.Proofs.Ytcknmaimkodaeaa.DiffK
