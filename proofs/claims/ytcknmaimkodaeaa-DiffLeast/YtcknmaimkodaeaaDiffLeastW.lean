/-
  The law DiffLeast, walked, where package diff keeps its contracts.
-/
import Derived.Test.YtcknmaimkodaeaaDiffMetricW
namespace Go.Proofs.Ytcknmaimkodaeaa.DiffK
open Go.RowKit Kit Lift Txt LineM StrM DiffM DiffA DiffR DiffL

/-- what is kept so far: a common part of the beginnings -/
def Kp (la lb : List ByteArray) (i j k : Nat) : Prop := ∃ c : List ByteArray, c.Sublist (la.take i) ∧ c.Sublist (lb.take j) ∧ c.length = k
set_option maxRecDepth 100000 in
set_option maxHeartbeats 8000000 in
theorem diffLeast (P : DiffProg) (a0 : Option Addr) (len0 cap0 : Nat) (zs : List Int) (a1 : Option Addr) (len1 cap1 : Nat) (ys : List Int) (kd : Int) (a3 : Option Addr) (len3 cap3 : Nat) (us : List Int) (w : World) (h0 : IsRow .i64 w a0 len0 cap0 zs) (h1 : IsRow .i64 w a1 len1 cap1 ys) {X : Prop} (_ : X) (h3 : IsRow .i64 w a3 len3 cap3 us) :
    Calls Try.prog 7 #[.slice a0 len0 cap0, .slice a1 len1 cap1, .int .i64 kd, .slice a3 len3 cap3] w fun e w' => e = .returned (.bool true) ∧ Below w.heap.size w w' := by
  obtain ⟨hk1, hk8⟩ := kinds8 kd
  have PK := Lib.hid (fun W => picked kd 8 W (by omega) (by omega))
  have PT := Lib.hid (fun z W => picked z 4 W (by omega) (by omega))
  obtain ⟨r, hr⟩ : ∃ r, kd % 8 = r := ⟨_, rfl⟩
  rw [hr] at hk1 hk8 PK
  clear hr
  have L0 := Lib.hid (fun W (hW : Below w.heap.size w W) => lines a0 len0 cap0 zs 30 (1 + r) W (kept h0 hW) (by omega) hk1 hk8)
  have L1 := Lib.hid (fun W (hW : Below w.heap.size w W) => lines a1 len1 cap1 ys 30 (1 + r) W (kept h1 hW) (by omega) hk1 hk8)
  have CO := Lib.hid (fun v1 v2 la lb W h1 h2 ha hb => costOf P v1 v2 la lb W h1 h2 ha hb)
  have HR := Lib.hid h3
  have hlen3 := (row_len h3).2
  have HL3 := Lib.hid (row_len h3).1
  unfold maxLen at hlen3
  have r0 : IntKind.i64.wrap (1 + r) = 1 + r := IntWalk.i64_in _ (by omega)
  clear h0 h1 h3 P
  go_enter Try.func7, Try.ntmps7
  go_wp2_with fail
  refine (PK.out _).mono ?_
  rintro e w' ⟨rfl, rfl⟩
  clear PK
  go_wp2_with fail
  refine (L0.out _ (Below.refl _ _)).mono ?_
  rintro e w1 ⟨v1, la, rfl, hs1, ho1⟩
  have B1 := Lib.hid hs1.bel
  have V1 := Lib.hid hs1.val
  have OA := Lib.hid (ho1.ok (by omega))
  have hla := ho1.len
  clear hs1 ho1 L0
  go_wp2_with fail
  refine (L1.out _ B1.out).mono ?_
  rintro e w2 ⟨v2, lb, rfl, hs2, ho2⟩
  have B2 := Lib.hid (bstep B1.out hs2.bel)
  have W1 := Lib.hid (V1.out.next hs2.bel)
  have W2 := Lib.hid hs2.val
  have OB := Lib.hid (ho2.ok (by omega))
  have hlb := ho2.len
  clear hs2 ho2 L1 V1 B1
  obtain ⟨a4, c4, rfl, hcc4, hs4, _⟩ := W1.out
  obtain ⟨a5, c5, rfl, hcc5, hs5, _⟩ := W2.out
  have HA := Lib.hid hs4
  have HB := Lib.hid hs5
  obtain ⟨n, hn⟩ : ∃ n, la.length = n := ⟨_, rfl⟩
  obtain ⟨m, hm⟩ : ∃ m, lb.length = m := ⟨_, rfl⟩
  have HN := Lib.hid hn
  have HM := Lib.hid hm
  have K1 := Lib.hid (fun q => CO.out _ _ la lb (w2.drewN q) (W1.out.next (bdrewN (Below.refl _ _) q)) (W2.out.next (bdrewN (Below.refl _ _) q)) OA.out OB.out)
  rw [hn] at hla K1 ⊢
  rw [hm] at hlb K1 ⊢
  have RW := Lib.hid (kept HR.out B2.out)
  clear CO W1 W2 OA OB hn hm hs4 hs5 HR
  go_wp2_with fail
  go_loopw [12, 13, 14, 15] (fun vk vi vj vn wr => ∃ k i j t : Nat, i ≤ n ∧ j ≤ m ∧ t ≤ len3 ∧ vk = .int .i64 (k : Int) ∧ vi = .int .i64 (i : Int) ∧ vj = .int .i64 (j : Int) ∧ vn = .int .i64 (t : Int) ∧ Hid (Kp la lb i j k) ∧ ∃ q, wr = w2.drewN q) (fun _ _ _ vn _ => len3 - (intOf vn).toNat)
  case atStart => exact ⟨0, 0, 0, 0, by omega, by omega, by omega, rfl, rfl, rfl, rfl, Lib.hid ⟨[], by simp, by simp, rfl⟩, 0, rfl⟩
  case round =>
    obtain ⟨k, i, j, t, hin, hjm, ht, rfl, rfl, rfl, rfl, HK, q, rfl⟩ := hrel
    by_cases hgo : t < len3 ∧ i < n ∧ j < m
    · obtain ⟨ht1, hi1, hj1⟩ := hgo
      obtain ⟨b3, o3, rfl, _, hc3⟩ := row_at RW.out (by omega)
      have c3 := hc3 t (by have := HL3.out; omega)
      obtain ⟨x, hx⟩ : ∃ x, la[i]? = some x := ⟨la[i]'(by have := HN.out; omega), List.getElem?_eq_getElem _⟩
      obtain ⟨y, hy⟩ : ∃ y, lb[j]? = some y := ⟨lb[j]'(by have := HM.out; omega), List.getElem?_eq_getElem _⟩
      obtain ⟨ga, oa, rfl, hga, c1⟩ := StAt.get HA.out hx
      obtain ⟨gb, ob, rfl, hgb, c2⟩ := StAt.get HB.out hy
      have u0 : (t : Int) < (len3 : Int) := by omega
      have u1 : (i : Int) < (n : Int) := by omega
      have u2 : (j : Int) < (m : Int) := by omega
      have u3 : (0 : Int) ≤ (t : Int) := by omega
      have u4 : (0 : Int) ≤ (i : Int) := by omega
      have u5 : (0 : Int) ≤ (j : Int) := by omega
      have hkb : k ≤ 30 := by
        obtain ⟨c, h1, _, h3⟩ := HK.out
        have := h1.length_le
        rw [List.length_take] at this
        omega
      have rt : IntKind.i64.wrap ((t : Int) + 1) = (t : Int) + 1 := IntWalk.i64_in _ (by omega)
      have ri : IntKind.i64.wrap ((i : Int) + 1) = (i : Int) + 1 := IntWalk.i64_in _ (by omega)
      have rj : IntKind.i64.wrap ((j : Int) + 1) = (j : Int) + 1 := IntWalk.i64_in _ (by omega)
      have rk : IntKind.i64.wrap ((k : Int) + 1) = (k : Int) + 1 := IntWalk.i64_in _ (by omega)
      have HKM : Hid (x = y → Kp la lb (i + 1) (j + 1) (k + 1)) := Lib.hid (fun e => keep_more HK.out hx (by rw [e]; exact hy))
      have HKL : Hid (Kp la lb (i + 1) j k) := Lib.hid (keep_left HK.out)
      have HKR : Hid (Kp la lb i (j + 1) k) := Lib.hid (keep_right HK.out)
      obtain ⟨z, hz⟩ : ∃ z, us.getD t 0 = z := ⟨_, rfl⟩
      rw [hz] at c3
      have PZ := Lib.hid (PT.out z)
      have hd0 := Int.emod_nonneg z (show (4 : Int) ≠ 0 by omega)
      have hd1 := Int.emod_lt_of_pos z (show (0 : Int) < 4 by omega)
      obtain ⟨d, hd⟩ : ∃ d, z % 4 = d := ⟨_, rfl⟩
      rw [hd] at PZ hd0 hd1
      clear hz hd hc3 hx hy
      go_wp2_with fail
      refine (PZ.out _).mono ?_
      rintro e w' ⟨rfl, rfl⟩
      have hd4 : d = 0 ∨ d = 1 ∨ d = 2 ∨ d = 3 := by omega
      clear hd0 hd1
      by_cases hxy : x = y
      · have HQ := (same_iff x y).2 hxy
        have HKX := Lib.hid (HKM.out hxy)
        clear hxy HKM HK
        rcases hd4 with rfl | rfl | rfl | rfl
        · go_wp2_with fail
          go_quiet (fail)
          go_wp2_with fail
          go_roundw
          case rel => exact ⟨k + 1, i + 1, j + 1, t + 1, by omega, by omega, by omega, by first | rfl | go_num, by first | rfl | go_num, by first | rfl | go_num, by first | rfl | go_num, HKX, _, rfl⟩
          case measure => simp only [intOf]; omega
        · go_wp2_with fail
          go_quiet (fail)
          go_wp2_with fail
          go_roundw
          case rel => exact ⟨k + 1, i + 1, j + 1, t + 1, by omega, by omega, by omega, by first | rfl | go_num, by first | rfl | go_num, by first | rfl | go_num, by first | rfl | go_num, HKX, _, rfl⟩
          case measure => simp only [intOf]; omega
        · go_wp2_with fail
          go_quiet (fail)
          go_wp2_with fail
          go_roundw
          case rel => exact ⟨k, i + 1, j, t + 1, by omega, by omega, by omega, by first | rfl | go_num, by first | rfl | go_num, by first | rfl | go_num, by first | rfl | go_num, HKL, _, rfl⟩
          case measure => simp only [intOf]; omega
        · go_wp2_with fail
          go_quiet (fail)
          go_wp2_with fail
          go_roundw
          case rel => exact ⟨k, i, j + 1, t + 1, by omega, by omega, by omega, by first | rfl | go_num, by first | rfl | go_num, by first | rfl | go_num, by first | rfl | go_num, HKR, _, rfl⟩
          case measure => simp only [intOf]; omega
      · have HQ := same_not hxy
        clear hxy HKM HK
        rcases hd4 with rfl | rfl | rfl | rfl
        · go_wp2_with fail
          go_quiet (fail)
          go_wp2_with fail
          go_roundw
          case rel => exact ⟨k, i + 1, j, t + 1, by omega, by omega, by omega, by first | rfl | go_num, by first | rfl | go_num, by first | rfl | go_num, by first | rfl | go_num, HKL, _, rfl⟩
          case measure => simp only [intOf]; omega
        · go_wp2_with fail
          go_quiet (fail)
          go_wp2_with fail
          go_roundw
          case rel => exact ⟨k, i, j + 1, t + 1, by omega, by omega, by omega, by first | rfl | go_num, by first | rfl | go_num, by first | rfl | go_num, by first | rfl | go_num, HKR, _, rfl⟩
          case measure => simp only [intOf]; omega
        · go_wp2_with fail
          go_quiet (fail)
          go_wp2_with fail
          go_roundw
          case rel => exact ⟨k, i + 1, j, t + 1, by omega, by omega, by omega, by first | rfl | go_num, by first | rfl | go_num, by first | rfl | go_num, by first | rfl | go_num, HKL, _, rfl⟩
          case measure => simp only [intOf]; omega
        · go_wp2_with fail
          go_quiet (fail)
          go_wp2_with fail
          go_roundw
          case rel => exact ⟨k, i, j + 1, t + 1, by omega, by omega, by omega, by first | rfl | go_num, by first | rfl | go_num, by first | rfl | go_num, by first | rfl | go_num, HKR, _, rfl⟩
          case measure => simp only [intOf]; omega
    · have hq : (¬ (t : Int) < (len3 : Int)) ∨ ((t : Int) < (len3 : Int) ∧ ¬ (i : Int) < (n : Int)) ∨ ((t : Int) < (len3 : Int) ∧ (i : Int) < (n : Int) ∧ ¬ (j : Int) < (m : Int)) := by omega
      have hend := keep_end HK.out
      have hce := cost_eq la lb
      rw [HN.out, HM.out] at hce
      have KQ := Lib.hid (K1.out q)
      have BQ := Lib.hid (bstep B2.out (bdrewN (Below.refl _ _) q))
      obtain ⟨c, hc⟩ : ∃ c, cost la lb = c := ⟨_, rfl⟩
      rw [hc] at hce KQ
      generalize lcs la lb = L at *
      have q0 : decide ((c : Int) ≥ 0) = true := decide_eq_true (by omega)
      have r1 : IntKind.i64.wrap ((n : Int) + (m : Int)) = (n : Int) + (m : Int) := IntWalk.i64_in _ (by omega)
      have r2 : IntKind.i64.wrap (2 * (k : Int)) = 2 * (k : Int) := IntWalk.i64_in _ (by omega)
      have r3 : IntKind.i64.wrap ((n : Int) + (m : Int) - 2 * (k : Int)) = (n : Int) + (m : Int) - 2 * (k : Int) := IntWalk.i64_in _ (by omega)
      have r4 : (c : Int) ≤ (n : Int) + (m : Int) - 2 * (k : Int) := by omega
      have r5 : decide ((c : Int) ≤ (n : Int) + (m : Int) - 2 * (k : Int)) = true := decide_eq_true r4
      clear hgo HK hc hend hce K1 PT
      rcases hq with q1 | ⟨q1, q2⟩ | ⟨q1, q2, q3⟩
      all_goals
        go_wp2_with fail
        refine KQ.out.mono ?_
        rintro e w5 ⟨rfl, hb5⟩
        have B5 := Lib.hid (bstep BQ.out hb5)
        clear hb5
        go_wp2_with fail
        go_ret
        exact ⟨by first | rfl | (simp; done) | (simp; omega), B5.out⟩
end Go.Proofs.Ytcknmaimkodaeaa.DiffK
