/-
  Package diff: costs (the table).
-/
import Derived.Test.YtokfnajgjhkepaaDiffTab
import Derived.Test.YtokfnajgjhkepaaRefCommon
import Derived.BigQuiet
import Derived.BigRegion
namespace Go.Proofs.Ytokfnajgjhkepaa.DiffP
open Go.RowKit Kit LineM StrM EditM DiffM DiffA NumR DiffR

theorem infoRow : (Try.prog.info? 28).map (fun i => (i.zero, i.size, i.bytes)) = some (some (.slice none 0 0), 1, 24) := by kernel_rfl
/-- the table of costs -/
def CsPost (la lb : List ByteArray) (n m : Nat) (w : World) (e : Ending) (w' : World) : Prop := ∃ tb rb d, e = .returned (.slice (some ⟨tb, 0, none⟩) (n + 1) (n + 1)) ∧ Tab w tb n m 0 rb d w' ∧ ∀ i j, i ≤ n → j ≤ m → d i j = cost (la.drop i) (lb.drop j)
/-- what is said of the table: all rows below i, and of the row i all from j on -/
structure Cs (la lb : List ByteArray) (w : World) (tb n m i j : Nat) (W : World) : Prop where
  is : ∃ rb d, Tab w tb n m i rb d W ∧ (∀ a b, i < a → a ≤ n → b ≤ m → d a b = cost (la.drop a) (lb.drop b)) ∧ ∀ b, j ≤ b → b ≤ m → d i b = cost (la.drop i) (lb.drop b)
theorem Cs.next {la lb : List ByteArray} {w W W' : World} {tb n m i j : Nat} (h : Cs la lb w tb n m i j W) (hb : Below W.heap.size W W') : Cs la lb w tb n m i j W' := by
  obtain ⟨rb, d, h1, h2, h3⟩ := h.is
  exact ⟨rb, d, h1.next hb, h2, h3⟩
theorem Cs.put {la lb : List ByteArray} {w W : World} {tb n m i j M : Nat} {rb : Nat → Nat} {d : Nat → Nat → Nat} (h : Tab w tb n m i rb d W) (h1 : ∀ a b, i < a → a ≤ n → b ≤ m → d a b = cost (la.drop a) (lb.drop b)) (h2 : ∀ b, j + 1 ≤ b → b ≤ m → d i b = cost (la.drop i) (lb.drop b)) (hi : i ≤ n) (hj : j ≤ m) (hM : M = cost (la.drop i) (lb.drop j)) : Cs la lb w tb n m i j (W.setCell ⟨rb i, j, none⟩ (.int .i64 (M : Int))) := by
  refine ⟨rb, _, h.set (Nat.le_refl i) hi hj M, fun a b h3 h4 h5 => ?_, fun b h3 h4 => ?_⟩
  · rw [if_neg (by omega)]; exact h1 a b h3 h4 h5
  · by_cases e : b = j
    · rw [if_pos ⟨rfl, e⟩, e, hM]
    · rw [if_neg (fun h => e h.2)]; exact h2 b (by omega) h4
set_option maxRecDepth 100000 in
set_option maxHeartbeats 8000000 in
theorem costs (aa : Option Addr) (ca : Nat) (la : List ByteArray) (ab : Option Addr) (cb : Nat) (lb : List ByteArray) (w : World) (ha : StAt w aa la) (hb : StAt w ab lb) (hna : la.length ≤ 80) (hnb : lb.length ≤ 80) :
    Calls Try.prog 33 #[.slice aa la.length ca, .slice ab lb.length cb] w (CsPost la lb la.length lb.length w) := by
  obtain ⟨i0, hi, hz0, hz1, hz2⟩ := info_parts infoInt
  have HI := Lib.hid (And.intro hi (And.intro hz0 (And.intro hz1 hz2)))
  clear hi hz0 hz1 hz2
  obtain ⟨j0, hi, hz0, hz1, hz2⟩ := info_parts infoRow
  have HJ := Lib.hid (And.intro hi (And.intro hz0 (And.intro hz1 hz2)))
  clear hi hz0 hz1 hz2
  have HA := Lib.hid ha
  have HB := Lib.hid hb
  obtain ⟨n, hln⟩ : ∃ n, la.length = n := ⟨_, rfl⟩
  obtain ⟨m, hlm⟩ : ∃ m, lb.length = m := ⟨_, rfl⟩
  have HN := Lib.hid hln
  have HM := Lib.hid hlm
  rw [hln] at hna ⊢
  rw [hlm] at hnb ⊢
  clear ha hb hln hlm
  have r0 : IntKind.i64.wrap ((n : Int) + 1) = ((n + 1 : Nat) : Int) := by rw [show ((n : Int) + 1) = ((n + 1 : Nat) : Int) by omega]; exact IntWalk.i64_in _ (by omega)
  have r1 : IntKind.i64.wrap ((m : Int) + 1) = ((m + 1 : Nat) : Int) := by rw [show ((m : Int) + 1) = ((m + 1 : Nat) : Int) by omega]; exact IntWalk.i64_in _ (by omega)
  go_enter Try.func33, Try.ntmps33
  go_wp2_with (refine wpList_make_full _ rfl _ _ 72 rfl w.heap.size 28 j0 _ 1 Try.underlying72 HJ.out.1 HJ.out.2.1 HJ.out.2.2.1 .i64 .i64 _ _ (n + 1) rfl rfl rfl rfl (by rw [HJ.out.2.2.2]; omega) (by unfold maxLen; omega) (by simp) ?_; intro w1 hown hgrow)
  have S0 : Hid (Tab w w.heap.size n m (n + 1) (fun _ => 0) (fun _ _ => 0) w1) := Lib.hid (Tab.made (Below.refl _ _) (grows_below hgrow) hown)
  clear hown hgrow
  go_loopw [6] (fun vi wr => ∃ x : Int, -1 ≤ x ∧ x ≤ (n : Int) ∧ vi = .int .i64 x ∧ Hid (∃ rb d, Tab w w.heap.size n m (x + 1).toNat rb d wr ∧ ∀ a b : Nat, x < (a : Int) → a ≤ n → b ≤ m → d a b = cost (la.drop a) (lb.drop b))) (fun vi _ => (intOf vi + 1).toNat)
  case atStart => exact ⟨n, by omega, by omega, rfl, Lib.hid ⟨_, _, by rw [show ((n : Int) + 1).toNat = n + 1 by omega]; exact S0.out, fun a b h1 h2 _ => by omega⟩⟩
  case round =>
    obtain ⟨x, hx1, hx2, rfl, HT⟩ := hrel
    clear S0
    by_cases hx : 0 ≤ x
    · obtain ⟨i, rfl⟩ := Int.eq_ofNat_of_zero_le hx
      have hin : i ≤ n := by omega
      obtain ⟨rb, d, htab, hd⟩ := HT.out
      rw [show ((i : Int) + 1).toNat = i + 1 by omega] at htab
      have HTB := Lib.hid htab
      have HD := Lib.hid hd
      clear HT htab hd hx1 hx2
      have hge : decide ((i : Int) ≥ 0) = true := decide_eq_true hx
      have f0 := HTB.out.free i hin
      obtain ⟨u0, f1⟩ := HTB.out.old i hin
      have f2 := HTB.out.lt
      have y0 : (i : Int) < ((n + 1 : Nat) : Int) := by omega
      have ri : IntKind.i64.wrap ((i : Int) - 1) = (i : Int) - 1 := IntWalk.i64_in _ (by omega)
      go_wp2_with (refine wpList_make_full _ rfl _ _ 28 rfl wr.heap.size 3 i0 _ 1 Try.underlying28 HI.out.1 HI.out.2.1 HI.out.2.2.1 .i64 .i64 _ _ (m + 1) rfl rfl rfl rfl (by rw [HI.out.2.2.2]; omega) (by unfold maxLen; omega) (by simp) ?_; intro w2 hown hgrow; have HB2 := Lib.hid (grows_below hgrow); have f3 := keep HB2.out f2 f1; have f4 : w2.frozen? ⟨w.heap.size, i, none⟩ = false := ((HB2.out).frozen (p := ⟨w.heap.size, i, none⟩) f2).trans f0; have f5 : w.heap.size < w2.heap.size := by have := HB2.out.size; omega)
      have S1 : Hid (Cs la lb w w.heap.size n m i (m + 1) (w2.setCell ⟨w.heap.size, i, none⟩ (.slice (some ⟨wr.heap.size, 0, none⟩) (m + 1) (m + 1)))) := Lib.hid ⟨_, _, HTB.out.newRow hin HB2.out hown, fun a b h1 h2 h3 => by rw [if_neg (by omega)]; exact HD.out a b (by omega) h2 h3, fun b h1 h2 => by omega⟩
      clear hown hgrow HTB HD f0 f1 f2 f3 f4 f5 HB2
      generalize (w2.setCell ⟨w.heap.size, i, none⟩ (.slice (some ⟨wr.heap.size, 0, none⟩) (m + 1) (m + 1))) = w3 at *
      go_loopw [7] (fun vj wx => ∃ y : Int, -1 ≤ y ∧ y ≤ (m : Int) ∧ vj = .int .i64 y ∧ Hid (Cs la lb w w.heap.size n m i (y + 1).toNat wx)) (fun vj _ => (intOf vj + 1).toNat)
      case atStart => exact ⟨m, by omega, by omega, rfl, by rw [show ((m : Int) + 1).toNat = m + 1 by omega]; exact S1⟩
      case round =>
        obtain ⟨y, hy1, hy2, rfl, HC⟩ := hrel
        clear S1
        by_cases hy : 0 ≤ y
        · obtain ⟨j, rfl⟩ := Int.eq_ofNat_of_zero_le hy
          have hjm : j ≤ m := by omega
          obtain ⟨rb, d, htab, hd1, hd2⟩ := HC.out.is
          rw [show ((j : Int) + 1).toNat = j + 1 by omega] at hd2
          have HT := Lib.hid htab
          have HD1 := Lib.hid hd1
          have HD2 := Lib.hid hd2
          have NXT : Hid (∀ W, Tab w w.heap.size n m i rb d W → ∀ M, M = cost (la.drop i) (lb.drop j) → Cs la lb w w.heap.size n m i j (W.setCell ⟨rb i, j, none⟩ (.int .i64 (M : Int)))) := Lib.hid (fun W hW M hM => Cs.put hW hd1 hd2 hin hjm hM)
          clear HC htab hd1 hd2 hy1 hy2
          have hge2 : decide ((j : Int) ≥ 0) = true := decide_eq_true hy
          have rj : IntKind.i64.wrap ((j : Int) - 1) = (j : Int) - 1 := IntWalk.i64_in _ (by omega)
          have y1 : (j : Int) < ((m + 1 : Nat) : Int) := by omega
          have hjt : ((j : Int) - 1 + 1).toNat = j := by omega
          by_cases hien : i = n
          · have t0 := HT.out.row i (Nat.le_refl _) hin
            have s0 := HT.out.cell i j (Nat.le_refl _) hin hjm
            have s1 := HT.out.rfree i j (Nat.le_refl _) hin hjm
            have s2 := (HT.out.rlow i (Nat.le_refl _) hin).2
            have hqe : (n : Int) ≤ (i : Int) := by omega
            have hqi : (i : Int) ≤ (n : Int) := by omega
            obtain ⟨M, hM⟩ : ∃ M, m = j + M := ⟨m - j, by omega⟩
            have rM : IntKind.i64.wrap ((m : Int) - (j : Int)) = (m : Int) - (j : Int) := IntWalk.i64_in _ (by omega)
            have hMi : Hid ((m : Int) - (j : Int) = (M : Int)) := Lib.hid (by omega)
            have HX := Lib.hid (NXT.out wr HT.out M (by
              have e1 : la.drop i = [] := List.drop_of_length_le (by have := HN.out; omega)
              have e2 := HM.out
              rw [e1, cost_nil_left, List.length_drop]; omega))
            clear hM NXT HT HD1 HD2 hien
            generalize rb i = ri0 at *
            generalize d i j = di0 at *
            go_wp2_with fail
            go_roundw
            case rel => exact ⟨(j : Int) - 1, by omega, by omega, rfl, by rw [hjt, hMi.out]; exact HX⟩
            case measure => simp only [intOf]; omega
          · have hqe : decide ((i : Int) = (n : Int)) = false := decide_eq_false (by omega)
            have hqe' : ¬ (i : Int) = (n : Int) := by omega
            have hi1 : i < n := by omega
            clear hien
            obtain ⟨x, hx⟩ : ∃ x, la[i]? = some x := ⟨la[i]'(by have := HN.out; omega), List.getElem?_eq_getElem _⟩
            by_cases hjem : j = m
            · have t0 := HT.out.row i (Nat.le_refl _) hin
              have s0 := HT.out.cell i j (Nat.le_refl _) hin hjm
              have s1 := HT.out.rfree i j (Nat.le_refl _) hin hjm
              have s2 := (HT.out.rlow i (Nat.le_refl _) hin).2
              have hqf : (m : Int) ≤ (j : Int) := by omega
              have hqj : (j : Int) ≤ (m : Int) := by omega
              obtain ⟨M, hM⟩ : ∃ M, n = i + M := ⟨n - i, by omega⟩
              have rM : IntKind.i64.wrap ((n : Int) - (i : Int)) = (n : Int) - (i : Int) := IntWalk.i64_in _ (by omega)
              have hMi : Hid ((n : Int) - (i : Int) = (M : Int)) := Lib.hid (by omega)
              have HX := Lib.hid (NXT.out wr HT.out M (by
                have e1 : lb.drop j = [] := List.drop_of_length_le (by have := HM.out; omega)
                have e2 := HN.out
                rw [e1, cost_nil_right, List.length_drop]; omega))
              clear hM NXT HT HD1 HD2 hjem hx
              generalize rb i = ri0 at *
              generalize d i j = di0 at *
              go_wp2_with fail
              go_roundw
              case rel => exact ⟨(j : Int) - 1, by omega, by omega, rfl, by rw [hjt, hMi.out]; exact HX⟩
              case measure => simp only [intOf]; omega
            · have hqf : decide ((j : Int) = (m : Int)) = false := decide_eq_false (by omega)
              have hqf' : ¬ (j : Int) = (m : Int) := by omega
              have hj1 : j < m := by omega
              clear hjem
              obtain ⟨y, hy'⟩ : ∃ y, lb[j]? = some y := ⟨lb[j]'(by have := HM.out; omega), List.getElem?_eq_getElem _⟩
              obtain ⟨ga, oa, rfl, hga, c1⟩ := StAt.get (HA.out.next HT.out.bel) hx
              obtain ⟨gb, ob, rfl, hgb, c2⟩ := StAt.get (HB.out.next HT.out.bel) hy'
              have y2 : (i : Int) < (n : Int) := by omega
              have y3 : (j : Int) < (m : Int) := by omega
              have y4 : (i : Int) + 1 < ((n + 1 : Nat) : Int) := by omega
              have y5 : (j : Int) + 1 < ((m + 1 : Nat) : Int) := by omega
              have y6 : (0 : Int) ≤ (i : Int) + 1 := by omega
              have y7 : (0 : Int) ≤ (j : Int) + 1 := by omega
              have rii : IntKind.i64.wrap ((i : Int) + 1) = (i : Int) + 1 := IntWalk.i64_in _ (by omega)
              have rjj : IntKind.i64.wrap ((j : Int) + 1) = (j : Int) + 1 := IntWalk.i64_in _ (by omega)
              have vA := HD1.out (i + 1) (j + 1) (by omega) (by omega) (by omega)
              have vB := HD1.out (i + 1) j (by omega) (by omega) (by omega)
              have vC := HD2.out (j + 1) (by omega) (by omega)
              have hbd := cost_bound (la.drop (i + 1)) (lb.drop j)
              have hbd2 := cost_bound (la.drop i) (lb.drop (j + 1))
              rw [List.length_drop, List.length_drop, HN.out, HM.out] at hbd hbd2
              rw [← vB] at hbd
              rw [← vC] at hbd2
              have hcs := cost_same x (la.drop (i + 1)) (lb.drop (j + 1))
              have hco := fun h => cost_other (x := x) (y := y) h (la.drop (i + 1)) (lb.drop (j + 1))
              rw [← drop_at hx, ← vA] at hcs
              rw [← drop_at hx, ← drop_at hy', ← vB, ← vC] at hco
              have HCO := Lib.hid hco
              have HDY := Lib.hid (drop_at hy')
              have HCS := Lib.hid hcs
              clear hx hy' vA vB vC hcs hco HD1 HD2
              by_cases hxy : x = y
              · have HQ := (same_iff x y).2 hxy
                have HVA : Hid (d (i + 1) (j + 1) = cost (la.drop i) (lb.drop j)) := Lib.hid (by rw [HDY.out, ← hxy]; exact HCS.out.symm)
                clear HCO HCS HDY hxy
                go_wp2_with fail
                go_quiet (fail)
                have HT2 := Lib.hid (HT.out.next (bdrewN (Below.refl _ _) nq))
                generalize wr.drewN nq = w4 at *
                have t0 := HT2.out.row i (Nat.le_refl _) hin
                have t1 := HT2.out.row (i + 1) (by omega) (by omega)
                have s0 := HT2.out.cell i j (Nat.le_refl _) hin hjm
                have s1 := HT2.out.rfree i j (Nat.le_refl _) hin hjm
                have s2 := (HT2.out.rlow i (Nat.le_refl _) hin).2
                have s3 := HT2.out.cell (i + 1) (j + 1) (by omega) (by omega) (by omega)
                have HX := Lib.hid (NXT.out w4 HT2.out _ HVA.out)
                clear HT NXT HVA HT2
                generalize rb i = ri0 at *
                generalize rb (i + 1) = ri1 at *
                generalize d i j = di0 at *
                generalize d (i + 1) (j + 1) = M at *
                go_wp2_with fail
                go_big_region
                have HX2 := Lib.hid (HX.out.next (Below.drew (Below.refl _ _)))
                go_wp2_with fail
                go_roundw
                case rel => exact ⟨(j : Int) - 1, by omega, by omega, rfl, by rw [hjt]; exact HX2⟩
                case measure => simp only [intOf]; omega
              · have HQ := same_not hxy
                have HVA : Hid (1 + min (d (i + 1) j) (d i (j + 1)) = cost (la.drop i) (lb.drop j)) := Lib.hid (by rw [HCO.out hxy])
                clear HCO HCS HDY hxy
                go_wp2_with fail
                go_quiet (fail)
                have HT2 := Lib.hid (HT.out.next (bdrewN (Below.refl _ _) nq))
                generalize wr.drewN nq = w4 at *
                have t0 := HT2.out.row i (Nat.le_refl _) hin
                have t1 := HT2.out.row (i + 1) (by omega) (by omega)
                have s0 := HT2.out.cell i j (Nat.le_refl _) hin hjm
                have s1 := HT2.out.rfree i j (Nat.le_refl _) hin hjm
                have s2 := (HT2.out.rlow i (Nat.le_refl _) hin).2
                have s3 := HT2.out.cell (i + 1) j (by omega) (by omega) (by omega)
                have s4 := HT2.out.cell i (j + 1) (by omega) (by omega) (by omega)
                have HX := Lib.hid (NXT.out w4 HT2.out _ HVA.out)
                clear HT NXT HVA HT2
                generalize rb i = ri0 at *
                generalize rb (i + 1) = ri1 at *
                generalize d i j = di0 at *
                generalize d (i + 1) j = M1 at *
                generalize d i (j + 1) = M2 at *
                have hmx : (if (M2 : Int) < (M1 : Int) then (M2 : Int) else (M1 : Int)) = ((min M1 M2 : Nat) : Int) := by split <;> omega
                have hmx2 : (if M2 < M1 then (M2 : Int) else (M1 : Int)) = ((min M1 M2 : Nat) : Int) := by split <;> omega
                obtain ⟨M, hM⟩ : ∃ M, min M1 M2 = M := ⟨_, rfl⟩
                have hM9 : M ≤ 160 := by omega
                rw [hM] at HX hmx hmx2
                have hc1 : ((1 + M : Nat) : Int) = 1 + (M : Int) := by omega
                rw [hc1] at HX
                clear hM hc1
                have rM : IntKind.i64.wrap (1 + (M : Int)) = 1 + (M : Int) := IntWalk.i64_in _ (by omega)
                go_wp2_with fail
                go_big_region
                have HX2 := Lib.hid (HX.out.next (Below.drew (Below.refl _ _)))
                go_wp2_with fail
                go_roundw
                case rel => exact ⟨(j : Int) - 1, by omega, by omega, rfl, by rw [hjt]; exact HX2⟩
                case measure => simp only [intOf]; omega
        · have hy0 : y = -1 := by omega
          subst hy0
          have hge2 : decide ((-1 : Int) ≥ 0) = false := rfl
          have HE : Hid (∃ rb d, Tab w w.heap.size n m i rb d wr ∧ ∀ a b : Nat, (i : Int) - 1 < (a : Int) → a ≤ n → b ≤ m → d a b = cost (la.drop a) (lb.drop b)) := Lib.hid (by
            obtain ⟨rb, d, h1, h2, h3⟩ := HC.out.is
            refine ⟨rb, d, h1, fun a b h4 h5 h6 => ?_⟩
            by_cases e : a = i
            · rw [e]; exact h3 b (by simp) h6
            · exact h2 a b (by omega) h5 h6)
          have hit : ((i : Int) - 1 + 1).toNat = i := by omega
          clear HC
          go_wp2_with fail
          go_roundw
          case rel => exact ⟨(i : Int) - 1, by omega, by omega, rfl, by rw [hit]; exact HE⟩
          case measure => simp only [intOf]; omega
    · have hx0 : x = -1 := by omega
      subst hx0
      have hge : decide ((-1 : Int) ≥ 0) = false := rfl
      have FIN : Hid (CsPost la lb n m w (.returned (.slice (some ⟨w.heap.size, 0, none⟩) (n + 1) (n + 1))) wr) := Lib.hid (by
        obtain ⟨rb, d, h1, h2⟩ := HT.out
        exact ⟨_, rb, d, rfl, h1, fun i j h3 h4 => h2 i j (by omega) h3 h4⟩)
      clear HT
      go_wp2_with fail
      go_ret
      exact FIN.out
end Go.Proofs.Ytokfnajgjhkepaa.DiffP
