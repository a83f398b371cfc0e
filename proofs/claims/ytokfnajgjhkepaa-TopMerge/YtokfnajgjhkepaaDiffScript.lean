/-
  Package diff: script.
-/
import Derived.Test.YtokfnajgjhkepaaDiffCosts
import Derived.Test.YtokfnajgjhkepaaDiffExtend
namespace Go.Proofs.Ytokfnajgjhkepaa.DiffP
open Go.RowKit Kit LineM StrM EditM DiffM DiffA NumR DiffR HistM

/-- the steps that are said so far, and what is left of the two lists -/
structure St (la lb : List ByteArray) (w1 : World) (i j : Nat) (vs : Value) (wr : World) : Prop where
  is : ∃ done, RO 2 pc w1 (comb done) vs wr ∧ (done = [] → vs = .slice none 0 0) ∧ kinds la lb = done ++ kinds (la.drop i) (lb.drop j)
theorem St.next {la lb : List ByteArray} {w1 W W' : World} {i j : Nat} {vs : Value} (h : St la lb w1 i j vs W) (hb : Below W.heap.size W W') : St la lb w1 i j vs W' := by
  obtain ⟨done, h1, h2, h3⟩ := h.is
  exact ⟨done, h1.next hb, h2, h3⟩
theorem St.bel {la lb : List ByteArray} {w1 W : World} {i j : Nat} {vs : Value} (h : St la lb w1 i j vs W) : Below w1.heap.size w1 W := by
  obtain ⟨done, h1, h2, h3⟩ := h.is
  exact h1.bel
def SxPost (la lb : List ByteArray) (w1 : World) (i j : Nat) (e : Ending) (w' : World) : Prop := ∃ v, e = .returned v ∧ St la lb w1 i j v w'
theorem St.step {la lb : List ByteArray} {w1 W : World} {i j : Nat} {vs : Value} (h : St la lb w1 i j vs W) (hn : la.length ≤ 80) (hm : lb.length ≤ 80) (z : Int) (k i' j' : Nat) (hz : z = (k : Int)) (hk : kinds (la.drop i) (lb.drop j) = k :: kinds (la.drop i') (lb.drop j')) :
    Calls Try.prog 41 #[vs, .int .i64 z] W (SxPost la lb w1 i' j') := by
  subst hz
  obtain ⟨done, h1, h2, h3⟩ := h.is
  have h4 : kinds la lb = (done ++ [k]) ++ kinds (la.drop i') (lb.drop j') := by rw [h3, hk, List.append_assoc]; rfl
  have hlen : done.length ≤ 160 := by
    have h5 := (kinds_scr la lb).counts
    have h6 : (kinds la lb).length = done.length + (kinds (la.drop i) (lb.drop j)).length := by rw [h3, List.length_append]
    omega
  rcases List.eq_nil_or_concat done with hd | ⟨D, q, hd⟩
  · have hv := h2 hd
    rw [hd] at h1 h4
    rw [hv] at h1 ⊢
    refine (extend_nil w1 W k h1).mono ?_
    rintro e w' ⟨v', rfl, hro⟩
    refine ⟨v', rfl, [] ++ [k], ?_, fun hh => by simp at hh, h4⟩
    rw [comb_snoc]; exact hro
  · rw [List.concat_eq_append] at hd
    obtain ⟨l, c, hl, hc⟩ := comb_last D q
    rw [← hd] at hl
    have hex := (comb_all done).2
    have hrl := runs_len (comb_all done).1
    have hnl := ex_len_le (comb done) (q, c) (by rw [hl]; simp)
    rw [hex] at hrl hnl
    rw [hl] at hrl
    simp only [List.length_append, List.length_singleton] at hrl
    dsimp only at hnl
    rw [hl] at h1
    refine (extend_more w1 W l q c k vs h1 (by omega) (by omega)).mono ?_
    rintro e w' ⟨v', rfl, hro⟩
    refine ⟨v', rfl, done ++ [k], ?_, fun hh => by simp at hh, h4⟩
    rw [comb_snoc, hl]; exact hro
theorem kinds_cost {x y : ByteArray} {a b : List ByteArray} (h : x ≠ y) : kinds (x :: a) (y :: b) = if cost (x :: a) (y :: b) = 1 + cost a (y :: b) then 2 :: kinds a (y :: b) else 3 :: kinds (x :: a) b := by
  have h1 := cost_eq (x :: a) (y :: b)
  have h2 := cost_eq a (y :: b)
  simp only [List.length_cons] at h1 h2
  by_cases hl : lcs a (y :: b) = lcs (x :: a) (y :: b)
  · rw [if_pos (by omega), kinds_less h hl]
  · rw [if_neg (by omega), kinds_more h hl]
set_option maxRecDepth 100000 in
set_option maxHeartbeats 8000000 in
theorem script (aa : Option Addr) (ca : Nat) (la : List ByteArray) (ab : Option Addr) (cb : Nat) (lb : List ByteArray) (w : World) (ha : StAt w aa la) (hb : StAt w ab lb) (hna : la.length ≤ 80) (hnb : lb.length ≤ 80) :
    Calls Try.prog 34 #[.slice aa la.length ca, .slice ab lb.length cb] w (XtPost w (comb (kinds la lb))) := by
  have CS := Lib.hid (costs aa ca la ab cb lb w ha hb hna hnb)
  have HA := Lib.hid ha
  have HB := Lib.hid hb
  have HLA := Lib.hid hna
  have HLB := Lib.hid hnb
  obtain ⟨n, hln⟩ : ∃ n, la.length = n := ⟨_, rfl⟩
  obtain ⟨m, hlm⟩ : ∃ m, lb.length = m := ⟨_, rfl⟩
  have HN := Lib.hid hln
  have HM := Lib.hid hlm
  rw [hln] at hna CS ⊢
  rw [hlm] at hnb CS ⊢
  clear ha hb hln hlm
  go_enter Try.func34, Try.ntmps34
  go_wp2_with fail
  refine CS.out.mono ?_
  rintro e w1 ⟨tb, rb, d, rfl, htab, hd⟩
  have HT0 := Lib.hid htab
  have HD := Lib.hid hd
  clear htab hd CS
  go_wp2_with fail
  go_loopw [5, 7, 8] (fun vs vi vj wr => ∃ i j : Nat, i ≤ n ∧ j ≤ m ∧ vi = .int .i64 (i : Int) ∧ vj = .int .i64 (j : Int) ∧ Hid (St la lb w1 i j vs wr)) (fun _ vi vj _ => (n - (intOf vi).toNat) + (m - (intOf vj).toNat))
  case atStart => exact ⟨0, 0, by omega, by omega, rfl, rfl, Lib.hid ⟨[], RO.nil _, fun _ => rfl, by simp⟩⟩
  case round =>
    obtain ⟨i, j, hin, hjm, rfl, rfl, HS⟩ := hrel
    by_cases hi1 : i < n
    · obtain ⟨x, hx⟩ : ∃ x, la[i]? = some x := ⟨la[i]'(by have := HN.out; omega), List.getElem?_eq_getElem _⟩
      have HDX := Lib.hid (drop_at hx)
      obtain ⟨ga, oa, rfl, hga, c1⟩ := StAt.get (HA.out.next (bstep HT0.out.bel HS.out.bel)) hx
      have y0 : (0 : Int) ≤ (i : Int) := by omega
      have y1 : (i : Int) < (n : Int) := by omega
      have y2 : (i : Int) < ((n + 1 : Nat) : Int) := by omega
      have y3 : (i : Int) + 1 < ((n + 1 : Nat) : Int) := by omega
      have y4 : (0 : Int) ≤ (i : Int) + 1 := by omega
      have y5 : (j : Int) < ((m + 1 : Nat) : Int) := by omega
      have rii : IntKind.i64.wrap ((i : Int) + 1) = (i : Int) + 1 := IntWalk.i64_in _ (by omega)
      have rjj : IntKind.i64.wrap ((j : Int) + 1) = (j : Int) + 1 := IntWalk.i64_in _ (by omega)
      clear hx
      have hb8 := cost_bound (la.drop (i + 1)) (lb.drop j)
      rw [List.length_drop, List.length_drop, HN.out, HM.out, ← HD.out (i + 1) j (by omega) hjm] at hb8
      have rD : IntKind.i64.wrap (1 + (d (i + 1) j : Int)) = 1 + (d (i + 1) j : Int) := IntWalk.i64_in _ (by omega)
      by_cases hj1 : j < m
      · obtain ⟨y, hy⟩ : ∃ y, lb[j]? = some y := ⟨lb[j]'(by have := HM.out; omega), List.getElem?_eq_getElem _⟩
        have HDY := Lib.hid (drop_at hy)
        obtain ⟨gb, ob, rfl, hgb, c2⟩ := StAt.get (HB.out.next (bstep HT0.out.bel HS.out.bel)) hy
        have y6 : (0 : Int) ≤ (j : Int) := by omega
        have y7 : (j : Int) < (m : Int) := by omega
        clear hy
        by_cases hxy : x = y
        · have HQ := (same_iff x y).2 hxy
          have HK : Hid (kinds (la.drop i) (lb.drop j) = 1 :: kinds (la.drop (i + 1)) (lb.drop (j + 1))) := Lib.hid (by rw [HDX.out, HDY.out, hxy, kinds_same])
          clear HDX HDY hxy rD hb8 HD
          go_wp2_with fail
          go_quiet (fail)
          have HS2 := Lib.hid (HS.out.next (bdrewN (Below.refl _ _) nq))
          generalize wr.drewN nq = w4 at *
          clear HS
          have EX := Lib.hid (HS2.out.step HLA.out HLB.out 1 1 (i + 1) (j + 1) rfl HK.out)
          clear HS2
          go_wp2_with fail
          refine EX.out.mono ?_
          rintro e w6 ⟨v6, rfl, hs6⟩
          have HS6 := Lib.hid hs6
          clear hs6 EX
          go_wp2_with fail
          go_roundw
          case rel => exact ⟨i + 1, j + 1, by omega, by omega, by first | rfl | go_num, by first | rfl | go_num, HS6⟩
          case measure => simp only [intOf]; omega
        · have HQ := same_not hxy
          have hkc := kinds_cost hxy (a := la.drop (i + 1)) (b := lb.drop (j + 1))
          rw [← HDX.out, ← HDY.out, ← HD.out i j hin hjm, ← HD.out (i + 1) j (by omega) hjm] at hkc
          have HKC := Lib.hid hkc
          clear hkc HDX HDY hxy HD
          by_cases hD : d i j = 1 + d (i + 1) j
          · have HK : Hid (kinds (la.drop i) (lb.drop j) = 2 :: kinds (la.drop (i + 1)) (lb.drop j)) := Lib.hid (by rw [HKC.out, if_pos hD])
            have q1 : (d i j : Int) ≤ 1 + (d (i + 1) j : Int) := by omega
            have q2 : 1 + (d (i + 1) j : Int) ≤ (d i j : Int) := by omega
            clear hD HKC
            go_wp2_with fail
            go_quiet (fail)
            have HS2 := Lib.hid (HS.out.next (bdrewN (Below.refl _ _) nq))
            generalize wr.drewN nq = w4 at *
            have HT2 := Lib.hid (HT0.out.next HS2.out.bel)
            have t0 := HT2.out.row i (Nat.zero_le _) hin
            have t1 := HT2.out.row (i + 1) (Nat.zero_le _) (by omega)
            have s3 := HT2.out.cell i j (Nat.zero_le _) hin hjm
            have s4 := HT2.out.cell (i + 1) j (Nat.zero_le _) (by omega) hjm
            clear HT2 HS
            generalize rb i = ri0 at *
            generalize rb (i + 1) = ri1 at *
            generalize d i j = D0 at *
            generalize d (i + 1) j = D1 at *
            go_wp2_with fail
            go_quiet (fail)
            have HS3 := Lib.hid (HS2.out.next (bdrewN (Below.refl _ _) nq))
            generalize w4.drewN nq = w5 at *
            clear HS2
            have EX := Lib.hid (HS3.out.step HLA.out HLB.out 2 2 (i + 1) (j) rfl HK.out)
            clear HS3
            go_wp2_with fail
            refine EX.out.mono ?_
            rintro e w6 ⟨v6, rfl, hs6⟩
            have HS6 := Lib.hid hs6
            clear hs6 EX
            go_wp2_with fail
            go_roundw
            case rel => exact ⟨i + 1, j, by omega, by omega, by first | rfl | go_num, by first | rfl | go_num, HS6⟩
            case measure => simp only [intOf]; omega
          · have HK : Hid (kinds (la.drop i) (lb.drop j) = 3 :: kinds (la.drop i) (lb.drop (j + 1))) := Lib.hid (by rw [HKC.out, if_neg hD])
            have q1 : ¬ (d i j : Int) = 1 + (d (i + 1) j : Int) := by omega
            have q2 : decide ((d i j : Int) = 1 + (d (i + 1) j : Int)) = false := decide_eq_false q1
            clear hD HKC
            go_wp2_with fail
            go_quiet (fail)
            have HS2 := Lib.hid (HS.out.next (bdrewN (Below.refl _ _) nq))
            generalize wr.drewN nq = w4 at *
            have HT2 := Lib.hid (HT0.out.next HS2.out.bel)
            have t0 := HT2.out.row i (Nat.zero_le _) hin
            have t1 := HT2.out.row (i + 1) (Nat.zero_le _) (by omega)
            have s3 := HT2.out.cell i j (Nat.zero_le _) hin hjm
            have s4 := HT2.out.cell (i + 1) j (Nat.zero_le _) (by omega) hjm
            clear HT2 HS
            generalize rb i = ri0 at *
            generalize rb (i + 1) = ri1 at *
            generalize d i j = D0 at *
            generalize d (i + 1) j = D1 at *
            go_wp2_with fail
            go_quiet (fail)
            have HS3 := Lib.hid (HS2.out.next (bdrewN (Below.refl _ _) nq))
            generalize w4.drewN nq = w5 at *
            clear HS2
            have EX := Lib.hid (HS3.out.step HLA.out HLB.out 3 3 (i) (j + 1) rfl HK.out)
            clear HS3
            go_wp2_with fail
            refine EX.out.mono ?_
            rintro e w6 ⟨v6, rfl, hs6⟩
            have HS6 := Lib.hid hs6
            clear hs6 EX
            go_wp2_with fail
            go_roundw
            case rel => exact ⟨i, j + 1, by omega, by omega, by first | rfl | go_num, by first | rfl | go_num, HS6⟩
            case measure => simp only [intOf]; omega
      · have y7 : ¬ (j : Int) < (m : Int) := by omega
        have hnil : lb.drop j = [] := List.drop_of_length_le (by have := HM.out; omega)
        have HK : Hid (kinds (la.drop i) (lb.drop j) = 2 :: kinds (la.drop (i + 1)) (lb.drop j)) := Lib.hid (by rw [HDX.out, hnil, kinds_drop])
        have e1 := HD.out i j hin hjm
        have e2 := HD.out (i + 1) j (by omega) hjm
        rw [hnil, cost_nil_right, List.length_drop, HN.out] at e1 e2
        have q1 : (d i j : Int) ≤ 1 + (d (i + 1) j : Int) := by omega
        have q2 : 1 + (d (i + 1) j : Int) ≤ (d i j : Int) := by omega
        have q0 : (0 : Int) ≤ (j : Int) := by omega
        clear e1 e2 hnil HD HDX
        go_wp2_with fail
        go_quiet (fail)
        have HS2 := Lib.hid (HS.out.next (bdrewN (Below.refl _ _) nq))
        generalize wr.drewN nq = w4 at *
        have HT2 := Lib.hid (HT0.out.next HS2.out.bel)
        have t0 := HT2.out.row i (Nat.zero_le _) hin
        have t1 := HT2.out.row (i + 1) (Nat.zero_le _) (by omega)
        have s3 := HT2.out.cell i j (Nat.zero_le _) hin hjm
        have s4 := HT2.out.cell (i + 1) j (Nat.zero_le _) (by omega) hjm
        clear HT2 HS
        generalize rb i = ri0 at *
        generalize rb (i + 1) = ri1 at *
        generalize d i j = D0 at *
        generalize d (i + 1) j = D1 at *
        go_wp2_with fail
        go_quiet (fail)
        have HS3 := Lib.hid (HS2.out.next (bdrewN (Below.refl _ _) nq))
        generalize w4.drewN nq = w5 at *
        clear HS2
        have EX := Lib.hid (HS3.out.step HLA.out HLB.out 2 2 (i + 1) (j) rfl HK.out)
        clear HS3
        go_wp2_with fail
        refine EX.out.mono ?_
        rintro e w6 ⟨v6, rfl, hs6⟩
        have HS6 := Lib.hid hs6
        clear hs6 EX
        go_wp2_with fail
        go_roundw
        case rel => exact ⟨i + 1, j, by omega, by omega, by first | rfl | go_num, by first | rfl | go_num, HS6⟩
        case measure => simp only [intOf]; omega
    · by_cases hj1 : j < m
      · have hnil : la.drop i = [] := List.drop_of_length_le (by have := HN.out; omega)
        obtain ⟨y, hy⟩ : ∃ y, lb[j]? = some y := ⟨lb[j]'(by have := HM.out; omega), List.getElem?_eq_getElem _⟩
        have HK : Hid (kinds (la.drop i) (lb.drop j) = 3 :: kinds (la.drop i) (lb.drop (j + 1))) := Lib.hid (by rw [hnil, drop_at hy, kinds_take])
        have y1 : ¬ (i : Int) < (n : Int) := by omega
        have y7 : (j : Int) < (m : Int) := by omega
        have rjj : IntKind.i64.wrap ((j : Int) + 1) = (j : Int) + 1 := IntWalk.i64_in _ (by omega)
        clear hnil hy HD
        go_wp2_with fail
        go_quiet (fail)
        have HS2 := Lib.hid (HS.out.next (bdrewN (Below.refl _ _) nq))
        generalize wr.drewN nq = w4 at *
        clear HS
        go_wp2_with fail
        go_quiet (fail)
        have HS3 := Lib.hid (HS2.out.next (bdrewN (Below.refl _ _) nq))
        generalize w4.drewN nq = w5 at *
        clear HS2
        have EX := Lib.hid (HS3.out.step HLA.out HLB.out 3 3 (i) (j + 1) rfl HK.out)
        clear HS3
        go_wp2_with fail
        refine EX.out.mono ?_
        rintro e w6 ⟨v6, rfl, hs6⟩
        have HS6 := Lib.hid hs6
        clear hs6 EX
        go_wp2_with fail
        go_roundw
        case rel => exact ⟨i, j + 1, by omega, by omega, by first | rfl | go_num, by first | rfl | go_num, HS6⟩
        case measure => simp only [intOf]; omega
      · have y1 : ¬ (i : Int) < (n : Int) := by omega
        have y7 : ¬ (j : Int) < (m : Int) := by omega
        have FIN : Hid (XtPost w (comb (kinds la lb)) (.returned u5) wr) := Lib.hid (by
          obtain ⟨done, h1, _, h3⟩ := HS.out.is
          have e1 : la.drop i = [] := List.drop_of_length_le (by have := HN.out; omega)
          have e2 : lb.drop j = [] := List.drop_of_length_le (by have := HM.out; omega)
          rw [e1, e2, kinds_nil, List.append_nil] at h3
          rw [h3]
          exact ⟨_, rfl, h1.ahead HT0.out.bel⟩)
        clear HS
        go_wp2_with fail
        go_ret
        exact FIN.out
end Go.Proofs.Ytokfnajgjhkepaa.DiffP
