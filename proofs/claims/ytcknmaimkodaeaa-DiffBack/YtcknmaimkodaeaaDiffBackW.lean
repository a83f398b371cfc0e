/-
  The law DiffBack, walked, where package diff keeps its contracts.
-/
import Derived.Test.YtcknmaimkodaeaaDiffMetricW
import Derived.Test.YtcknmaimkodaeaaAppendSK
import Derived.Test.YtcknmaimkodaeaaBackMath
namespace Go.Proofs.Ytcknmaimkodaeaa.DiffK
open Go.RowKit Kit Lift Txt LineM StrM DiffM DiffA DiffR DiffL

theorem steps_sci {W : World} {a : Option Addr} {R : List (Nat × Nat)} (h : SlAt 2 pc W a R) : SlAt 2 sci W a (DiffM.steps R) := by
  refine ⟨fun i o hi => ?_⟩
  unfold DiffM.steps at hi
  rw [List.getElem?_map] at hi
  cases hr : R[i]? with
  | none => rw [hr] at hi; simp at hi
  | some p =>
    rw [hr] at hi
    simp at hi
    subst hi
    exact h.cell i p hr
theorem pc_get {w : World} {a : Option Addr} {l : List (Nat × Nat)} (h : SlAt 2 pc w a l) {i : Nat} {p : Nat × Nat} (hi : l[i]? = some p) : ∃ g off, a = some ⟨g, off, none⟩ ∧ g < w.heap.size ∧ w.cell? ⟨g, off + i * 2, none⟩ = some (.int .i64 (p.1 : Int)) ∧ w.cell? ⟨g, off + i * 2 + 1, none⟩ = some (.int .i64 (p.2 : Int)) := by
  obtain ⟨g, off, e, hg, hc⟩ := h.cell i p hi
  refine ⟨g, off, e, hg, ?_, ?_⟩
  · have := hc 0 (by omega)
    simpa [pc] using this
  · have := hc 1 (by omega)
    simpa [pc] using this
/-- a part of a list of lines, read at its place -/
theorem part_at {W : World} {g off c m k : Nat} {l : List ByteArray} (h : StAt W (some ⟨g, off, none⟩) l) (hg : g < W.heap.size) (hk : m + k ≤ l.length) (hc : l.length ≤ c) : SlV 1 sc W (.slice (some ⟨g, off + m, none⟩) k (c - m)) ((l.drop m).take k) := by
  have hlen : ((l.drop m).take k).length = k := by rw [List.length_take, List.length_drop]; omega
  refine ⟨_, _, by rw [hlen], by rw [hlen]; omega, ?_, .inr ⟨g, off + m, rfl, hg⟩⟩
  have := SlAt.take (SlAt.drop h m) k
  simpa using this
set_option maxRecDepth 100000 in
set_option maxHeartbeats 8000000 in
theorem diffBack (P : DiffProg) (a0 : Option Addr) (len0 cap0 : Nat) (zs : List Int) (a1 : Option Addr) (len1 cap1 : Nat) (ys : List Int) (kd : Int) (w : World) (h0 : IsRow .i64 w a0 len0 cap0 zs) (h1 : IsRow .i64 w a1 len1 cap1 ys) {X : Prop} (_ : X) :
    Calls Try.prog 6 #[.slice a0 len0 cap0, .slice a1 len1 cap1, .int .i64 kd] w fun e w' => e = .returned (.bool true) ∧ Below w.heap.size w w' := by
  obtain ⟨i0, hi, hz0, hz1, hz2⟩ := info_parts infoStr
  have HI := Lib.hid (And.intro hi (And.intro hz0 (And.intro hz1 hz2)))
  clear hi hz0 hz1 hz2
  obtain ⟨hk1, hk8⟩ := kinds8 kd
  have PK := Lib.hid (fun W => picked kd 8 W (by omega) (by omega))
  obtain ⟨r, hr⟩ : ∃ r, kd % 8 = r := ⟨_, rfl⟩
  rw [hr] at hk1 hk8 PK
  clear hr
  have L0 := Lib.hid (fun W (hW : Below w.heap.size w W) => lines a0 len0 cap0 zs 40 (1 + r) W (kept h0 hW) (by omega) hk1 hk8)
  have L1 := Lib.hid (fun W (hW : Below w.heap.size w W) => lines a1 len1 cap1 ys 40 (1 + r) W (kept h1 hW) (by omega) hk1 hk8)
  have CO := Lib.hid (fun v1 v2 la lb W h1 h2 ha hb => costOf P v1 v2 la lb W h1 h2 ha hb)
  have ST := Lib.hid (fun v1 v2 la lb W h1 h2 hl => sameTexts v1 v2 la lb W h1 h2 hl)
  have PS := Lib.hid P.steps
  have PP := Lib.hid P.patch
  have r0 : IntKind.i64.wrap (1 + r) = 1 + r := IntWalk.i64_in _ (by omega)
  clear h0 h1 P
  go_enter Try.func6, Try.ntmps6
  go_wp2_with fail
  refine (PK.out _).mono ?_
  rintro e w' ⟨rfl, rfl⟩
  clear PK
  go_wp2_with fail
  refine (L0.out _ (Below.refl _ _)).mono ?_
  rintro e w1 ⟨v1, la, rfl, hs1, ho1⟩
  have B1 := Lib.hid hs1.bel
  have V1 := Lib.hid hs1.val
  have OA := Lib.hid (ho1.ok (by omega))
  have hla := ho1.len
  clear hs1 ho1 L0
  go_wp2_with fail
  refine (L1.out _ B1.out).mono ?_
  rintro e w2 ⟨v2, lb, rfl, hs2, ho2⟩
  have B2 := Lib.hid (bstep B1.out hs2.bel)
  have W1 := Lib.hid (V1.out.next hs2.bel)
  have W2 := Lib.hid hs2.val
  have OB := Lib.hid (ho2.ok (by omega))
  have hlb := ho2.len
  clear hs2 ho2 L1 V1 B1
  go_wp2_with (first
    | (at_builtin; refine wpList_copyV sc_len sc_one (by omega) rfl _ _ 22 rfl 9 i0 _ 16 Try.underlying22 HI.out.1 HI.out.2.1 HI.out.2.2.1 HI.out.2.2.2 rfl rfl _ rfl la W1.out (by unfold maxLen; omega) (by omega) ?_; intro v3 w3 hv3 hb3; have B3 := Lib.hid hb3; have V3 := Lib.hid hv3; have V2' := Lib.hid (W2.out.next hb3); clear hv3 hb3)
    | (at_builtin; refine wpList_copyV sc_len sc_one (by omega) rfl _ _ 22 rfl 9 i0 _ 16 Try.underlying22 HI.out.1 HI.out.2.1 HI.out.2.2.1 HI.out.2.2.2 rfl rfl _ rfl lb V2'.out (by unfold maxLen; omega) (by omega) ?_; intro v4 w4 hv4 hb4; have B4 := Lib.hid (bstep B3.out hb4); have V3' := Lib.hid (V3.out.next hb4); have V4 := Lib.hid hv4; clear hv4 hb4 V2' V3))
  obtain ⟨a3, c3, rfl, hc3, hs3, _⟩ := V3'.out
  obtain ⟨a4, c4, rfl, hc4, hs4, _⟩ := V4.out
  have C1 := Lib.hid (PS.out ⟨a3, la, c3⟩ ⟨a4, lb, c4⟩ w4 hs3 hs4 hc3 hc4 OA.out OB.out)
  clear V3' V4 hs3 hs4 PS hc3 hc4
  have hrn := rn_of la lb
  obtain ⟨R, hR⟩ : ∃ R, comb (kinds la lb) = R := ⟨_, rfl⟩
  rw [hR] at hrn
  dsimp only at C1
  rw [hR] at C1
  have RN := Lib.hid hrn
  have hex : (ex R).length ≤ 80 := by
    rw [hrn.ex]
    have := (kinds_scr la lb).counts
    omega
  have hRl : R.length ≤ 80 := by have := pow_len hrn.pos; omega
  clear hrn hR
  refine C1.out.mono ?_
  rintro e w5 ⟨v5, rfl, hv5, hb5⟩
  have B5 := Lib.hid (bstep B4.out hb5)
  have Z1 := Lib.hid (W1.out.next B5.out)
  have Z2 := Lib.hid (W2.out.next B5.out)
  obtain ⟨a5, c5, rfl, hc5, hs5, _⟩ := hv5
  have SR := Lib.hid hs5
  obtain ⟨a1', c1', rfl, hcc1, hs1, _⟩ := Z1.out
  obtain ⟨a2', c2', rfl, hcc2, hs2, hd2⟩ := Z2.out
  have HB := Lib.hid hs2
  have HA := Lib.hid hs1
  have HCA := Lib.hid hcc1
  have ZA := Z1
  have ZB := Z2
  have hal : lb.length = 0 ∨ ∃ g off, a2' = some ⟨g, off, none⟩ ∧ g < w5.heap.size := by
    rcases hd2 with ⟨_, _, h⟩ | h
    · exact .inl (by rw [h]; rfl)
    · exact .inr h
  obtain ⟨n, hn⟩ : ∃ n, la.length = n := ⟨_, rfl⟩
  obtain ⟨m, hm⟩ : ∃ m, lb.length = m := ⟨_, rfl⟩
  obtain ⟨N, hN⟩ : ∃ N, R.length = N := ⟨_, rfl⟩
  have HN := Lib.hid hn
  have HM := Lib.hid hm
  have HR := Lib.hid hN
  have HAL := Lib.hid hal
  have B6 := Lib.hid (bstep B2.out B5.out)
  rw [hn] at hla ⊢
  rw [hm] at hlb hcc2 ⊢
  rw [hN] at hRl ⊢
  clear C1 hb5 B3 B4 B5 hs5 hs1 hs2 hd2 hal hn hm hN W1 W2 Z1 Z2
  go_wp2_with fail
  go_loopw [12, 13, 14, 15] (fun vn vu vp vi wr => ∃ t u p : Nat, t ≤ N ∧ vu = .int .i64 (u : Int) ∧ vp = .int .i64 (p : Int) ∧ vi = .int .i64 (t : Int) ∧ Hid (used (ex (R.take t)) = u ∧ paid (ex (R.take t)) = p) ∧ Hid (SK w5 (tk (ex (R.take t)) lb) vn wr)) (fun _ _ _ vi _ => N - (intOf vi).toNat)
  case atStart => exact ⟨0, 0, 0, by omega, rfl, rfl, rfl, Lib.hid ⟨rfl, rfl⟩, Lib.hid (SK.nil (Below.refl _ _))⟩
  case round =>
    obtain ⟨t, u, p, htN, rfl, rfl, rfl, HU, HS⟩ := hrel
    by_cases hlt : t < N
    · obtain ⟨kc, hkc⟩ : ∃ kc, R[t]? = some kc := ⟨R[t]'(by have := HR.out; omega), List.getElem?_eq_getElem _⟩
      have hmem := List.mem_of_getElem? hkc
      have hpos := RN.out.pos kc hmem
      have hkind := RN.out.kind kc hmem
      have hcle := ex_le R kc hmem
      have BX := Lib.hid HS.out.bel
      obtain ⟨g, off, rfl, hg5, c05, c15⟩ := pc_get SR.out hkc
      have hux : used (ex R) = m := by rw [RN.out.ex, used_all (kinds_scr la lb), HM.out]
      have hpx : paid (ex R) ≤ 160 := by
        rw [RN.out.ex, paid_all]
        have := cost_eq la lb
        have := OA.out.1
        have := OB.out.1
        omega
      have hu1 := used_le R t
      have hu2 := used_le R (t + 1)
      have hp1 := paid_le R t
      rw [HU.out.1, hux] at hu1
      rw [hux] at hu2
      rw [HU.out.2] at hp1
      obtain ⟨k, c⟩ := kc
      dsimp only at hpos hkind hcle c05 c15
      have c0 := keep BX.out hg5 c05
      have c1 := keep BX.out hg5 c15
      have C05 := Lib.hid c05
      have C15 := Lib.hid c15
      clear c05 c15
      have htk := tk_len (ex (R.take t)) lb
      rw [HM.out] at htk
      have HTK := Lib.hid htk
      have u0 : (0 : Int) ≤ (t : Int) := by omega
      have u1 : (t : Int) < (N : Int) := by omega
      have rt : IntKind.i64.wrap ((t : Int) + 1) = (t : Int) + 1 := IntWalk.i64_in _ (by omega)
      have ru : IntKind.i64.wrap ((u : Int) + (c : Int)) = (u : Int) + (c : Int) := IntWalk.i64_in _ (by omega)
      have rp : IntKind.i64.wrap ((p : Int) + (c : Int)) = (p : Int) + (c : Int) := IntWalk.i64_in _ (by omega)
      have q1 : decide ((c : Int) < 1) = false := decide_eq_false (by omega)
      have q1' : ¬ (c : Int) < 1 := by omega
      have HBK := Lib.hid (fun (e : k = 1) => back_keep (by rw [← e]; exact hkc) lb)
      have HBD := Lib.hid (fun (e : k = 2) => back_drop (by rw [← e]; exact hkc) lb)
      have HBT := Lib.hid (fun (e : k = 3) => back_take (by rw [← e]; exact hkc) lb)
      have HPRE : Hid (∀ (k' c' : Nat), R[t - 1]? = some (k', c') → 0 < t → k' ≠ k) := Lib.hid (fun k' c' h0 ht => RN.out.alt (t - 1) (k', c') (k, c) h0 (by rw [show t - 1 + 1 = t by omega]; exact hkc))
      clear hmem hux hpx htk
      by_cases ht0 : t = 0
      · have w0 : decide ((t : Int) > 0) = false := decide_eq_false (by omega)
        have w1 : ¬ (t : Int) > 0 := by omega
        have w4 : decide (0 < t) = false := decide_eq_false (by omega)
        have w5' : decide ((0 : Int) < (t : Int)) = false := decide_eq_false (by omega)
        clear ht0 HPRE hkc
        rcases hkind with rfl | rfl | rfl
        · have HX := Lib.hid (HBK.out rfl)
          have hum : u + c ≤ m := by have h := HX.out.1; rw [HU.out.1] at h; omega
          have q3 : ¬ (u : Int) + (c : Int) > (m : Int) := by omega
          have q3' : decide ((u : Int) + (c : Int) > (m : Int)) = false := decide_eq_false q3
          clear HBK HBD HBT hu2
          go_wp2_with fail
          go_quiet (fail)
          have HS2 := Lib.hid (HS.out.next (bdrewN (Below.refl _ _) nq))
          clear c0 c1
          have c0 := keep HS2.out.bel hg5 C05.out
          have c1 := keep HS2.out.bel hg5 C15.out
          generalize wr.drewN nq = w6 at *
          clear HS BX
          go_wp2_with fail
          go_roundw
          case rel => exact ⟨t + 1, u + c, p, by omega, by first | rfl | go_num, rfl, by first | rfl | go_num, Lib.hid ⟨by rw [HX.out.1, HU.out.1], by rw [HX.out.2.1, HU.out.2]⟩, Lib.hid (by rw [HX.out.2.2]; exact HS2.out)⟩
          case measure => simp only [intOf]; omega
        · have HX := Lib.hid (HBD.out rfl)
          clear HBK HBD HBT hu2
          go_wp2_with fail
          go_quiet (fail)
          have HS2 := Lib.hid (HS.out.next (bdrewN (Below.refl _ _) nq))
          clear c0 c1
          have c0 := keep HS2.out.bel hg5 C05.out
          have c1 := keep HS2.out.bel hg5 C15.out
          generalize wr.drewN nq = w6 at *
          clear HS BX
          go_wp2_with fail
          go_roundw
          case rel => exact ⟨t + 1, u, p + c, by omega, rfl, by first | rfl | go_num, by first | rfl | go_num, Lib.hid ⟨by rw [HX.out.1, HU.out.1], by rw [HX.out.2.1, HU.out.2]⟩, Lib.hid (by rw [HX.out.2.2]; exact HS2.out)⟩
          case measure => simp only [intOf]; omega
        · have HX := Lib.hid (HBT.out rfl)
          have hum : u + c ≤ m := by have h := HX.out.1; rw [HU.out.1] at h; omega
          have q3 : ¬ (u : Int) + (c : Int) > (m : Int) := by omega
          have q3' : decide ((u : Int) + (c : Int) > (m : Int)) = false := decide_eq_false q3
          obtain ⟨g2, off2, rfl, hg2⟩ : ∃ g2 off2, a2' = some ⟨g2, off2, none⟩ ∧ g2 < w5.heap.size := HAL.out.resolve_left (by have := HM.out; omega)
          have hcu : ¬ c2' = u := by omega
          have hcu2 : ¬ (c2' : Int) = (u : Int) := by omega
          have q4 : (0 : Int) ≤ (u : Int) := by omega
          have q5 : (u : Int) ≤ (u : Int) + (c : Int) := by omega
          have q6 : (u : Int) + (c : Int) ≤ (c2' : Int) := by omega
          clear HBK HBD HBT hu2
          go_wp2_with fail
          go_quiet (fail)
          have HS2 := Lib.hid (HS.out.next (bdrewN (Below.refl _ _) nq))
          clear c0 c1
          have c0 := keep HS2.out.bel hg5 C05.out
          have c1 := keep HS2.out.bel hg5 C15.out
          generalize wr.drewN nq = w6 at *
          clear HS BX
          go_wp2_with (at_builtin; refine wpList_appendSK w5 w6 rfl _ _ rfl _ (tk (ex (R.take t)) lb) rfl HS2.out (.slice (some ⟨g2, off2 + u, none⟩) (u + c - u) (c2' - u)) ((lb.drop u).take c) rfl (by rw [Nat.add_sub_cancel_left]; exact part_at (HB.out.next HS2.out.bel) (by have := HS2.out.bel.size; omega) (by have := HM.out; omega) (by have := HM.out; omega)) (by have := HTK.out; rw [List.length_take, List.length_drop]; omega) ?_; intro v7 w7 hv7; have HS3 := Lib.hid hv7; have e0 := keep hv7.bel hg5 C05.out; have e1 := keep hv7.bel hg5 C15.out; clear hv7)
          go_roundw
          case rel => exact ⟨t + 1, u + c, p + c, by omega, by first | rfl | go_num, by first | rfl | go_num, by first | rfl | go_num, Lib.hid ⟨by rw [HX.out.1, HU.out.1], by rw [HX.out.2.1, HU.out.2]⟩, Lib.hid (by rw [HX.out.2.2, HU.out.1]; exact HS3.out)⟩
          case measure => simp only [intOf]; omega
      · have w0 : decide ((t : Int) > 0) = true := decide_eq_true (by omega)
        have w1 : (t : Int) > 0 := by omega
        have w4 : decide (0 < t) = true := decide_eq_true (by omega)
        have w5' : decide ((0 : Int) < (t : Int)) = true := decide_eq_true (by omega)
        obtain ⟨kc', hkc'⟩ : ∃ kc', R[t - 1]? = some kc' := ⟨R[t - 1]'(by have := HR.out; omega), List.getElem?_eq_getElem _⟩
        obtain ⟨k', c'⟩ := kc'
        have hne := HPRE.out k' c' hkc' (by omega)
        obtain ⟨_, _, eq, _, d0, d1⟩ := pc_get (SR.out.next BX.out) hkc'
        cases eq
        dsimp only at d0 d1
        have w2 : ¬ (k' : Int) = (k : Int) := by omega
        have w3 : decide ((k' : Int) = (k : Int)) = false := decide_eq_false w2
        have w6' : decide (k' = k) = false := decide_eq_false (by omega)
        have w7' : ((k' : Int) == (k : Int)) = false := beq_eq_false_iff_ne.2 (by omega)
        have r2 : IntKind.i64.wrap ((t : Int) - 1) = (t : Int) - 1 := IntWalk.i64_in _ (by omega)
        have r2' : ((t : Int) - 1).toNat = t - 1 := by omega
        have v0 : (0 : Int) ≤ (t : Int) - 1 := by omega
        have v1 : (t : Int) - 1 < (N : Int) := by omega
        have v2 : (1 : Int) ≤ (t : Int) := by omega
        clear ht0 HPRE hkc hkc' hne
        rcases hkind with rfl | rfl | rfl
        · have HX := Lib.hid (HBK.out rfl)
          have hum : u + c ≤ m := by have h := HX.out.1; rw [HU.out.1] at h; omega
          have q3 : ¬ (u : Int) + (c : Int) > (m : Int) := by omega
          have q3' : decide ((u : Int) + (c : Int) > (m : Int)) = false := decide_eq_false q3
          clear HBK HBD HBT hu2
          go_wp2_with fail
          go_quiet (fail)
          have HS2 := Lib.hid (HS.out.next (bdrewN (Below.refl _ _) nq))
          clear c0 c1
          have c0 := keep HS2.out.bel hg5 C05.out
          have c1 := keep HS2.out.bel hg5 C15.out
          generalize wr.drewN nq = w6 at *
          clear HS BX
          go_wp2_with fail
          go_roundw
          case rel => exact ⟨t + 1, u + c, p, by omega, by first | rfl | go_num, rfl, by first | rfl | go_num, Lib.hid ⟨by rw [HX.out.1, HU.out.1], by rw [HX.out.2.1, HU.out.2]⟩, Lib.hid (by rw [HX.out.2.2]; exact HS2.out)⟩
          case measure => simp only [intOf]; omega
        · have HX := Lib.hid (HBD.out rfl)
          clear HBK HBD HBT hu2
          go_wp2_with fail
          go_quiet (fail)
          have HS2 := Lib.hid (HS.out.next (bdrewN (Below.refl _ _) nq))
          clear c0 c1
          have c0 := keep HS2.out.bel hg5 C05.out
          have c1 := keep HS2.out.bel hg5 C15.out
          generalize wr.drewN nq = w6 at *
          clear HS BX
          go_wp2_with fail
          go_roundw
          case rel => exact ⟨t + 1, u, p + c, by omega, rfl, by first | rfl | go_num, by first | rfl | go_num, Lib.hid ⟨by rw [HX.out.1, HU.out.1], by rw [HX.out.2.1, HU.out.2]⟩, Lib.hid (by rw [HX.out.2.2]; exact HS2.out)⟩
          case measure => simp only [intOf]; omega
        · have HX := Lib.hid (HBT.out rfl)
          have hum : u + c ≤ m := by have h := HX.out.1; rw [HU.out.1] at h; omega
          have q3 : ¬ (u : Int) + (c : Int) > (m : Int) := by omega
          have q3' : decide ((u : Int) + (c : Int) > (m : Int)) = false := decide_eq_false q3
          obtain ⟨g2, off2, rfl, hg2⟩ : ∃ g2 off2, a2' = some ⟨g2, off2, none⟩ ∧ g2 < w5.heap.size := HAL.out.resolve_left (by have := HM.out; omega)
          have hcu : ¬ c2' = u := by omega
          have hcu2 : ¬ (c2' : Int) = (u : Int) := by omega
          have q4 : (0 : Int) ≤ (u : Int) := by omega
          have q5 : (u : Int) ≤ (u : Int) + (c : Int) := by omega
          have q6 : (u : Int) + (c : Int) ≤ (c2' : Int) := by omega
          clear HBK HBD HBT hu2
          go_wp2_with fail
          go_quiet (fail)
          have HS2 := Lib.hid (HS.out.next (bdrewN (Below.refl _ _) nq))
          clear c0 c1
          have c0 := keep HS2.out.bel hg5 C05.out
          have c1 := keep HS2.out.bel hg5 C15.out
          generalize wr.drewN nq = w6 at *
          clear HS BX
          go_wp2_with (at_builtin; refine wpList_appendSK w5 w6 rfl _ _ rfl _ (tk (ex (R.take t)) lb) rfl HS2.out (.slice (some ⟨g2, off2 + u, none⟩) (u + c - u) (c2' - u)) ((lb.drop u).take c) rfl (by rw [Nat.add_sub_cancel_left]; exact part_at (HB.out.next HS2.out.bel) (by have := HS2.out.bel.size; omega) (by have := HM.out; omega) (by have := HM.out; omega)) (by have := HTK.out; rw [List.length_take, List.length_drop]; omega) ?_; intro v7 w7 hv7; have HS3 := Lib.hid hv7; have e0 := keep hv7.bel hg5 C05.out; have e1 := keep hv7.bel hg5 C15.out; clear hv7)
          go_roundw
          case rel => exact ⟨t + 1, u + c, p + c, by omega, by first | rfl | go_num, by first | rfl | go_num, by first | rfl | go_num, Lib.hid ⟨by rw [HX.out.1, HU.out.1], by rw [HX.out.2.1, HU.out.2]⟩, Lib.hid (by rw [HX.out.2.2, HU.out.1]; exact HS3.out)⟩
          case measure => simp only [intOf]; omega
    · have u1 : ¬ (t : Int) < (N : Int) := by omega
      have HU2 := HU.out
      have HS2 := HS.out
      rw [List.take_of_length_le (by have := HR.out; omega)] at HU2 HS2
      have hpd := HU2.2
      rw [RN.out.ex, paid_all] at hpd
      have htl := tk_len (ex R) lb
      rw [HM.out] at htl
      have hpt := patched RN.out (by rw [HN.out, HM.out]; omega)
      have BX := Lib.hid HS2.bel
      obtain ⟨an, cn, rfl, hcn, hsn, _⟩ := HS2.val
      have hsr := SR.out.next BX.out
      have hsl : (DiffM.steps R).length = N := by unfold DiffM.steps; rw [List.length_map]; exact HR.out
      have C2 := Lib.hid (PP.out ⟨a1', la, c1'⟩ a5 c5 (DiffM.steps R) ⟨an, tk (ex R) lb, cn⟩ wr (HA.out.next BX.out) (steps_sci hsr) hsn HCA.out (by rw [hsl, ← HR.out]; exact hc5) hcn (by rw [hsl]; omega) (by have := OA.out.1; exact this) (by show (tk (ex R) lb).length ≤ 80; omega))
      rw [hsl] at C2
      dsimp only at C2
      rw [hpt, HN.out] at C2
      have KC := Lib.hid (fun W (hW : Below w5.heap.size w5 W) => CO.out _ _ la lb W (ZA.out.next hW) (ZB.out.next hW) OA.out OB.out)
      have KS := Lib.hid (fun v W (hW : Below w5.heap.size w5 W) (hv : SlV 1 sc W v lb) => ST.out v _ lb lb W hv (ZB.out.next hW) (by have := HM.out; omega))
      rw [HM.out] at KS KC
      rw [HN.out] at KC
      rw [hpd] at KC
      clear HU HS HU2 HS2 hpd htl hpt hcn hsn hsr hsl CO ST PP RN HA HB SR HAL HN HR
      generalize (tk (ex R) lb).length = tl at *
      go_wp2_with fail
      refine C2.out.mono ?_
      rintro e w6 ⟨v6, rfl, hv6, hb6⟩
      have B7 := Lib.hid (bstep BX.out hb6)
      have S1 := Lib.hid (KS.out _ _ B7.out hv6)
      clear hb6 hv6 C2 KS
      go_wp2_with fail
      refine S1.out.mono ?_
      rintro e w7 ⟨b, rfl, hb, hb7⟩
      have hbt : b = true := hb.2 rfl
      subst hbt
      have B8 := Lib.hid (bstep B7.out hb7)
      have K2 := Lib.hid (KC.out _ B8.out)
      clear hb hb7 KC S1
      go_wp2_with fail
      refine K2.out.mono ?_
      rintro e w8 ⟨rfl, hb8⟩
      have B9 := Lib.hid (bstep B6.out (bstep B8.out hb8))
      clear hb8 K2
      go_wp2_with fail
      go_ret
      exact ⟨by first | rfl | (simp; done) | (simp; omega), B9.out⟩
end Go.Proofs.Ytcknmaimkodaeaa.DiffK
