/-
  The law ManyEach, walked.
-/
import Derived.Test.YtkiebkjndmcddaaManyEachM
import Derived.Test.YtkiebkjndmcddaaRowsAt
import Derived.Test.YtkiebkjndmcddaaCopyV
import Derived.Test.YtkiebkjndmcddaaFindManysW
namespace Go.Proofs.Ytkiebkjndmcddaa.FindK
open Go.RowKit Kit LineM FindM FindR FindP EditM FewT Lift Txt StrM HitM RowsM

theorem infoStr : (Try.prog.info? 9).map (fun i => (i.zero, i.size, i.bytes)) = some (some (.string ⟨#[]⟩), 1, 16) := by kernel_rfl
theorem sc_one (s : ByteArray) : ∀ u ∈ sc s, u.oneCell' = true := by
  intro u hu
  simp [sc] at hu
  subst hu; rfl
theorem row_get {w : World} {a : Option Addr} {l : List Rw} (h : SlAt 1 rc w a l) {i : Nat} {r : Rw} (hi : l[i]? = some r) : ∃ g off, a = some ⟨g, off, none⟩ ∧ g < w.heap.size ∧ w.cell? ⟨g, off + i, none⟩ = some (.slice r.a r.len r.cap) := by
  obtain ⟨g, off, e, hg, hc⟩ := h.cell i r hi
  refine ⟨g, off, e, hg, ?_⟩
  have := hc 0 (by omega)
  simpa [rc] using this
theorem take_snoc {L : List ByteArray} {k : Nat} {x : ByteArray} (h : L[k]? = some x) : L.take (k + 1) = L.take k ++ [x] := by rw [List.take_add_one, h]; rfl
set_option maxRecDepth 100000 in
set_option maxHeartbeats 8000000 in
theorem manyEach (a0 : Option Addr) (len0 cap0 : Nat) (zs : List Int) (a1 : Option Addr) (cap1 : Nat) (rows : List Rw) (w : World) (h0 : IsRow .i64 w a0 len0 cap0 zs) (h1 : SlAt 1 rc w a1 rows) (hr : ∀ r ∈ rows, Rw.has w r) (hle1 : rows.length ≤ cap1) (hmx1 : cap1 ≤ maxLen) {X : Prop} (_ : X) :
    Calls Try.prog 10 #[.slice a0 len0 cap0, .slice a1 rows.length cap1] w fun e w' => e = .returned (.bool true) ∧ Below w.heap.size w w' := by
  obtain ⟨i0, hi, hz0, hz1, hz2⟩ := info_parts infoStr
  have HI := Lib.hid (And.intro hi (And.intro hz0 (And.intro hz1 hz2)))
  clear hi hz0 hz1 hz2
  unfold maxLen at hmx1
  have FW := Lib.hid (few a0 len0 cap0 zs 60 w h0 (by omega))
  have hsz : (fewS ((zs.take len0).take 60)).size ≤ 60 := by rw [fewS_size]; simp only [List.length_take]; omega
  have FR := Lib.hid (fun (r : Rw) (hm : r ∈ rows) W (hW : Below w.heap.size w W) => few r.a r.len r.cap r.zs 6 W (row_next' (hr r hm) hW) (by omega))
  have H1 := Lib.hid h1
  have SU := Lib.hid (fun W => findSure W)
  clear h0 h1 hr
  generalize fewS ((zs.take len0).take 60) = s at *
  obtain ⟨m, hm⟩ : ∃ m, rows.length = m := ⟨_, rfl⟩
  have HM := Lib.hid hm
  rw [hm] at hle1 ⊢
  clear hm
  go_enter Try.func10, Try.ntmps10
  go_wp2_with fail
  refine FW.out.mono ?_
  rintro e w1 ⟨rfl, hb1⟩
  have B1 := Lib.hid hb1
  clear hb1 FW
  go_wp2_with fail
  go_loopw [6, 7] (fun vf vi wr => ∃ i : Nat, i ≤ m ∧ vi = .int .i64 (i : Int) ∧ Hid (∃ L, FsP L ∧ SK w L vf wr)) (fun _ vi _ => m - (intOf vi).toNat)
  case atStart => exact ⟨0, by omega, rfl, Lib.hid ⟨[], FsP.nil, SK.nil B1.out⟩⟩
  case round =>
    obtain ⟨i, him, rfl, HL⟩ := hrel
    obtain ⟨L, hP, hK⟩ := HL.out
    have h8 := hP.len
    obtain ⟨n, hn⟩ : ∃ n, L.length = n := ⟨_, rfl⟩
    obtain ⟨a6, c6, rfl, hle6, hs6, _⟩ := hK.val
    rw [hn] at h8 hle6 hK ⊢
    have HN := Lib.hid hn
    have HP := Lib.hid hP
    have HK6 := Lib.hid hK
    have HS6 := Lib.hid hs6
    clear hn hP hK HL hs6
    by_cases hgo : i < m ∧ n < 8
    · obtain ⟨hi, hn8⟩ := hgo
      have q1 : decide ((i : Int) < (m : Int)) = true := decide_eq_true (by omega)
      have q2 : decide ((n : Int) < 8) = true := decide_eq_true (by omega)
      obtain ⟨r, hr⟩ : ∃ r, rows[i]? = some r := ⟨rows[i]'(by have := HM.out; omega), List.getElem?_eq_getElem _⟩
      obtain ⟨g, off, rfl, hg, c0⟩ := row_get (H1.out.next HK6.out.bel) hr
      have FE := Lib.hid (FR.out r (List.mem_of_getElem? hr) wr HK6.out.bel)
      have hfz : (fewS ((r.zs.take r.len).take 6)).size ≤ 6 := by rw [fewS_size]; simp only [List.length_take]; omega
      have u0 : (0 : Int) ≤ (i : Int) := by omega
      have u1 : (i : Int) < (m : Int) := by omega
      have r1 : IntKind.i64.wrap ((i : Int) + 1) = (i : Int) + 1 := IntWalk.i64_in _ (by omega)
      clear hr
      generalize fewS ((r.zs.take r.len).take 6) = F at *
      have hf1 : F.size + 1 ≤ 140737488355328 := by omega
      have hF1 : 0 < (F ++ ⟨#[97]⟩ : ByteArray).size := by rw [size_a]; omega
      have hF2 : (F ++ ⟨#[97]⟩ : ByteArray).size ≤ 7 := by rw [size_a]; omega
      go_wp2_with fail
      refine FE.out.mono ?_
      rintro e wf ⟨rfl, hbf⟩
      have HKF := Lib.hid (HK6.out.next hbf)
      have HSF := Lib.hid (HS6.out.next hbf)
      clear hbf FE HK6 HS6
      go_wp2_with fail
      generalize (F ++ ⟨#[97]⟩ : ByteArray) = f at *
      go_loopw [9, 10] (fun vb vk wx => ∃ (k : Nat) (b : Bool), k ≤ n ∧ vk = .int .i64 (k : Int) ∧ vb = .bool b ∧ Hid (b = true ↔ f ∉ L.take k) ∧ wx = wf) (fun _ vk _ => n - (intOf vk).toNat)
      case atStart => exact ⟨0, true, by omega, rfl, rfl, Lib.hid (by simp), rfl⟩
      case round =>
        obtain ⟨k, b, hk, rfl, rfl, HB, rfl⟩ := hrel
        by_cases hkn : k < n
        · obtain ⟨x, hx⟩ : ∃ x, L[k]? = some x := ⟨L[k]'(by have := HN.out; omega), List.getElem?_eq_getElem _⟩
          have k0 : (0 : Int) ≤ (k : Int) := by omega
          have k1 : (k : Int) < (n : Int) := by omega
          have r2 : IntKind.i64.wrap ((k : Int) + 1) = (k : Int) + 1 := IntWalk.i64_in _ (by omega)
          obtain ⟨g', off', rfl, hg', c1⟩ := StAt.get HSF.out hx
          have HT := Lib.hid (take_snoc hx)
          clear hx
          cases b with
          | false =>
            have HB2 : Hid (false = true ↔ f ∉ L.take (k + 1)) := Lib.hid (by
              rw [HT.out]
              refine ⟨fun h => (by cases h), fun h => ?_⟩
              exact HB.out.2 (fun hm => h (List.mem_append_left _ hm)))
            clear HT HB
            go_wp2_with fail
            go_roundw
            case rel => exact ⟨k + 1, false, by omega, by go_num, rfl, HB2, trivial⟩
            case measure => simp [intOf]; omega
          | true =>
            have hnm := HB.out.1 rfl
            by_cases hxf : x = f
            · have HE := (same_iff x f).2 hxf
              have HB2 : Hid (false = true ↔ f ∉ L.take (k + 1)) := Lib.hid (by
                rw [HT.out, hxf]
                simp)
              clear HT HB hnm hxf
              go_wp2_with fail
              go_roundw
              case rel => exact ⟨k + 1, false, by omega, by go_num, rfl, HB2, trivial⟩
              case measure => simp [intOf]; omega
            · have HE := same_not hxf
              have HB2 : Hid (true = true ↔ f ∉ L.take (k + 1)) := Lib.hid (by
                rw [HT.out]
                simp only [true_iff]
                intro h
                rcases List.mem_append.1 h with h | h
                · exact hnm h
                · rw [List.mem_singleton] at h; exact hxf h.symm)
              clear HT HB hnm
              go_wp2_with fail
              go_roundw
              case rel => exact ⟨k + 1, true, by omega, by go_num, rfl, HB2, trivial⟩
              case measure => simp [intOf]; omega
        · have k1 : ¬ (k : Int) < (n : Int) := by omega
          have hkL : L.take k = L := List.take_of_length_le (by have := HN.out; omega)
          rw [hkL] at HB
          clear hkL
          cases b with
          | false =>
            have HNX : Hid (∃ L, FsP L ∧ SK w L (.slice a6 n c6) wr) := Lib.hid ⟨L, HP.out, HKF.out⟩
            clear HB HKF HP HSF
            go_wp2_with fail
            go_roundw
            case rel => exact ⟨i + 1, by omega, by go_num, HNX⟩
            case measure => simp [intOf]; omega
          | true =>
            have hnm := HB.out.1 rfl
            have HPN : Hid (n < 8 → FsP (L ++ [f])) := Lib.hid (fun h => HP.out.snoc (by rw [HN.out]; exact h) hF1 hF2 hnm)
            have HP2 := Lib.hid (HPN.out hn8)
            have hsz6 := HKF.out.bel.size
            have HROW : Hid (wr.ownsRow w.heap.size 9 1 (.slice a6 n c6) n (flatC sc L)) := Lib.hid (by have := HKF.out.row; rwa [HN.out] at this)
            clear HB hnm HPN HP HSF
            go_wp2_with (at_builtin; refine wpList_append_lies _ rfl _ _ 33 rfl w.heap.size 9 i0 _ 1 16 Try.underlying33 HI.out.1 HI.out.2.1 HI.out.2.2.1 HI.out.2.2.2 rfl (by decide) _ n (flatC sc L) rfl (HROW.out.alloc _) ⟨wr.heap.size, 0, none⟩ 1 1 [.string f] rfl rfl (cell_one_new _ _ _) (by simp [Value.oneCell']) (by omega) (by unfold maxLen; omega) (by omega) (by simp; omega) _ rfl ?_; intro g4 cap4 w4 hown4 hgrow4 _ _)
            have HNX : Hid (∃ L, FsP L ∧ SK w L (.slice (some ⟨g4, 0, none⟩) (n + 1) cap4) w4) := Lib.hid ⟨_, HP2.out, ⟨by rw [List.length_append, flatC_append, HN.out]; exact hown4, bgrow (balloc HKF.out.bel _) (HROW.out.alloc _) hgrow4⟩⟩
            clear hown4 hgrow4
            go_roundw
            case rel => exact ⟨i + 1, by omega, by go_num, HNX⟩
            case measure => simp [intOf]; omega
    · have EP := eachP s L (by omega) HP.out
      have MO := Lib.hid (fun a c W (h : StAt W a L) (hle : L.length ≤ c) => many_ok s a c L W h hle (by omega) HP.out)
      obtain ⟨R, hR⟩ : ∃ R, many s.data.toList (plain L) = R := ⟨_, rfl⟩
      rw [hR] at EP MO
      rw [HN.out] at MO
      have HE := Lib.hid EP
      have hRl := EP.len
      clear hR EP H1 FR
      have HFS : Hid (∀ f ∈ L, 0 < f.size ∧ f.size ≤ 7) := Lib.hid HP.out.sz
      clear HP
      have V6 : Hid (SlV 1 sc wr (.slice a6 n c6) L) := Lib.hid HK6.out.val
      have B6 := Lib.hid HK6.out.bel
      have hL8 : L.length ≤ 8 := by rw [HN.out]; exact h8
      clear HK6
      have hq : (¬ (i : Int) < (m : Int)) ∨ ((i : Int) < (m : Int) ∧ ¬ (n : Int) < 8) := by omega
      clear hgo
      rcases hq with q1 | ⟨q1, q2⟩
      all_goals
        go_wp2_with (at_builtin; refine wpList_copyV sc_len sc_one (by omega) rfl _ _ 33 rfl 9 i0 _ 16 Try.underlying33 HI.out.1 HI.out.2.1 HI.out.2.2.1 HI.out.2.2.2 rfl rfl _ rfl L V6.out (by unfold maxLen; omega) (by omega) ?_; intro v7 w7 hv7 hb7; have B7 := Lib.hid (bstep B6.out hb7); have V7 := Lib.hid (V6.out.next hb7); have HV7 := Lib.hid hv7; clear hb7 hv7)
        obtain ⟨a7, c7, rfl, hle7, hs7, _⟩ := HV7.out
        have MC := Lib.hid (MO.out a7 c7 w7 hs7 (by rw [← HN.out]; exact hle7))
        rw [HN.out]
        clear hs7 MO HV7
        refine MC.out.mono ?_
        rintro e w8 ⟨v8, rfl, hk8⟩
        have B8 := Lib.hid (bstep B7.out hk8.bel)
        have V8 := Lib.hid (V7.out.next hk8.bel)
        obtain ⟨a8, c8, rfl, _, hs8, _⟩ := hk8.val
        have S8 := Lib.hid hs8
        clear hk8 hs8 MC B7 V7 V6 B6
        obtain ⟨N, hNR⟩ : ∃ N, R.length = N := ⟨_, rfl⟩
        have HNR := Lib.hid hNR
        rw [hNR] at hRl ⊢
        clear hNR
        go_wp2_with fail
        refine (SU.out _).mono ?_
        rintro e w9 ⟨rfl, hb9⟩
        have B9 := Lib.hid (bstep B8.out hb9)
        have V9 := Lib.hid (V8.out.next hb9)
        have S9 := Lib.hid (S8.out.next hb9)
        clear hb9 B8 V8 S8 SU
        go_wp2_with fail
        have HAT : Hid (StAt w9 a6 L) := Lib.hid (by
          obtain ⟨a, c, e, _, h, _⟩ := V9.out
          cases e
          exact h)
        clear V9
        go_loopw [13, 14] (fun va vi wr => ∃ i : Nat, i ≤ n ∧ vi = .int .i64 (i : Int) ∧ va = .int .i64 (sumI R i : Int) ∧ sumI R i ≤ i * N ∧ Hid (Below w9.heap.size w9 wr)) (fun _ vi _ => n - (intOf vi).toNat)
        case atStart => exact ⟨0, by omega, rfl, rfl, by simp [sumI], Lib.hid (Below.refl _ _)⟩
        case round =>
          obtain ⟨ii, hii, rfl, rfl, hsum, HB⟩ := hrel
          by_cases hil : ii < n
          · obtain ⟨f, hf⟩ : ∃ f, L[ii]? = some f := ⟨L[ii]'(by have := HN.out; omega), List.getElem?_eq_getElem _⟩
            obtain ⟨g, off, rfl, hg, c1⟩ := StAt.get (HAT.out.next HB.out) hf
            have hfz := HFS.out f (List.mem_of_getElem? hf)
            have HEA := Lib.hid (HE.out.each ii f hf)
            have AL := Lib.hid (all_ok s f wr (by unfold ffault; rw [if_neg (by omega), if_neg (by omega)]))
            have u0 : (0 : Int) ≤ (ii : Int) := by omega
            have u1 : (ii : Int) < (n : Int) := by omega
            have r1 : IntKind.i64.wrap ((ii : Int) + 1) = (ii : Int) + 1 := IntWalk.i64_in _ (by omega)
            clear hf
            go_wp2_with fail
            refine AL.out.mono ?_
            rintro e wa ⟨va, rfl, hva, hba⟩
            have HBA := Lib.hid (bstep HB.out hba)
            obtain ⟨ax, cx, rfl, _, hcx⟩ := isV_get hva
            have HCX := Lib.hid hcx
            have SA := Lib.hid (S9.out.next HBA.out)
            clear hva hba hcx AL HB
            rw [← HEA.out] at HCX ⊢
            obtain ⟨X, hX⟩ : ∃ X, (R.filter (fun p => p.2 == ii)).map (·.1) = X := ⟨_, rfl⟩
            have hXl : X.length = (R.filter (fun p => p.2 == ii)).length := by rw [← hX, List.length_map]
            have CY := Lib.hid (fun (j : Nat) (p : Nat × Nat) (h : R[j]? = some p) (hp : p.2 = ii) => cntI_yes h hp)
            rw [hX] at HCX CY ⊢
            have HXL := Lib.hid hXl
            clear hX hXl HEA
            obtain ⟨M, hM⟩ : ∃ M, X.length = M := ⟨_, rfl⟩
            rw [hM] at HXL ⊢
            have HM2 := Lib.hid hM
            clear hM
            go_wp2_with fail
            go_loopw [17, 18] (fun vk vj wx => ∃ j : Nat, j ≤ N ∧ vj = .int .i64 (j : Int) ∧ vk = .int .i64 (cntI R ii j : Int) ∧ ∃ q, wx = wa.drewN q) (fun _ vj _ => N - (intOf vj).toNat)
            case atStart => exact ⟨0, by omega, rfl, by simp [cntI], 0, rfl⟩
            case round =>
              obtain ⟨j, hj, rfl, rfl, q, rfl⟩ := hrel
              by_cases hjN : j < N
              · obtain ⟨p, hp⟩ : ∃ p, R[j]? = some p := ⟨R[j]'(by rw [HNR.out]; exact hjN), List.getElem?_eq_getElem _⟩
                obtain ⟨g2, off2, rfl, hg2, d0, d1⟩ := AcM.hit_get SA.out hp
                have j0 : (0 : Int) ≤ (j : Int) := by omega
                have j1 : (j : Int) < (N : Int) := by omega
                have r2 : IntKind.i64.wrap ((j : Int) + 1) = (j : Int) + 1 := IntWalk.i64_in _ (by omega)
                by_cases hpi : p.2 = ii
                · obtain ⟨hs1, hs2⟩ := CY.out j p hp hpi
                  obtain ⟨gx, ox, rfl, hgx, c2⟩ := HCX.out _ _ hs2
                  have hkM : cntI R ii j < M := by rw [← HM2.out]; exact (List.getElem?_eq_some_iff.1 hs2).1
                  have HS1 := Lib.hid hs1
                  have hkj := cntI_le R ii j
                  rw [hpi] at d1
                  clear hp hpi hs1 hs2
                  obtain ⟨k, hk⟩ : ∃ k, cntI R ii j = k := ⟨_, rfl⟩
                  rw [hk] at hkM hkj c2 HS1 ⊢
                  clear hk
                  have k0 : (0 : Int) ≤ (k : Int) := by omega
                  have k1 : (k : Int) < (M : Int) := by omega
                  have k2 : ¬ (k : Int) ≥ (M : Int) := by omega
                  have k3 : decide ((k : Int) ≥ (M : Int)) = false := decide_eq_false k2
                  have k4 : ¬ M ≤ k := by omega
                  have k5 : decide (M ≤ k) = false := decide_eq_false k4
                  have k6 : decide ((M : Int) ≤ (k : Int)) = false := decide_eq_false (by omega)
                  have r3 : IntKind.i64.wrap ((k : Int) + 1) = (k : Int) + 1 := IntWalk.i64_in _ (by omega)
                  go_wp2_with fail
                  go_quiet (fail)
                  go_wp2_with fail
                  go_roundw
                  case rel => exact ⟨j + 1, by omega, by go_num, by rw [HS1.out]; go_num, _, rfl⟩
                  case measure => simp [intOf]; omega
                · have hs1 := cntI_no hp hpi
                  have HS1 := Lib.hid hs1
                  have k1 : ¬ (p.2 : Int) = (ii : Int) := by omega
                  have k2 : decide ((p.2 : Int) = (ii : Int)) = false := decide_eq_false k1
                  clear hp hs1
                  go_wp2_with fail
                  go_roundw
                  case rel => exact ⟨j + 1, by omega, by go_num, by rw [HS1.out], _, rfl⟩
                  case measure => simp [intOf]; omega
              · have j1 : ¬ (j : Int) < (N : Int) := by omega
                have ec : cntI R ii j = M := by
                  have e1 : j = R.length := by rw [HNR.out]; omega
                  rw [e1, cntI_all, HXL.out]
                have hMN : M ≤ N := by rw [← ec]; have := cntI_le R ii j; omega
                have HSM : Hid (sumI R (ii + 1) = sumI R ii + M) := Lib.hid (by rw [sumI_succ, HXL.out])
                have HSL : Hid (sumI R (ii + 1) ≤ (ii + 1) * N) := Lib.hid (by rw [HSM.out, Nat.succ_mul]; omega)
                have hi8 : ii * N ≤ 8 * 300000 := Nat.mul_le_mul (by omega) hRl
                rw [ec]
                clear ec
                have r3 : IntKind.i64.wrap ((sumI R ii : Int) + (M : Int)) = (sumI R ii : Int) + (M : Int) := IntWalk.i64_in _ (by omega)
                have HBQ := Lib.hid (bdrewN HBA.out q)
                go_wp2_with fail
                go_roundw
                case rel => exact ⟨ii + 1, by omega, by go_num, by rw [HSM.out]; go_num, HSL.out, HBQ⟩
                case measure => simp [intOf]; omega
          · have u1 : ¬ (ii : Int) < (n : Int) := by omega
            have es : sumI R ii = N := by
              have e1 : ii = L.length := by rw [HN.out]; omega
              rw [e1, HE.out.sum, HNR.out]
            rw [es]
            clear es
            go_wp2_with fail
            go_ret
            exact ⟨by first | rfl | simp, bstep B9.out HB.out⟩
end Go.Proofs.Ytkiebkjndmcddaa.FindK
