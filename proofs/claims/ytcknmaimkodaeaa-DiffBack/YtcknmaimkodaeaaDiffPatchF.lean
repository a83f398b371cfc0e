/-
  Package diff: Patch.
-/
import Derived.Test.YtcknmaimkodaeaaDiffApplyD
import Derived.Test.YtcknmaimkodaeaaDiffApplyK
import Derived.Test.YtcknmaimkodaeaaDiffApplyT
import Derived.Test.YtcknmaimkodaeaaDiffFaces
import Derived.Test.YtcknmaimkodaeaaDiffLawsW
namespace Go.Proofs.Ytcknmaimkodaeaa.DiffP
open Go.RowKit Kit LineM StrM DiffM DiffA DiffR HistM DiffL

theorem pstep_err {a n : List ByteArray} {s : Nat × Nat × List ByteArray} {p : Int × Int} {c : Int} (h : pstep a n s p = .error c) : c = 3 ∨ c = 2 ∨ c = 5 := by
  unfold pstep at h
  split at h
  · cases h; exact .inl rfl
  · split at h
    · cases h; exact .inr (.inl rfl)
    · split at h
      · split at h
        · cases h; exact .inr (.inr rfl)
        · cases h
      · split at h
        · cases h; exact .inr (.inr rfl)
        · cases h
theorem apply (w W : World) (x z : List ByteArray) (bk i k : Nat) (out : List ByteArray) (h : PS w x z bk i k out W) (kd ct : Int) (hout : out.length ≤ 1000) :
    Calls Try.prog 27 #[.pointer (some ⟨bk, 0, none⟩), .agg #[.int .i64 kd, .int .i64 ct]] W (ApPost w x z bk (pstep x z (i, k, out) (kd, ct))) := by
  obtain ⟨so, sn, vo, hpb, hx, hz⟩ := h.is
  by_cases hk : kd ≠ 1 ∧ kd ≠ 2 ∧ kd ≠ 3
  · rw [pstep_kind hk.1 hk.2.1 hk.2.2]
    exact apply_kind w W bk so sn vo out hpb kd ct hk.1 hk.2.1 hk.2.2
  · have hk3 : kd = 1 ∨ kd = 2 ∨ kd = 3 := by omega
    by_cases hr : ct < 1 ∨ 200 < ct
    · rw [pstep_range hk3 hr]
      exact apply_range w W bk so sn vo out hpb kd ct hk3 hr
    · obtain ⟨c, rfl⟩ : ∃ c : Nat, ct = (c : Int) := ⟨ct.toNat, by omega⟩
      have hc1 : 1 ≤ c := by omega
      have hc2 : c ≤ 200 := by omega
      obtain ⟨sa, na, ca, rfl, hxa, hxn, hxc⟩ := hx
      obtain ⟨sb, nb, cb, rfl, hzb, hzn, hzc⟩ := hz
      clear hk hr
      rcases hk3 with rfl | rfl | rfl
      · rw [pstep_1 hc1 hc2]
        by_cases hs : x.length < i + c
        · rw [if_pos hs]
          exact apply_short w W bk na ca nb cb sa sb vo out hpb 1 c hc1 hc2 (.inl ⟨.inl rfl, by omega⟩)
        · rw [if_neg hs]
          exact apply_keep w W x z bk i k out h c hc1 hc2 (by omega) hout
      · rw [pstep_2 hc1 hc2]
        by_cases hs : x.length < i + c
        · rw [if_pos hs]
          exact apply_short w W bk na ca nb cb sa sb vo out hpb 2 c hc1 hc2 (.inl ⟨.inr rfl, by omega⟩)
        · rw [if_neg hs]
          exact apply_drop w W x z bk i k out h c hc1 hc2 (by omega)
      · rw [pstep_3 hc1 hc2]
        by_cases hs : z.length < k + c
        · rw [if_pos hs]
          exact apply_short w W bk na ca nb cb sa sb vo out hpb 3 c hc1 hc2 (.inr ⟨rfl, by omega⟩)
        · rw [if_neg hs]
          exact apply_take w W x z bk i k out h c hc1 hc2 (by omega) hout
theorem tm_two {x y : Sv} (hx : x.l.length ≤ 80) (hy : y.l.length ≤ 80) : tm [x, y] = false := tm_ok (fun s hs => by
  rcases List.mem_cons.1 hs with rfl | hs
  · exact hx
  · rw [List.mem_singleton] at hs; subst hs; exact hy)
theorem tm_big {x y : Sv} (h : 80 < x.l.length ∨ 80 < y.l.length) : tm [x, y] = true := by
  rcases h with h | h
  · exact tm_bad (s := x) (by simp) (by omega)
  · exact tm_bad (s := y) (by simp) (by omega)
set_option maxHeartbeats 1000000 in
theorem patchF_big (x : Sv) (al : Option Addr) (cl : Nat) (l : List (Int × Int)) (z : Sv) (w : World) (h : 200 < l.length ∨ 80 < x.l.length ∨ 80 < z.l.length) : Calls Try.prog 14 #[.slice x.a x.l.length x.cap, .slice al l.length cl, .slice z.a z.l.length z.cap] w (PrPost ([], 1) w) := by
  have TM := Lib.hid (many_two x z w 22)
  by_cases h1 : 200 < l.length
  · clear h TM
    generalize l.length = L at *
    generalize x.l.length = n at *
    generalize z.l.length = m at *
    go_enter Try.func14, Try.ntmps14
    go_wp2_with fail
    go_ret2
    exact ⟨_, rfl, SlV.nil _, Below.refl _ _⟩
  · rw [tm_big (by omega)] at TM
    clear h
    generalize l.length = L at *
    generalize x.l.length = n at *
    generalize z.l.length = m at *
    go_enter Try.func14, Try.ntmps14
    go_wp2_with fail
    refine TM.out.mono ?_
    rintro e w1 ⟨rfl, rfl⟩
    go_wp2_with fail
    go_ret2
    exact ⟨_, rfl, SlV.nil _, balloc (Below.refl _ _) _⟩
set_option maxRecDepth 100000 in
set_option maxHeartbeats 4000000 in
theorem patchF (x : Sv) (al : Option Addr) (cl : Nat) (l : List (Int × Int)) (z : Sv) (w : World) (hx : x.has w) (hl : SlAt 2 sci w al l) (hz : z.has w) (hcx : x.l.length ≤ x.cap) (hcz : z.l.length ≤ z.cap) (h200 : l.length ≤ 200) (hn8 : x.l.length ≤ 80) (hm8 : z.l.length ≤ 80) : Calls Try.prog 14 #[.slice x.a x.l.length x.cap, .slice al l.length cl, .slice z.a z.l.length z.cap] w (PrPost (pfin x.l z.l (prun x.l z.l l (0, 0, []))) w) := by
  have TM := Lib.hid (many_two x z w 22)
  rw [tm_two hn8 hm8] at TM
  have HL := Lib.hid hl
  have S0 : Hid (∀ W (b : World), Below w.heap.size w W → b = W.alloc (.cells #[.slice x.a x.l.length x.cap, .slice z.a z.l.length z.cap, .slice none 0 0] 49) → PS w x.l z.l W.heap.size 0 0 [] b) := Lib.hid (fun W b hW hb => by
    subst hb
    exact ⟨_, _, _, ⟨B3.new W _ _ _ _, World.ownsRow_nil _ _ _ _, balloc hW _, hW.size⟩, ⟨_, _, _, rfl, by rw [List.drop_zero]; exact hx, by omega, hcx⟩, ⟨_, _, _, rfl, by rw [List.drop_zero]; exact hz, by omega, hcz⟩⟩)
  have AP := Lib.hid (fun bk i k out W (h : PS w x.l z.l bk i k out W) kd ct ho => apply w W x.l z.l bk i k out h kd ct ho)
  clear hx hl hz hcx hcz
  generalize x.l = la at *
  generalize z.l = lb at *
  generalize x.a = aa at *
  generalize z.a = ab at *
  generalize x.cap = ca at *
  generalize z.cap = cb at *
  have STOP : Hid (∀ t c, prun la lb (l.take t) (0, 0, []) = .error c → ∀ W, Below w.heap.size w W → PrPost (pfin la lb (prun la lb l (0, 0, []))) w (.returned (.tuple #[.slice none 0 0, .int .i64 c])) W) := Lib.hid (fun t c h W hW => by
    rw [prun_stop h]
    exact ⟨_, rfl, SlV.nil _, hW⟩)
  obtain ⟨RES, hRES⟩ : ∃ RES, pfin la lb (prun la lb l (0, 0, [])) = RES := ⟨_, rfl⟩
  have HRES := Lib.hid hRES
  rw [hRES] at STOP ⊢
  clear hRES
  obtain ⟨N, hN⟩ : ∃ N, l.length = N := ⟨_, rfl⟩
  obtain ⟨n, hn⟩ : ∃ n, la.length = n := ⟨_, rfl⟩
  obtain ⟨m, hm⟩ : ∃ m, lb.length = m := ⟨_, rfl⟩
  have HN := Lib.hid hN
  have HNa := Lib.hid hn
  have HMb := Lib.hid hm
  rw [hN] at h200 ⊢
  rw [hn] at hn8 TM S0 ⊢
  rw [hm] at hm8 TM S0 ⊢
  clear hN hn hm
  go_enter Try.func14, Try.ntmps14
  go_wp2_with fail
  refine TM.out.mono ?_
  rintro e w1 ⟨rfl, rfl⟩
  have B1 := Lib.hid (balloc (Below.refl w.heap.size w) (.cells #[.slice aa n ca, .slice ab m cb] 22))
  generalize (w.alloc (.cells #[.slice aa n ca, .slice ab m cb] 22)) = w1 at *
  clear TM
  go_wp2_with fail
  have S1 := Lib.hid (S0.out w1 _ B1.out rfl)
  clear S0
  generalize (w1.alloc (.cells #[.slice aa n ca, .slice ab m cb, .slice none 0 0] 49)) = w2 at *
  generalize w1.heap.size = bk at *
  go_loopw [26] (fun vt wr => ∃ (t i k : Nat) (out : List ByteArray), t ≤ N ∧ vt = .int .i64 (t : Int) ∧ Hid (prun la lb (l.take t) (0, 0, []) = .ok (i, k, out)) ∧ Hid (PS w la lb bk i k out wr)) (fun vt _ => N - (intOf vt).toNat)
  case atStart => exact ⟨0, 0, 0, [], by omega, rfl, Lib.hid rfl, S1⟩
  case round =>
    obtain ⟨t, i, k, out, htN, rfl, HP, HS⟩ := hrel
    clear S1
    obtain ⟨so, sn, vo, hpb, hxs, hzs⟩ := HS.out.is
    have BS := Lib.hid hpb.bel
    by_cases hlt : t < N
    · obtain ⟨p, hp⟩ : ∃ p, l[t]? = some p := ⟨l[t]'(by have := HN.out; omega), List.getElem?_eq_getElem _⟩
      obtain ⟨g, off, rfl, hg, c0, c1⟩ := sci_get (HL.out.next BS.out) hp
      have u0 : (0 : Int) ≤ (t : Int) := by omega
      have u1 : (t : Int) < (N : Int) := by omega
      have rt : IntKind.i64.wrap ((t : Int) + 1) = (t : Int) + 1 := IntWalk.i64_in _ (by omega)
      have HNX := Lib.hid (prun_next HP.out hp)
      have hpin := prun_in (pin_start la lb) HP.out
      have hol : out.length ≤ 1000 := by
        have h1 := hpin.out
        have h2 := hpin.i
        have h3 := hpin.k
        have h4 := HNa.out
        have h5 := HMb.out
        dsimp only at h1 h2 h3
        omega
      obtain ⟨kd, ct⟩ := p
      dsimp only at c0 c1
      have BX := Lib.hid (B2.new wr (.int .i64 kd) (.int .i64 ct) 28)
      have CA := Lib.hid (AP.out bk i k out (wr.alloc (.cells #[.int .i64 kd, .int .i64 ct] 28)) (HS.out.next (balloc (Below.refl _ _) _)) kd ct hol)
      clear hpb hxs hzs hp hpin HP HS
      cases hr : pstep la lb (i, k, out) (kd, ct) with
      | error c =>
        have hc := pstep_err hr
        rw [hr] at HNX CA
        have FIN := Lib.hid (STOP.out (t + 1) c HNX.out)
        have q1 : (c != 0) = true := by rw [bne_iff_ne]; omega
        clear STOP HNX hr hc
        go_wp2_with fail
        refine CA.out.mono ?_
        rintro e w3 ⟨rfl, hb3⟩
        have B3' := Lib.hid hb3
        clear hb3 CA BX
        go_wp2_with fail
        go_ret2
        exact FIN.out _ B3'.out
      | ok s =>
        obtain ⟨i', k', out'⟩ := s
        rw [hr] at HNX CA
        clear hr
        go_wp2_with fail
        refine CA.out.mono ?_
        rintro e w3 ⟨rfl, hs3⟩
        have HS3 := Lib.hid hs3
        clear hs3 CA BX
        go_wp2_with fail
        go_roundw
        case rel => exact ⟨t + 1, i', k', out', by omega, by go_num, HNX, HS3⟩
        case measure => simp only [intOf]; omega
    · have u1 : ¬ (t : Int) < (N : Int) := by omega
      obtain ⟨a1, n1, k1, rfl, _, hn1, _⟩ := hxs
      obtain ⟨a2, n2, k2, rfl, _, hn2, _⟩ := hzs
      have hrun := HP.out
      rw [List.take_of_length_le (by have := HN.out; omega)] at hrun
      have hres := HRES.out
      rw [hrun] at hres
      have d0 := hpb.box.c0
      have d1 := hpb.box.c1
      have d2 := hpb.box.c2
      have d3 := hpb.box.lt
      have VO := Lib.hid (SlV.of_owns sc_len hpb.own)
      have hna := HNa.out
      have hmb := HMb.out
      have hb1 : n1 ≤ 80 := by omega
      have hb2 : n2 ≤ 80 := by omega
      have r1 : IntKind.i64.wrap ((n1 : Int) + (n2 : Int)) = (n1 : Int) + (n2 : Int) := IntWalk.i64_in _ (by omega)
      by_cases hz : n1 = 0 ∧ n2 = 0
      · obtain ⟨rfl, rfl⟩ := hz
        have HE : Hid (RES = (out, 0)) := Lib.hid (by
          rw [← hres]
          unfold pfin
          dsimp only
          rw [if_neg (by omega)])
        clear hrun hres hpb HP HS hn1 hn2 hna hmb AP STOP HRES
        go_wp2_with fail
        go_ret2
        rw [HE.out]
        exact ⟨_, rfl, VO.out, BS.out⟩
      · have HE : Hid (RES = ([], 4)) := Lib.hid (by
          rw [← hres]
          unfold pfin
          dsimp only
          rw [if_pos (by omega)])
        have u2 : (n1 : Int) + (n2 : Int) > 0 := by omega
        clear hrun hres hpb HP HS hn1 hn2 hna hmb AP STOP HRES hz
        go_wp2_with fail
        go_ret2
        rw [HE.out]
        exact ⟨_, rfl, SlV.nil _, BS.out⟩
/-- package diff keeps its contracts -/
theorem prog : DiffProg where
  cost := fun x y W hx hy _ _ h1 h2 => costF x y W hx hy h1 h2
  costNo := costF_no
  steps := fun x y W hx hy _ _ h1 h2 => stepsF x y W hx hy h1 h2
  stepsNo := stepsF_no
  patch := fun x al cl l z W hx hl hz h1 _ h3 h4 h5 h6 => patchF x al cl l z W hx hl hz h1 h3 h4 h5 h6
  patchBig := patchF_big
end Go.Proofs.Ytcknmaimkodaeaa.DiffP
