/-
  Package merge: grow (a hunk is taken off one of the sides). Written by tools/gengrow.py.
-/
import Derived.Test.YtokfnajgjhkepaaMergeGs
import Derived.BigQuiet
import Derived.BigRegion
import Derived.Deep.RegionLaw
import Derived.Deep.AppendLies
namespace Go.Proofs.Ytokfnajgjhkepaa.MergeT
open Go.RowKit Kit LineM StrM DiffM DiffA DiffR DiffP DiffK HistM

/-- one is taken, or none touches -/
def GwPost (w : World) (sb rk i e : Nat) (vs us : Nat → Value) (ts rs : Nat → List HV) (x : Ending) (W : World) : Prop :=
  (x = .returned (.bool true) ∧ ∃ k h r v u, k < 2 ∧ rs k = h :: r ∧ h.1.b ≤ e ∧ u.ownBlock = (us k).ownBlock ∧ GS w sb rk i (max e h.1.e) (upd vs k v) (upd us k u) (upd ts k (ts k ++ [h])) (upd rs k r) W) ∨
  (x = .returned (.bool false) ∧ (∀ j h r, j < 2 → rs j = h :: r → e < h.1.b) ∧ GS w sb rk i e vs us ts rs W)
theorem three_new (w : World) (a b c : Value) (t : TypeId) : ∀ j z, [a, b, c][j]? = some z → ((w.alloc (.cells #[a, b, c] t)).drew).cell? ((⟨w.heap.size, 0, none⟩ : Addr).add j) = some z := by
  intro j z h
  rw [add_of rfl, Nat.zero_add]
  show (w.alloc (.cells #[a, b, c] t)).cell? ⟨w.heap.size, j, none⟩ = some z
  rw [cells_new]
  rw [← h]; simp
set_option maxRecDepth 100000 in
set_option maxHeartbeats 4000000 in
theorem grow (w W0 : World) (sb rk i e : Nat) (vs us : Nat → Value) (ts rs : Nat → List HV) (h : GS w sb rk i e vs us ts rs W0) (hts : ∀ j, j < 2 → (ts j).length ≤ 1000) (hfm : ∀ j, j < 2 → ∀ h ∈ rs j, ∃ a n c, h.2 = .slice a n c) :
    Calls Try.prog 35 #[.pointer (some ⟨rk, 0, none⟩), .pointer (some ⟨sb, 0, none⟩)] W0 (GwPost w sb rk i e vs us ts rs) := by
  obtain ⟨i0, hi, hz0, hz1, hz2⟩ := info_parts infoHunk
  have HI := Lib.hid (And.intro hi (And.intro hz0 (And.intro hz1 hz2)))
  clear hi hz0 hz1 hz2
  have HG0 := Lib.hid h
  have HTS := Lib.hid hts
  have HFM := Lib.hid hfm
  clear h hts hfm
  go_enter Try.func35, Try.ntmps35
  go_wp2_with fail
  go_loopw [9] (fun vk wr => ∃ k : Nat, k ≤ 2 ∧ vk = .int .i64 (k : Int) ∧ Hid (GS w sb rk i e vs us ts rs wr) ∧ Hid (∀ j h r, j < k → rs j = h :: r → e < h.1.b)) (fun vk _ => 2 - (intOf vk).toNat)
  case atStart => exact ⟨0, by omega, rfl, HG0, Lib.hid (fun j h r hj => by omega)⟩
  case round =>
    obtain ⟨k, hk, rfl, HG, HNO⟩ := hrel
    clear HG0
    have hk3 : k = 0 ∨ k = 1 ∨ k = 2 := by omega
    clear hk
    have x0 := HG.out.rlt
    have x1 := HG.out.slt
    rcases hk3 with rfl | rfl | rfl
    · have c0 : wr.cell? ⟨sb, 0, none⟩ = some (us 0) := HG.out.su 0 (by omega)
      have HG2 := Lib.hid (fun n => HG.out.next (bdrewN (Below.refl _ _) n))
      obtain ⟨a, cap, hu, hle, _⟩ := id (HG.out.read (j := 0) (by omega))
      have HU := Lib.hid hu
      rw [hu] at c0
      cases hrs : rs 0 with
      | nil =>
        have HN2 : Hid (∀ j h r, j < 1 → rs j = h :: r → e < h.1.b) := Lib.hid (fun j h r hj hr => by
          by_cases ej : j = 0
          · rw [ej, hrs] at hr; cases hr
          · exact HNO.out j h r (by omega) hr)
        rw [hrs] at c0
        simp only [List.length_nil] at c0
        clear hu hrs HNO
        go_wp2_with fail
        go_quiet (fail)
        have HG3 := Lib.hid (HG2.out nq)
        have HG5 := Lib.hid (fun n => HG3.out.next (bdrewN (Below.refl _ _) n))
        generalize (wr.drewN nq) = w4 at *
        clear HG HG2 HG3
        go_wp2_with fail
        go_quiet (fail)
        go_wp2_with fail
        go_roundw
        case rel => exact ⟨1, by omega, by first | rfl | go_num, Lib.hid (HG5.out _), HN2⟩
        case measure => simp only [intOf]; omega
      | cons h r =>
        have HRS := Lib.hid hrs
        have hsl := HG.out.read (j := 0) (by omega)
        rw [hrs] at hsl c0 hu hle
        obtain ⟨g, off, cap', e', _, hg, hcell⟩ := SlV.get hsl (i := 0) (o := h) rfl
        rw [hu] at e'
        cases e'
        have z0 : wr.cell? ⟨g, off, none⟩ = some (.int .i64 (h.1.b : Int)) := hcell 0 (by omega)
        have z1 : wr.cell? ⟨g, off + 1, none⟩ = some (.int .i64 (h.1.e : Int)) := hcell 1 (by omega)
        have z2 : wr.cell? ⟨g, off + 2, none⟩ = some h.2 := hcell 2 (by omega)
        have y1 := HG.out.r1
        have hpos : (0 : Int) < ((r.length + 1 : Nat) : Int) := by omega
        have hpos2 : ((r.length + 1 : Nat) : Int) > 0 := by omega
        have HL := Lib.hid hle
        simp only [List.length_cons] at c0 hu hle
        obtain ⟨⟨hb, he, hl⟩, hv⟩ := h
        dsimp only at z0 z1 z2
        obtain ⟨n, hn⟩ : ∃ n, r.length = n := ⟨_, rfl⟩
        have HN := Lib.hid hn
        rw [hn] at c0 hu hpos hpos2 hle
        clear hn hcell hsl hrs
        by_cases hbe : hb ≤ e
        · obtain ⟨ah, nh, ch, rfl⟩ := HFM.out 0 (by omega) ⟨⟨hb, he, hl⟩, hv⟩ (by rw [HRS.out]; simp)
          have q1 : decide (hb ≤ e) = true := decide_eq_true hbe
          have q2 : (hb : Int) ≤ (e : Int) := by omega
          have q3 : decide ((hb : Int) ≤ (e : Int)) = true := decide_eq_true q2
          have RD := Lib.hid (fun W e' vs' ts' (hg' : GS w sb rk i e' vs' us ts' rs W) => (by
            have hs := hg'.read (j := 0) (by omega)
            rw [HRS.out, hu] at hs
            obtain ⟨g', off', cap', e2, _, hg2, hc⟩ := SlV.get hs (i := 0) (o := ⟨⟨hb, he, hl⟩, .slice ah nh ch⟩) rfl
            cases e2
            exact ⟨hc 0 (by omega), hc 1 (by omega), hc 2 (by omega), hg2⟩ : W.cell? ⟨g, off, none⟩ = some (.int .i64 (hb : Int)) ∧ W.cell? ⟨g, off + 1, none⟩ = some (.int .i64 (he : Int)) ∧ W.cell? ⟨g, off + 2, none⟩ = some (.slice ah nh ch) ∧ g < W.heap.size))
          have TL : Hid (SlV 3 hkc w (.slice (if cap = 1 then some ⟨g, off, none⟩ else some ⟨g, off + 3, none⟩) n (cap - 1)) r ∧ g ≠ sb) := Lib.hid (by
            have hs := HG.out.rd 0 (by omega)
            rw [HRS.out, hu] at hs
            refine ⟨?_, fun e => hs.2 (by rw [e]; rfl)⟩
            have h1 := hs.1
            rw [← HN.out] at h1 ⊢
            exact SlV.tail h1)
          clear hu HNO z1 z2
          go_wp2_with fail
          go_quiet (fail)
          have HG3 := Lib.hid (HG2.out nq)
          have HG5 := Lib.hid (fun n => HG3.out.next (bdrewN (Below.refl _ _) n))
          obtain ⟨z0', z1', z2', z3'⟩ := RD.out _ _ _ _ HG3.out
          have y1' := HG3.out.r1
          have y2' := HG3.out.rlt
          clear z0 y1
          generalize (wr.drewN nq) = w4 at *
          clear HG HG2 HG3 x0 x1 c0 hg
          go_wp2_with fail
          go_quiet (fail)
          have HG7 := Lib.hid (HG5.out nq)
          clear HG5 z0' z1' z2' z3' y1' y2'
          generalize (w4.drewN nq) = w7 at *
          obtain ⟨z0, z1, z2, z3⟩ := RD.out _ _ _ _ HG7.out
          have y1 : w7.cell? ⟨rk, 2, none⟩ = some (vs 0) := HG7.out.rv 0 (by omega)
          have y2 := HG7.out.rlt
          have hrow := HG7.out.row 0 (by omega)
          have HROW : Hid (((w7.alloc (.cells #[.int .i64 (hb : Int), .int .i64 (he : Int), .slice ah nh ch] 54)).drew).ownsRow (rk + 1) 54 3 (vs 0) (ts 0).length (flatC hkc (ts 0))) := Lib.hid (hrow.alloc _)
          have HNEW := Lib.hid (three_new w7 (.int .i64 (hb : Int)) (.int .i64 (he : Int)) (.slice ah nh ch) 54)
          have hbase : rk + 1 ≤ ((w7.alloc (.cells #[.int .i64 (hb : Int), .int .i64 (he : Int), .slice ah nh ch] 54)).drew).heap.size := by
            show rk + 1 ≤ (w7.alloc (.cells #[.int .i64 (hb : Int), .int .i64 (he : Int), .slice ah nh ch] 54)).heap.size
            simp; omega
          have hlen := HTS.out 0 (by omega)
          have AFTER := Lib.hid (fun W4 g4 cap4 hr (hgr : ((w7.alloc (.cells #[.int .i64 (hb : Int), .int .i64 (he : Int), .slice ah nh ch] 54)).drew).grownBy W4 (vs 0).ownBlock) hloc => HG7.out.push (k := 0) (by omega) (x := ⟨⟨hb, he, hl⟩, .slice ah nh ch⟩) (o := .cells #[.int .i64 (hb : Int), .int .i64 (he : Int), .slice ah nh ch] 54) (W1 := W4) (g := g4) (cap := cap4) hr ⟨hgr.os, hgr.tape, hgr.output, hgr.size, hgr.block⟩ hloc)
          obtain ⟨vu, hvu⟩ : ∃ vu, vs 0 = vu := ⟨_, rfl⟩
          rw [hvu] at y1 HROW AFTER
          obtain ⟨tl, htl⟩ : ∃ tl, ts 0 = tl := ⟨_, rfl⟩
          rw [htl] at HROW AFTER hlen
          have HTL := Lib.hid htl
          clear hvu htl hrow HG7
          go_wp2_with fail
          go_region_law ((refine step_append_lies _ (by rfl) _ _ _ (by rfl) (rk + 1) 54 i0 _ 3 40 Try.underlying46 HI.out.1 HI.out.2.1 HI.out.2.2.1 HI.out.2.2.2 rfl (by decide) vu tl.length (flatC hkc tl) (by rfl) HROW.out ⟨w7.heap.size, 0, none⟩ 1 1 [.int .i64 (hb : Int), .int .i64 (he : Int), .slice ah nh ch] (by rfl) rfl HNEW.out (by simp [Value.oneCell']) (by omega) (by unfold maxLen; omega) (by omega) hbase (w7.heap.size + 1) (by simp) ?_; intro g4 cap4 w8 hown4 hgrow4 hloc4 hlt4; obtain ⟨⟨f1, f2, f3⟩, hx8⟩ := AFTER.out _ _ _ hown4 hgrow4 (by first | exact hloc4 | simpa using hloc4); have HX8 := Lib.hid hx8; clear hx8 hown4 hgrow4 hloc4 hlt4))
          all_goals
            have HX9 : Hid (GS w sb rk i e (upd vs 0 (.slice (some ⟨g4, 0, none⟩) (tl.length + 1) cap4)) us (upd ts 0 (tl ++ [(⟨hb, he, hl⟩, .slice ah nh ch)])) rs (w8.setCell ⟨rk, 2, none⟩ (.slice (some ⟨g4, 0, none⟩) (tl.length + 1) cap4))) := HX8
            clear HX8 f1 f2 f3 HROW HNEW AFTER hbase z0 z1 z2 z3 y1 y2
            generalize (w8.setCell ⟨rk, 2, none⟩ (.slice (some ⟨g4, 0, none⟩) (tl.length + 1) cap4)) = w9 at *
            generalize (.slice (some ⟨g4, 0, none⟩) (tl.length + 1) cap4 : Value) = v9 at *
            obtain ⟨z0, z1, z2, z3⟩ := RD.out _ _ _ _ HX9.out
            have y1 := HX9.out.r1
            have y2 := HX9.out.rf 1 (by omega)
            have y3 := HX9.out.rlt
            have HE := Lib.hid (fun M : Nat => (HX9.out.setE (e' := M)).next (Below.drew (Below.refl _ _)))
            clear HX9
            have FIN := Lib.hid (fun (M : Nat) (hM : max e he = M) (w10 : World) (hg : GS w sb rk i M (upd vs 0 v9) us (upd ts 0 (tl ++ [(⟨hb, he, hl⟩, .slice ah nh ch)])) rs w10) u (hu : SlV 3 hkc w u r) (hne : u.ownBlock = some g) => (show GwPost w sb rk i e vs us ts rs (.returned (.bool true)) ((w10.setCell ⟨sb, 0, none⟩ u).drew) from Or.inl ⟨rfl, 0, ⟨⟨hb, he, hl⟩, .slice ah nh ch⟩, r, v9, u, by omega, HRS.out, hbe, by rw [hne, HU.out]; rfl, by
              have h1 := (hg.setS (k := 0) (by omega) hu (by rw [hne]; exact fun e => TL.out.2 (Option.some.inj e))).next (Below.drew (Below.refl _ _))
              rw [HTL.out]
              show GS w sb rk i (max e he) _ _ _ _ _
              rw [hM]
              exact h1⟩))
            rcases Nat.lt_or_ge e he with hm | hm
            · have m2 : (e : Int) < (he : Int) := by omega
              have F2 := Lib.hid (FIN.out he (Nat.max_eq_right (by omega)) _ (HE.out he))
              have HG10 := Lib.hid (HE.out he)
              clear FIN HE
              go_wp2_with fail
              go_big_region
              generalize ((w9.setCell ⟨rk, 1, none⟩ (.int .i64 (he : Int))).drew) = w10 at *
              have s0 := HG10.out.su 0 (by omega)
              have s1 := HG10.out.sf 0 (by omega)
              have s2 := HG10.out.slt
              clear HG10 z0 z1 z2 z3 y1 y2 y3
              have p1 : ¬ (1 : Int) > ((n + 1 : Nat) : Int) := by omega
              have p2 : (1 : Int) ≤ ((n + 1 : Nat) : Int) := by omega
              have p3 : ((n + 1 : Nat) : Int) ≤ (cap : Int) := by omega
              have p4 : (1 : Int) ≤ (cap : Int) := by omega
              have TLS := Lib.hid TL.out.1
              by_cases hc1 : cap = 1
              · have hn0 : n = 0 := by omega
                subst hc1
                subst hn0
                have T2 := Lib.hid (F2.out _ TLS.out (by rw [if_pos rfl]; rfl))
                rw [if_pos rfl] at T2
                clear F2 TLS
                go_wp2_with fail
                go_big_region
                go_wp2_with fail
                go_ret
                exact T2.out
              · have hc2 : ¬ (cap : Int) = 1 := by omega
                have T2 := Lib.hid (F2.out _ TLS.out (by rw [if_neg hc1]; rfl))
                rw [if_neg hc1] at T2
                clear F2 TLS
                go_wp2_with fail
                go_big_region
                go_wp2_with fail
                go_ret
                exact T2.out
            · have m1 : ¬ e < he := by omega
              have m2 : ¬ (e : Int) < (he : Int) := by omega
              have F2 := Lib.hid (FIN.out e (Nat.max_eq_left hm) _ (HE.out e))
              have HG10 := Lib.hid (HE.out e)
              clear FIN HE
              go_wp2_with fail
              go_big_region
              generalize ((w9.setCell ⟨rk, 1, none⟩ (.int .i64 (e : Int))).drew) = w10 at *
              have s0 := HG10.out.su 0 (by omega)
              have s1 := HG10.out.sf 0 (by omega)
              have s2 := HG10.out.slt
              clear HG10 z0 z1 z2 z3 y1 y2 y3
              have p1 : ¬ (1 : Int) > ((n + 1 : Nat) : Int) := by omega
              have p2 : (1 : Int) ≤ ((n + 1 : Nat) : Int) := by omega
              have p3 : ((n + 1 : Nat) : Int) ≤ (cap : Int) := by omega
              have p4 : (1 : Int) ≤ (cap : Int) := by omega
              have TLS := Lib.hid TL.out.1
              by_cases hc1 : cap = 1
              · have hn0 : n = 0 := by omega
                subst hc1
                subst hn0
                have T2 := Lib.hid (F2.out _ TLS.out (by rw [if_pos rfl]; rfl))
                rw [if_pos rfl] at T2
                clear F2 TLS
                go_wp2_with fail
                go_big_region
                go_wp2_with fail
                go_ret
                exact T2.out
              · have hc2 : ¬ (cap : Int) = 1 := by omega
                have T2 := Lib.hid (F2.out _ TLS.out (by rw [if_neg hc1]; rfl))
                rw [if_neg hc1] at T2
                clear F2 TLS
                go_wp2_with fail
                go_big_region
                go_wp2_with fail
                go_ret
                exact T2.out
        · have HN2 : Hid (∀ j h r, j < 1 → rs j = h :: r → e < h.1.b) := Lib.hid (fun j h' r' hj hr => by
            by_cases ej : j = 0
            · rw [ej, HRS.out] at hr; cases hr; dsimp only; omega
            · exact HNO.out j h' r' (by omega) hr)
          have q1 : decide (hb ≤ e) = false := decide_eq_false hbe
          have q2 : ¬ (hb : Int) ≤ (e : Int) := by omega
          have q3 : decide ((hb : Int) ≤ (e : Int)) = false := decide_eq_false q2
          clear hu HNO
          go_wp2_with fail
          go_quiet (fail)
          have HG3 := Lib.hid (HG2.out nq)
          have HG5 := Lib.hid (fun n => HG3.out.next (bdrewN (Below.refl _ _) n))
          have B3' := Lib.hid (bdrewN (Below.refl wr.heap.size wr) nq)
          have z0' := keep B3'.out hg z0
          have y1' := keep B3'.out x0 y1
          clear z0 y1
          generalize (wr.drewN nq) = w4 at *
          clear HG HG2 HG3
          go_wp2_with fail
          go_quiet (fail)
          go_wp2_with fail
          go_roundw
          case rel => exact ⟨1, by omega, by first | rfl | go_num, Lib.hid (HG5.out _), HN2⟩
          case measure => simp only [intOf]; omega
    · have c0 : wr.cell? ⟨sb, 1, none⟩ = some (us 1) := HG.out.su 1 (by omega)
      have HG2 := Lib.hid (fun n => HG.out.next (bdrewN (Below.refl _ _) n))
      obtain ⟨a, cap, hu, hle, _⟩ := id (HG.out.read (j := 1) (by omega))
      have HU := Lib.hid hu
      rw [hu] at c0
      cases hrs : rs 1 with
      | nil =>
        have HN2 : Hid (∀ j h r, j < 2 → rs j = h :: r → e < h.1.b) := Lib.hid (fun j h r hj hr => by
          by_cases ej : j = 1
          · rw [ej, hrs] at hr; cases hr
          · exact HNO.out j h r (by omega) hr)
        rw [hrs] at c0
        simp only [List.length_nil] at c0
        clear hu hrs HNO
        go_wp2_with fail
        go_quiet (fail)
        have HG3 := Lib.hid (HG2.out nq)
        have HG5 := Lib.hid (fun n => HG3.out.next (bdrewN (Below.refl _ _) n))
        generalize (wr.drewN nq) = w4 at *
        clear HG HG2 HG3
        go_wp2_with fail
        go_quiet (fail)
        go_wp2_with fail
        go_roundw
        case rel => exact ⟨2, by omega, by first | rfl | go_num, Lib.hid (HG5.out _), HN2⟩
        case measure => simp only [intOf]; omega
      | cons h r =>
        have HRS := Lib.hid hrs
        have hsl := HG.out.read (j := 1) (by omega)
        rw [hrs] at hsl c0 hu hle
        obtain ⟨g, off, cap', e', _, hg, hcell⟩ := SlV.get hsl (i := 0) (o := h) rfl
        rw [hu] at e'
        cases e'
        have z0 : wr.cell? ⟨g, off, none⟩ = some (.int .i64 (h.1.b : Int)) := hcell 0 (by omega)
        have z1 : wr.cell? ⟨g, off + 1, none⟩ = some (.int .i64 (h.1.e : Int)) := hcell 1 (by omega)
        have z2 : wr.cell? ⟨g, off + 2, none⟩ = some h.2 := hcell 2 (by omega)
        have y1 := HG.out.r1
        have hpos : (0 : Int) < ((r.length + 1 : Nat) : Int) := by omega
        have hpos2 : ((r.length + 1 : Nat) : Int) > 0 := by omega
        have HL := Lib.hid hle
        simp only [List.length_cons] at c0 hu hle
        obtain ⟨⟨hb, he, hl⟩, hv⟩ := h
        dsimp only at z0 z1 z2
        obtain ⟨n, hn⟩ : ∃ n, r.length = n := ⟨_, rfl⟩
        have HN := Lib.hid hn
        rw [hn] at c0 hu hpos hpos2 hle
        clear hn hcell hsl hrs
        by_cases hbe : hb ≤ e
        · obtain ⟨ah, nh, ch, rfl⟩ := HFM.out 1 (by omega) ⟨⟨hb, he, hl⟩, hv⟩ (by rw [HRS.out]; simp)
          have q1 : decide (hb ≤ e) = true := decide_eq_true hbe
          have q2 : (hb : Int) ≤ (e : Int) := by omega
          have q3 : decide ((hb : Int) ≤ (e : Int)) = true := decide_eq_true q2
          have RD := Lib.hid (fun W e' vs' ts' (hg' : GS w sb rk i e' vs' us ts' rs W) => (by
            have hs := hg'.read (j := 1) (by omega)
            rw [HRS.out, hu] at hs
            obtain ⟨g', off', cap', e2, _, hg2, hc⟩ := SlV.get hs (i := 0) (o := ⟨⟨hb, he, hl⟩, .slice ah nh ch⟩) rfl
            cases e2
            exact ⟨hc 0 (by omega), hc 1 (by omega), hc 2 (by omega), hg2⟩ : W.cell? ⟨g, off, none⟩ = some (.int .i64 (hb : Int)) ∧ W.cell? ⟨g, off + 1, none⟩ = some (.int .i64 (he : Int)) ∧ W.cell? ⟨g, off + 2, none⟩ = some (.slice ah nh ch) ∧ g < W.heap.size))
          have TL : Hid (SlV 3 hkc w (.slice (if cap = 1 then some ⟨g, off, none⟩ else some ⟨g, off + 3, none⟩) n (cap - 1)) r ∧ g ≠ sb) := Lib.hid (by
            have hs := HG.out.rd 1 (by omega)
            rw [HRS.out, hu] at hs
            refine ⟨?_, fun e => hs.2 (by rw [e]; rfl)⟩
            have h1 := hs.1
            rw [← HN.out] at h1 ⊢
            exact SlV.tail h1)
          clear hu HNO z1 z2
          go_wp2_with fail
          go_quiet (fail)
          have HG3 := Lib.hid (HG2.out nq)
          have HG5 := Lib.hid (fun n => HG3.out.next (bdrewN (Below.refl _ _) n))
          obtain ⟨z0', z1', z2', z3'⟩ := RD.out _ _ _ _ HG3.out
          have y1' := HG3.out.r1
          have y2' := HG3.out.rlt
          clear z0 y1
          generalize (wr.drewN nq) = w4 at *
          clear HG HG2 HG3 x0 x1 c0 hg
          go_wp2_with fail
          go_quiet (fail)
          have HG7 := Lib.hid (HG5.out nq)
          clear HG5 z0' z1' z2' z3' y1' y2'
          generalize (w4.drewN nq) = w7 at *
          obtain ⟨z0, z1, z2, z3⟩ := RD.out _ _ _ _ HG7.out
          have y1 : w7.cell? ⟨rk, 3, none⟩ = some (vs 1) := HG7.out.rv 1 (by omega)
          have y2 := HG7.out.rlt
          have hrow := HG7.out.row 1 (by omega)
          have HROW : Hid (((w7.alloc (.cells #[.int .i64 (hb : Int), .int .i64 (he : Int), .slice ah nh ch] 54)).drew).ownsRow (rk + 1) 54 3 (vs 1) (ts 1).length (flatC hkc (ts 1))) := Lib.hid (hrow.alloc _)
          have HNEW := Lib.hid (three_new w7 (.int .i64 (hb : Int)) (.int .i64 (he : Int)) (.slice ah nh ch) 54)
          have hbase : rk + 1 ≤ ((w7.alloc (.cells #[.int .i64 (hb : Int), .int .i64 (he : Int), .slice ah nh ch] 54)).drew).heap.size := by
            show rk + 1 ≤ (w7.alloc (.cells #[.int .i64 (hb : Int), .int .i64 (he : Int), .slice ah nh ch] 54)).heap.size
            simp; omega
          have hlen := HTS.out 1 (by omega)
          have AFTER := Lib.hid (fun W4 g4 cap4 hr (hgr : ((w7.alloc (.cells #[.int .i64 (hb : Int), .int .i64 (he : Int), .slice ah nh ch] 54)).drew).grownBy W4 (vs 1).ownBlock) hloc => HG7.out.push (k := 1) (by omega) (x := ⟨⟨hb, he, hl⟩, .slice ah nh ch⟩) (o := .cells #[.int .i64 (hb : Int), .int .i64 (he : Int), .slice ah nh ch] 54) (W1 := W4) (g := g4) (cap := cap4) hr ⟨hgr.os, hgr.tape, hgr.output, hgr.size, hgr.block⟩ hloc)
          obtain ⟨vu, hvu⟩ : ∃ vu, vs 1 = vu := ⟨_, rfl⟩
          rw [hvu] at y1 HROW AFTER
          obtain ⟨tl, htl⟩ : ∃ tl, ts 1 = tl := ⟨_, rfl⟩
          rw [htl] at HROW AFTER hlen
          have HTL := Lib.hid htl
          clear hvu htl hrow HG7
          go_wp2_with fail
          go_region_law ((refine step_append_lies _ (by rfl) _ _ _ (by rfl) (rk + 1) 54 i0 _ 3 40 Try.underlying46 HI.out.1 HI.out.2.1 HI.out.2.2.1 HI.out.2.2.2 rfl (by decide) vu tl.length (flatC hkc tl) (by rfl) HROW.out ⟨w7.heap.size, 0, none⟩ 1 1 [.int .i64 (hb : Int), .int .i64 (he : Int), .slice ah nh ch] (by rfl) rfl HNEW.out (by simp [Value.oneCell']) (by omega) (by unfold maxLen; omega) (by omega) hbase (w7.heap.size + 1) (by simp) ?_; intro g4 cap4 w8 hown4 hgrow4 hloc4 hlt4; obtain ⟨⟨f1, f2, f3⟩, hx8⟩ := AFTER.out _ _ _ hown4 hgrow4 (by first | exact hloc4 | simpa using hloc4); have HX8 := Lib.hid hx8; clear hx8 hown4 hgrow4 hloc4 hlt4))
          all_goals
            have HX9 : Hid (GS w sb rk i e (upd vs 1 (.slice (some ⟨g4, 0, none⟩) (tl.length + 1) cap4)) us (upd ts 1 (tl ++ [(⟨hb, he, hl⟩, .slice ah nh ch)])) rs (w8.setCell ⟨rk, 3, none⟩ (.slice (some ⟨g4, 0, none⟩) (tl.length + 1) cap4))) := HX8
            clear HX8 f1 f2 f3 HROW HNEW AFTER hbase z0 z1 z2 z3 y1 y2
            generalize (w8.setCell ⟨rk, 3, none⟩ (.slice (some ⟨g4, 0, none⟩) (tl.length + 1) cap4)) = w9 at *
            generalize (.slice (some ⟨g4, 0, none⟩) (tl.length + 1) cap4 : Value) = v9 at *
            obtain ⟨z0, z1, z2, z3⟩ := RD.out _ _ _ _ HX9.out
            have y1 := HX9.out.r1
            have y2 := HX9.out.rf 1 (by omega)
            have y3 := HX9.out.rlt
            have HE := Lib.hid (fun M : Nat => (HX9.out.setE (e' := M)).next (Below.drew (Below.refl _ _)))
            clear HX9
            have FIN := Lib.hid (fun (M : Nat) (hM : max e he = M) (w10 : World) (hg : GS w sb rk i M (upd vs 1 v9) us (upd ts 1 (tl ++ [(⟨hb, he, hl⟩, .slice ah nh ch)])) rs w10) u (hu : SlV 3 hkc w u r) (hne : u.ownBlock = some g) => (show GwPost w sb rk i e vs us ts rs (.returned (.bool true)) ((w10.setCell ⟨sb, 1, none⟩ u).drew) from Or.inl ⟨rfl, 1, ⟨⟨hb, he, hl⟩, .slice ah nh ch⟩, r, v9, u, by omega, HRS.out, hbe, by rw [hne, HU.out]; rfl, by
              have h1 := (hg.setS (k := 1) (by omega) hu (by rw [hne]; exact fun e => TL.out.2 (Option.some.inj e))).next (Below.drew (Below.refl _ _))
              rw [HTL.out]
              show GS w sb rk i (max e he) _ _ _ _ _
              rw [hM]
              exact h1⟩))
            rcases Nat.lt_or_ge e he with hm | hm
            · have m2 : (e : Int) < (he : Int) := by omega
              have F2 := Lib.hid (FIN.out he (Nat.max_eq_right (by omega)) _ (HE.out he))
              have HG10 := Lib.hid (HE.out he)
              clear FIN HE
              go_wp2_with fail
              go_big_region
              generalize ((w9.setCell ⟨rk, 1, none⟩ (.int .i64 (he : Int))).drew) = w10 at *
              have s0 := HG10.out.su 1 (by omega)
              have s1 := HG10.out.sf 1 (by omega)
              have s2 := HG10.out.slt
              clear HG10 z0 z1 z2 z3 y1 y2 y3
              have p1 : ¬ (1 : Int) > ((n + 1 : Nat) : Int) := by omega
              have p2 : (1 : Int) ≤ ((n + 1 : Nat) : Int) := by omega
              have p3 : ((n + 1 : Nat) : Int) ≤ (cap : Int) := by omega
              have p4 : (1 : Int) ≤ (cap : Int) := by omega
              have TLS := Lib.hid TL.out.1
              by_cases hc1 : cap = 1
              · have hn0 : n = 0 := by omega
                subst hc1
                subst hn0
                have T2 := Lib.hid (F2.out _ TLS.out (by rw [if_pos rfl]; rfl))
                rw [if_pos rfl] at T2
                clear F2 TLS
                go_wp2_with fail
                go_big_region
                go_wp2_with fail
                go_ret
                exact T2.out
              · have hc2 : ¬ (cap : Int) = 1 := by omega
                have T2 := Lib.hid (F2.out _ TLS.out (by rw [if_neg hc1]; rfl))
                rw [if_neg hc1] at T2
                clear F2 TLS
                go_wp2_with fail
                go_big_region
                go_wp2_with fail
                go_ret
                exact T2.out
            · have m1 : ¬ e < he := by omega
              have m2 : ¬ (e : Int) < (he : Int) := by omega
              have F2 := Lib.hid (FIN.out e (Nat.max_eq_left hm) _ (HE.out e))
              have HG10 := Lib.hid (HE.out e)
              clear FIN HE
              go_wp2_with fail
              go_big_region
              generalize ((w9.setCell ⟨rk, 1, none⟩ (.int .i64 (e : Int))).drew) = w10 at *
              have s0 := HG10.out.su 1 (by omega)
              have s1 := HG10.out.sf 1 (by omega)
              have s2 := HG10.out.slt
              clear HG10 z0 z1 z2 z3 y1 y2 y3
              have p1 : ¬ (1 : Int) > ((n + 1 : Nat) : Int) := by omega
              have p2 : (1 : Int) ≤ ((n + 1 : Nat) : Int) := by omega
              have p3 : ((n + 1 : Nat) : Int) ≤ (cap : Int) := by omega
              have p4 : (1 : Int) ≤ (cap : Int) := by omega
              have TLS := Lib.hid TL.out.1
              by_cases hc1 : cap = 1
              · have hn0 : n = 0 := by omega
                subst hc1
                subst hn0
                have T2 := Lib.hid (F2.out _ TLS.out (by rw [if_pos rfl]; rfl))
                rw [if_pos rfl] at T2
                clear F2 TLS
                go_wp2_with fail
                go_big_region
                go_wp2_with fail
                go_ret
                exact T2.out
              · have hc2 : ¬ (cap : Int) = 1 := by omega
                have T2 := Lib.hid (F2.out _ TLS.out (by rw [if_neg hc1]; rfl))
                rw [if_neg hc1] at T2
                clear F2 TLS
                go_wp2_with fail
                go_big_region
                go_wp2_with fail
                go_ret
                exact T2.out
        · have HN2 : Hid (∀ j h r, j < 2 → rs j = h :: r → e < h.1.b) := Lib.hid (fun j h' r' hj hr => by
            by_cases ej : j = 1
            · rw [ej, HRS.out] at hr; cases hr; dsimp only; omega
            · exact HNO.out j h' r' (by omega) hr)
          have q1 : decide (hb ≤ e) = false := decide_eq_false hbe
          have q2 : ¬ (hb : Int) ≤ (e : Int) := by omega
          have q3 : decide ((hb : Int) ≤ (e : Int)) = false := decide_eq_false q2
          clear hu HNO
          go_wp2_with fail
          go_quiet (fail)
          have HG3 := Lib.hid (HG2.out nq)
          have HG5 := Lib.hid (fun n => HG3.out.next (bdrewN (Below.refl _ _) n))
          have B3' := Lib.hid (bdrewN (Below.refl wr.heap.size wr) nq)
          have z0' := keep B3'.out hg z0
          have y1' := keep B3'.out x0 y1
          clear z0 y1
          generalize (wr.drewN nq) = w4 at *
          clear HG HG2 HG3
          go_wp2_with fail
          go_quiet (fail)
          go_wp2_with fail
          go_roundw
          case rel => exact ⟨2, by omega, by first | rfl | go_num, Lib.hid (HG5.out _), HN2⟩
          case measure => simp only [intOf]; omega
    · have FIN : Hid (GwPost w sb rk i e vs us ts rs (.returned (.bool false)) wr) := Lib.hid (.inr ⟨rfl, fun j h r hj hr => HNO.out j h r hj hr, HG.out⟩)
      clear HG HNO
      go_wp2_with fail
      go_ret
      exact FIN.out
end Go.Proofs.Ytokfnajgjhkepaa.MergeT
