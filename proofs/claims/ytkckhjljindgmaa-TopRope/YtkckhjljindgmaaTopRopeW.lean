/-
  The law TopRope.
-/
import Derived.Test.YtkckhjljindgmaaTopMath
import Derived.Test.YtkckhjljindgmaaOpsVal
import Derived.Test.YtkckhjljindgmaaEditsW
import Derived.Test.YtkckhjljindgmaaCopyV
import Derived.Test.YtkckhjljindgmaaRopeMeas
import Derived.Test.YtkckhjljindgmaaPosOfC
import Derived.Test.YtkckhjljindgmaaPolyC
import Derived.Deep.RegionHeld3
import Derived.Deep.Cut
import Derived.Deep.DeepCutAuto
namespace Go.Proofs.Ytkckhjljindgmaa.TopC
open Go.RowKit Kit RopeM RopeC EditM EditC EditK ChgM Txt Lift TopM KeepC PosM PolyM

def opc (o : OpM) : List Value := o.cells.toList
theorem opc_len (o : OpM) : (opc o).length = 6 := rfl
theorem opc_one (o : OpM) : ∀ u ∈ opc o, u.oneCell' = true := by
  intro u hu
  simp [opc, OpM.cells] at hu
  rcases hu with rfl | rfl | rfl | rfl | rfl | rfl <;> rfl
theorem opsV_of {w : World} {v : Value} {l : List OpM} (h : SlV 6 opc w v l) : OpsV w v l := by
  obtain ⟨a, cap, e, hle, ha, hd⟩ := h
  refine ⟨a, cap, e, hle, ⟨fun i o hi => ?_⟩, hd.imp id fun ⟨g, off, h1, _⟩ => ⟨g, off, h1⟩⟩
  obtain ⟨g, off, h0, h1, h2⟩ := ha.cell i o hi
  exact ⟨g, off, h0, h1, h2 0 (by omega), h2 1 (by omega), h2 2 (by omega), h2 3 (by omega), h2 4 (by omega), h2 5 (by omega)⟩
theorem depthsV (v : Value) (l : List OpM) (w : World) (h : OpsV w v l) (h80 : l.length ≤ 80) :
    Calls Try.prog 30 #[v] w fun e w' => ∃ dv ts, e = .returned (.tuple #[dv, .int .i64 0]) ∧ txts ts = texts l [] ∧ (∀ t ∈ ts, t.ok) ∧ Row w' dv (depsV ts) ∧ Below w.heap.size w w' := by
  obtain ⟨a, cap, rfl, _, ha, _⟩ := h
  exact depths l a cap w ha h80
theorem measV (v : Value) (l : List OpM) (w : World) (h : OpsV w v l) (h80 : l.length ≤ 80) :
    Calls Try.prog 31 #[v] w fun e w' => ∃ pv hv', e = .returned (.tuple #[pv, hv', .int .i64 0]) ∧ Meas w' pv hv' (texts l []) ∧ Below w.heap.size w w' := by
  obtain ⟨a, cap, rfl, _, ha, _⟩ := h
  exact measured l a cap w ha h80

/-- what the loop keeps -/
structure TpA (w : World) (ops : List OpM) (v : Value) (wr : World) : Prop where
  row : wr.ownsRow w.heap.size 55 6 v ops.length (flatC opc ops)
  bel : Below w.heap.size w wr
theorem TpA.next {w : World} {ops : List OpM} {v : Value} {w1 w2 : World} (h : TpA w ops v w1) (hb : Below w1.heap.size w1 w2) : TpA w ops v w2 := ⟨row_next h.row hb, bstep h.bel hb⟩
theorem TpA.val {w : World} {ops : List OpM} {v : Value} {w1 : World} (h : TpA w ops v w1) : SlV 6 opc w1 v ops := SlV.of_owns opc_len h.row
/-- thirty cells in a new block -/
theorem cell_new (w : World) (cs : Array Value) (t : TypeId) : ∀ j u, cs.toList[j]? = some u → (w.alloc (.cells cs t)).cell? ((⟨w.heap.size, 0, none⟩ : Addr).add j) = some u := by
  intro j u hj
  have e : (⟨w.heap.size, 0, none⟩ : Addr).add j = ⟨w.heap.size, j, none⟩ := by rw [add_of rfl]; simp
  rw [e, Kit.cells_new]
  simpa using hj

/-- a depth and a text -/
theorem dep_fine {t : RT} (h : t.ok) (hl : t.txt.length ≤ 600) : t.dep ≤ 22 ∧ (t.dep = 0 ↔ t.txt = []) := by
  rw [RT.txt_len] at hl
  refine ⟨?_, ?_⟩
  · by_cases h0 : 0 < t.dep
    · have h2 := RT.shallow h h0
      by_cases h22 : t.dep ≤ 22
      · exact h22
      · have h3 : 10 ≤ (t.dep - 1) / 2 := by omega
        have h4 : 2 ^ 10 ≤ 2 ^ ((t.dep - 1) / 2) := Nat.pow_le_pow_right (by omega) h3
        have : (2 : Nat) ^ 10 = 1024 := rfl
        omega
    · omega
  · have := RT.dep_pos h
    rw [← List.length_eq_zero_iff, RT.txt_len]
    omega

set_option maxRecDepth 100000 in
set_option maxHeartbeats 4000000 in
theorem topRope (a0 : Option Addr) (len0 cap0 : Nat) (z0 : List Int) (al : Option Addr) (cap : Nat) (l : List ChgM) (w : World) (hz : IsRow .i64 w a0 len0 cap0 z0) (hl : ChsAt w al l) (hh : ∀ c ∈ l, c.has w) (hle : l.length ≤ cap) (hmx : cap ≤ maxLen) {S : Prop} (_ : S) :
    Calls Try.prog 13 #[.slice a0 len0 cap0, .slice al l.length cap] w fun e w' => e = .returned (.bool true) ∧ Below w.heap.size w w' := by
  have hlen : l.length ≤ 9223372036854775807 := by unfold maxLen at hmx; omega
  have TO := Lib.hid (textOf a0 len0 cap0 z0 80 w hz (by omega))
  have hs80 : (textS ((z0.take len0).take 80)).size ≤ 80 := by rw [textS_size]; simp only [List.length_take]; omega
  generalize textS ((z0.take len0).take 80) = s at *
  have ES := Lib.hid (edits l al cap 8 s.size w hl hh hlen (by omega) (by omega))
  have HC := edsOf_code l 8 s.data.toList (by rw [size_list]; omega)
  have HLn := edsOf_len l 8 (s.size : Int)
  rw [size_list] at HC
  generalize edsOf l 8 (s.size : Int) = es at *
  obtain ⟨hc, hok⟩ := HC
  have AP := Lib.hid (fun W v (hv : EdsV W v es) => EditK.applyV s es v W hv hok (by omega) (by omega) hc)
  have TX := topS_texts s es (by omega) hc HLn es.length (Nat.le_refl _)
  rw [List.take_length] at TX
  have TL := topS_len s es es.length
  have TXT := Lib.hid TX
  have hwl : (apT es s.data.toList).length ≤ 600 := apT_len hc (by rw [size_list]; omega)
  obtain ⟨m, hm⟩ : ∃ m, es.length = m := ⟨_, rfl⟩
  have HM := Lib.hid hm
  have PL := Lib.hid (fun W v (hv : OpsV W v (topS s es m)) => playV v _ W hv (by rw [topS_len]; omega))
  have DP := Lib.hid (fun W v (hv : OpsV W v (topS s es m)) => depthsV v _ W hv (by rw [topS_len]; omega))
  have ME := Lib.hid (fun W v (hv : OpsV W v (topS s es m)) => measV v _ W hv (by rw [topS_len]; omega))
  rw [hm] at TXT HLn TL
  obtain ⟨i0, hi, hz0, hz1, hz2⟩ := info_parts infoOp
  have HI := Lib.hid (And.intro hi (And.intro hz0 (And.intro hz1 hz2)))
  have HOK := Lib.hid hok
  have HFT := Lib.hid (fun k e (he : es[k]? = some e) => fits_at hc he)
  clear hi hz0 hz1 hz2 hc hok TX hz hl hh hle hmx hlen hm TL
  generalize l.length = NL at *
  go_enter Try.func13, Try.ntmps13
  go_wp2_with fail
  refine TO.out.mono ?_
  rintro e w1 ⟨rfl, rfl⟩
  go_wp2_with fail
  refine ES.out.mono ?_
  rintro e w1 ⟨v1, rfl, hv1, hb1⟩
  have V1 := Lib.hid hv1
  have B1 := Lib.hid hb1
  obtain ⟨ae, ce, rfl, hce, hae, hd⟩ := hv1
  have HAE := Lib.hid hae
  have HML := HM.out
  rw [HML] at V1 hce ⊢
  clear hb1 TO ES hd hae HML
  have H0 : Hid (TpA w1 (topS s es 0) (.slice (some ⟨w1.heap.size, 0, none⟩) 1 1) (w1.alloc (.cells #[.int .i64 1, .string s, .int .i64 0, .int .i64 0, .int .i64 0, .int .i64 0] 55))) := Lib.hid ⟨World.ownsRow_lit w1 (cs := #[.int .i64 1, .string s, .int .i64 0, .int .i64 0, .int .i64 0, .int .i64 0]) 1 (Nat.le_refl _) (by unfold maxLen; omega) rfl, balloc (Below.refl _ _) _⟩
  go_wp2_with fail
  go_loopw [7, 8, 9] (fun v nw i wr => ∃ k : Nat, k ≤ m ∧ i = .int .i64 (k : Int) ∧ nw = .int .i64 ((5 * k : Nat) : Int) ∧ TpA w1 (topS s es k) v wr) (fun _ _ i _ => m - (intOf i).toNat)
  case atStart => exact ⟨0, by omega, rfl, rfl, H0.out⟩
  case round =>
    obtain ⟨k, hk, rfl, rfl, htp⟩ := hrel
    clear H0
    have HT := Lib.hid htp
    clear htp
    by_cases hlt : k < m
    · obtain ⟨e, he⟩ : ∃ e, es[k]? = some e := ⟨es[k]'(by have := HM.out; omega), by simp [HM.out, hlt]⟩
      obtain ⟨g, off, rfl, hg, c0, c1, c2⟩ := EdsAt.get (SlAt.next HAE.out HT.out.bel) he
      have NX := Lib.hid (topS_next (s := s) he)
      obtain ⟨f1, f2, f3, f4, f5⟩ := HFT.out k e he
      have f6 : e.at_ ≤ 600 := by omega
      have f7 : e.cut ≤ 600 := by omega
      clear he f3 f4 f5
      have hlk := topS_len s es k
      obtain ⟨gq, cq, rfl, hgq0, hgq⟩ := HT.out.row.form (by rw [hlk]; omega)
      obtain ⟨N, hN⟩ : ∃ N, N = 5 * k + 1 := ⟨_, rfl⟩
      rw [← hN] at hlk NX
      rw [hlk] at HT ⊢
      have HLK := Lib.hid hlk
      have HNN := Lib.hid hN
      have hN60 : N ≤ 60 := by omega
      obtain ⟨nw, hnw⟩ : ∃ nw, nw = 5 * k := ⟨_, rfl⟩
      rw [← hnw] at NX ⊢
      have hnw60 : nw ≤ 60 := by omega
      have hN1 : N = nw + 1 := by omega
      have HN1 := Lib.hid hN1
      clear hN hnw hlk hN1
      obtain ⟨a, c, p⟩ := e
      dsimp only at *
      have ew : IntKind.i64.wrap (a + c) = a + c := IntWalk.i64_in _ (by omega)
      obtain ⟨cs, hcs⟩ : ∃ cs : Array Value, cs = #[.int .i64 3, .string ⟨#[]⟩, .int .i64 (nw : Int), .int .i64 0, .int .i64 a, .int .i64 0, .int .i64 4, .string ⟨#[]⟩, .int .i64 (nw : Int), .int .i64 0, .int .i64 (a + c), .int .i64 0, .int .i64 1, .string p, .int .i64 0, .int .i64 0, .int .i64 0, .int .i64 0, .int .i64 2, .string ⟨#[]⟩, .int .i64 (N : Int), .int .i64 ((N : Int) + 2), .int .i64 0, .int .i64 0, .int .i64 2, .string ⟨#[]⟩, .int .i64 ((N : Int) + 3), .int .i64 ((N : Int) + 1), .int .i64 0, .int .i64 0] := ⟨_, rfl⟩
      have HCS : Hid (cs.toList = flatC opc (five ⟨a, c, p⟩ (nw : Int) (N : Int))) := Lib.hid (by rw [hcs]; rfl)
      have HT2 := Lib.hid ((HT.out.next (balloc (Below.refl _ _) (.cells #[.int .i64 a, .int .i64 c, .string p] 23))).next (balloc (Below.refl _ _) (.cells cs 55)))
      have HNEW : Hid (∀ (j : Nat) u, cs.toList[j]? = some u → ((wr.alloc (.cells #[.int .i64 a, .int .i64 c, .string p] 23)).alloc (.cells cs 55)).cell? ((⟨wr.heap.size + 1, 0, none⟩ : Addr).add j) = some u) := Lib.hid (by
        have := cell_new (wr.alloc (.cells #[.int .i64 a, .int .i64 c, .string p] 23)) cs 55
        simpa using this)
      have HROW : Hid (((wr.alloc (.cells #[.int .i64 a, .int .i64 c, .string p] 23)).alloc (.cells cs 55)).ownsRow w1.heap.size 55 6 (.slice (some ⟨gq, 0, none⟩) N cq) N (flatC opc (topS s es k))) := by
        have := HT2.out.row
        rw [HLK.out] at this
        exact Lib.hid this
      have hcl : cs.toList.length = 30 := by rw [hcs]; rfl
      have hc1 : ∀ u ∈ cs.toList, u.oneCell' = true := by rw [HCS.out]; exact flatC_all opc_one _
      have HC1 := Lib.hid hc1
      have HCL := Lib.hid hcl
      have hbz : w1.heap.size ≤ wr.heap.size := HT.out.bel.size
      clear hc1 hcl
      rw [hcs] at HNEW HROW HC1 HCL HCS HT2
      clear hcs
      go_wp2_with (at_builtin; refine wpList_append_lies _ rfl _ _ 56 rfl w1.heap.size 55 i0 _ 6 56 Try.underlying56 HI.out.1 HI.out.2.1 HI.out.2.2.1 HI.out.2.2.2 rfl (by decide) _ N (flatC opc (topS s es k)) rfl HROW.out ⟨wr.heap.size + 1, 0, none⟩ 5 5 _ rfl HCL.out HNEW.out HC1.out (by omega) (by unfold maxLen; omega) (by omega) (by simp; omega) _ rfl ?_; intro g4 cap4 w4 hown4 hgrow4 _ _; have FIN : Hid (TpA w1 (topS s es (k + 1)) (.slice (some ⟨g4, 0, none⟩) (N + 5) cap4) w4) := Lib.hid ⟨by rw [NX.out, flatC_append, List.length_append, HLK.out, ← HCS.out]; exact hown4, bgrow HT2.out.bel HROW.out hgrow4⟩; clear hown4 hgrow4)
      go_roundw
      case rel => exact ⟨k + 1, by omega, by go_num, (by have := HNN.out; rw [this]; congr 1), FIN.out⟩
      case measure => simp [intOf]; omega
    · obtain rfl : k = m := by omega
      clear HFT HOK HAE
      have hlk := topS_len s es k
      obtain ⟨hTL, hTN⟩ := TXT.out
      have VO := Lib.hid HT.out.val
      have BR := Lib.hid HT.out.bel
      obtain ⟨gq, cq, rfl, hgq0, hgq⟩ := HT.out.row.form (by rw [hlk]; omega)
      obtain ⟨wl, hwl0⟩ : ∃ wl, wl = apT es s.data.toList := ⟨_, rfl⟩
      rw [← hwl0] at hTN hwl AP
      have hTS : (texts (topS s es k) [])[5 * k]? = some wl := by
        have hlt5 : 5 * k < (texts (topS s es k) []).length := by omega
        unfold nth at hTN
        rw [Int.toNat_natCast, List.getD_eq_getElem?_getD] at hTN
        rw [List.getElem?_eq_getElem hlt5] at hTN ⊢
        rw [← hTN]; rfl
      obtain ⟨N, hN⟩ : ∃ N, N = 5 * k + 1 := ⟨_, rfl⟩
      obtain ⟨nw, hnw⟩ : ∃ nw, nw = 5 * k := ⟨_, rfl⟩
      rw [← hN] at hlk hTL
      rw [← hnw] at hTS ⊢
      rw [hlk] at VO ⊢
      have hnN : nw < N := by omega
      have hN60 : N ≤ 60 := by omega
      have HTS := Lib.hid hTS
      have HTL := Lib.hid hTL
      have hol : (topS s es k).length ≤ 80 := by rw [hlk]; omega
      generalize texts (topS s es k) [] = TS at *
      generalize topS s es k = ops at *
      clear HT TXT hTN hTS hTL hN hnw hwl0 hlk
      go_wp2_with (at_builtin; refine wpList_copyV opc_len opc_one (by omega) rfl _ _ 56 rfl 55 i0 _ 56 Try.underlying56 HI.out.1 HI.out.2.1 HI.out.2.2.1 HI.out.2.2.2 rfl rfl _ rfl ops VO.out (by unfold maxLen; omega) (by omega) ?_; intro v3 w3 hv3 hb3; have V3 := Lib.hid (opsV_of hv3); have VO3 := Lib.hid (VO.out.next hb3); have B3 := Lib.hid (bstep BR.out hb3); clear hv3 hb3 VO BR)
      refine (PL.out _ _ V3.out).mono ?_
      rintro e w4 ⟨tv, cv, rfl, htv, _, hb4⟩
      have VO4 := Lib.hid (VO3.out.next hb4)
      have B4 := Lib.hid (bstep B3.out hb4)
      have T4 := Lib.hid htv.1
      clear hb4 VO3 B3 V3 PL htv
      go_wp2_with (at_builtin; refine wpList_copyV opc_len opc_one (by omega) rfl _ _ 56 rfl 55 i0 _ 56 Try.underlying56 HI.out.1 HI.out.2.1 HI.out.2.2.1 HI.out.2.2.2 rfl rfl _ rfl ops VO4.out (by unfold maxLen; omega) (by omega) ?_; intro v5 w5 hv5 hb5; have V5 := Lib.hid (opsV_of hv5); have VO5 := Lib.hid (VO4.out.next hb5); have B5 := Lib.hid (bstep B4.out hb5); have T5 := Lib.hid (T4.out.next hb5); clear hv5 hb5 VO4 B4 T4)
      refine (DP.out _ _ V5.out).mono ?_
      rintro e w6 ⟨dv, rts, rfl, hrt, hrok, hdv, hb6⟩
      have VO6 := Lib.hid (opsV_of (VO5.out.next hb6))
      have B6 := Lib.hid (bstep B5.out hb6)
      have T6 := Lib.hid (T5.out.next hb6)
      have D6 := Lib.hid hdv
      have RT := Lib.hid (And.intro hrt hrok)
      clear hb6 VO5 B5 V5 T5 DP hdv hrt hrok
      go_wp2_with fail
      refine (ME.out _ _ VO6.out).mono ?_
      rintro e w7 ⟨pv, hv', rfl, hme, hb7⟩
      have B7 := Lib.hid (bstep B6.out hb7)
      have T7 := Lib.hid (T6.out.next hb7)
      have D7 := Lib.hid (D6.out.next hb7)
      have M7 := Lib.hid hme
      clear hb7 B6 T6 D6 VO6 ME hme
      have V7 := Lib.hid (V1.out.next B7.out)
      go_wp2_with fail
      refine (AP.out _ _ V7.out).mono ?_
      rintro e w8 ⟨rfl, hb8⟩
      have T8 := Lib.hid (T7.out.next hb8)
      have D8 := Lib.hid (D7.out.next hb8)
      have M8 := Lib.hid (M7.out.next hb8)
      have B8 := Lib.hid (bstep B1.out (bstep B7.out hb8))
      clear hb8 B7 T7 D7 M7 V7 AP
      obtain ⟨hrt, hrok⟩ := RT.out
      have hrl : rts.length = N := by rw [← txts_length, hrt]; exact HTL.out
      obtain ⟨rt, hrt1⟩ : ∃ rt, rts[nw]? = some rt := ⟨rts[nw]'(by omega), by simp⟩
      have hrtx : rt.txt = wl := by
        have h1 : (txts rts)[nw]? = some rt.txt := by unfold txts; rw [List.getElem?_map, hrt1]; rfl
        rw [hrt, HTS.out] at h1
        exact (Option.some.inj h1).symm
      obtain ⟨hd22, hd0⟩ := dep_fine (hrok rt (List.mem_of_getElem? hrt1)) (by rw [hrtx]; exact hwl)
      rw [hrtx] at hd0
      obtain ⟨at8, ct8, rfl, hct⟩ := T8.out
      obtain ⟨ad8, cd8, rfl, hcd⟩ := D8.out
      obtain ⟨⟨ap8, cp8, rfl, hp⟩, ⟨ah8, ch8, rfl, hh⟩⟩ := M8.out
      obtain ⟨gp, rfl, hgp, p0, p1, p2⟩ := hp nw wl HTS.out
      obtain ⟨gh, rfl, hgh, h0, h1⟩ := hh nw wl HTS.out
      have hl1 : (TS.map strV).length = N := by rw [List.length_map]; exact HTL.out
      have hl2 : (depsV rts).length = N := by unfold depsV; rw [List.length_map]; exact hrl
      rw [hl1] at hct
      rw [hl2] at hcd
      obtain ⟨gt, ot, rfl, hgt, hct⟩ := hct (by omega)
      obtain ⟨gd, od, rfl, hgd, hcd⟩ := hcd (by omega)
      have t0 : w8.cell? ⟨gt, ot + nw, none⟩ = some (.string (str wl)) := by rw [hct nw hnN, List.getElem?_map, HTS.out]; rfl
      have d0 : w8.cell? ⟨gd, od + nw, none⟩ = some (.int .i64 (rt.dep : Int)) := by rw [hcd nw hnN]; unfold depsV; rw [List.getElem?_map, hrt1]; rfl
      have hTl := HTL.out
      rw [hl1, hl2, hTl]
      have PO : Hid (∀ W : World, Calls Try.prog 32 #[.string (str wl)] W fun e w' => e = .returned (.agg #[.int .i64 (wl.length : Int), .int .i64 (lns wl : Int), .int .i64 (col wl : Int)]) ∧ Below W.heap.size W w') := Lib.hid fun W => by
        have := PosOfC.of (str wl) W (by rw [size_str]; unfold maxLen; omega)
        rw [list_str, size_str] at this
        exact this
      have PY : Hid (∀ W : World, Calls Try.prog 33 #[.string (str wl)] W fun e w' => e = .returned (.agg #[.int .i64 (hv wl : Int), .int .i64 (hs wl.length : Int)]) ∧ Below W.heap.size W w') := Lib.hid fun W => by
        have := PolyC.of (str wl) W (by rw [size_str]; unfold maxLen; omega)
        rw [list_str, size_str] at this
        exact this
      clear hct hcd hl1 hl2 hp hh hTl hrt hrok hrt1 hrtx T8 D8 M8 RT HTS HTL hwl hrl
      obtain ⟨q0, hq0⟩ : ∃ q : Int, q = (wl.length : Int) := ⟨_, rfl⟩
      obtain ⟨q1, hq1⟩ : ∃ q : Int, q = (lns wl : Int) := ⟨_, rfl⟩
      obtain ⟨q2, hq2⟩ : ∃ q : Int, q = (col wl : Int) := ⟨_, rfl⟩
      obtain ⟨q3, hq3⟩ : ∃ q : Int, q = (hv wl : Int) := ⟨_, rfl⟩
      obtain ⟨q4, hq4⟩ : ∃ q : Int, q = (hs wl.length : Int) := ⟨_, rfl⟩
      rw [← hq0, ← hq1, ← hq2] at PO
      rw [← hq3, ← hq4] at PY
      rw [← hq0] at p0
      rw [← hq1] at p1
      rw [← hq2] at p2
      rw [← hq3] at h0
      rw [← hq4] at h1
      clear hq0 hq1 hq2 hq3 hq4
      by_cases hz : rt.dep = 0
      · have hwe : wl = [] := hd0.1 hz
        subst hwe
        rw [hz] at d0
        have hse : str [] = (⟨#[]⟩ : ByteArray) := rfl
        rw [hse] at t0 PO PY ⊢
        replace d0 : w8.cell? ⟨gd, od + nw, none⟩ = some (.int .i64 0) := d0
        have hs0 : Hid (∀ W, Below w8.heap.size w8 W → Below w8.heap.size w8 W ∧ (W.cell? ⟨gt, ot + nw, none⟩ = some (.string ⟨#[]⟩) ∧ W.cell? ⟨gd, od + nw, none⟩ = some (.int .i64 0)) ∧ (W.cell? ⟨gp, nw * 3, none⟩ = some (.int .i64 q0) ∧ W.cell? ⟨gp, nw * 3 + 1, none⟩ = some (.int .i64 q1) ∧ W.cell? ⟨gp, nw * 3 + 2, none⟩ = some (.int .i64 q2)) ∧ (W.cell? ⟨gh, nw * 2, none⟩ = some (.int .i64 q3) ∧ W.cell? ⟨gh, nw * 2 + 1, none⟩ = some (.int .i64 q4))) := Lib.hid fun W hW => ⟨hW, ⟨keep hW hgt t0, keep hW hgd d0⟩, ⟨keep hW hgp p0, keep hW hgp p1, keep hW hgp p2⟩, keep hW hgh h0, keep hW hgh h1⟩
        clear hse hd22 hd0 hz t0 d0 p0 p1 p2 h0 h1
        go_upto_region 18 with fail
        go_region_held3 (fun W => Below w8.heap.size w8 W ∧ (W.cell? ⟨gt, ot + nw, none⟩ = some (.string ⟨#[]⟩) ∧ W.cell? ⟨gd, od + nw, none⟩ = some (.int .i64 0)) ∧ (W.cell? ⟨gp, nw * 3, none⟩ = some (.int .i64 q0) ∧ W.cell? ⟨gp, nw * 3 + 1, none⟩ = some (.int .i64 q1) ∧ W.cell? ⟨gp, nw * 3 + 2, none⟩ = some (.int .i64 q2)) ∧ (W.cell? ⟨gh, nw * 2, none⟩ = some (.int .i64 q3) ∧ W.cell? ⟨gh, nw * 2 + 1, none⟩ = some (.int .i64 q4)))
          (first | exact hs0.out _ ((Below.refl _ _).drew) | exact hs0.out _ (bstep (And.left (by assumption)) (by assumption)))
          (first | (go_at_call 32; refine (PO.out _).mono ?_; rintro e w' ⟨rfl, hb⟩) | (go_at_call 33; refine (PY.out _).mono ?_; rintro e w' ⟨rfl, hb⟩))
        rename_i hH
        have BF := Lib.hid (bstep B8.out hH.1)
        clear hH
        go_wp2_with fail
        go_ret
        exact ⟨rfl, BF.out⟩
      · have hwe : ¬ wl = [] := fun h => hz (hd0.2 h)
        have hne : ¬ (str wl).toList = [] := by rw [Lib.toList_data, list_str]; exact hwe
        have hne2 : (str wl).toList.isEmpty = false := by rw [List.isEmpty_eq_false_iff]; exact hne
        clear hwe hd0
        generalize rt.dep = dd at *
        generalize str wl = want at *
        have hdz : ((dd : Int) == 0) = false := by simp; omega
        have hd2 : (dd : Int) ≤ 22 := by omega
        have hdz2 : ¬ dd = 0 := hz
        have hs0 : Hid (∀ W, Below w8.heap.size w8 W → Below w8.heap.size w8 W ∧ (W.cell? ⟨gt, ot + nw, none⟩ = some (.string want) ∧ W.cell? ⟨gd, od + nw, none⟩ = some (.int .i64 (dd : Int))) ∧ (W.cell? ⟨gp, nw * 3, none⟩ = some (.int .i64 q0) ∧ W.cell? ⟨gp, nw * 3 + 1, none⟩ = some (.int .i64 q1) ∧ W.cell? ⟨gp, nw * 3 + 2, none⟩ = some (.int .i64 q2)) ∧ (W.cell? ⟨gh, nw * 2, none⟩ = some (.int .i64 q3) ∧ W.cell? ⟨gh, nw * 2 + 1, none⟩ = some (.int .i64 q4))) := Lib.hid fun W hW => ⟨hW, ⟨keep hW hgt t0, keep hW hgd d0⟩, ⟨keep hW hgp p0, keep hW hgp p1, keep hW hgp p2⟩, keep hW hgh h0, keep hW hgh h1⟩
        clear hz t0 d0 p0 p1 p2 h0 h1
        go_upto_region 18 with fail
        go_region_held3 (fun W => Below w8.heap.size w8 W ∧ (W.cell? ⟨gt, ot + nw, none⟩ = some (.string want) ∧ W.cell? ⟨gd, od + nw, none⟩ = some (.int .i64 (dd : Int))) ∧ (W.cell? ⟨gp, nw * 3, none⟩ = some (.int .i64 q0) ∧ W.cell? ⟨gp, nw * 3 + 1, none⟩ = some (.int .i64 q1) ∧ W.cell? ⟨gp, nw * 3 + 2, none⟩ = some (.int .i64 q2)) ∧ (W.cell? ⟨gh, nw * 2, none⟩ = some (.int .i64 q3) ∧ W.cell? ⟨gh, nw * 2 + 1, none⟩ = some (.int .i64 q4)))
          (first | exact hs0.out _ ((Below.refl _ _).drew) | exact hs0.out _ (bstep (And.left (by assumption)) (by assumption)))
          (first | (go_at_call 32; refine (PO.out _).mono ?_; rintro e w' ⟨rfl, hb⟩) | (go_at_call 33; refine (PY.out _).mono ?_; rintro e w' ⟨rfl, hb⟩))
        rename_i hH
        have BF := Lib.hid (bstep B8.out hH.1)
        clear hH
        go_wp2_with fail
        go_ret
        exact ⟨rfl, BF.out⟩

end Go.Proofs.Ytkckhjljindgmaa.TopC
