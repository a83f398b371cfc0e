/-
  The law LinesFollow, walked.
-/
import Derived.Test.YtfikolidmpjfcaaLineV
import Derived.Test.YtfikolidmpjfcaaLineAppend
import Derived.Test.YtfikolidmpjfcaaTexts
import Derived.Test.YtfikolidmpjfcaaEditsA
import Derived.Test.YtfikolidmpjfcaaEditApplyV
import Derived.Test.YtfikolidmpjfcaaCopyStep
import Derived.Test.YtfikolidmpjfcaaSameK
namespace Go.Proofs.Ytfikolidmpjfcaa.LineK
open Go.RowKit Kit EditM LineM ChgM Txt Lift EditK

/-- a slice of one element of a slice of edits -/
theorem es_sub {w : World} {g off c i : Nat} {es : List EdM} {e : EdM} (h : EdsAt w (some ⟨g, off, none⟩) es) (hi : es[i]? = some e) (hc : 1 ≤ c) (hg : g < w.heap.size) : EdsV w (.slice (some ⟨g, off + i * 3, none⟩) 1 c) [e] := by
  refine ⟨_, c, rfl, hc, ⟨fun j o hj => ?_⟩, .inr ⟨_, _, rfl, hg⟩⟩
  have hj0 : j = 0 := by have := (List.getElem?_eq_some_iff.1 hj).1; simpa using this
  subst hj0
  simp at hj; subst hj
  obtain ⟨g', off', e', h1, h2⟩ := SlAt.cell h i e hi
  simp only [Option.some.injEq, Addr.mk.injEq, and_true] at e'
  obtain ⟨rfl, rfl⟩ := e'
  exact ⟨g, off + i * 3, rfl, h1, fun k hk => by rw [Nat.zero_mul, Nat.add_zero]; exact h2 k hk⟩
/-- the edits of a list fit, one behind the other -/
theorem es_fit {es : List EdM} {t : Bs} (hc : apC es t = 0) {i : Nat} {e : EdM} (hi : es[i]? = some e) : e.fits (apT (es.take i) t) ∧ apT (es.take (i + 1)) t = e.step (apT (es.take i) t) ∧ apC [e] (apT (es.take i) t) = 0 ∧ apT [e] (apT (es.take i) t) = apT (es.take (i + 1)) t := by
  have h1 : apC (es.take i ++ es.drop i) t = 0 := by rw [List.take_append_drop]; exact hc
  have h2 := apC_tail _ _ _ h1
  rw [EditM.drop_next hi] at h2
  have hf : e.fault (apT (es.take i) t) = 0 := by
    refine Classical.byContradiction fun q => ?_
    simp only [apC, if_neg q] at h2
    exact q h2
  refine ⟨EdM.fits_of hf, apT_next hi, ?_, ?_⟩
  · simp only [apC, if_pos hf]
  · rw [apT_next hi]; rfl
set_option maxRecDepth 100000 in
set_option maxHeartbeats 4000000 in
theorem linesFollow (a0 : Option Addr) (len0 cap0 : Nat) (zs : List Int) (al : Option Addr) (cap : Nat) (l : List ChgM) (w : World) (h0 : IsRow .i64 w a0 len0 cap0 zs) (hl : ChsAt w al l) (hh : ∀ c ∈ l, c.has w) (hlc : l.length ≤ cap) (hmx : cap ≤ maxLen) {Y : Prop} (_ : Y) :
    Calls Try.prog 6 #[.slice a0 len0 cap0, .slice al l.length cap] w fun e w' => e = .returned (.bool true) ∧ Below w.heap.size w w' := by
  have hlen : l.length ≤ 9223372036854775807 := by unfold maxLen at hmx; omega
  have TO := Lib.hid (textOf a0 len0 cap0 zs 100 w h0 (by omega))
  have hs100 : (textS ((zs.take len0).take 100)).size ≤ 100 := by rw [textS_size]; simp only [List.length_take]; omega
  generalize textS ((zs.take len0).take 100) = s at *
  have ES := Lib.hid (edits l al cap 12 s.size w hl hh hlen (by omega) (by omega))
  obtain ⟨hc, hok⟩ := edsOf_code l 12 s.data.toList (by rw [size_list]; omega)
  have HLn := edsOf_len l 12 (s.size : Int)
  rw [size_list] at hc hok
  generalize edsOf l 12 (s.size : Int) = es at *
  obtain ⟨n, hn⟩ : ∃ n, n = es.length := ⟨_, rfl⟩
  have HN := Lib.hid hn
  rw [← hn] at HLn
  have ST := Lib.hid (fun W => LineC.starts s W (by omega))
  have FT := Lib.hid (fun i e (hi : es[i]? = some e) => es_fit hc hi)
  have OK := Lib.hid hok
  have SZ : Hid (∀ i, (apT (es.take i) s.data.toList).length ≤ 600) := Lib.hid fun i => by
    refine apT_len ?_ (by rw [size_list]; omega)
    exact apC_head (es.take i) (es.drop i) _ (by rw [List.take_append_drop]; exact hc)
  have FE := Lib.hid (fun W => LineC.starts (str (apT es s.data.toList)) W (by
    have := SZ.out n
    rw [hn, List.take_length] at this
    rw [size_str]; exact this))
  rw [list_str] at FE
  have FS : Hid (str (apT (es.take 0) s.data.toList) = s) := Lib.hid (by simp [apT, str_list])
  have FN : Hid (apT (es.take n) s.data.toList = apT es s.data.toList) := Lib.hid (by rw [hn, List.take_length])
  have FZ : Hid (apT (es.take 0) s.data.toList = s.data.toList) := Lib.hid rfl
  have HSL : Hid (1 ≤ (sts s.data.toList).length) := Lib.hid (by rw [sts_len]; omega)
  clear hc hok hn h0 hl hh hlc hmx hlen
  generalize l.length = N at *
  obtain ⟨i0, hi, hz0, hz1, hz2⟩ := info_parts infoInt
  have HI := Lib.hid (And.intro hi (And.intro hz0 (And.intro hz1 hz2)))
  clear hi hz0 hz1 hz2
  go_enter Try.func6, Try.ntmps6
  go_wp2_with fail
  refine TO.out.mono ?_
  rintro e w1 ⟨rfl, rfl⟩
  go_wp2_with fail
  refine ES.out.mono ?_
  rintro e w1 ⟨ve, rfl, hve, hb1⟩
  have VE := Lib.hid hve
  have B1 := Lib.hid hb1
  clear hve hb1 TO ES
  go_wp2_with fail
  refine (ST.out _).mono ?_
  rintro e w2 ⟨v2, rfl, hk2⟩
  have VE2 := Lib.hid (VE.out.next hk2.bel)
  have B2 := Lib.hid (bstep B1.out hk2.bel)
  have K2 := Lib.hid hk2.val
  obtain ⟨aq, cq, rfl⟩ := hk2.slice
  have hsl := HSL.out
  clear hk2 ST VE B1 HSL
  obtain ⟨ae, ce, rfl, hce, hae, hd⟩ := VE2.out
  have g1 : decide (((sts s.data.toList).length : Int) < 1) = false := decide_eq_false (by omega)
  have g2 : decide ((sts s.data.toList).length < 1) = false := decide_eq_false (by omega)
  rw [← HN.out] at hce VE2 ⊢
  have HA := Lib.hid hae
  clear hae VE2 hd
  go_wp2_with fail
  go_loopw [5, 7, 9] (fun vt vl vi wr => ∃ i : Nat, i ≤ n ∧ vi = .int .i64 (i : Int) ∧ vt = .string (str (apT (es.take i) s.data.toList)) ∧ Hid (IsV wr vl (sts (apT (es.take i) s.data.toList)) ∧ Below w2.heap.size w2 wr)) (fun _ _ vi _ => n - (intOf vi).toNat)
  case atStart => exact ⟨0, by omega, rfl, by rw [FS.out], Lib.hid ⟨by rw [FZ.out]; exact K2.out, Below.refl _ _⟩⟩
  case round =>
    obtain ⟨i, hi, rfl, rfl, HK⟩ := hrel
    clear K2
    by_cases hlt : i < n
    · have hie : es[i]? = some (es[i]'(by rw [← HN.out]; exact hlt)) := List.getElem?_eq_getElem _
      generalize es[i]'(by rw [← HN.out]; exact hlt) = e at *
      obtain ⟨he, hs1, hc1, hs2⟩ := FT.out i e hie
      have ht6 := SZ.out i
      have eok := OK.out e (List.mem_of_getElem? hie)
      obtain ⟨g, off, rfl, hg, c0, c1, c2⟩ := EdsAt.get (HA.out.next HK.out.2) hie
      have UP := Lib.hid (fun W v (hv : IsV W v (sts (apT (es.take i) s.data.toList))) => LineC.updateV _ e v W hv he)
      rw [← hs1, ← size_str (apT (es.take i) s.data.toList)] at UP
      have AV := Lib.hid (fun W v (hv : EdsV W v [e]) => applyV (str (apT (es.take i) s.data.toList)) [e] v W hv (fun x hx => by rw [List.mem_singleton] at hx; rw [hx]; exact eok) (by simp) (by rw [size_str]; exact ht6) (by rw [list_str]; exact hc1))
      rw [list_str, hs2] at AV
      have SU := Lib.hid (fun W (hW : EdsAt W (some ⟨g, off, none⟩) es) (hg : g < W.heap.size) => es_sub (c := ce - i) hW hie (by omega) hg)
      have VL := Lib.hid HK.out.1
      have BW := Lib.hid HK.out.2
      have SL : Hid ((sts (apT (es.take i) s.data.toList)).length ≤ 601) := Lib.hid (LineC.sts_few ht6)
      rw [← size_str] at ht6
      clear HK he hs1 hc1 hs2 hie eok
      generalize sts (apT (es.take i) s.data.toList) = xs at *
      generalize str (apT (es.take i) s.data.toList) = ts at *
      obtain ⟨ys, hys⟩ : ∃ ys, ys = sts (apT (es.take (i + 1)) s.data.toList) := ⟨_, rfl⟩
      have HY := Lib.hid hys
      rw [← hys] at UP
      clear hys
      obtain ⟨a, c, p⟩ := e
      dsimp only at *
      have i1 : (i : Int) < (n : Int) := by omega
      have i2 : (0 : Int) ≤ (i : Int) := by omega
      have i3 : (i : Int) + 1 ≤ (ce : Int) := by omega
      have hxl := SL.out
      have S0 : Hid (wr.drew.cell? ⟨g, off + i * 3, none⟩ = some (.int .i64 a) ∧ wr.drew.cell? ⟨g, off + i * 3 + 1, none⟩ = some (.int .i64 c) ∧ wr.drew.cell? ⟨g, off + i * 3 + 2, none⟩ = some (.string p)) := Lib.hid ⟨c0, c1, c2⟩
      have VD := Lib.hid (VL.out.next (Below.drew (Below.refl _ _)))
      have GW : Hid (g < wr.drew.heap.size) := Lib.hid hg
      go_wp2_with fail
      go_region_held3 (fun W => W.cell? ⟨g, off + i * 3, none⟩ = some (.int .i64 a) ∧ W.cell? ⟨g, off + i * 3 + 1, none⟩ = some (.int .i64 c) ∧ W.cell? ⟨g, off + i * 3 + 2, none⟩ = some (.string p))
        (first | exact S0.out | exact S1.out | exact S2.out)
        (first
          | (go_at_call 13; refine (UP.out _ _ C4.out).mono ?_; rintro e w5 ⟨v5, rfl, hk5⟩; have K5 := Lib.hid hk5; have S2 := Lib.hid (And.intro (keep hk5.bel G4.out S1.out.1) (And.intro (keep hk5.bel G4.out S1.out.2.1) (keep hk5.bel G4.out S1.out.2.2))); clear hk5)
          | (refine step_copyV ic_len ic_one (by omega) (by rfl) _ _ _ (by rfl) 3 i0 _ 8 Try.underlying22 HI.out.1 HI.out.2.1 HI.out.2.2.1 HI.out.2.2.2 rfl (by rfl) _ (by rfl) xs VD.out (by unfold maxLen; omega) (by omega) ?_; intro v4 w4 hv4 hb4; have C4 := Lib.hid hv4; have HB4 := Lib.hid hb4; have G4 := Lib.hid (Nat.lt_of_lt_of_le GW.out hb4.size); have S1 := Lib.hid (And.intro (keep hb4 GW.out S0.out.1) (And.intro (keep hb4 GW.out S0.out.2.1) (keep hb4 GW.out S0.out.2.2))); clear hv4 hb4))
      rename_i hHeld
      clear hHeld
      have B5 := Lib.hid (bstep (bstep (bstep BW.out (Below.drew (Below.refl _ _))) HB4.out) K5.out.bel)
      have K5v := Lib.hid K5.out.val
      have EV := Lib.hid (SU.out _ (HA.out.next B5.out) (Nat.lt_of_lt_of_le GW.out (Nat.le_trans HB4.out.size K5.out.bel.size)))
      clear S0 S1 S2 C4 VD GW G4 HB4 K5 VL BW UP SU c0 c1 c2
      go_wp2_with fail
      refine (AV.out _ _ EV.out).mono ?_
      rintro e w6 ⟨rfl, hb6⟩
      have FIN := Lib.hid (And.intro (K5v.out.next hb6) (bstep B5.out hb6))
      clear hb6 AV EV K5v B5
      go_wp2_with fail
      go_roundw
      case rel => exact ⟨i + 1, by omega, by go_num, rfl, by rw [← HY.out]; exact FIN⟩
      case measure => simp [intOf]; omega
    · obtain rfl : i = n := by omega
      rw [FN.out] at HK ⊢
      have KV := Lib.hid HK.out.1
      have KB := Lib.hid (bstep B2.out HK.out.2)
      have SF : Hid ((sts (apT es s.data.toList)).length ≤ 601) := Lib.hid (LineC.sts_few (by have := SZ.out i; rw [FN.out] at this; exact this))
      have SA := Lib.hid (fun v1 v2 W h1 h2 => SameK.same v1 v2 (sts (apT es s.data.toList)) W (IsV.row h1) (IsV.row h2) (by have := SF.out; unfold maxLen; omega))
      clear HK FT SZ FN FS FZ
      generalize sts (apT es s.data.toList) = ys at *
      generalize str (apT es s.data.toList) = ts at *
      go_wp2_with fail
      refine (FE.out _).mono ?_
      rintro e w6 ⟨v6, rfl, hk6⟩
      have SS := Lib.hid (SA.out _ v6 w6 (KV.out.next hk6.bel) hk6.val)
      have B6 := Lib.hid (bstep KB.out hk6.bel)
      clear hk6 FE SA KV KB
      go_wp2_with fail
      refine SS.out.mono ?_
      rintro e w7 ⟨rfl, hb7⟩
      have B7 := Lib.hid (bstep B6.out hb7)
      clear hb7 SS B6
      go_wp2_with fail
      go_ret
      exact ⟨by first | rfl | simp, B7.out⟩
end Go.Proofs.Ytfikolidmpjfcaa.LineK
