/-
  The law WordsFollow, walked.
-/
import Derived.Test.YtedlgobpoifnfaaWordUpdate
import Derived.Test.YtedlgobpoifnfaaWordsCopy
import Derived.Test.YtedlgobpoifnfaaWordsSameK
import Derived.Test.YtedlgobpoifnfaaTexts
import Derived.Test.YtedlgobpoifnfaaEditsA
import Derived.Test.YtedlgobpoifnfaaEsFit
namespace Go.Proofs.Ytedlgobpoifnfaa.WordK
open Go.RowKit Kit EditM LineM ChgM Txt Lift EditK WordM WordC

theorem one_len : (ix (⟨#[97]⟩ : ByteArray).data.toList).length = 1 := by
  rw [ix, idxL, List.length_map, wordsL, List.length_mergeSort]
  decide +kernel
/-- an update of the words of a text -/
theorem updV (t : Bs) (e : EdM) (v : Value) (W : World) (hv : WsV W v (ix t)) (he : e.fits t) (hok : e.ok) (ht : t.length ≤ 600) :
    Calls Try.prog 15 #[.string (str t), v, .agg #[.int .i64 e.at_, .int .i64 e.cut, .string e.put]] W (WcPost W (ix (e.step t)) 0) := by
  have h := upd_edit (str t) v e W (by rw [list_str]; exact hv.weak) hok (by rw [size_str]; exact ht)
  rw [list_str, he.fault, if_pos rfl] at h
  exact h
set_option maxRecDepth 100000 in
set_option maxHeartbeats 4000000 in
theorem wordsFollow (a0 : Option Addr) (len0 cap0 : Nat) (zs : List Int) (al : Option Addr) (cap : Nat) (l : List ChgM) (w : World) (h0 : IsRow .i64 w a0 len0 cap0 zs) (hl : ChsAt w al l) (hh : ∀ c ∈ l, c.has w) (hlc : l.length ≤ cap) (hmx : cap ≤ maxLen) {Y : Prop} (_ : Y) :
    Calls Try.prog 6 #[.slice a0 len0 cap0, .slice al l.length cap] w fun e w' => e = .returned (.bool true) ∧ Below w.heap.size w w' := by
  have hlen : l.length ≤ 9223372036854775807 := by unfold maxLen at hmx; omega
  have TO := Lib.hid (textOf a0 len0 cap0 zs 80 w h0 (by omega))
  have hs100 : (textS ((zs.take len0).take 80)).size ≤ 80 := by rw [textS_size]; simp only [List.length_take]; omega
  generalize textS ((zs.take len0).take 80) = s at *
  have ES := Lib.hid (edits l al cap 10 s.size w hl hh hlen (by omega) (by omega))
  obtain ⟨hc, hok⟩ := edsOf_code l 10 s.data.toList (by rw [size_list]; omega)
  have HLn := edsOf_len l 10 (s.size : Int)
  rw [size_list] at hc hok
  generalize edsOf l 10 (s.size : Int) = es at *
  obtain ⟨n, hn⟩ : ∃ n, n = es.length := ⟨_, rfl⟩
  have HN := Lib.hid hn
  rw [← hn] at HLn
  have ST := Lib.hid (fun W => all s W (by omega))
  have SO := Lib.hid (fun W => all ⟨#[97]⟩ W (by decide))
  have FT := Lib.hid (fun i e (hi : es[i]? = some e) => es_fit hc hi)
  have OK := Lib.hid hok
  have SZ : Hid (∀ i, (apT (es.take i) s.data.toList).length ≤ 600) := Lib.hid fun i => by
    refine apT_len ?_ (by rw [size_list]; omega)
    exact apC_head (es.take i) (es.drop i) _ (by rw [List.take_append_drop]; exact hc)
  have FE := Lib.hid (fun W => all (str (apT es s.data.toList)) W (by
    have := SZ.out n
    rw [hn, List.take_length] at this
    rw [size_str]; exact this))
  rw [list_str] at FE
  have FS : Hid (str (apT (es.take 0) s.data.toList) = s) := Lib.hid (by simp [apT, str_list])
  have FN : Hid (apT (es.take n) s.data.toList = apT es s.data.toList) := Lib.hid (by rw [hn, List.take_length])
  have FZ : Hid (apT (es.take 0) s.data.toList = s.data.toList) := Lib.hid rfl
  clear hc hok hn h0 hl hh hlc hmx hlen
  generalize l.length = N at *
  have hone : (ix (⟨#[97]⟩ : ByteArray).data.toList).length = 1 := one_len
  go_enter Try.func6, Try.ntmps6
  go_wp2_with fail
  refine TO.out.mono ?_
  rintro e w1 ⟨rfl, rfl⟩
  go_wp2_with fail
  refine ES.out.mono ?_
  rintro e w1 ⟨ve, rfl, hve, hb1⟩
  have VE := Lib.hid hve
  have B1 := Lib.hid hb1
  clear hve hb1 TO ES
  go_wp2_with fail
  refine (ST.out _).mono ?_
  rintro e w1' ⟨v1, rfl, hk1, hb1⟩
  have VE1 := Lib.hid (VE.out.next hb1)
  have B1' := Lib.hid (bstep B1.out hb1)
  have K1 := Lib.hid hk1
  clear hk1 hb1 ST VE B1
  go_wp2_with fail
  refine (SO.out _).mono ?_
  rintro e w2 ⟨v2, rfl, hk2, hb2⟩
  have VE2 := Lib.hid (VE1.out.next hb2)
  have B2 := Lib.hid (bstep B1'.out hb2)
  have K2 := Lib.hid (K1.out.next hb2)
  obtain ⟨aq, cq, rfl⟩ := hk2.form
  rw [hone]
  clear hk2 hb2 SO VE1 B1' K1 hone
  obtain ⟨ae, ce, rfl, hce, hae, hd⟩ := VE2.out
  rw [← HN.out] at hce VE2 ⊢
  have HA := Lib.hid hae
  clear hae VE2 hd
  go_wp2_with fail
  go_loopw [5, 7, 11] (fun vt vl vi wr => ∃ i : Nat, i ≤ n ∧ vi = .int .i64 (i : Int) ∧ vt = .string (str (apT (es.take i) s.data.toList)) ∧ Hid (WsV wr vl (ix (apT (es.take i) s.data.toList)) ∧ Below w2.heap.size w2 wr)) (fun _ _ vi _ => n - (intOf vi).toNat)
  case atStart => exact ⟨0, by omega, rfl, by rw [FS.out], Lib.hid ⟨by rw [FZ.out]; exact K2.out, Below.refl _ _⟩⟩
  case round =>
    obtain ⟨i, hi, rfl, rfl, HK⟩ := hrel
    clear K2
    by_cases hlt : i < n
    · have hie : es[i]? = some (es[i]'(by rw [← HN.out]; exact hlt)) := List.getElem?_eq_getElem _
      generalize es[i]'(by rw [← HN.out]; exact hlt) = e at *
      obtain ⟨he, hs1, hc1, hs2⟩ := FT.out i e hie
      have ht6 := SZ.out i
      have eok := OK.out e (List.mem_of_getElem? hie)
      obtain ⟨g, off, rfl, hg, c0, c1, c2⟩ := EdsAt.get (HA.out.next HK.out.2) hie
      have UP := Lib.hid (fun W v (hv : WsV W v (ix (apT (es.take i) s.data.toList))) => updV (apT (es.take i) s.data.toList) e v W hv he eok ht6)
      rw [← hs1] at UP
      have AV := Lib.hid (fun W v (hv : EdsV W v [e]) => applyV (str (apT (es.take i) s.data.toList)) [e] v W hv (fun x hx => by rw [List.mem_singleton] at hx; rw [hx]; exact eok) (by simp) (by rw [size_str]; exact ht6) (by rw [list_str]; exact hc1))
      rw [list_str, hs2] at AV
      have SU := Lib.hid (fun W (hW : EdsAt W (some ⟨g, off, none⟩) es) (hg : g < W.heap.size) => es_sub (c := ce - i) hW hie (by omega) hg)
      have VL := Lib.hid HK.out.1
      have BW := Lib.hid HK.out.2
      have CP := Lib.hid (fun W v (hv : WsV W v (ix (apT (es.take i) s.data.toList))) => copied v _ W hv (Nat.le_trans (ix_len _) ht6) (fun p hp => Nat.le_trans (ix_places _ p hp) ht6))
      clear HK he hs1 hc1 hs2 hie eok
      generalize ix (apT (es.take i) s.data.toList) = xs at *
      generalize str (apT (es.take i) s.data.toList) = ts at *
      obtain ⟨ys, hys⟩ : ∃ ys, ys = ix (apT (es.take (i + 1)) s.data.toList) := ⟨_, rfl⟩
      have HY := Lib.hid hys
      rw [← hys] at UP
      clear hys
      obtain ⟨a, c, p⟩ := e
      dsimp only at *
      have i1 : (i : Int) < (n : Int) := by omega
      have i2 : (0 : Int) ≤ (i : Int) := by omega
      have i3 : (i : Int) + 1 ≤ (ce : Int) := by omega
      have S0 : Hid (wr.drew.cell? ⟨g, off + i * 3, none⟩ = some (.int .i64 a) ∧ wr.drew.cell? ⟨g, off + i * 3 + 1, none⟩ = some (.int .i64 c) ∧ wr.drew.cell? ⟨g, off + i * 3 + 2, none⟩ = some (.string p)) := Lib.hid ⟨c0, c1, c2⟩
      have VD := Lib.hid (VL.out.next (Below.drew (Below.refl _ _)))
      have GW : Hid (g < wr.drew.heap.size) := Lib.hid hg
      go_wp2_with fail
      go_region_held3 (fun W => W.cell? ⟨g, off + i * 3, none⟩ = some (.int .i64 a) ∧ W.cell? ⟨g, off + i * 3 + 1, none⟩ = some (.int .i64 c) ∧ W.cell? ⟨g, off + i * 3 + 2, none⟩ = some (.string p))
        (first | exact S0.out | exact S1.out | exact S2.out)
        (first
          | (go_at_call 15; refine (UP.out _ _ C4.out).mono ?_; rintro e w5 ⟨v5, rfl, hv5, hb5⟩; have K5v := Lib.hid hv5; have HB5 := Lib.hid hb5; have S2 := Lib.hid (And.intro (keep hb5 G4.out S1.out.1) (And.intro (keep hb5 G4.out S1.out.2.1) (keep hb5 G4.out S1.out.2.2))); clear hv5 hb5)
          | (go_at_call 19; refine (CP.out _ _ VD.out).mono ?_; rintro e w4 ⟨v4, rfl, hv4, hb4⟩; have C4 := Lib.hid hv4; have HB4 := Lib.hid hb4; have G4 := Lib.hid (Nat.lt_of_lt_of_le GW.out hb4.size); have S1 := Lib.hid (And.intro (keep hb4 GW.out S0.out.1) (And.intro (keep hb4 GW.out S0.out.2.1) (keep hb4 GW.out S0.out.2.2))); clear hv4 hb4))
      rename_i hHeld
      clear hHeld
      have B5 := Lib.hid (bstep (bstep (bstep BW.out (Below.drew (Below.refl _ _))) HB4.out) HB5.out)
      have EV := Lib.hid (SU.out _ (HA.out.next B5.out) (Nat.lt_of_lt_of_le GW.out (Nat.le_trans HB4.out.size HB5.out.size)))
      clear S0 S1 S2 C4 VD GW G4 HB4 HB5 VL BW UP SU CP c0 c1 c2
      go_wp2_with fail
      refine (AV.out _ _ EV.out).mono ?_
      rintro e w6 ⟨rfl, hb6⟩
      have FIN := Lib.hid (And.intro (K5v.out.next hb6) (bstep B5.out hb6))
      clear hb6 AV EV K5v B5
      go_wp2_with fail
      go_roundw
      case rel => exact ⟨i + 1, by omega, by go_num, rfl, by rw [← HY.out]; exact FIN⟩
      case measure => simp [intOf]; omega
    · obtain rfl : i = n := by omega
      rw [FN.out] at HK ⊢
      have KV := Lib.hid HK.out.1
      have KB := Lib.hid (bstep B2.out HK.out.2)
      have hz : (apT es s.data.toList).length ≤ 600 := by
        have := SZ.out i
        rw [FN.out] at this
        exact this
      have SA := Lib.hid (fun v1 v2 W h1 h2 => same v1 v2 (ix (apT es s.data.toList)) W h1 h2 (Nat.le_trans (ix_len _) hz) (fun p hp => Nat.le_trans (ix_places _ p hp) hz))
      clear hz
      clear HK FT SZ FN FS FZ
      generalize ix (apT es s.data.toList) = ys at *
      generalize str (apT es s.data.toList) = ts at *
      go_wp2_with fail
      refine (FE.out _).mono ?_
      rintro e w6 ⟨v6, rfl, hk6, hb6⟩
      have SS := Lib.hid (SA.out _ v6 w6 (KV.out.next hb6) hk6)
      have B6 := Lib.hid (bstep KB.out hb6)
      clear hk6 hb6 FE SA KV KB
      go_wp2_with fail
      refine SS.out.mono ?_
      rintro e w7 ⟨rfl, hb7⟩
      have B7 := Lib.hid (bstep B6.out hb7)
      clear hb7 SS B6
      go_wp2_with fail
      go_ret
      exact ⟨by first | rfl | simp, B7.out⟩
end Go.Proofs.Ytedlgobpoifnfaa.WordK
