/-
  The law MarksParts.
-/
import Derived.Test.YtllpglanpfjcnaaMarksOrderedW
import Derived.Test.YtllpglanpfjcnaaMarkEq
namespace Go.Proofs.Ytllpglanpfjcnaa.MarkK
open Go.RowKit Kit EditM MarkM MarkC EditC EditK Lift Txt ChgM

set_option maxRecDepth 100000 in
set_option maxHeartbeats 8000000 in
theorem marksParts (a0 : Option Addr) (len0 cap0 : Nat) (z0 : List Int) (size : Int) (al : Option Addr) (cap : Nat) (l : List ChgM) (cut : Int) (w : World) (hz : IsRow .i64 w a0 len0 cap0 z0) {X : Prop} (_ : X) (hl : ChsAt w al l) (hh : ∀ c ∈ l, c.has w) (hle : l.length ≤ cap) (hmx : cap ≤ maxLen) {S : Prop} (_ : S) {Y : Prop} (_ : Y) :
    Calls Try.prog 10 #[.slice a0 len0 cap0, .int .i64 size, .slice al l.length cap, .int .i64 cut] w fun e w' => e = .returned (.bool true) ∧ Below w.heap.size w w' := by
  have hlen : l.length ≤ 9223372036854775807 := by unfold maxLen at hmx; omega
  clear hle hmx
  have PK := Lib.hid (fun W => picked size 100 W (by omega) (by omega))
  obtain ⟨N, hN, hN1⟩ := pick100 size
  rw [hN] at PK
  clear hN
  have MK := Lib.hid (marksK a0 len0 cap0 z0 20 N w hz (by omega) (by omega))
  have ES := Lib.hid (fun W hW => edits l al cap 12 N W (hl.next hW) (fun c hc => (hh c hc).next hW) hlen (by omega) (by omega))
  have CO := edsOf_szC l 12 N (by omega)
  have LE := edsOf_len l 12 (N : Int)
  have MI := marksOf_in ((z0.take len0).take 20) (size := (N : Int)) (by omega)
  have ML : (marksOf ((z0.take len0).take 20) (N : Int)).length ≤ 20 := by unfold marksOf; rw [List.length_map, List.length_take]; omega
  generalize marksOf ((z0.take len0).take 20) (N : Int) = ms at *
  generalize edsOf l 12 (N : Int) = es at *
  have PC := Lib.hid (fun W => picked cut ((es.length : Int) + 1) W (by omega) (by omega))
  obtain ⟨k, hk⟩ := Int.eq_ofNat_of_zero_le (Int.emod_nonneg cut (show (es.length : Int) + 1 ≠ 0 by omega))
  have hkl := Int.emod_lt_of_pos cut (show (0 : Int) < (es.length : Int) + 1 by omega)
  rw [hk] at PC hkl
  clear hk
  have hkn : k ≤ es.length := by omega
  clear hkl
  have SZ : Hid (∀ i, 0 ≤ szN (es.take i) N ∧ szN (es.take i) N ≤ 600) := Lib.hid fun i => szN_ok (szC_take CO.1 i) (by omega) (by omega)
  have CD : szC (es.drop k) (szN (es.take k) N) = 0 := by
    have h := CO.1
    rw [← List.take_append_drop k es, szC_append _ _ _ (szC_take CO.1 k)] at h
    exact h
  have ok1 : ∀ e ∈ es.take k, e.ok := fun e he => CO.2 e (List.mem_of_mem_take he)
  have ok2 : ∀ e ∈ es.drop k, e.ok := fun e he => CO.2 e (List.mem_of_mem_drop he)
  have M1 := Lib.hid (fun W v u hv hu => moved (N : Int) ms v es u W hv hu (by omega) (by omega) CO.2 (by omega) (by omega) MI CO.1)
  have M2 := Lib.hid (fun W v u hv hu => moved (N : Int) ms v (es.take k) u W hv hu (by omega) (by rw [List.length_take]; omega) ok1 (by omega) (by omega) MI (szC_take CO.1 k))
  have M3 := Lib.hid (fun W v u hv hu => moved (szN (es.take k) N) (ms.map (mvd (es.take k))) v (es.drop k) u W hv hu (by rw [List.length_map]; omega) (by rw [List.length_drop]; omega) ok2 (SZ.out k).1 (SZ.out k).2 (fun m hm => by
    obtain ⟨x, hx, rfl⟩ := List.mem_map.1 hm
    exact mvd_in (szC_take CO.1 k) (MI x hx)) CD)
  have EQ : (ms.map (mvd (es.take k))).map (mvd (es.drop k)) = ms.map (mvd es) := by
    rw [List.map_map]; congr 1; funext m
    show mvd (es.drop k) (mvd (es.take k) m) = _
    rw [← mvd_append, List.take_append_drop]
  rw [EQ, List.length_map] at M3
  have EG : Hid (∀ i, i < es.length → ∃ e, es[i]? = some e ∧ e.put.size ≤ 600 ∧ 0 ≤ e.cut ∧ e.cut ≤ 600) := Lib.hid fun i hi => by
    have he : es[i]? = some es[i] := by simp [hi]
    obtain ⟨f1, f2, f3, f4, f5, f6⟩ := fault_zero.1 (szC_each CO.1 he)
    exact ⟨_, he, by omega, f4, by omega⟩
  have NXT : Hid (∀ i e, es[i]? = some e → szN (es.take (i + 1)) N = szN (es.take i) N + ((e.put.size : Int) - e.cut)) := Lib.hid fun i e he => by rw [szN_next he]; omega
  have LL2 : Hid ((ms.map (mvd es)).length = ms.length) := Lib.hid (by simp)
  have HG : Hid (∀ i, i < ms.length → ∃ m, (ms.map (mvd es))[i]? = some m) := Lib.hid fun i hi => ⟨mvd es ms[i], by simp [hi]⟩
  have TK : Hid ((es.take k).length = k) := Lib.hid (by rw [List.length_take]; omega)
  have DK : Hid ((es.drop k).length = es.length - k) := Lib.hid List.length_drop
  clear hz hl hh CO MI EQ CD ok1 ok2
  generalize l.length = LL at *
  have mixed : Try.prog.follows .mixedOrders = true := by kernel_rfl
  have hne := neqMark
  have hgd := guardMark
  go_enter Try.func10, Try.ntmps10
  go_wp2_with fail
  refine (PK.out _).mono ?_
  rintro e w1 ⟨rfl, rfl⟩
  go_wp2_with fail
  refine MK.out.mono ?_
  rintro e w2 ⟨v, rfl, hv⟩
  have C2 := Lib.hid (ES.out w2 hv.bel)
  have V2 := Lib.hid hv
  clear hv ES MK PK
  go_wp2_with fail
  refine C2.out.mono ?_
  rintro e w3 ⟨u, rfl, hu, hb3⟩
  have V3 := Lib.hid (V2.out.next hb3)
  have VV := Lib.hid V3.out.val
  have B3 := Lib.hid V3.out.bel
  have U3 := Lib.hid hu
  clear hb3 C2 V2 V3
  obtain ⟨ae, ce, rfl, hce, hae, hd⟩ := hu
  rcases hd with ⟨rfl, rfl, rfl⟩ | ⟨g, off, rfl, hg⟩
  · obtain rfl : k = 0 := by simpa using hkn
    have UT : Hid (∀ W, Below w3.heap.size w3 W → EdsV W (.slice none 0 0) (List.take 0 [])) := Lib.hid fun W _ => SlV.nil W
    have UD : Hid (∀ W, Below w3.heap.size w3 W → EdsV W (.slice none 0 0) (List.drop 0 [])) := Lib.hid fun W _ => SlV.nil W
    clear hae U3
    have U3 : Hid (EdsV w3 (.slice none 0 0) []) := Lib.hid (SlV.nil _)
    go_wp2_with fail
    refine (PC.out _).mono ?_
    rintro e w1 ⟨rfl, rfl⟩
    go_wp2_with fail
    go_loopw [13, 14] (fun vm vi wr => ∃ i : Nat, i ≤ 0 ∧ vi = .int .i64 (i : Int) ∧ vm = .int .i64 (szN (([] : List EdM).take i) N) ∧ Hid (Below w3.heap.size w3 wr)) (fun _ vi _ => 0 - (intOf vi).toNat)
    case atStart => exact ⟨0, by omega, rfl, rfl, Lib.hid (Below.refl _ _)⟩
    case round =>
      obtain ⟨i, hik, rfl, rfl, HB⟩ := hrel
      by_cases hlt : i < 0
      · exact absurd hlt (Nat.not_lt_zero _)
      · obtain rfl : i = 0 := by omega
        clear EG NXT
        generalize szN (([] : List EdM).take 0) N = sz at *
        go_wp2_with fail
        with_reducible refine (M1.out _ _ _ (VV.out.next HB.out) (U3.out.next HB.out)).mono ?_
        rintro e w4 ⟨xa, xcap, rfl, _, hx, hb4⟩
        have B4 := Lib.hid (bstep HB.out hb4)
        have XA := Lib.hid hx
        clear hx hb4 HB M1
        go_wp2_with fail
        with_reducible refine (M2.out _ _ _ (VV.out.next B4.out) (UT.out _ B4.out)).mono ?_
        rintro e w5 ⟨ya, ycap, rfl, ⟨_, hy⟩, _, hb5⟩
        have B5 := Lib.hid (bstep B4.out hb5)
        have XA5 := Lib.hid (XA.out.next hb5)
        have YV := Lib.hid hy
        clear hy hb5 B4 M2 XA
        go_wp2_with fail
        with_reducible refine (M3.out _ _ _ YV.out (UD.out _ B5.out)).mono ?_
        rintro e w6 ⟨za, zcap, rfl, _, hz6, hb6⟩
        have B6 := Lib.hid (bstep B3.out (bstep B5.out hb6))
        have XA6 := Lib.hid (XA5.out.next hb6)
        have ZA6 := Lib.hid hz6
        clear hz6 hb6 B5 M3 XA5 YV UT UD VV U3
        generalize ms.length = n at *
        go_wp2_with fail
        go_loopw [21] (fun vi wr => ∃ j : Nat, j ≤ n ∧ vi = .int .i64 (j : Int) ∧ ∃ q, wr = w6.drewN q) (fun vi _ => n - (intOf vi).toNat)
        case atStart => exact ⟨0, by omega, rfl, 0, rfl⟩
        case round =>
          obtain ⟨j, hj, rfl, q, rfl⟩ := hrel
          by_cases hlt : j < n
          · obtain ⟨m, hm⟩ := HG.out j hlt
            obtain ⟨g1, off1, rfl, _, c0, c1⟩ := MksAt.get XA6.out hm
            obtain ⟨g2, off2, rfl, _, d0, d1⟩ := MksAt.get ZA6.out hm
            have i1 : (j : Int) < (n : Int) := by omega
            have i2 : (0 : Int) ≤ (j : Int) := by omega
            clear hm
            obtain ⟨ma, mr⟩ := m
            dsimp only at *
            go_wp2_with fail
            go_quiet (fail)
            go_wp2_with fail
            refine ⟨⟨j + 1, by omega, by go_num, _, rfl⟩, by simp [intOf]; omega⟩
          · go_wp2_with fail
            go_ret
            exact ⟨rfl, bdrewN B6.out _⟩
  · have HA := Lib.hid hae
    have HGG := Lib.hid hg
    have hkc : k ≤ ce := by omega
    have UT : Hid (∀ W, Below w3.heap.size w3 W → EdsV W (.slice (some ⟨g, off, none⟩) k ce) (es.take k)) := Lib.hid fun W hW =>
      ⟨_, _, by rw [TK.out], by rw [TK.out]; omega, (SlAt.take HA.out k).next hW, .inr ⟨g, off, rfl, Nat.lt_of_lt_of_le HGG.out hW.size⟩⟩
    obtain ⟨ne, hn⟩ : ∃ n, es.length = n := ⟨_, rfl⟩
    rw [hn] at PC hkn LE hce DK U3 EG ⊢
    clear hn hae hg
    by_cases hcap : ce = k
    · have UD : Hid (∀ W, Below w3.heap.size w3 W → EdsV W (.slice (some ⟨g, off, none⟩) 0 0) (es.drop k)) := Lib.hid fun W hW => by
        have e0 : es.drop k = [] := List.eq_nil_of_length_eq_zero (by rw [DK.out]; omega)
        rw [e0]
        exact ⟨_, _, rfl, Nat.le_refl _, SlAt.nil _ _, .inr ⟨g, off, rfl, Nat.lt_of_lt_of_le HGG.out hW.size⟩⟩
      subst hcap
      obtain rfl : ne = ce := by omega
      go_wp2_with fail
      refine (PC.out _).mono ?_
      rintro e w1 ⟨rfl, rfl⟩
      go_wp2_with fail
      go_loopw [13, 14] (fun vm vi wr => ∃ i : Nat, i ≤ ne ∧ vi = .int .i64 (i : Int) ∧ vm = .int .i64 (szN (es.take i) N) ∧ Hid (Below w3.heap.size w3 wr)) (fun _ vi _ => ne - (intOf vi).toNat)
      case atStart => exact ⟨0, by omega, rfl, rfl, Lib.hid (Below.refl _ _)⟩
      case round =>
        obtain ⟨i, hik, rfl, rfl, HB⟩ := hrel
        by_cases hlt : i < ne
        · obtain ⟨e, he, hp, hc0, hc1⟩ := EG.out i (by omega)
          obtain ⟨g1, off1, eg, _, _, d1, d2⟩ := EdsAt.get (SlAt.next HA.out HB.out) he
          simp only [Option.some.injEq, Addr.mk.injEq, and_true] at eg
          obtain ⟨rfl, rfl⟩ := eg
          have NX := Lib.hid (NXT.out i e he)
          obtain ⟨s0, s1⟩ := SZ.out i
          have B5 := Lib.hid HB.out
          have i1 : (i : Int) < (ne : Int) := by omega
          have i2 : (0 : Int) ≤ (i : Int) := by omega
          clear he HB
          obtain ⟨ea, ec, ep⟩ := e
          dsimp only at *
          generalize szN (es.take i) N = sz at *
          have r1 : IntKind.i64.wrap ((ep.size : Int) - ec) = (ep.size : Int) - ec := IntWalk.i64_in _ (by omega)
          have r2 : IntKind.i64.wrap (sz + ((ep.size : Int) - ec)) = sz + ((ep.size : Int) - ec) := IntWalk.i64_in _ (by omega)
          go_wp2_with fail
          go_quiet (fail)
          go_wp2_with fail
          go_roundw
          case rel => exact ⟨i + 1, by omega, by go_num, by rw [NX.out], Lib.hid (bdrewN B5.out _)⟩
          case measure => simp [intOf]; omega
        · obtain rfl : i = ne := by omega
          clear EG NXT
          generalize szN (es.take i) N = sz at *
          go_wp2_with fail
          with_reducible refine (M1.out _ _ _ (VV.out.next HB.out) (U3.out.next HB.out)).mono ?_
          rintro e w4 ⟨xa, xcap, rfl, _, hx, hb4⟩
          have B4 := Lib.hid (bstep HB.out hb4)
          have XA := Lib.hid hx
          clear hx hb4 HB M1
          go_wp2_with fail
          with_reducible refine (M2.out _ _ _ (VV.out.next B4.out) (UT.out _ B4.out)).mono ?_
          rintro e w5 ⟨ya, ycap, rfl, ⟨_, hy⟩, _, hb5⟩
          have B5 := Lib.hid (bstep B4.out hb5)
          have XA5 := Lib.hid (XA.out.next hb5)
          have YV := Lib.hid hy
          clear hy hb5 B4 M2 XA
          go_wp2_with fail
          with_reducible refine (M3.out _ _ _ YV.out (UD.out _ B5.out)).mono ?_
          rintro e w6 ⟨za, zcap, rfl, _, hz6, hb6⟩
          have B6 := Lib.hid (bstep B3.out (bstep B5.out hb6))
          have XA6 := Lib.hid (XA5.out.next hb6)
          have ZA6 := Lib.hid hz6
          clear hz6 hb6 B5 M3 XA5 YV UT UD VV U3
          generalize ms.length = n at *
          go_wp2_with fail
          go_loopw [21] (fun vi wr => ∃ j : Nat, j ≤ n ∧ vi = .int .i64 (j : Int) ∧ ∃ q, wr = w6.drewN q) (fun vi _ => n - (intOf vi).toNat)
          case atStart => exact ⟨0, by omega, rfl, 0, rfl⟩
          case round =>
            obtain ⟨j, hj, rfl, q, rfl⟩ := hrel
            by_cases hlt : j < n
            · obtain ⟨m, hm⟩ := HG.out j hlt
              obtain ⟨g1, off1, rfl, _, c0, c1⟩ := MksAt.get XA6.out hm
              obtain ⟨g2, off2, rfl, _, d0, d1⟩ := MksAt.get ZA6.out hm
              have i1 : (j : Int) < (n : Int) := by omega
              have i2 : (0 : Int) ≤ (j : Int) := by omega
              clear hm
              obtain ⟨ma, mr⟩ := m
              dsimp only at *
              go_wp2_with fail
              go_quiet (fail)
              go_wp2_with fail
              refine ⟨⟨j + 1, by omega, by go_num, _, rfl⟩, by simp [intOf]; omega⟩
            · go_wp2_with fail
              go_ret
              exact ⟨rfl, bdrewN B6.out _⟩
    · have UD : Hid (∀ W, Below w3.heap.size w3 W → EdsV W (.slice (some ⟨g, off + k * 3, none⟩) (ne - k) (ce - k)) (es.drop k)) := Lib.hid fun W hW => by
        exact ⟨_, _, by rw [DK.out], by rw [DK.out]; omega, (SlAt.drop HA.out k).next hW, .inr ⟨g, _, rfl, Nat.lt_of_lt_of_le HGG.out hW.size⟩⟩
      go_wp2_with fail
      refine (PC.out _).mono ?_
      rintro e w1 ⟨rfl, rfl⟩
      go_wp2_with fail
      go_loopw [13, 14] (fun vm vi wr => ∃ i : Nat, i ≤ k ∧ vi = .int .i64 (i : Int) ∧ vm = .int .i64 (szN (es.take i) N) ∧ Hid (Below w3.heap.size w3 wr)) (fun _ vi _ => k - (intOf vi).toNat)
      case atStart => exact ⟨0, by omega, rfl, rfl, Lib.hid (Below.refl _ _)⟩
      case round =>
        obtain ⟨i, hik, rfl, rfl, HB⟩ := hrel
        by_cases hlt : i < k
        · obtain ⟨e, he, hp, hc0, hc1⟩ := EG.out i (by omega)
          obtain ⟨g1, off1, eg, _, _, d1, d2⟩ := EdsAt.get (SlAt.next HA.out HB.out) he
          simp only [Option.some.injEq, Addr.mk.injEq, and_true] at eg
          obtain ⟨rfl, rfl⟩ := eg
          have NX := Lib.hid (NXT.out i e he)
          obtain ⟨s0, s1⟩ := SZ.out i
          have B5 := Lib.hid HB.out
          have i1 : (i : Int) < (ne : Int) := by omega
          have i2 : (0 : Int) ≤ (i : Int) := by omega
          clear he HB
          obtain ⟨ea, ec, ep⟩ := e
          dsimp only at *
          generalize szN (es.take i) N = sz at *
          have r1 : IntKind.i64.wrap ((ep.size : Int) - ec) = (ep.size : Int) - ec := IntWalk.i64_in _ (by omega)
          have r2 : IntKind.i64.wrap (sz + ((ep.size : Int) - ec)) = sz + ((ep.size : Int) - ec) := IntWalk.i64_in _ (by omega)
          go_wp2_with fail
          go_quiet (fail)
          go_wp2_with fail
          go_roundw
          case rel => exact ⟨i + 1, by omega, by go_num, by rw [NX.out], Lib.hid (bdrewN B5.out _)⟩
          case measure => simp [intOf]; omega
        · obtain rfl : i = k := by omega
          clear EG NXT
          generalize szN (es.take i) N = sz at *
          go_wp2_with fail
          with_reducible refine (M1.out _ _ _ (VV.out.next HB.out) (U3.out.next HB.out)).mono ?_
          rintro e w4 ⟨xa, xcap, rfl, _, hx, hb4⟩
          have B4 := Lib.hid (bstep HB.out hb4)
          have XA := Lib.hid hx
          clear hx hb4 HB M1
          go_wp2_with fail
          with_reducible refine (M2.out _ _ _ (VV.out.next B4.out) (UT.out _ B4.out)).mono ?_
          rintro e w5 ⟨ya, ycap, rfl, ⟨_, hy⟩, _, hb5⟩
          have B5 := Lib.hid (bstep B4.out hb5)
          have XA5 := Lib.hid (XA.out.next hb5)
          have YV := Lib.hid hy
          clear hy hb5 B4 M2 XA
          go_wp2_with fail
          with_reducible refine (M3.out _ _ _ YV.out (UD.out _ B5.out)).mono ?_
          rintro e w6 ⟨za, zcap, rfl, _, hz6, hb6⟩
          have B6 := Lib.hid (bstep B3.out (bstep B5.out hb6))
          have XA6 := Lib.hid (XA5.out.next hb6)
          have ZA6 := Lib.hid hz6
          clear hz6 hb6 B5 M3 XA5 YV UT UD VV U3
          generalize ms.length = n at *
          go_wp2_with fail
          go_loopw [21] (fun vi wr => ∃ j : Nat, j ≤ n ∧ vi = .int .i64 (j : Int) ∧ ∃ q, wr = w6.drewN q) (fun vi _ => n - (intOf vi).toNat)
          case atStart => exact ⟨0, by omega, rfl, 0, rfl⟩
          case round =>
            obtain ⟨j, hj, rfl, q, rfl⟩ := hrel
            by_cases hlt : j < n
            · obtain ⟨m, hm⟩ := HG.out j hlt
              obtain ⟨g1, off1, rfl, _, c0, c1⟩ := MksAt.get XA6.out hm
              obtain ⟨g2, off2, rfl, _, d0, d1⟩ := MksAt.get ZA6.out hm
              have i1 : (j : Int) < (n : Int) := by omega
              have i2 : (0 : Int) ≤ (j : Int) := by omega
              clear hm
              obtain ⟨ma, mr⟩ := m
              dsimp only at *
              go_wp2_with fail
              go_quiet (fail)
              go_wp2_with fail
              refine ⟨⟨j + 1, by omega, by go_num, _, rfl⟩, by simp [intOf]; omega⟩
            · go_wp2_with fail
              go_ret
              exact ⟨rfl, bdrewN B6.out _⟩

end Go.Proofs.Ytllpglanpfjcnaa.MarkK
