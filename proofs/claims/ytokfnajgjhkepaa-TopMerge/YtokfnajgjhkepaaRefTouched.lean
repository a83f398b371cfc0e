/-
  The document: touched (the marks of the script between two lists of lines).
-/
import Derived.Test.YtokfnajgjhkepaaBnd3
import Derived.Test.YtokfnajgjhkepaaRefSteps
import Derived.Deep.AppendLies
import Derived.Deep.RegionLaw
import Derived.BigQuiet
namespace Go.Proofs.Ytokfnajgjhkepaa.MergeT
open Go.RowKit Kit LineM StrM EditM DiffM DiffA DiffR DiffP NumR HistM

/-- the marks of a script, as they are handed back -/
def TdPost (base b : List ByteArray) (n : Nat) (w : World) (e : Ending) (w' : World) : Prop := ∃ gb ob pb vs, e = .returned (.tuple #[.slice (some ⟨gb, 0, none⟩) (n + 1) (n + 1), .slice (some ⟨ob, 0, none⟩) n n, .slice (some ⟨pb, 0, none⟩) (n + 1) (n + 1)]) ∧ TW w gb ob pb n (marks base b) vs w'
/-- behind t runs and q of the next -/
def done (R : List (Nat × Nat)) (t q k : Nat) : List Nat := ex (R.take t) ++ List.replicate q k
theorem done_next (R : List (Nat × Nat)) (t q k : Nat) : done R t (q + 1) k = done R t q k ++ [k] := by
  unfold done
  rw [List.replicate_succ', ← List.append_assoc]
theorem done_zero (R : List (Nat × Nat)) (t k : Nat) : done R t 0 k = ex (R.take t) := by simp [done]
theorem done_all {R : List (Nat × Nat)} {t k c : Nat} (h : R[t]? = some (k, c)) : done R t c k = ex (R.take (t + 1)) := (ex_next h).symm
theorem done_scr {base b : List ByteArray} {R : List (Nat × Nat)} (hR : Rn base b R) {t q k c : Nat} (h : R[t]? = some (k, c)) (hq : q < c) : ∃ r, Scr (done R t q k ++ k :: r) base b := by
  have e1 : ex R = ex (R.take (t + 1)) ++ ex (R.drop (t + 1)) := by rw [← ex_append, List.take_append_drop]
  have e2 : List.replicate c k = List.replicate q k ++ k :: List.replicate (c - q - 1) k := by
    have : c = q + ((c - q - 1) + 1) := by omega
    conv => lhs; rw [this, ← List.replicate_append_replicate, List.replicate_succ]
  have hs : Scr (ex R) base b := by rw [hR.ex]; exact kinds_scr base b
  rw [e1, ex_next h, e2] at hs
  refine ⟨List.replicate (c - q - 1) k ++ ex (R.drop (t + 1)), ?_⟩
  unfold done
  simpa using hs
theorem take_scr {base b : List ByteArray} {R : List (Nat × Nat)} (hR : Rn base b R) (t : Nat) : Scr (ex (R.take t) ++ ex (R.drop t)) base b := by
  rw [← ex_append, List.take_append_drop, hR.ex]
  exact kinds_scr base b
set_option maxRecDepth 100000 in
set_option maxHeartbeats 8000000 in
theorem touched (x y : Sv) (w : World) (hx : x.has w) (hy : y.has w) (hox : okL x.l) (hoy : okL y.l) (hcx : x.l.length ≤ x.cap) (hcy : y.l.length ≤ y.cap) : Calls Try.prog 27 #[.slice x.a x.l.length x.cap, .slice y.a y.l.length y.cap] w (TdPost x.l y.l x.l.length w) := by
  obtain ⟨i0, hi, hz0, hz1, hz2⟩ := info_parts infoStr
  have HI := Lib.hid (And.intro hi (And.intro hz0 (And.intro hz1 hz2)))
  clear hi hz0 hz1 hz2
  obtain ⟨j0, hi, hz0, hz1, hz2⟩ := info_parts infoBool
  have HJ := Lib.hid (And.intro hi (And.intro hz0 (And.intro hz1 hz2)))
  clear hi hz0 hz1 hz2
  obtain ⟨k0, hi, hz0, hz1, hz2⟩ := info_parts infoStrs
  have HK := Lib.hid (And.intro hi (And.intro hz0 (And.intro hz1 hz2)))
  clear hi hz0 hz1 hz2
  have DS := Lib.hid (fun W (hW : Below w.heap.size w W) => diffStepsO x y W (SlAt.next hx hW) (SlAt.next hy hW) hox hoy hcx hcy)
  have HB : Hid (StAt w y.a y.l) := Lib.hid hy
  have hn8 := hox.1
  have hm8 := hoy.1
  have hrn := rn_of x.l y.l
  clear hx hy hox hoy hcx hcy
  generalize x.l = la at *
  generalize y.l = lb at *
  generalize x.a = aa at *
  generalize y.a = ab at *
  generalize x.cap = ca at *
  generalize y.cap = cb at *
  obtain ⟨R, hR⟩ : ∃ R, comb (kinds la lb) = R := ⟨_, rfl⟩
  rw [hR] at DS hrn
  have RN := Lib.hid hrn
  have hex : (ex R).length ≤ 160 := by
    rw [hrn.ex]
    have := (kinds_scr la lb).counts
    omega
  have hRl : R.length ≤ 160 := by have := pow_len hrn.pos; omega
  have HMK : Hid (marks la lb = trun lb (ex R)) := Lib.hid (by unfold marks; rw [hrn.ex])
  clear hrn hR
  obtain ⟨n, hn⟩ : ∃ n, la.length = n := ⟨_, rfl⟩
  obtain ⟨m, hm⟩ : ∃ m, lb.length = m := ⟨_, rfl⟩
  obtain ⟨N, hN⟩ : ∃ N, R.length = N := ⟨_, rfl⟩
  have HN := Lib.hid hn
  have HM := Lib.hid hm
  have HR := Lib.hid hN
  rw [hn] at hn8 DS ⊢
  rw [hm] at hm8 DS ⊢
  rw [hN] at hRl
  clear hn hm hN
  have r0 : IntKind.i64.wrap ((n : Int) + 1) = ((n + 1 : Nat) : Int) := by rw [show ((n : Int) + 1) = ((n + 1 : Nat) : Int) by omega]; exact IntWalk.i64_in _ (by omega)
  go_enter Try.func27, Try.ntmps27
  go_wp2_with (first
    | (refine wpList_make_full _ rfl _ _ 63 rfl w.heap.size 4 j0 _ 1 Try.underlying63 HJ.out.1 HJ.out.2.1 HJ.out.2.2.1 .i64 .i64 _ _ (n + 1) rfl rfl rfl rfl (by rw [HJ.out.2.2.2]; omega) (by unfold maxLen; omega) (by simp) ?_; intro w1 hown1 hgrow1; have G1 : Hid (CR w.heap.size (n + 1) (fun _ => .bool false) w1 ∧ Below w.heap.size w w1) := Lib.hid ⟨CR.made rfl hown1, grows_below hgrow1⟩; clear hown1 hgrow1)
    | (refine wpList_make_full _ rfl _ _ 63 rfl w1.heap.size 4 j0 _ 1 Try.underlying63 HJ.out.1 HJ.out.2.1 HJ.out.2.2.1 .i64 .i64 _ _ n rfl rfl rfl rfl (by rw [HJ.out.2.2.2]; omega) (by unfold maxLen; omega) (by simp) ?_; intro w2 hown2 hgrow2; have G2 : Hid (CR w1.heap.size n (fun _ => .bool false) w2 ∧ Below w1.heap.size w1 w2) := Lib.hid ⟨CR.made rfl hown2, grows_below hgrow2⟩; clear hown2 hgrow2)
    | (refine wpList_make_full _ rfl _ _ 64 rfl w2.heap.size 22 k0 _ 1 Try.underlying64 HK.out.1 HK.out.2.1 HK.out.2.2.1 .i64 .i64 _ _ (n + 1) rfl rfl rfl rfl (by rw [HK.out.2.2.2]; omega) (by unfold maxLen; omega) (by simp) ?_; intro w3 hown3 hgrow3; have G3 : Hid (CR w2.heap.size (n + 1) (fun _ => .slice none 0 0) w3 ∧ Below w2.heap.size w2 w3) := Lib.hid ⟨CR.made rfl hown3, grows_below hgrow3⟩; clear hown3 hgrow3))
  have B3 := Lib.hid (bstep (bstep G1.out.2 G2.out.2) G3.out.2)
  have T0 : Hid (TW w w.heap.size w1.heap.size w2.heap.size n tnew (fun _ => .slice none 0 0) w3) := Lib.hid ⟨B3.out, Nat.le_refl _, G1.out.1.lt, G2.out.1.lt, (G1.out.1.next G2.out.2).next G3.out.2, G2.out.1.next G3.out.2, G3.out.1, fun i _ => World.ownsRow_nil _ _ _ _, fun i j _ _ _ b hb => by cases hb⟩
  clear G1 G2 G3
  obtain ⟨gb, hgb⟩ : ∃ gb, w.heap.size = gb := ⟨_, rfl⟩
  rw [hgb] at T0 ⊢
  clear hgb
  generalize w1.heap.size = ob at *
  generalize w2.heap.size = pb at *
  refine (DS.out _ B3.out).mono ?_
  rintro e w4 ⟨v4, rfl, hro⟩
  have T1 := Lib.hid (T0.out.next hro.bel)
  have K1 : Hid (TK w4 gb ob pb n (fun _ => .slice none 0 0) w4) := Lib.hid ⟨Nat.le_refl _, fun b _ _ _ _ => rfl, fun i _ b hb => by cases hb⟩
  have hob := T0.out.puts.lt
  have hgo := T0.out.go
  have hop := T0.out.op
  have STP := Lib.hid (fun vs W (h : TK w4 gb ob pb n vs W) i p (hi : R[i]? = some p) => h.steps hro (by omega) (by omega) hob hi)
  obtain ⟨a5, c5, rfl⟩ : ∃ a c, v4 = .slice a R.length c := by
    obtain ⟨a, c, e, _⟩ := hro.sl pc_len
    exact ⟨a, c, e⟩
  have B4 := Lib.hid (bstep B3.out hro.bel)
  rw [HR.out] at STP ⊢
  clear hro DS T0 B3 hob
  go_wp2_with fail
  go_loopw [12, 13, 36] (fun vat vto vt wr => ∃ (t at_ to_ : Nat) (vs : Nat → Value), t ≤ N ∧ vat = .int .i64 (at_ : Int) ∧ vto = .int .i64 (to_ : Int) ∧ vt = .int .i64 (t : Int) ∧ Hid ((trun lb (ex (R.take t))).at_ = at_ ∧ (trun lb (ex (R.take t))).to_ = to_) ∧ Hid (TW w gb ob pb n (trun lb (ex (R.take t))) vs wr ∧ TK w4 gb ob pb n vs wr)) (fun _ _ vt _ => N - (intOf vt).toNat)
  case atStart => exact ⟨0, 0, 0, _, by omega, rfl, rfl, rfl, Lib.hid ⟨rfl, rfl⟩, Lib.hid ⟨T1.out, K1.out⟩⟩
  case round =>
    obtain ⟨t, at_, to_, vs, htN, rfl, rfl, rfl, HA, HT⟩ := hrel
    clear T1 K1
    by_cases hlt : t < N
    · obtain ⟨kc, hkc⟩ : ∃ kc, R[t]? = some kc := ⟨R[t]'(by have := HR.out; omega), List.getElem?_eq_getElem _⟩
      obtain ⟨k, c⟩ := kc
      have hmem := List.mem_of_getElem? hkc
      have hkind := RN.out.kind _ hmem
      have hcle := ex_le R _ hmem
      obtain ⟨g, off, cap, ev, c0, c1⟩ := STP.out vs wr HT.out.2 t _ hkc
      simp only [Value.slice.injEq, true_and] at ev
      obtain ⟨rfl, rfl⟩ := ev
      dsimp only at hkind hcle c0 c1
      have HKC := Lib.hid hkc
      have u0 : (0 : Int) ≤ (t : Int) := by omega
      have u1 : (t : Int) < (N : Int) := by omega
      have rt : IntKind.i64.wrap ((t : Int) + 1) = (t : Int) + 1 := IntWalk.i64_in _ (by omega)
      clear hkc hmem
      obtain ⟨wq, rfl⟩ : ∃ wq, wq = wr := ⟨_, rfl⟩
      have S0 : Hid (TX w gb ob pb n (trun lb (done R t 0 k)) vs wq.heap.size k c (wq.alloc (.cells #[.int .i64 (k : Int), .int .i64 (c : Int)] 76)) ∧ TK w4 gb ob pb n vs (wq.alloc (.cells #[.int .i64 (k : Int), .int .i64 (c : Int)] 76))) := Lib.hid ⟨by rw [done_zero]; exact TX.made HT.out.1 _, HT.out.2.next (balloc (Below.refl _ _) _)⟩
      have HA0 : Hid ((trun lb (done R t 0 k)).at_ = at_ ∧ (trun lb (done R t 0 k)).to_ = to_) := Lib.hid (by rw [done_zero]; exact HA.out)
      have e0 := S0.out.1.b0
      have e1 := S0.out.1.b1
      have e2 := S0.out.1.lt
      clear HT HA
      go_wp2_with fail
      clear e0 e1 e2 c0 c1
      go_loopw [12, 13, 16] (fun vat vto vq wx => ∃ (q at_ to_ : Nat) (vs : Nat → Value), q ≤ c ∧ vat = .int .i64 (at_ : Int) ∧ vto = .int .i64 (to_ : Int) ∧ vq = .int .i64 (q : Int) ∧ Hid ((trun lb (done R t q k)).at_ = at_ ∧ (trun lb (done R t q k)).to_ = to_) ∧ Hid (TX w gb ob pb n (trun lb (done R t q k)) vs wq.heap.size k c wx ∧ TK w4 gb ob pb n vs wx)) (fun _ _ vq _ => c - (intOf vq).toNat)
      case atStart => exact ⟨0, _, _, _, by omega, rfl, rfl, rfl, HA0, S0⟩
      case round =>
        obtain ⟨q, at1, to1, vs1, hqc, rfl, rfl, rfl, HA, HX⟩ := hrel
        clear S0 HA0
        have e0 := HX.out.1.b0
        have e1 := HX.out.1.b1
        have e2 := HX.out.1.lt
        generalize wq.heap.size = sk at *
        by_cases hql : q < c
        · obtain ⟨rr, hsc⟩ := done_scr RN.out HKC.out hql
          have hnb := next_bounds hsc
          have hti := ti_run hsc
          rw [← hti.at_, ← hti.to_, HA.out.1, HA.out.2, HN.out, HM.out] at hnb
          have v1 : (q : Int) < (c : Int) := by omega
          have rq : IntKind.i64.wrap ((q : Int) + 1) = (q : Int) + 1 := IntWalk.i64_in _ (by omega)
          have ra : IntKind.i64.wrap ((at1 : Int) + 1) = (at1 : Int) + 1 := IntWalk.i64_in _ (by omega)
          have ro : IntKind.i64.wrap ((to1 : Int) + 1) = (to1 : Int) + 1 := IntWalk.i64_in _ (by omega)
          have hti2 : Hid (((trun lb (done R t q k)).puts at1).length ≤ to1) := Lib.hid (by
            have h := congrArg List.length hti.ver
            rw [HA.out.1, HA.out.2, List.length_append, List.length_take] at h
            omega)
          clear hsc hti
          rcases hkind with hk | hk | hk
          · have NX : Hid (trun lb (done R t (q + 1) k) = tstep lb (trun lb (done R t q k)) 1) := Lib.hid (by
              have e : tstep lb (trun lb (done R t q k)) k = tstep lb (trun lb (done R t q k)) 1 := by rw [hk]
              rw [done_next, trun_snoc, e])
            have k1 : (k : Int) ≤ 1 := by omega
            have k2 : (1 : Int) ≤ (k : Int) := by omega
            generalize trun lb (done R t q k) = T at *
            clear hk
            go_wp2_with fail
            go_roundw
            case rel => exact ⟨q + 1, at1 + 1, to1 + 1, vs1, by omega, by first | rfl | go_num, by first | rfl | go_num, by first | rfl | go_num, Lib.hid (by rw [NX.out]; exact ⟨by rw [← HA.out.1]; rfl, by rw [← HA.out.2]; rfl⟩), Lib.hid ⟨by rw [NX.out]; exact HX.out.1.same (fun _ => rfl) (fun _ => rfl) (fun _ => rfl), HX.out.2⟩⟩
            case measure => simp only [intOf]; omega
          · have NX : Hid (trun lb (done R t (q + 1) k) = tstep lb (trun lb (done R t q k)) 2) := Lib.hid (by
              have e : tstep lb (trun lb (done R t q k)) k = tstep lb (trun lb (done R t q k)) 2 := by rw [hk]
              rw [done_next, trun_snoc, e])
            have k1 : (k : Int) ≤ 2 := by omega
            have k2 : (2 : Int) ≤ (k : Int) := by omega
            generalize trun lb (done R t q k) = T at *
            have hat := hnb.1 (.inr hk)
            clear hk
            have HD := Lib.hid (HX.out.1.drop lb (by rw [HA.out.1]; exact hat))
            have HKD := Lib.hid (((HX.out.2.set (k := ob) (o := at1) (.inr (.inl rfl)) (.bool true)).set (k := gb) (o := at1) (.inl rfl) (.bool true)).set (k := gb) (o := at1 + 1) (.inl rfl) (.bool true))
            rw [HA.out.1] at HD
            have z0 := HX.out.1.tw.gone.cell at1 hat
            have z1 := HX.out.1.tw.gone.free at1 hat
            have z2 := HX.out.1.tw.gone.lt
            have z3 := HX.out.1.tw.gap.cell at1 (by omega)
            have z4 := HX.out.1.tw.gap.free at1 (by omega)
            have z5 := HX.out.1.tw.gap.lt
            have z6 := HX.out.1.tw.gap.cell (at1 + 1) (by omega)
            have z7 := HX.out.1.tw.gap.free (at1 + 1) (by omega)
            have w0 : (0 : Int) ≤ (at1 : Int) := by omega
            have w1 : (at1 : Int) < (n : Int) := by omega
            have w2 : (at1 : Int) < ((n + 1 : Nat) : Int) := by omega
            have w3 : (at1 : Int) + 1 < ((n + 1 : Nat) : Int) := by omega
            have w4 : (0 : Int) ≤ (at1 : Int) + 1 := by omega
            have ne1 : ob ≠ gb := by omega
            have ne2 : gb ≠ ob := by omega
            generalize T.gone at1 = bg at *
            generalize T.gap at1 = bp at *
            generalize T.gap (at1 + 1) = bq at *
            clear HX
            go_wp2_with fail
            go_roundw
            case rel => exact ⟨q + 1, at1 + 1, to1, vs1, by omega, by first | rfl | go_num, rfl, by first | rfl | go_num, Lib.hid (by rw [NX.out]; exact ⟨by rw [← HA.out.1]; rfl, by rw [← HA.out.2]; rfl⟩), Lib.hid ⟨by rw [NX.out]; exact HD.out, HKD.out⟩⟩
            case measure => simp only [intOf]; omega
          · have NX : Hid (trun lb (done R t (q + 1) k) = tstep lb (trun lb (done R t q k)) 3) := Lib.hid (by
              have e : tstep lb (trun lb (done R t q k)) k = tstep lb (trun lb (done R t q k)) 3 := by rw [hk]
              rw [done_next, trun_snoc, e])
            have k1 : (k : Int) ≤ 3 := by omega
            have k2 : (3 : Int) ≤ (k : Int) := by omega
            generalize trun lb (done R t q k) = T at *
            have hto := hnb.2.1 (.inr hk)
            clear hk
            have hat : at1 < n + 1 := by omega
            obtain ⟨yl, hyl⟩ : ∃ yl, lb[to1]? = some yl := ⟨lb[to1]'(by have := HM.out; omega), List.getElem?_eq_getElem _⟩
            obtain ⟨g2, off2, rfl, hg2, c2w⟩ := StAt.get HB.out hyl
            have z3 := HX.out.1.tw.gap.cell at1 hat
            have z4 := HX.out.1.tw.gap.free at1 hat
            have z5 := HX.out.1.tw.gap.lt
            have w0 : (0 : Int) ≤ (at1 : Int) := by omega
            have w2 : (at1 : Int) < ((n + 1 : Nat) : Int) := by omega
            have w5 : (0 : Int) ≤ (to1 : Int) := by omega
            have w9 : (at1 : Int) < (n : Int) + 1 := by omega
            have w6 : (to1 : Int) < (m : Int) := by omega
            have HG := Lib.hid (HX.out.1.gapSet hat)
            have HTK := Lib.hid (fun o g l cap W1 h1 h2 => (HX.out.2.set (k := gb) (o := at1) (.inl rfl) (.bool true)).grown (l := l) (cap := cap) hat (o := o) (W1 := W1) (g := g) h1 h2)
            have HTT := Lib.hid (fun o W1 g cap h1 h2 h3 => HX.out.1.take (b := lb) (y := yl) (o := o) (W1 := W1) (g := g) (cap := cap) (by rw [HA.out.2]; exact hyl) (by rw [HA.out.1]; exact hat) h1 h2 h3)
            rw [HA.out.1] at HTT
            generalize T.gap at1 = bp at *
            have hgz : gb < (wr.setCell ⟨gb, at1, none⟩ (.bool true)).heap.size := by rw [setZ]; exact z5
            clear HX hyl
            go_wp2_with fail
            generalize (wr.setCell ⟨gb, at1, none⟩ (.bool true)) = w7 at *
            have c2 := keep HG.out.tw.bel hg2 c2w
            have p0 := HG.out.tw.puts.cell at1 hat
            have p1 := HG.out.tw.puts.lt
            have hrow := HG.out.tw.row at1 hat
            have HROW : Hid (((w7.alloc (.cells #[.string yl] 9)).drew).ownsRow (pb + 1) 9 1 (vs1 at1) (T.puts at1).length (flatC sc (T.puts at1))) := Lib.hid (hrow.alloc _)
            have HNEW : Hid (∀ j z, [Value.string yl][j]? = some z → ((w7.alloc (.cells #[.string yl] 9)).drew).cell? ((⟨w7.heap.size, 0, none⟩ : Addr).add j) = some z) := Lib.hid (cell_one_new _ _ _)
            have hbase : pb + 1 ≤ ((w7.alloc (.cells #[.string yl] 9)).drew).heap.size := by
              show pb + 1 ≤ (w7.alloc (.cells #[.string yl] 9)).heap.size
              simp; omega
            have hlen : (T.puts at1).length ≤ 80 := by
              have h := hti2.out
              omega
            have AFTER := Lib.hid (fun W4 g4 cap4 hr (hgr : ((w7.alloc (.cells #[.string yl] 9)).drew).grownBy W4 (vs1 at1).ownBlock) hloc => And.intro (HTT.out (.cells #[.string yl] 9) W4 g4 cap4 hr ⟨hgr.os, hgr.tape, hgr.output, hgr.size, hgr.block⟩ hloc) (HTK.out (.cells #[.string yl] 9) g4 ((T.puts at1).length + 1) cap4 W4 ⟨hgr.os, hgr.tape, hgr.output, hgr.size, hgr.block⟩ hloc))
            clear HTT HTK hrow z3 z4 z5 hgz
            obtain ⟨vu, hvu⟩ : ∃ vu, vs1 at1 = vu := ⟨_, rfl⟩
            rw [hvu] at p0 HROW AFTER
            obtain ⟨L, hL⟩ : ∃ L, T.puts at1 = L := ⟨_, rfl⟩
            rw [hL] at HROW AFTER hlen
            clear hvu hL
            go_wp2_with fail
            go_region_law ((refine step_append_lies _ (by rfl) _ _ _ (by rfl) (pb + 1) 9 i0 _ 1 16 Try.underlying22 HI.out.1 HI.out.2.1 HI.out.2.2.1 HI.out.2.2.2 rfl (by decide) vu L.length (flatC sc L) (by rfl) HROW.out ⟨w7.heap.size, 0, none⟩ 1 1 [.string yl] (by rfl) rfl HNEW.out (by simp [Value.oneCell']) (by omega) (by unfold maxLen; omega) (by omega) hbase (w7.heap.size + 1) (by simp) ?_; intro g4 cap4 w8 hown4 hgrow4 hloc4 hlt4; obtain ⟨⟨⟨f1, f2, f3⟩, hx8⟩, hk8⟩ := AFTER.out _ _ _ hown4 hgrow4 (by first | exact hloc4 | simpa using hloc4); have HX8 := Lib.hid hx8; have HK8 := Lib.hid hk8; clear hx8 hk8 hown4 hgrow4 hloc4 hlt4))
            all_goals
              go_wp2_with fail
              go_roundw
              case rel => exact ⟨q + 1, at1, to1 + 1, _, by omega, rfl, by first | rfl | go_num, by first | rfl | go_num, Lib.hid (by rw [NX.out]; exact ⟨by rw [← HA.out.1]; rfl, by rw [← HA.out.2]; rfl⟩), Lib.hid ⟨by rw [NX.out]; exact HX8.out, HK8.out.set (.inr (.inr rfl)) _⟩⟩
              case measure => simp only [intOf]; omega
        · have v1 : ¬ (q : Int) < (c : Int) := by omega
          have eq1 : q = c := by omega
          subst eq1
          rw [done_all HKC.out] at HA HX
          have HX2 : Hid (TW w gb ob pb n (trun lb (ex (R.take (t + 1)))) vs1 wr ∧ TK w4 gb ob pb n vs1 wr) := Lib.hid ⟨HX.out.1.tw, HX.out.2⟩
          clear HX
          go_wp2_with fail
          go_roundw
          case rel => exact ⟨t + 1, at1, to1, vs1, by omega, rfl, rfl, by first | rfl | go_num, HA, HX2⟩
          case measure => simp only [intOf]; omega
    · have u1 : ¬ (t : Int) < (N : Int) := by omega
      have FIN : Hid (TW w gb ob pb n (marks la lb) vs wr) := Lib.hid (by
        have h := HT.out.1
        rw [List.take_of_length_le (by have := HR.out; omega)] at h
        rw [HMK.out]; exact h)
      clear HT HA
      go_wp2_with fail
      go_ret3
      exact ⟨gb, ob, pb, vs, rfl, FIN.out⟩
end Go.Proofs.Ytokfnajgjhkepaa.MergeT
