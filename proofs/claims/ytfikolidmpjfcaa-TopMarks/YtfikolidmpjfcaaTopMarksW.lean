/-
  The law TopMarks, walked.
-/
import Derived.Test.YtfikolidmpjfcaaLineV
import Derived.Test.YtfikolidmpjfcaaLineAppend
import Derived.Test.YtfikolidmpjfcaaTexts
import Derived.Test.YtfikolidmpjfcaaChanges
import Derived.Test.YtfikolidmpjfcaaEditApplyV
import Derived.Test.YtfikolidmpjfcaaMoveV
import Derived.Test.YtfikolidmpjfcaaCopyStep
import Derived.Test.YtfikolidmpjfcaaFew
import Derived.RegionTactic
import Derived.Deep.Cut
import Derived.Deep.DeepCutAuto
namespace Go.Proofs.Ytfikolidmpjfcaa.LineM
open Go.RowKit Kit EditM PosM MarkM

theorem sts_shift {t p : Bs} {a : Nat} (h : a ≤ t.length) (hp : lns p = 0) (hn : (a : Int) ∉ sts t) : sts (made t a 0 p) = (sts t).map fun z => placed a 0 p.length z false := by
  obtain ⟨i, hi⟩ := upto_ex (a : Int) (sts t)
  have hf : fts a p = [] := List.eq_nil_of_length_eq_zero (by rw [fts_len]; exact hp)
  rw [sts_made (c := 0) (by omega) hi (by simpa using hi), hf, List.append_nil]
  have hs := sts_sorted t
  have e : (sts t).map (fun z => placed a 0 p.length z false) = ((sts t).take i).map (fun z => placed a 0 p.length z false) ++ ((sts t).drop i).map (fun z => placed a 0 p.length z false) := by
    rw [← List.map_append, List.take_append_drop]
  rw [e]
  congr 1
  · have : ((sts t).take i).map (fun z => placed a 0 p.length z false) = ((sts t).take i).map id := by
      refine List.map_congr_left fun z hz => ?_
      obtain ⟨j, hj, rfl⟩ := List.mem_iff_getElem.1 hz
      rw [List.length_take] at hj
      rw [List.getElem_take] at hz ⊢
      have h1 := hi.all hs j _ (by omega) (List.getElem?_eq_getElem (show j < (sts t).length by omega))
      have h2 : (sts t)[j] ≠ (a : Int) := fun q => hn (by rw [← q]; exact List.getElem_mem _)
      unfold placed
      rw [if_pos (by omega)]; rfl
    rw [this, List.map_id]
  · refine List.map_congr_left fun z hz => ?_
    obtain ⟨j, hj, rfl⟩ := List.mem_iff_getElem.1 hz
    rw [List.length_drop] at hj
    rw [List.getElem_drop] at hz ⊢
    have h1 := hi.up hs (i + j) _ (by omega) (List.getElem?_eq_getElem (show i + j < (sts t).length by omega))
    unfold placed
    rw [if_neg (by omega), if_neg (by omega)]
    simp
/-- a start that is not there -/
theorem not_start {t : Bs} {a n : Nat} {z : Int} (hu : UpTo (sts t) a (n + 1)) (hz : (sts t)[n]? = some z) (hne : z ≠ a) : (a : Int) ∉ sts t := fun hm => by
  have hs := sts_sorted t
  obtain ⟨j, hj, hja⟩ := List.mem_iff_getElem.1 hm
  obtain ⟨hn, rfl⟩ := List.getElem?_eq_some_iff.1 hz
  have h1 := hu.all hs n _ (by omega) (List.getElem?_eq_getElem hn)
  rcases Nat.lt_trichotomy j n with c | c | c
  · have := List.pairwise_iff_getElem.1 hs j n hj hn c; omega
  · subst c; exact hne hja
  · have := hu.up hs j _ (by omega) (List.getElem?_eq_getElem hj); omega
def mk0 (z : Int) : MkM := ⟨z, false⟩
/-- marks at the first starts -/
def mks (t : Bs) (M : Nat) : List MkM := ((sts t).take M).map mk0
theorem mks_len {t : Bs} {M : Nat} (h : M ≤ (sts t).length) : (mks t M).length = M := by unfold mks; rw [List.length_map, List.length_take, Nat.min_eq_left h]
theorem mks_get {t : Bs} {M i : Nat} {z : Int} (h : i < M) (hz : (sts t)[i]? = some z) : (mks t M)[i]? = some ⟨z, false⟩ := by
  unfold mks; rw [List.getElem?_map, List.getElem?_take, if_pos h, hz]; rfl
theorem mks_next {t : Bs} {k : Nat} {z : Int} (hz : (sts t)[k]? = some z) : mks t (k + 1) = mks t k ++ [⟨z, false⟩] := by
  unfold mks; rw [EditM.take_next hz, List.map_append]; rfl
theorem mks_in {t : Bs} {M : Nat} : ∀ m ∈ mks t M, m.in_ t.length := by
  intro m hm
  unfold mks at hm
  obtain ⟨z, hz, rfl⟩ := List.mem_map.1 hm
  exact sts_rng (List.mem_of_mem_take hz)
theorem mks_step {t : Bs} {M a : Nat} {p : ByteArray} (h : a ≤ t.length) (hp : lns p.data.toList = 0) (hn : (a : Int) ∉ sts t) :
    (mks t M).map (mvd [⟨(a : Int), 0, p⟩]) = mks ((⟨(a : Int), 0, p⟩ : EdM).step t) M ∧ (sts ((⟨(a : Int), 0, p⟩ : EdM).step t)).length = (sts t).length := by
  have e := sts_shift h hp hn
  rw [size_list] at e
  have e2 : sts ((⟨(a : Int), 0, p⟩ : EdM).step t) = (sts t).map fun z => placed a 0 p.size z false := e
  constructor
  · unfold mks
    rw [e2, List.map_map, ← List.map_take, List.map_map]
    rfl
  · rw [e2, List.length_map]
end Go.Proofs.Ytfikolidmpjfcaa.LineM
namespace Go.Proofs.Ytfikolidmpjfcaa.LineK
open Go.RowKit Kit EditM LineM Txt Lift ChgM EditK MarkM MarkK

/-- marks of the call's own -/
structure MkO (w : World) (es : List MkM) (v : Value) (wr : World) : Prop where
  row : wr.ownsRow w.heap.size 50 2 v es.length (flatC MkM.cs es)
  bel : Below w.heap.size w wr
theorem MkO.val {w wr : World} {es : List MkM} {v : Value} (h : MkO w es v wr) : MksV wr v es := SlV.of_owns MkM.cs_len h.row
theorem cell_mark_new (w : World) (x0 x1 : Value) (t : TypeId) : ∀ j u, [x0, x1][j]? = some u → (w.alloc (.cells #[x0, x1] t)).cell? ((⟨w.heap.size, 0, none⟩ : Addr).add j) = some u := by
  intro j u hj
  have e : (⟨w.heap.size, 0, none⟩ : Addr).add j = ⟨w.heap.size, j, none⟩ := by rw [add_of rfl]; simp
  rw [e, cells_new]
  simpa using hj
/-- what the second loop keeps -/
structure TM (w : World) (M N k : Nat) (t : Bs) (vm vl : Value) (wr : World) : Prop where
  len : t.length ≤ 100 + 6 * k
  num : (sts t).length = N
  ms : MksV wr vm (mks t M)
  ls : IsV wr vl (sts t)
  bel : Below w.heap.size w wr
theorem TM.next {w : World} {M N k : Nat} {t : Bs} {vm vl : Value} {wr w' : World} (h : TM w M N k t vm vl wr) (hb : Below wr.heap.size wr w') : TM w M N k t vm vl w' := ⟨h.len, h.num, h.ms.next hb, h.ls.next hb, bstep h.bel hb⟩
theorem TM.more {w : World} {M N k : Nat} {t : Bs} {vm vl : Value} {wr : World} (h : TM w M N k t vm vl wr) : TM w M N (k + 1) t vm vl wr := ⟨by have := h.len; omega, h.num, h.ms, h.ls, h.bel⟩

/-- a box of three cells, as loads want it, and how far memory has grown -/
abbrev SX (wB : World) (xb : Nat) (x0 x1 x2 : Value) (W : World) : Prop := Below wB.heap.size wB W ∧ xb < W.heap.size ∧ W.cell? ⟨xb, 0, none⟩ = some x0 ∧ W.cell? ⟨xb, 1, none⟩ = some x1 ∧ W.cell? ⟨xb, 2, none⟩ = some x2
theorem SX.next {wB : World} {xb : Nat} {x0 x1 x2 : Value} {W W' : World} (h : SX wB xb x0 x1 x2 W) (hb : Below W.heap.size W W') : SX wB xb x0 x1 x2 W' :=
  ⟨bstep h.1 hb, Nat.lt_of_lt_of_le h.2.1 hb.size, keep hb h.2.1 h.2.2.1, keep hb h.2.1 h.2.2.2.1, keep hb h.2.1 h.2.2.2.2⟩
theorem SX.start {wB : World} {xb : Nat} {x0 x1 x2 : Value} (h : B3 xb x0 x1 x2 wB) : SX wB xb x0 x1 x2 wB.drew := ⟨Below.drew (Below.refl _ _), h.lt, h.c0, h.c1, h.c2⟩
set_option maxRecDepth 100000 in
set_option maxHeartbeats 4000000 in
theorem topMarks (a0 : Option Addr) (len0 cap0 : Nat) (zs : List Int) (al : Option Addr) (cap : Nat) (l : List ChgM) (w : World) (h0 : IsRow .i64 w a0 len0 cap0 zs) (hl : ChsAt w al l) (hh : ∀ c ∈ l, c.has w) (_hlc : l.length ≤ cap) (_hmx : cap ≤ maxLen) {Y : Prop} (_ : Y) :
    Calls Try.prog 9 #[.slice a0 len0 cap0, .slice al l.length cap] w fun e w' => e = .returned (.bool true) ∧ Below w.heap.size w w' := by
  unfold maxLen at _hmx
  have TO := Lib.hid (textOf a0 len0 cap0 zs 100 w h0 (by omega))
  have hs100 : (textS ((zs.take len0).take 100)).size ≤ 100 := by rw [textS_size]; simp only [List.length_take]; omega
  generalize textS ((zs.take len0).take 100) = s at *
  have ST := Lib.hid (fun W => LineC.starts s W (by omega))
  have hn1 : 1 ≤ (sts s.data.toList).length := by rw [sts_len]; omega
  have hn2 := LineC.sts_few (t := s.data.toList) (m := 100) (by rw [size_list]; exact hs100)
  obtain ⟨N, hN⟩ : ∃ N, (sts s.data.toList).length = N := ⟨_, rfl⟩
  rw [hN] at hn1 hn2
  obtain ⟨M, hM⟩ : ∃ M, M = min N 60 := ⟨_, rfl⟩
  have HMM := Lib.hid hM
  clear hM
  have HS : Hid (s.data.toList.length ≤ 100 ∧ (sts s.data.toList).length = N) := Lib.hid ⟨by rw [size_list]; exact hs100, hN⟩
  have HG : Hid (∀ i, i < N → (sts s.data.toList)[i]? = some ((sts s.data.toList).getD i 0)) := Lib.hid fun i hi => by rw [← hN] at hi; simp [List.getD, hi]
  have HL := Lib.hid hl
  have HH := Lib.hid hh
  obtain ⟨NC, hNC⟩ : ∃ NC, NC = l.length := ⟨_, rfl⟩
  have HNC := Lib.hid hNC
  have HGC : Hid (∀ i, i < NC → ∃ c, l[i]? = some c) := Lib.hid fun i hi => ⟨_, List.getElem?_eq_getElem (by rw [← hNC]; exact hi)⟩
  rw [← hNC] at _hlc ⊢
  obtain ⟨i0, hi, hz0, hz1, hz2⟩ := info_parts LineM.infoInt
  have HI := Lib.hid (And.intro hi (And.intro hz0 (And.intro hz1 hz2)))
  clear hi hz0 hz1 hz2
  obtain ⟨m0, hi, hz0, hz1, hz2⟩ := info_parts infoMark
  have HMI := Lib.hid (And.intro hi (And.intro hz0 (And.intro hz1 hz2)))
  clear hi hz0 hz1 hz2 h0 hl hh hNC hN
  have SD := Lib.hid (str_list s)
  have hor : N ≤ 60 ∨ 60 < N := by omega
  rcases hor with hor | hor
  all_goals
    go_enter Try.func9, Try.ntmps9
    go_wp2_with fail
    refine TO.out.mono ?_
    rintro e w1 ⟨rfl, rfl⟩
    go_wp2_with fail
    refine (ST.out _).mono ?_
    rintro e w2 ⟨v2, rfl, hk2⟩
    have V2 := Lib.hid hk2.val
    have B2 := Lib.hid hk2.bel
    clear hk2 TO ST
    obtain ⟨ax, cx, hvx, hcx, hax, _⟩ := V2.out
    rw [HS.out.2] at hvx hcx
    subst hvx
    obtain ⟨gx, ox, rfl, _, _⟩ := IsAt.get hax (HG.out 0 (by omega))
    have VA := Lib.hid hax
    clear hax
    obtain ⟨N', rfl⟩ : ∃ N', N = N' + 1 := ⟨N - 1, by omega⟩
    have g0 : (((N' : Int) + 1) == 0) = false := by simp; omega
    go_wp2_with fail
    go_loopw [8, 9] (fun vm vi wr => ∃ k : Nat, k ≤ N' + 1 ∧ k ≤ 60 ∧ vi = .int .i64 (k : Int) ∧ Hid (MkO w2 (mks s.data.toList k) vm wr)) (fun _ vi _ => N' + 1 - (intOf vi).toNat)
    case atStart => exact ⟨0, by omega, by omega, rfl, Lib.hid ⟨World.ownsRow_nil _ _ _ _, Below.refl _ _⟩⟩
    case round =>
      obtain ⟨k, hk, hk60, rfl, HK⟩ := hrel
      by_cases hgo : k < N' + 1 ∧ k < 60
      · obtain ⟨hlt, hlt6⟩ := hgo
        have hz := HG.out k hlt
        have NX := Lib.hid (mks_next hz)
        obtain ⟨gx', ox', e', _, cz⟩ := IsAt.get (SlAt.next VA.out HK.out.bel) hz
        simp only [Option.some.injEq, Addr.mk.injEq, and_true] at e'
        obtain ⟨rfl, rfl⟩ := e'
        have LK := mks_len (t := s.data.toList) (M := k) (by rw [HS.out.2]; omega)
        generalize (sts s.data.toList).getD k 0 = z at *
        clear hz
        have HROW : Hid (wr.ownsRow w2.heap.size 50 2 u8 k (flatC MkM.cs (mks s.data.toList k))) := Lib.hid (by have := HK.out.row; rw [LK] at this; exact this)
        have BK := Lib.hid HK.out.bel
        have hsz := BK.out.size
        have j1 : (k : Int) < ((N' + 1 : Nat) : Int) := by omega
        have j1' : (k : Int) < (N' : Int) + 1 := by omega
        have j2 : (0 : Int) ≤ (k : Int) := by omega
        have j3 : (k : Int) < 60 := by omega
        clear HK
        go_wp2_with (at_builtin; refine wpList_append_lies _ rfl _ _ 48 rfl w2.heap.size 50 m0 _ 2 16 Try.underlying48 HMI.out.1 HMI.out.2.1 HMI.out.2.2.1 HMI.out.2.2.2 rfl (by decide) _ k (flatC MkM.cs (mks s.data.toList k)) rfl (HROW.out.alloc _) ⟨wr.heap.size, 0, none⟩ 1 1 [.int .i64 z, .bool false] rfl rfl (cell_mark_new _ _ _ _) (by simp [Value.oneCell']) (by omega) (by unfold maxLen; omega) (by omega) (by simp; omega) _ rfl ?_; intro g4 cap4 w4 hown4 hgrow4 _ _)
        go_roundw
        case rel => exact ⟨k + 1, by omega, by omega, by go_num, Lib.hid ⟨by rw [NX.out, List.length_append, LK, flatC_append]; exact hown4, bgrow (balloc BK.out _) (HROW.out.alloc _) hgrow4⟩⟩
        case measure => simp [intOf]; omega
      · have hkM : M = k := by have := HMM.out; omega
        clear HMM
        have LK := mks_len (t := s.data.toList) (M := M) (by rw [HS.out.2]; omega)
        subst hkM
        have hM60 : M ≤ N' + 1 := by omega
        have T0 : Hid (TM w M (N' + 1) 0 s.data.toList u8 (.slice (some ⟨gx, ox, none⟩) (N' + 1) cx) wr) := Lib.hid ⟨by have := HS.out.1; omega, HS.out.2, HK.out.val, V2.out.next HK.out.bel, bstep B2.out HK.out.bel⟩
        clear HK LK
        go_wp2_with fail
        go_loopw [8, 10, 11, 12] (fun vm vt vl vi wr => ∃ (j : Nat) (t : Bs), j ≤ NC ∧ j ≤ 8 ∧ vi = .int .i64 (j : Int) ∧ vt = .string (str t) ∧ Hid (TM w M (N' + 1) j t vm vl wr)) (fun _ _ _ vi _ => NC - (intOf vi).toNat)
        case atStart => exact ⟨0, s.data.toList, by omega, by omega, rfl, by rw [SD.out], T0⟩
        case round =>
          obtain ⟨j, t, hj, hj8, rfl, rfl, HT⟩ := hrel
          by_cases hjo : j < NC ∧ j < 8
          · obtain ⟨hjl, hj7⟩ := hjo
            obtain ⟨c, hc⟩ := HGC.out j hjl
            have hlen := HT.out.len
            have hts : (str t).size = t.length := size_str t
            obtain ⟨gc, oc, rfl, hgc, c0, c1, c2⟩ := ChsAt.get (SlAt.next HL.out HT.out.bel) hc
            have HC := Lib.hid (ChgM.has.next (HH.out c (List.mem_of_getElem? hc)) HT.out.bel)
            unfold ChgM.has at HC
            obtain ⟨cat, ccut, ta, tlen, tcap, czs⟩ := c
            dsimp only at *
            clear hc
            have PK := Lib.hid (fun W => picked cat (((str t).size : Int) + 1) W (by omega) (by omega))
            obtain ⟨a, ha⟩ := Int.eq_ofNat_of_zero_le (Int.emod_nonneg cat (show ((str t).size : Int) + 1 ≠ 0 by omega))
            have hal := Int.emod_lt_of_pos cat (show (0 : Int) < ((str t).size : Int) + 1 by omega)
            rw [ha] at PK hal
            have hat : a ≤ t.length := by omega
            clear ha hal
            have LV := Lib.hid (fun W v (hv : IsV W v (sts t)) => LineC.lineV t (a : Int) v W hv (by omega) (by omega))
            have SN := Lib.hid HT.out.num
            have VL := Lib.hid HT.out.ls
            obtain ⟨ay, cy, hvy, hcy, hay, _⟩ := VL.out
            rw [SN.out] at hvy hcy
            subst hvy
            have j1 : (j : Int) < (NC : Int) := by omega
            have j2 : (0 : Int) ≤ (j : Int) := by omega
            have j3 : (j : Int) < 8 := by omega
            have HTS := Lib.hid hts
            have htl : (str t).size ≤ 148 := by omega
            have FW := Lib.hid (fun W (hW : Below wr.heap.size wr W) => FewT.few ta tlen tcap czs 6 W (FewT.row_next' HC.out hW) (by omega))
            clear hay HC hts
            go_wp2_with fail
            refine (PK.out _).mono ?_
            rintro e w3 ⟨rfl, rfl⟩
            clear PK
            go_wp2_with (at_builtin; refine wpList_copyV ic_len ic_one (by omega) rfl _ _ 22 rfl 3 i0 _ 8 Try.underlying22 HI.out.1 HI.out.2.1 HI.out.2.2.1 HI.out.2.2.2 rfl rfl _ rfl (sts t) VL.out (by rw [SN.out]; unfold maxLen; omega) (by rw [SN.out]; omega) ?_; intro v3 w3 hv3 hb3; have V3 := Lib.hid hv3; have HB3 := Lib.hid hb3; clear hv3 hb3)
            refine (LV.out _ _ V3.out).mono ?_
            rintro e w4 ⟨n, rfl, hu, hb4⟩
            have hnl : n < N' + 1 := by have := hu.le; rw [SN.out] at this; omega
            have HB4 := Lib.hid (bstep HB3.out hb4)
            have HU := Lib.hid hu
            have HT4 := Lib.hid (HT.out.next HB4.out)
            clear hu hb4 LV V3 HB3 HT VL
            obtain ⟨z, hz⟩ : ∃ z, (sts t)[n]? = some z := ⟨_, List.getElem?_eq_getElem (by rw [SN.out]; exact hnl)⟩
            obtain ⟨ay', cy', hvy, _, hay, _⟩ := HT4.out.ls
            simp only [Value.slice.injEq] at hvy
            obtain ⟨rfl, -, rfl⟩ := hvy
            obtain ⟨gy, oy, rfl, hgy, cz⟩ := IsAt.get hay hz
            have gd1 : decide ((n : Int) < 0) = false := decide_eq_false (by omega)
            have gd2 : decide (((N' + 1 : Nat) : Int) ≤ (n : Int)) = false := decide_eq_false (by omega)
            have gd3 : decide ((N' : Int) + 1 ≤ (n : Int)) = false := decide_eq_false (by omega)
            have gd4 : decide (N' + 1 ≤ n) = false := decide_eq_false (by omega)
            have n1 : (n : Int) < ((N' + 1 : Nat) : Int) := by omega
            have n2 : (n : Int) < (N' : Int) + 1 := by omega
            have n3 : (0 : Int) ≤ (n : Int) := by omega
            have b0 : w4.cell? ⟨gc, oc + j * 3, none⟩ = some (.int .i64 cat) := keep HB4.out hgc c0
            have b2 : w4.cell? ⟨gc, oc + j * 3 + 2, none⟩ = some (.slice ta tlen tcap) := keep HB4.out hgc c2
            clear hay c0 c1 c2
            by_cases hza : z = (a : Int)
            · have ge : (z == (a : Int)) = true := by simpa using hza
              have TN := Lib.hid HT4.out.more
              clear HT4 HU hz FW HB4 hza
              go_wp2_with fail
              go_roundw
              case rel => exact ⟨j + 1, t, by omega, by omega, by go_num, rfl, TN⟩
              case measure => simp [intOf]; omega
            · have ge : (z == (a : Int)) = false := by simpa using hza
              have NS := Lib.hid (not_start HU.out hz hza)
              have F6 := Lib.hid (FW.out _ HB4.out)
              have hps : (FewT.fewS ((czs.take tlen).take 6)).size ≤ 6 := by rw [FewT.fewS_size]; simp only [List.length_take]; omega
              have hpl : PosM.lns (FewT.fewS ((czs.take tlen).take 6)).data.toList = 0 := by
                unfold PosM.lns
                rw [List.count_eq_zero, FewT.fewS_list]
                intro hm
                rcases FewT.few_ab hm with q | q <;> exact absurd q (by decide)
              generalize FewT.fewS ((czs.take tlen).take 6) = p at *
              have MS := Lib.hid (mks_step (M := M) hat hpl NS.out)
              clear HU hz FW hza hpl NS
              go_wp2_with fail
              refine F6.out.mono ?_
              rintro e w5 ⟨rfl, hb5⟩
              have HT5 := Lib.hid (HT4.out.next hb5)
              clear hb5 F6 HT4 cz b0 b2
              obtain ⟨am, cm, hvm, hcm, ham, hmd⟩ := HT5.out.ms
              rw [mks_len (by rw [SN.out]; exact hM60)] at hvm hcm
              subst hvm
              have hf : fault (t.length : Int) (a : Int) 0 p.size = 0 := fault_ok (by omega) (by omega)
              have eok : (⟨(a : Int), 0, p⟩ : EdM).ok := ⟨by dsimp only; omega, by dsimp only; omega, by dsimp only; omega, by dsimp only; omega, by dsimp only; omega⟩
              have efit : (⟨(a : Int), 0, p⟩ : EdM).fits t := EdM.fits_of hf
              have MV := Lib.hid (fun W v u (hv : MksV W v (mks t M)) (hu : EdsV W u [⟨(a : Int), 0, p⟩]) => moveV (t.length : Int) (mks t M) v [⟨(a : Int), 0, p⟩] u W hv hu (by rw [mks_len (by rw [SN.out]; exact hM60)]; omega) (by simp) (fun x hx => by rw [List.mem_singleton] at hx; rw [hx]; exact eok) (by omega) (by omega) mks_in (by simp only [szC]; rw [if_pos hf]))
              have UP := Lib.hid (fun W v (hv : IsV W v (sts t)) => LineC.updateV t ⟨(a : Int), 0, p⟩ v W hv efit)
              have AV := Lib.hid (fun W v (hv : EdsV W v [⟨(a : Int), 0, p⟩]) => applyV (str t) [⟨(a : Int), 0, p⟩] v W hv (fun x hx => by rw [List.mem_singleton] at hx; rw [hx]; exact eok) (by simp) (by omega) (by rw [list_str]; simp only [apC]; rw [if_pos (show EdM.fault ⟨(a : Int), 0, p⟩ t = 0 from hf)]))
              rw [list_str, show apT [⟨(a : Int), 0, p⟩] t = (⟨(a : Int), 0, p⟩ : EdM).step t from rfl] at AV
              have tl' := efit.len
              dsimp only at tl'
              obtain ⟨t', ht'⟩ : ∃ t', t' = (⟨(a : Int), 0, p⟩ : EdM).step t := ⟨_, rfl⟩
              rw [← ht'] at AV UP MS tl'
              rw [MS.out.1] at MV
              rw [← HTS.out] at MV UP
              have TN : Hid (∀ vm' vl' W, MksV W vm' (mks t' M) → IsV W vl' (sts t') → Below w.heap.size w W → TM w M (N' + 1) (j + 1) t' vm' vl' W) := Lib.hid fun vm' vl' W h1 h2 h3 => ⟨by have : (0 : Int).toNat = 0 := rfl; omega, MS.out.2.trans SN.out, h1, h2, h3⟩
              have LM' : Hid ((mks t' M).length = M ∧ (sts t').length = N' + 1) := Lib.hid ⟨mks_len (by rw [MS.out.2, SN.out]; exact hM60), MS.out.2.trans SN.out⟩
              clear ht' hf eok efit MS tl' ham hmd hlen
              have LS : Hid ((sts t).length = N' + 1 ∧ (mks t M).length = M) := Lib.hid ⟨SN.out, mks_len (by rw [SN.out]; exact hM60)⟩
              have XB := Lib.hid (B3.new w5 (.int .i64 (a : Int)) (.int .i64 0) (.string p) 29)
              have bB : Below w5.heap.size w5 (w5.alloc (.cells #[.int .i64 (a : Int), .int .i64 0, .string p] 29)) := balloc (Below.refl _ _) _
              have VM := Lib.hid (HT5.out.ms.next bB)
              have VL := Lib.hid (HT5.out.ls.next bB)
              have BB := Lib.hid (bstep HT5.out.bel bB)
              clear bB HT5 SN HTS hat
              go_upto_region 21 with fail
              generalize w5.alloc (.cells #[.int .i64 (a : Int), .int .i64 0, .string p] 29) = wB at *
              generalize w5.heap.size = xb at *
              generalize str t = ts at *
              generalize mks t M = ms at *
              generalize sts t = xs at *
              go_cut [17, 18] (fun tv tc wx => tc = .int .i64 0 ∧ MksV wx tv (mks t' M) ∧ Below wB.heap.size wB wx)
              case first =>
                have S0 := Lib.hid (SX.start XB.out)
                have VDA : Hid (∀ W, Below wB.heap.size wB W → MksV W (.slice am M cm) ms) := Lib.hid fun W hW => VM.out.next hW
                have ED1 : Hid (EdsV (wB.alloc (.cells #[.int .i64 (a : Int), .int .i64 0, .string p] 29)).drew (.slice (some ⟨wB.heap.size, 0, none⟩) 1 1) [⟨(a : Int), 0, p⟩]) := Lib.hid (SlV.next (oneE wB ⟨(a : Int), 0, p⟩) (Below.drew (Below.refl _ _)))
                have lms := LS.out.2
                go_region_held3 (fun W => Below wB.heap.size wB W ∧ xb < W.heap.size ∧ W.cell? ⟨xb, 0, none⟩ = some (.int .i64 (a : Int)) ∧ W.cell? ⟨xb, 1, none⟩ = some (.int .i64 0) ∧ W.cell? ⟨xb, 2, none⟩ = some (.string p))
                  (first | (with_reducible exact S0.out) | (with_reducible exact SX.next ‹SX wB xb (.int .i64 (a : Int)) (.int .i64 0) (.string p) _› (balloc (Below.refl _ _) _)) | (with_reducible exact S1.out) | (with_reducible exact S2.out) | fail)
                  (first
                    | (go_at_call 25; (with_reducible refine (MV.out _ _ _ (SlV.next C4.out (balloc (Below.refl _ _) _)) (oneE _ ⟨(a : Int), 0, p⟩)).mono ?_); rintro e w6 ⟨v6, rfl, hv6, hb6⟩; have C6 := Lib.hid hv6; have S2 := Lib.hid (SX.next (SX.next S1.out (balloc (Below.refl _ _) _)) hb6); clear hv6 hb6)
                    | (go_at_call 25; (with_reducible refine (MV.out _ _ _ C4.out (SlV.next ED1.out HB4.out)).mono ?_); rintro e w6 ⟨v6, rfl, hv6, hb6⟩; have C6 := Lib.hid hv6; have S2 := Lib.hid (SX.next S1.out hb6); clear hv6 hb6)
                    | (refine step_copyV MkM.cs_len MkM.cs_one (by omega) (by rfl) _ _ _ (by rfl) 50 m0 _ 16 Try.underlying48 HMI.out.1 HMI.out.2.1 HMI.out.2.2.1 HMI.out.2.2.2 rfl (by rfl) (.slice am M cm) (by rfl) ms (VDA.out _ (And.left ‹SX wB xb (.int .i64 (a : Int)) (.int .i64 0) (.string p) _›)) (by unfold maxLen; omega) (by omega) ?_; intro v4 w4 hv4 hb4; have C4 := Lib.hid hv4; have HB4 := Lib.hid hb4; have S1 := Lib.hid (SX.next ‹SX wB xb (.int .i64 (a : Int)) (.int .i64 0) (.string p) _› hb4); clear hv4 hb4)
                    | fail)
                all_goals
                  go_wp2_with fail
                  go_meet
                  exact ⟨rfl, C6.out, S2.out.1⟩
              case rest =>
                obtain ⟨rfl, hmv, hbc⟩ := hcut
                have C0 := Lib.hid (XB.out.next hbc)
                have VL0 := Lib.hid (VL.out.next hbc)
                have BC := Lib.hid (bstep BB.out hbc)
                have HMV := Lib.hid hmv
                obtain ⟨aw, cw, hvw, hcw, _, _⟩ := hmv
                rw [LM'.out.1] at hvw hcw
                subst hvw
                clear hbc XB VM VL BB MV
                obtain ⟨_, d0, d1, d2, _, _, _⟩ := C0.out
                have lxs := LS.out.1
                have S0 : Hid (wc.drew.cell? ⟨xb, 0, none⟩ = some (.int .i64 (a : Int)) ∧ wc.drew.cell? ⟨xb, 1, none⟩ = some (.int .i64 0) ∧ wc.drew.cell? ⟨xb, 2, none⟩ = some (.string p)) := Lib.hid ⟨d0, d1, d2⟩
                have VD := Lib.hid (VL0.out.next (Below.drew (Below.refl wc.heap.size wc)))
                have GW : Hid (xb < wc.drew.heap.size) := Lib.hid C0.out.lt
                clear d0 d1 d2
                go_wp2_with fail
                go_region_held3 (fun W => W.cell? ⟨xb, 0, none⟩ = some (.int .i64 (a : Int)) ∧ W.cell? ⟨xb, 1, none⟩ = some (.int .i64 0) ∧ W.cell? ⟨xb, 2, none⟩ = some (.string p))
                  (first | (with_reducible exact S0.out) | (with_reducible exact S1.out) | (with_reducible exact S2.out) | fail)
                  (first
                    | (go_at_call 13; (with_reducible refine (UP.out _ _ C4.out).mono ?_); rintro e w6 ⟨v6, rfl, hk6⟩; have K6 := Lib.hid hk6; have S2 := Lib.hid (And.intro (keep hk6.bel G4.out S1.out.1) (And.intro (keep hk6.bel G4.out S1.out.2.1) (keep hk6.bel G4.out S1.out.2.2))); clear hk6)
                    | (refine step_copyV ic_len ic_one (by omega) (by rfl) _ _ _ (by rfl) 3 i0 _ 8 Try.underlying22 HI.out.1 HI.out.2.1 HI.out.2.2.1 HI.out.2.2.2 rfl (by rfl) _ (by rfl) xs VD.out (by unfold maxLen; omega) (by omega) ?_; intro v4 w4 hv4 hb4; have C4 := Lib.hid hv4; have HB4 := Lib.hid hb4; have G4 := Lib.hid (Nat.lt_of_lt_of_le GW.out hb4.size); have S1 := Lib.hid (And.intro (keep hb4 GW.out S0.out.1) (And.intro (keep hb4 GW.out S0.out.2.1) (keep hb4 GW.out S0.out.2.2))); clear hv4 hb4)
                    | fail)
                rename_i hHeld
                clear hHeld
                have BD := Lib.hid (bstep (bstep (Below.drew (Below.refl wc.heap.size wc)) HB4.out) K6.out.bel)
                have D6 := Lib.hid (C0.out.next BD.out)
                have M6 := Lib.hid (SlV.next HMV.out BD.out)
                have B6 := Lib.hid (bstep BC.out BD.out)
                have L6 := Lib.hid K6.out.val
                obtain ⟨az, cz, hvz⟩ := K6.out.slice
                rw [LM'.out.2] at hvz
                subst hvz
                clear S0 S1 S2 C4 VD GW G4 HB4 K6 VL0 BC UP C0 HMV BD
                obtain ⟨_, d0, d1, d2, _, _, _⟩ := D6.out
                go_wp2_with fail
                refine (AV.out _ _ (oneE _ ⟨(a : Int), 0, p⟩)).mono ?_
                rintro e w7 ⟨rfl, hb7⟩
                have B7 := Lib.hid (bstep (balloc (Below.refl _ _) _) hb7)
                have FIN := Lib.hid (TN.out _ _ w7 (SlV.next M6.out B7.out) (L6.out.next B7.out) (bstep B6.out B7.out))
                clear hb7 AV B7 M6 L6 B6 TN d0 d1 d2 D6
                go_wp2_with fail
                go_roundw
                case rel => exact ⟨j + 1, t', by omega, by omega, by go_num, rfl, FIN⟩
                case measure => simp [intOf]; omega
          · have LM' : Hid ((mks t M).length = M) := Lib.hid (mks_len (by rw [HT.out.num]; exact hM60))
            obtain ⟨am, cm, hvm, hcm, ham, _⟩ := HT.out.ms
            rw [LM'.out] at hvm hcm
            obtain ⟨ay, cy, hvy, hcy, hay, _⟩ := HT.out.ls
            rw [HT.out.num] at hvy hcy
            subst hvm
            subst hvy
            have HN2 := Lib.hid HT.out.num
            have HAM := Lib.hid ham
            have HAY := Lib.hid hay
            have BT := Lib.hid HT.out.bel
            clear ham hay HT LM'
            have how : ¬ j < NC ∨ (j < NC ∧ ¬ j < 8) := by omega
            rcases how with hj1 | ⟨hj1, hj2⟩
            all_goals
              go_wp2_with fail
              go_loopw [23] (fun vi wr' => ∃ i : Nat, i ≤ M ∧ vi = .int .i64 (i : Int) ∧ ∃ q, wr' = wr.drewN q) (fun vi _ => M - (intOf vi).toNat)
              case atStart => exact ⟨0, by omega, rfl, 0, rfl⟩
              case round =>
                obtain ⟨i, hi, rfl, q, rfl⟩ := hrel
                by_cases hlt : i < M
                · obtain ⟨z, hz⟩ : ∃ z, (sts t)[i]? = some z := ⟨_, List.getElem?_eq_getElem (by rw [HN2.out]; omega)⟩
                  obtain ⟨gm, om, rfl, _, cm0, _⟩ := MksAt.get HAM.out (mks_get hlt hz)
                  obtain ⟨gy, oy, rfl, _, cy0⟩ := IsAt.get HAY.out hz
                  have i1 : (i : Int) < (M : Int) := by omega
                  have i2 : (0 : Int) ≤ (i : Int) := by omega
                  have i3 : (i : Int) < ((N' + 1 : Nat) : Int) := by omega
                  have i4 : (i : Int) < (N' : Int) + 1 := by omega
                  clear hz
                  go_wp2_with fail
                  go_quiet (fail)
                  go_wp2_with fail
                  go_roundw
                  case rel => exact ⟨i + 1, by omega, by go_num, _, rfl⟩
                  case measure => simp [intOf]; omega
                · obtain rfl : i = M := by omega
                  have i1 : ¬ ((i : Int) < (i : Int)) := by omega
                  go_wp2_with fail
                  go_ret
                  exact ⟨by first | rfl | simp, bdrewN BT.out _⟩
end Go.Proofs.Ytfikolidmpjfcaa.LineK
