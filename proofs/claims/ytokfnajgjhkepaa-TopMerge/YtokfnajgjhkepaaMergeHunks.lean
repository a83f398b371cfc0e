/-
  Package merge: hunks.
-/
import Derived.Test.YtokfnajgjhkepaaMergeHs
import Derived.Test.YtokfnajgjhkepaaBnd3
import Derived.Test.YtokfnajgjhkepaaBnd1
import Derived.BigQuiet
import Derived.BigRegion
import Derived.Deep.RegionLaw
import Derived.Deep.AppendLies
import Derived.Deep.CutBlock
namespace Go.Proofs.Ytokfnajgjhkepaa.MergeT
open Go.RowKit Kit LineM StrM DiffM DiffA DiffR DiffP DiffK HistM

/-- hunks of the call's own -/
def HuPost (la lb : List ByteArray) (w : World) (x : Ending) (W : World) : Prop := ∃ v hs, x = .returned v ∧ LR w hs v W ∧ HI la (marks la lb) (hs.map Prod.fst)
/-- what one step of a script does to the two places -/
structure SX (la lb : List ByteArray) (ks : List Nat) (k c a u a' u' : Nat) : Prop where
  pos : 1 ≤ c
  kind : k = 1 ∨ k = 2 ∨ k = 3
  scr : ∃ r, Scr (ks ++ (List.replicate c k ++ r)) la lb
  ti : TI la lb ks (trun lb ks)
  at_ : (trun lb ks).at_ = a
  us : used ks = u
  at2 : (trun lb (ks ++ List.replicate c k)).at_ = a'
  us2 : used (ks ++ List.replicate c k) = u'
  ale : a' ≤ la.length
  ule : u' ≤ lb.length
  k1 : k = 1 → a' = a + c ∧ u' = u + c
  k2 : k = 2 → a' = a + c ∧ u' = u
  k3 : k = 3 → a' = a ∧ u' = u + c
theorem sx_of {la lb : List ByteArray} {R : List (Nat × Nat)} (hR : Rn la lb R) {t k c : Nat} (ht : R[t]? = some (k, c)) : ∃ a u a' u', SX la lb (DiffM.ex (R.take t)) k c a u a' u' ∧ DiffM.ex (R.take (t + 1)) = DiffM.ex (R.take t) ++ List.replicate c k := by
  have hm := List.mem_of_getElem? ht
  have e1 := ex_next ht
  have e2 : DiffM.ex R = DiffM.ex (R.take (t + 1)) ++ DiffM.ex (R.drop (t + 1)) := by rw [← ex_append, List.take_append_drop]
  have hs : Scr (DiffM.ex (R.take t) ++ (List.replicate c k ++ DiffM.ex (R.drop (t + 1)))) la lb := by
    rw [← List.append_assoc, ← e1, ← e2, hR.ex]; exact kinds_scr la lb
  have hs2 : Scr ((DiffM.ex (R.take t) ++ List.replicate c k) ++ DiffM.ex (R.drop (t + 1))) la lb := by rw [List.append_assoc]; exact hs
  have t1 := ti_run hs
  have t2 := ti_run hs2
  have b2 := Scr.split hs2
  refine ⟨_, _, _, _, ⟨hR.pos _ hm, hR.kind _ hm, ⟨_, hs⟩, t1, rfl, rfl, rfl, rfl, by rw [t2.at_]; exact b2.2.1, b2.2.2, fun hk => ?_, fun hk => ?_, fun hk => ?_⟩, e1⟩
  · rw [t1.at_, t2.at_, used_append, List.count_append, List.count_append, hk, count_rep, count_rep]
    unfold used; rw [count_rep, count_rep]; simp; omega
  · rw [t1.at_, t2.at_, used_append, List.count_append, List.count_append, hk, count_rep, count_rep]
    unfold used; rw [count_rep, count_rep]; simp; omega
  · rw [t1.at_, t2.at_, used_append, List.count_append, List.count_append, hk, count_rep, count_rep]
    unfold used; rw [count_rep, count_rep]; simp
theorem three_new0 (w : World) (a b c : Value) (t : TypeId) : ∀ j z, [a, b, c][j]? = some z → (w.alloc (.cells #[a, b, c] t)).cell? ((⟨w.heap.size, 0, none⟩ : Addr).add j) = some z := by
  intro j z h
  rw [add_of rfl, Nat.zero_add, cells_new, ← h]; simp
theorem hu_drop {la lb : List ByteArray} {ks : List Nat} {c a u a' u' b : Nat} {hs : List (Hk ByteArray)} {l : List ByteArray} (h : SX la lb ks 2 c a u a' u') (hj : HJ la (trun lb ks) hs b l) : HI la (trun lb (ks ++ List.replicate c 2)) (hs ++ [⟨b, a', l⟩]) := by
  obtain ⟨r, hr⟩ := h.scr
  have hp := h.pos
  obtain ⟨n, rfl⟩ : ∃ n, c = n + 1 := ⟨c - 1, by omega⟩
  have h1 := HJ.drops n ks hr hj
  have t2 : TI la lb (ks ++ List.replicate (n + 1) 2) (trun lb (ks ++ List.replicate (n + 1) 2)) := ti_run (r := r) (by rw [List.append_assoc]; exact hr)
  rw [← h.at2]
  exact HJ.close h1.1 t2 h1.2
theorem hu_take {la lb : List ByteArray} {ks : List Nat} {c a u a' u' b : Nat} {hs : List (Hk ByteArray)} {l : List ByteArray} (h : SX la lb ks 3 c a u a' u') (hj : HJ la (trun lb ks) hs b l) : HI la (trun lb (ks ++ List.replicate c 3)) (hs ++ [⟨b, a', l ++ (lb.drop u).take c⟩]) := by
  obtain ⟨r, hr⟩ := h.scr
  have hp := h.pos
  obtain ⟨n, rfl⟩ : ∃ n, c = n + 1 := ⟨c - 1, by omega⟩
  have h1 := HJ.takes n ks l hr hj
  have t2 : TI la lb (ks ++ List.replicate (n + 1) 3) (trun lb (ks ++ List.replicate (n + 1) 3)) := ti_run (r := r) (by rw [List.append_assoc]; exact hr)
  rw [← h.at2, ← h.us]
  exact HJ.close h1.1 t2 h1.2
theorem hj_len {la lb : List ByteArray} {ks : List Nat} {b : Nat} {hs : List (Hk ByteArray)} {l : List ByteArray} (t : TI la lb ks (trun lb ks)) (hj : HJ la (trun lb ks) hs b l) : l.length ≤ lb.length := by
  have h1 := t.ver
  have h2 := hj.le
  have e : (trun lb ks).at_ = b + ((trun lb ks).at_ - b) := by omega
  rw [hj.l]
  unfold made
  have h3 := congrArg List.length h1
  rw [e, seg_add, ← e, Nat.zero_add] at h3
  simp only [List.length_append, List.length_take] at h3 ⊢
  omega
/-- a hunk begins, or the last one goes on -/
theorem hu_new {la lb : List ByteArray} {ks : List Nat} {k c a u a' u' : Nat} {hs : List HV} (h : SX la lb ks k c a u a' u') (hi : HI la (trun lb ks) (hs.map Prod.fst)) (he : ∀ x ∈ hs, x.1.e < a) : HJ la (trun lb ks) (hs.map Prod.fst) a [] := by
  have := hi.openNew h.ti (fun x hx => by
    obtain ⟨y, hy, rfl⟩ := List.mem_map.1 hx
    rw [h.at_]; exact he y hy)
  rw [h.at_] at this
  exact this
theorem hu_len {la lb : List ByteArray} {ks : List Nat} {k c a u a' u' : Nat} {hs : List HV} (h : SX la lb ks k c a u a' u') (hi : HI la (trun lb ks) (hs.map Prod.fst)) : hs.length ≤ la.length + 1 := by
  obtain ⟨r, hr⟩ := h.scr
  have h1 := Scr.split (r := List.replicate c k ++ r) hr
  have h2 := Rest.len (i := la.length) (by rw [h.ti.at_]; exact h1.2.1) _ 0 hi.rest (Nat.zero_le _)
  rw [List.length_map] at h2
  omega
theorem hu_last {la lb : List ByteArray} {ks : List Nat} {k c a u a' u' : Nat} {init : List HV} {y : HV} (h : SX la lb ks k c a u a' u') (hi : HI la (trun lb ks) ((init ++ [y]).map Prod.fst)) : y.1.e ≤ a ∧ (y.1.e = a → HJ la (trun lb ks) (init.map Prod.fst) y.1.b y.1.l) ∧ (y.1.e < a → ∀ x ∈ init ++ [y], x.1.e < a) := by
  rw [List.map_append] at hi
  have hy := hi.is y.1 (by simp)
  have ho := List.pairwise_append.1 hi.ord
  have h1 := hy.at_
  have h2 := hy.le
  rw [h.at_] at h1
  refine ⟨h1, fun e => hi.openLast (by rw [h.at_]; exact e), fun e x hx => ?_⟩
  rcases List.mem_append.1 hx with hx | hx
  · have := ho.2.2 x.1 (List.mem_map.2 ⟨x, hx, rfl⟩) y.1 (by simp)
    omega
  · rw [List.mem_singleton] at hx; subst hx; exact e
set_option maxRecDepth 100000 in
set_option maxHeartbeats 1000000 in
theorem hunksF (w : World) (av : Option Addr) (cs : Nat) (R : List (Nat × Nat)) (x : Sv) (la : List ByteArray) (hst : SlAt 2 pc w av R) (hx : x.has w) (hcx : x.l.length ≤ x.cap) (hR : Rn la x.l R) (hla : la.length ≤ 80) (hlx : x.l.length ≤ 80) :
    Calls Try.prog 22 #[.slice av R.length cs, .slice x.a x.l.length x.cap] w (HuPost la x.l w) := by
  obtain ⟨i0, hi, hz0, hz1, hz2⟩ := info_parts infoHunk
  obtain ⟨i1, hj, hy0, hy1, hy2⟩ := info_parts infoStr
  have HI0 := Lib.hid (And.intro hi (And.intro hz0 (And.intro hz1 hz2)))
  have HI1 := Lib.hid (And.intro hj (And.intro hy0 (And.intro hy1 hy2)))
  have HST := Lib.hid hst
  have HRN := Lib.hid hR
  have HLF : Hid (Lf w x.l 0 (.slice x.a x.l.length x.cap)) := Lib.hid ⟨_, _, _, rfl, by rw [List.drop_zero]; exact hx, by omega, hcx⟩
  clear hi hz0 hz1 hz2 hj hy0 hy1 hy2 hst hx
  generalize x.l = lb at *
  generalize x.a = ab at *
  generalize x.cap = cb at *
  have HND : Hid (DiffM.ex R = kinds la lb) := Lib.hid hR.ex
  obtain ⟨N, hN⟩ : ∃ N, R.length = N := ⟨_, rfl⟩
  have HN := Lib.hid hN
  have hN2 : N ≤ 160 := by
    have h1 := pow_len hR.pos
    have h2 := (kinds_scr la lb).counts
    rw [hR.ex] at h1
    omega
  rw [hN]
  clear hN hR
  go_enter Try.func22, Try.ntmps22
  go_wp2_with fail
  go_loopw [1, 5, 6, 13] (fun vm vl va vt wr => ∃ (t a : Nat) (hs : List HV), t ≤ N ∧ vt = .int .i64 (t : Int) ∧ va = .int .i64 (a : Int) ∧ Hid (a = (trun lb (DiffM.ex (R.take t))).at_) ∧ Hid (Lf w lb (used (DiffM.ex (R.take t))) vm) ∧ Hid (LR w hs vl wr) ∧ Hid (HI la (trun lb (DiffM.ex (R.take t))) (hs.map Prod.fst))) (fun _ _ _ vt _ => N - (intOf vt).toNat)
  case atStart => exact ⟨0, 0, [], by omega, rfl, rfl, Lib.hid rfl, HLF, Lib.hid ⟨Below.refl _ _, World.ownsRow_nil _ _ _ _, fun h hh => by simp at hh, fun i j x y _ hx => by simp at hx⟩, Lib.hid hi_new⟩
  case round =>
    obtain ⟨t, a, hs, htN, rfl, rfl, HA, HM, HL, HH⟩ := hrel
    have BS := Lib.hid HL.out.bel
    by_cases hlt : t < N
    · obtain ⟨p, hp⟩ : ∃ p, R[t]? = some p := ⟨R[t]'(by have := HN.out; omega), List.getElem?_eq_getElem _⟩
      obtain ⟨k, c⟩ := p
      obtain ⟨g0, off0, rfl, hg0, c0w, c1w⟩ := pc_get HST.out hp
      obtain ⟨a1, u, a', u', HSX, hnx⟩ := sx_of HRN.out hp
      dsimp only at c0w c1w
      have ha1 : a1 = a := by rw [← HSX.at_, HA.out]
      subst ha1
      have HX := Lib.hid HSX
      have hus := HSX.us
      have HNX := Lib.hid hnx
      obtain ⟨am, nm, cm, rfl, ham, hnm, hcm⟩ := HM.out.is
      rw [hus] at ham hnm
      have hpos := HSX.pos
      have hule := HSX.ule
      have hale := HSX.ale
      have r0 := keep BS.out hg0 c0w
      have r1 := keep BS.out hg0 c1w
      have hgw := Nat.lt_of_lt_of_le hg0 BS.out.size
      have u0 : (0 : Int) ≤ (t : Int) := by omega
      have u1 : (t : Int) < (N : Int) := by omega
      have rt : IntKind.i64.wrap ((t : Int) + 1) = (t : Int) + 1 := IntWalk.i64_in _ (by omega)
      have HLX := Lib.hid (LX.made (k := k) (c := c) HL.out 76)
      clear c0w c1w hp hnx hus HL
      rcases HSX.kind with hk | hk | hk
      · obtain ⟨e1, e2⟩ := HSX.k1 hk
        have HH2 : Hid (HI la (trun lb (DiffM.ex (R.take (t + 1)))) (hs.map Prod.fst)) := Lib.hid (by rw [HNX.out, hk]; exact HI.keeps c _ HH.out)
        obtain ⟨x0, hx0⟩ : ∃ x0, (lb.drop u)[0]? = some x0 := ⟨_, List.getElem?_eq_getElem (by rw [List.length_drop]; omega)⟩
        obtain ⟨g2, off2, rfl, hg2, _⟩ := StAt.get ham hx0
        have HA2 : Hid (a' = (trun lb (DiffM.ex (R.take (t + 1)))).at_) := Lib.hid (by rw [HNX.out]; exact HX.out.at2.symm)
        have OFF : Hid (Lf w lb (used (DiffM.ex (R.take (t + 1)))) (.slice (if cm = c then some ⟨g2, off2, none⟩ else some ⟨g2, off2 + c, none⟩) (nm - c) (cm - c))) := Lib.hid (by
          rw [HNX.out, HX.out.us2, e2]
          exact Lf.off ham hnm hcm (by omega))
        have k1 : (k : Int) ≤ 1 := by omega
        have k2 : (1 : Int) ≤ (k : Int) := by omega
        have ra : IntKind.i64.wrap ((a1 : Int) + (c : Int)) = (a' : Int) := by rw [IntWalk.i64_in _ (by omega)]; omega
        have q3 : ¬ (c : Int) > (nm : Int) := by omega
        have q4 : (c : Int) ≤ (nm : Int) := by omega
        have q5 : (nm : Int) ≤ (cm : Int) := by omega
        have q6 : (0 : Int) ≤ (c : Int) := by omega
        clear hk HSX e1 e2 HX ham hnm hx0 HM HA
        by_cases hcc : cm = c
        · have hcc1 : (cm : Int) = (c : Int) := by omega
          rw [if_pos hcc] at OFF
          clear hcc
          go_upto_region 6 with fail
          generalize (wr.alloc (.cells #[.int .i64 (k : Int), .int .i64 (c : Int)] 76)) = w5 at *
          generalize wr.heap.size = sk at *
          have b0 := HLX.out.b0
          have b1 := HLX.out.b1
          have b2 := HLX.out.lt
          have HLR := Lib.hid HLX.out.lr
          clear HLX
          go_wp2_with fail
          all_goals
            go_roundw
            case rel => exact ⟨t + 1, a', hs, by omega, by first | rfl | go_num, by first | rfl | go_num, HA2, by first | exact OFF | (simp only [*] at OFF ⊢; exact OFF), HLR, HH2⟩
            case measure => simp only [intOf]; omega
        · have hcc1 : ¬ (cm : Int) = (c : Int) := by omega
          rw [if_neg hcc] at OFF
          go_upto_region 6 with fail
          generalize (wr.alloc (.cells #[.int .i64 (k : Int), .int .i64 (c : Int)] 76)) = w5 at *
          generalize wr.heap.size = sk at *
          have b0 := HLX.out.b0
          have b1 := HLX.out.b1
          have b2 := HLX.out.lt
          have HLR := Lib.hid HLX.out.lr
          clear HLX
          go_wp2_with fail
          all_goals
            go_roundw
            case rel => exact ⟨t + 1, a', hs, by omega, by first | rfl | go_num, by first | rfl | go_num, HA2, by first | exact OFF | (simp only [*] at OFF ⊢; exact OFF), HLR, HH2⟩
            case measure => simp only [intOf]; omega
      · obtain ⟨e1, e2⟩ := HSX.k2 hk
        have k1 : (k : Int) ≤ 2 := by omega
        have k2 : (2 : Int) ≤ (k : Int) := by omega
        have HHN := Lib.hid (fun he => hu_new (hs := hs) HX.out HH.out he)
        have HK := Lib.hid hk
        have HX2 : Hid (SX la lb (DiffM.ex (R.take t)) 2 c a1 u a' u') := Lib.hid (hk ▸ HX.out)
        have ra : IntKind.i64.wrap ((a1 : Int) + (c : Int)) = ((a1 : Int) + (c : Int)) := IntWalk.i64_in _ (by omega)
        clear hk HSX
        go_upto_region 6 with fail
        generalize (wr.alloc (.cells #[.int .i64 (k : Int), .int .i64 (c : Int)] 76)) = w5 at *
        have HBW := Lib.hid (show Below w.heap.size w w5 from HLX.out.lr.bel)
        clear r0 r1 hgw
        generalize wr.heap.size = sk at *
        have b0 := HLX.out.b0
        have b1 := HLX.out.b1
        have b2 := HLX.out.lt
        have hbw := HBW.out.size
        rcases List.eq_nil_or_concat hs with rfl | ⟨init, y0, hs0⟩
        · -- the first hunk
          have HJ1 : Hid (HJ la (trun lb (DiffM.ex (R.take t))) (([] : List HV).map Prod.fst) a1 []) := Lib.hid (HHN.out (fun x hx => by simp at hx))
          obtain ⟨a5, c5, e5, _⟩ := SlV.of_owns hkc_len HLX.out.lr.row
          simp only [List.length_nil] at e5
          subst e5
          go_upto_region 11 with fail
          clear b0 b1 b2
          have HROW : Hid ((w5.alloc (.cells #[.int .i64 (a1 : Int), .int .i64 (a1 : Int), .slice none 0 0] 54)).ownsRow w.heap.size 54 3 (.slice a5 0 c5) 0 (flatC hkc ([] : List HV))) := Lib.hid (by
            have h := HLX.out.lr.row.alloc (.cells #[.int .i64 (a1 : Int), .int .i64 (a1 : Int), .slice none 0 0] 54)
            exact h)
          have HNEW := Lib.hid (three_new0 w5 (.int .i64 (a1 : Int)) (.int .i64 (a1 : Int)) (.slice none 0 0) 54)
          have hbase : w.heap.size ≤ (w5.alloc (.cells #[.int .i64 (a1 : Int), .int .i64 (a1 : Int), .slice none 0 0] 54)).heap.size := by simp; omega
          have AFTER : Hid (∀ W4 g4 cap4, W4.ownsRow w.heap.size 54 3 (.slice (some ⟨g4, 0, none⟩) (0 + 1) cap4) (0 + 1) (flatC hkc ([] : List HV) ++ [.int .i64 (a1 : Int), .int .i64 (a1 : Int), .slice none 0 0]) → (w5.alloc (.cells #[.int .i64 (a1 : Int), .int .i64 (a1 : Int), .slice none 0 0] 54)).grownBy W4 ((.slice a5 0 c5) : Value).ownBlock → (((.slice a5 0 c5) : Value).ownBlock = some g4 ∨ g4 = (w5.alloc (.cells #[.int .i64 (a1 : Int), .int .i64 (a1 : Int), .slice none 0 0] 54)).heap.size) → LX w (([] : List HV) ++ [(⟨a1, a1, []⟩, .slice none 0 0)]) (.slice (some ⟨g4, 0, none⟩) (0 + 1) cap4) sk k c W4) := Lib.hid (fun W4 g4 cap4 hr hg hloc => by
            have h := HLX.out.push a1 (o := (.cells #[.int .i64 (a1 : Int), .int .i64 (a1 : Int), .slice none 0 0] 54)) (W1 := W4) (g := g4) (cap := cap4) (by exact hr) hg hloc
            exact h)
          clear HLX
          go_upto_region 13 with (at_builtin; refine wpList_append_lies _ rfl _ _ _ rfl w.heap.size 54 i0 _ 3 40 Try.underlying46 HI0.out.1 HI0.out.2.1 HI0.out.2.2.1 HI0.out.2.2.2 rfl (by decide) (.slice a5 0 c5) 0 (flatC hkc ([] : List HV)) rfl HROW.out ⟨w5.heap.size, 0, none⟩ 1 1 [.int .i64 (a1 : Int), .int .i64 (a1 : Int), .slice none 0 0] rfl rfl HNEW.out (by simp [Value.oneCell']) (by omega) (by unfold maxLen; omega) (by omega) hbase (w5.heap.size + 1) (by simp) ?_; intro g4 cap4 w8 hown4 hgrow4 hloc4 hlt4; have HLT := Lib.hid (AFTER.out _ _ _ hown4 hgrow4 (by first | exact hloc4 | simpa using hloc4)); clear hown4 hgrow4 hloc4 hlt4 HROW HNEW AFTER hbase)
          have HLEN : ([] : List HV).length = 0 := rfl
          have HT : Hid (LX w (([] : List HV) ++ [((⟨a1, a1, []⟩, .slice none 0 0) : HV)]) (.slice (some ⟨g4, 0, none⟩) 1 cap4) sk k c w8) := HLT
          clear HLT
          obtain ⟨hgl, hgw6, hgs2, hcell⟩ := HT.out.lastA
          simp only [HLEN] at hcell
          have c1 : w8.cell? ⟨g4, 1, none⟩ = some (.int .i64 (((⟨a1, a1, []⟩, .slice none 0 0) : HV).1.e : Int)) := (hcell 1 (by omega)).1
          have f1 : w8.frozen? ⟨g4, 1, none⟩ = false := (hcell 1 (by omega)).2
          have b0 := HT.out.b0
          have b1 := HT.out.b1
          have b2 := HT.out.lt
          have e' : ((a' : Nat) : Int) = (a1 : Int) + (c : Int) := by omega
          have EQ := Lib.hid e'
          have HEND0 := Lib.hid ((HT.out.setEnd hgl hgs2 a').lr)
          have HEND : Hid (LR w (([] : List HV) ++ [(⟨((⟨a1, a1, []⟩, .slice none 0 0) : HV).1.b, a', ((⟨a1, a1, []⟩, .slice none 0 0) : HV).1.l⟩, ((⟨a1, a1, []⟩, .slice none 0 0) : HV).2)]) (.slice (some ⟨g4, 0, none⟩) 1 cap4) (w8.setCell ⟨g4, 1, none⟩ (.int .i64 ((a1 : Int) + (c : Int))))) := Lib.hid (by
            have h := HEND0.out
            simp only [HLEN, e'] at h
            exact h)
          have HI2 : Hid (HI la (trun lb (DiffM.ex (R.take (t + 1)))) ((([] : List HV) ++ [((⟨((⟨a1, a1, []⟩, .slice none 0 0) : HV).1.b, a', ((⟨a1, a1, []⟩, .slice none 0 0) : HV).1.l⟩, ((⟨a1, a1, []⟩, .slice none 0 0) : HV).2) : HV)]).map Prod.fst)) := Lib.hid (by
            rw [HNX.out, HK.out, List.map_append]
            exact hu_drop HX2.out HJ1.out)
          have HA2 : Hid (a' = (trun lb (DiffM.ex (R.take (t + 1)))).at_) := Lib.hid (by rw [HNX.out]; exact HX.out.at2.symm)
          have LF2 : Hid (Lf w lb (used (DiffM.ex (R.take (t + 1)))) (.slice am nm cm)) := Lib.hid (by
            rw [HNX.out, HX.out.us2, e2]
            exact ⟨am, nm, cm, rfl, ham, hnm, hcm⟩)
          clear hcell HT HEND0 e1 e2 e' ham hnm hcm HX HX2 HK HJ1 HNX HLEN HA HM HH
          go_wp2_with fail
          go_roundw
          case rel => exact ⟨t + 1, a', _, by omega, by first | rfl | go_num, by first | rfl | go_num | rw [EQ.out], HA2, LF2, HEND, HI2⟩
          case measure => simp only [intOf]; omega
        · rw [List.concat_eq_append] at hs0
          subst hs0
          obtain ⟨l1, l2, l3⟩ := hu_last HX.out HH.out
          have LL := Lib.hid HLX.out.last
          obtain ⟨g, cap, e5, hgl, hgw5, hgs, hcap, hcell⟩ := LL.out
          subst e5
          obtain ⟨L, hL⟩ : ∃ L, init.length = L := ⟨_, rfl⟩
          have HL1 := Lib.hid hL
          rw [hL] at hcap hcell
          have c1 : w5.cell? ⟨g, L * 3 + 1, none⟩ = some (.int .i64 (y0.1.e : Int)) := (hcell 1 (by omega)).1
          have hL8 : L ≤ 160 := by
            have h1 := hu_len HX.out HH.out
            rw [List.length_append, hL] at h1
            omega
          have p1 : ¬ (L : Int) < 0 := by omega
          have p2 : (0 : Int) ≤ (L : Int) := by omega
          have p3 : (L : Int) < ((L + 1 : Nat) : Int) := by omega
          have p5 : (L : Int) < (L : Int) + 1 := by omega
          have rl : IntKind.i64.wrap (L : Int) = (L : Int) := IntWalk.i64_in _ (by omega)
          rw [hL] at HLX ⊢
          obtain ⟨ye, hye⟩ : ∃ ye, y0.1.e = ye := ⟨_, rfl⟩
          rw [hye] at l1 l2 l3 c1
          by_cases hlt2 : ye < a1
          · -- a new one
            have HJ1 := Lib.hid (HHN.out (l3 hlt2))
            have p4 : (ye : Int) < (a1 : Int) := by omega
            clear hcell l1 l2 l3 HHN LL
            go_upto_region 11 with fail
            obtain ⟨L2, hL2⟩ : ∃ L2, L + 1 = L2 := ⟨_, rfl⟩
            have hlen : (init ++ [y0]).length = L2 := by rw [← hL2]; simp [hL]
            have hL9 : L2 ≤ 161 := by omega
            rw [hL2] at HLX ⊢
            have rl2 : IntKind.i64.wrap (L2 : Int) = (L2 : Int) := IntWalk.i64_in _ (by omega)
            clear hcap hlt2 p1 p2 p3 p4 p5 rl hye c1 HL1 hL b0 b1 b2
            have HROW : Hid ((w5.alloc (.cells #[.int .i64 (a1 : Int), .int .i64 (a1 : Int), .slice none 0 0] 54)).ownsRow w.heap.size 54 3 (.slice (some ⟨g, 0, none⟩) L2 cap) L2 (flatC hkc (init ++ [y0]))) := Lib.hid (by
              have h := HLX.out.lr.row.alloc (.cells #[.int .i64 (a1 : Int), .int .i64 (a1 : Int), .slice none 0 0] 54)
              rw [hlen] at h
              exact h)
            have HNEW := Lib.hid (three_new0 w5 (.int .i64 (a1 : Int)) (.int .i64 (a1 : Int)) (.slice none 0 0) 54)
            have hbase : w.heap.size ≤ (w5.alloc (.cells #[.int .i64 (a1 : Int), .int .i64 (a1 : Int), .slice none 0 0] 54)).heap.size := by simp; omega
            have AFTER : Hid (∀ W4 g4 cap4, W4.ownsRow w.heap.size 54 3 (.slice (some ⟨g4, 0, none⟩) (L2 + 1) cap4) (L2 + 1) (flatC hkc (init ++ [y0]) ++ [.int .i64 (a1 : Int), .int .i64 (a1 : Int), .slice none 0 0]) → (w5.alloc (.cells #[.int .i64 (a1 : Int), .int .i64 (a1 : Int), .slice none 0 0] 54)).grownBy W4 ((.slice (some ⟨g, 0, none⟩) L2 cap) : Value).ownBlock → (((.slice (some ⟨g, 0, none⟩) L2 cap) : Value).ownBlock = some g4 ∨ g4 = (w5.alloc (.cells #[.int .i64 (a1 : Int), .int .i64 (a1 : Int), .slice none 0 0] 54)).heap.size) → LX w ((init ++ [y0]) ++ [(⟨a1, a1, []⟩, .slice none 0 0)]) (.slice (some ⟨g4, 0, none⟩) (L2 + 1) cap4) sk k c W4) := Lib.hid (fun W4 g4 cap4 hr hg hloc => by
              have h := HLX.out.push a1 (o := (.cells #[.int .i64 (a1 : Int), .int .i64 (a1 : Int), .slice none 0 0] 54)) (W1 := W4) (g := g4) (cap := cap4) (by rw [hlen]; exact hr) hg hloc
              rw [hlen] at h
              exact h)
            clear HLX
            go_upto_region 13 with (at_builtin; refine wpList_append_lies _ rfl _ _ _ rfl w.heap.size 54 i0 _ 3 40 Try.underlying46 HI0.out.1 HI0.out.2.1 HI0.out.2.2.1 HI0.out.2.2.2 rfl (by decide) (.slice (some ⟨g, 0, none⟩) L2 cap) L2 (flatC hkc (init ++ [y0])) rfl HROW.out ⟨w5.heap.size, 0, none⟩ 1 1 [.int .i64 (a1 : Int), .int .i64 (a1 : Int), .slice none 0 0] rfl rfl HNEW.out (by simp [Value.oneCell']) (by omega) (by unfold maxLen; omega) (by omega) hbase (w5.heap.size + 1) (by simp) ?_; intro g4 cap4 w8 hown4 hgrow4 hloc4 hlt4; have HLT := Lib.hid (AFTER.out _ _ _ hown4 hgrow4 (by first | exact hloc4 | simpa using hloc4)); clear hown4 hgrow4 hloc4 hlt4 HROW HNEW AFTER hbase)
            have HLEN := hlen
            have HT := HLT
            clear HLT hlen
            obtain ⟨hgl, hgw6, hgs2, hcell⟩ := HT.out.lastA
            simp only [HLEN] at hcell
            have c1 : w8.cell? ⟨g4, L2 * 3 + 1, none⟩ = some (.int .i64 (((⟨a1, a1, []⟩, .slice none 0 0) : HV).1.e : Int)) := (hcell 1 (by omega)).1
            have f1 : w8.frozen? ⟨g4, L2 * 3 + 1, none⟩ = false := (hcell 1 (by omega)).2
            have b0 := HT.out.b0
            have b1 := HT.out.b1
            have b2 := HT.out.lt
            have e' : ((a' : Nat) : Int) = (a1 : Int) + (c : Int) := by omega
            have EQ := Lib.hid e'
            have HEND0 := Lib.hid ((HT.out.setEnd hgl hgs2 a').lr)
            have HEND : Hid (LR w ((init ++ [y0]) ++ [(⟨((⟨a1, a1, []⟩, .slice none 0 0) : HV).1.b, a', ((⟨a1, a1, []⟩, .slice none 0 0) : HV).1.l⟩, ((⟨a1, a1, []⟩, .slice none 0 0) : HV).2)]) (.slice (some ⟨g4, 0, none⟩) (L2 + 1) cap4) (w8.setCell ⟨g4, L2 * 3 + 1, none⟩ (.int .i64 ((a1 : Int) + (c : Int))))) := Lib.hid (by
              have h := HEND0.out
              simp only [HLEN, e'] at h
              exact h)
            have HI2 : Hid (HI la (trun lb (DiffM.ex (R.take (t + 1)))) (((init ++ [y0]) ++ [((⟨((⟨a1, a1, []⟩, .slice none 0 0) : HV).1.b, a', ((⟨a1, a1, []⟩, .slice none 0 0) : HV).1.l⟩, ((⟨a1, a1, []⟩, .slice none 0 0) : HV).2) : HV)]).map Prod.fst)) := Lib.hid (by
              rw [HNX.out, HK.out, List.map_append]
              exact hu_drop HX2.out HJ1.out)
            have HA2 : Hid (a' = (trun lb (DiffM.ex (R.take (t + 1)))).at_) := Lib.hid (by rw [HNX.out]; exact HX.out.at2.symm)
            have LF2 : Hid (Lf w lb (used (DiffM.ex (R.take (t + 1)))) (.slice am nm cm)) := Lib.hid (by
              rw [HNX.out, HX.out.us2, e2]
              exact ⟨am, nm, cm, rfl, ham, hnm, hcm⟩)
            clear hcell HT HEND0 e1 e2 e' ham hnm hcm HX HX2 HK HJ1 HNX HLEN HA HM HH
            go_wp2_with fail
            go_roundw
            case rel => exact ⟨t + 1, a', _, by omega, by first | rfl | go_num, by first | rfl | go_num | rw [EQ.out], HA2, LF2, HEND, HI2⟩
            case measure => simp only [intOf]; omega
          · -- the last one goes on
            have p4 : ¬ (ye : Int) < (a1 : Int) := by omega
            have HJ1 := Lib.hid (l2 (by omega))
            have hye2 : y0.1.e = a1 := by rw [hye]; omega
            clear l1 l2 l3 hlt2 hcell HHN LL
            go_upto_region 13 with fail
            have HT := Lib.hid HLX.out
            clear HLX c1
            have HLEN := HL1.out
            obtain ⟨hgl, hgw6, hgs2, hcell⟩ := HT.out.lastA
            simp only [HLEN] at hcell
            have c1 : w5.cell? ⟨g, L * 3 + 1, none⟩ = some (.int .i64 (y0.1.e : Int)) := (hcell 1 (by omega)).1
            have f1 : w5.frozen? ⟨g, L * 3 + 1, none⟩ = false := (hcell 1 (by omega)).2
            have b0 := HT.out.b0
            have b1 := HT.out.b1
            have b2 := HT.out.lt
            have e' : ((a' : Nat) : Int) = (a1 : Int) + (c : Int) := by omega
            have EQ := Lib.hid e'
            have HEND0 := Lib.hid ((HT.out.setEnd hgl hgs2 a').lr)
            have HEND : Hid (LR w (init ++ [(⟨y0.1.b, a', y0.1.l⟩, y0.2)]) (.slice (some ⟨g, 0, none⟩) (L + 1) cap) (w5.setCell ⟨g, L * 3 + 1, none⟩ (.int .i64 ((a1 : Int) + (c : Int))))) := Lib.hid (by
              have h := HEND0.out
              simp only [HLEN, e'] at h
              exact h)
            have HI2 : Hid (HI la (trun lb (DiffM.ex (R.take (t + 1)))) ((init ++ [((⟨y0.1.b, a', y0.1.l⟩, y0.2) : HV)]).map Prod.fst)) := Lib.hid (by
              rw [HNX.out, HK.out, List.map_append]
              exact hu_drop HX2.out HJ1.out)
            have HA2 : Hid (a' = (trun lb (DiffM.ex (R.take (t + 1)))).at_) := Lib.hid (by rw [HNX.out]; exact HX.out.at2.symm)
            have LF2 : Hid (Lf w lb (used (DiffM.ex (R.take (t + 1)))) (.slice am nm cm)) := Lib.hid (by
              rw [HNX.out, HX.out.us2, e2]
              exact ⟨am, nm, cm, rfl, ham, hnm, hcm⟩)
            clear hcell HT HEND0 e1 e2 e' ham hnm hcm HX HX2 HK HJ1 HNX HLEN HA HM HH
            go_wp2_with fail
            go_roundw
            case rel => exact ⟨t + 1, a', _, by omega, by first | rfl | go_num, by first | rfl | go_num | rw [EQ.out], HA2, LF2, HEND, HI2⟩
            case measure => simp only [intOf]; omega
      · obtain ⟨e1, e2⟩ := HSX.k3 hk
        have k1 : (k : Int) ≤ 3 := by omega
        have k2 : (3 : Int) ≤ (k : Int) := by omega
        obtain ⟨x0, hx0⟩ : ∃ x0, (lb.drop u)[0]? = some x0 := ⟨_, List.getElem?_eq_getElem (by rw [List.length_drop]; omega)⟩
        obtain ⟨g2, off2, rfl, hg2, _⟩ := StAt.get ham hx0
        have HHN := Lib.hid (fun he => hu_new (hs := hs) HX.out HH.out he)
        have HK := Lib.hid hk
        have HX2 : Hid (SX la lb (DiffM.ex (R.take t)) 3 c a1 u a' u') := Lib.hid (hk ▸ HX.out)
        have ra : IntKind.i64.wrap ((a1 : Int) + (c : Int)) = ((a1 : Int) + (c : Int)) := IntWalk.i64_in _ (by omega)
        clear hk HSX
        go_upto_region 6 with fail
        generalize (wr.alloc (.cells #[.int .i64 (k : Int), .int .i64 (c : Int)] 76)) = w5 at *
        have HBW := Lib.hid (show Below w.heap.size w w5 from HLX.out.lr.bel)
        clear r0 r1 hgw
        generalize wr.heap.size = sk at *
        have b0 := HLX.out.b0
        have b1 := HLX.out.b1
        have b2 := HLX.out.lt
        have hbw := HBW.out.size
        rcases List.eq_nil_or_concat hs with rfl | ⟨init, y0, hs0⟩
        · -- the first hunk
          have HJ1 : Hid (HJ la (trun lb (DiffM.ex (R.take t))) (([] : List HV).map Prod.fst) a1 []) := Lib.hid (HHN.out (fun x hx => by simp at hx))
          obtain ⟨a5, c5, e5, _⟩ := SlV.of_owns hkc_len HLX.out.lr.row
          simp only [List.length_nil] at e5
          subst e5
          go_upto_region 11 with fail
          clear b0 b1 b2
          have HROW : Hid ((w5.alloc (.cells #[.int .i64 (a1 : Int), .int .i64 (a1 : Int), .slice none 0 0] 54)).ownsRow w.heap.size 54 3 (.slice a5 0 c5) 0 (flatC hkc ([] : List HV))) := Lib.hid (by
            have h := HLX.out.lr.row.alloc (.cells #[.int .i64 (a1 : Int), .int .i64 (a1 : Int), .slice none 0 0] 54)
            exact h)
          have HNEW := Lib.hid (three_new0 w5 (.int .i64 (a1 : Int)) (.int .i64 (a1 : Int)) (.slice none 0 0) 54)
          have hbase : w.heap.size ≤ (w5.alloc (.cells #[.int .i64 (a1 : Int), .int .i64 (a1 : Int), .slice none 0 0] 54)).heap.size := by simp; omega
          have AFTER : Hid (∀ W4 g4 cap4, W4.ownsRow w.heap.size 54 3 (.slice (some ⟨g4, 0, none⟩) (0 + 1) cap4) (0 + 1) (flatC hkc ([] : List HV) ++ [.int .i64 (a1 : Int), .int .i64 (a1 : Int), .slice none 0 0]) → (w5.alloc (.cells #[.int .i64 (a1 : Int), .int .i64 (a1 : Int), .slice none 0 0] 54)).grownBy W4 ((.slice a5 0 c5) : Value).ownBlock → (((.slice a5 0 c5) : Value).ownBlock = some g4 ∨ g4 = (w5.alloc (.cells #[.int .i64 (a1 : Int), .int .i64 (a1 : Int), .slice none 0 0] 54)).heap.size) → LX w (([] : List HV) ++ [(⟨a1, a1, []⟩, .slice none 0 0)]) (.slice (some ⟨g4, 0, none⟩) (0 + 1) cap4) sk k c W4) := Lib.hid (fun W4 g4 cap4 hr hg hloc => by
            have h := HLX.out.push a1 (o := (.cells #[.int .i64 (a1 : Int), .int .i64 (a1 : Int), .slice none 0 0] 54)) (W1 := W4) (g := g4) (cap := cap4) (by exact hr) hg hloc
            exact h)
          clear HLX
          go_upto_region 13 with (at_builtin; refine wpList_append_lies _ rfl _ _ _ rfl w.heap.size 54 i0 _ 3 40 Try.underlying46 HI0.out.1 HI0.out.2.1 HI0.out.2.2.1 HI0.out.2.2.2 rfl (by decide) (.slice a5 0 c5) 0 (flatC hkc ([] : List HV)) rfl HROW.out ⟨w5.heap.size, 0, none⟩ 1 1 [.int .i64 (a1 : Int), .int .i64 (a1 : Int), .slice none 0 0] rfl rfl HNEW.out (by simp [Value.oneCell']) (by omega) (by unfold maxLen; omega) (by omega) hbase (w5.heap.size + 1) (by simp) ?_; intro g4 cap4 w8 hown4 hgrow4 hloc4 hlt4; have HLT := Lib.hid (AFTER.out _ _ _ hown4 hgrow4 (by first | exact hloc4 | simpa using hloc4)); clear hown4 hgrow4 hloc4 hlt4 HROW HNEW AFTER hbase)
          have HLEN : ([] : List HV).length = 0 := rfl
          have HT : Hid (LX w (([] : List HV) ++ [((⟨a1, a1, []⟩, .slice none 0 0) : HV)]) (.slice (some ⟨g4, 0, none⟩) 1 cap4) sk k c w8) := HLT
          clear HLT
          obtain ⟨hgl, hgw6, hgs2, hcell⟩ := HT.out.lastA
          simp only [HLEN] at hcell
          have c2 : w8.cell? ⟨g4, 2, none⟩ = some ((⟨a1, a1, []⟩, .slice none 0 0) : HV).2 := (hcell 2 (by omega)).1
          have f2 : w8.frozen? ⟨g4, 2, none⟩ = false := (hcell 2 (by omega)).2
          have b0 := HT.out.b0
          have b1 := HT.out.b1
          have b2 := HT.out.lt
          obtain ⟨M, hM⟩ : ∃ M, (lb.drop u).take c = M := ⟨_, rfl⟩
          have HML : Hid (M.length = c) := Lib.hid (by rw [← hM, List.length_take, List.length_drop]; omega)
          have HAT : Hid (StAt w (some ⟨g2, off2, none⟩) M) := Lib.hid (by rw [← hM]; exact SlAt.take ham c)
          have HNQ := Lib.hid (SlAt.cells_at sc_len (by omega) ((HAT.out.next HT.out.lr.bel).next (Below.drew (Below.refl _ w8))))
          have HNL := Lib.hid (flatC_length sc_len M)
          rw [HML.out] at HNL
          have HRQ : Hid ((w8.drew).ownsRow w.heap.size 9 1 ((⟨a1, a1, []⟩, .slice none 0 0) : HV).2 ((⟨a1, a1, []⟩, .slice none 0 0) : HV).1.l.length (flatC sc ((⟨a1, a1, []⟩, .slice none 0 0) : HV).1.l)) := Lib.hid (row_next (HT.out.lr.ln ((⟨a1, a1, []⟩, .slice none 0 0) : HV) (by simp)) (Below.drew (Below.refl _ _)))
          have hbase : w.heap.size ≤ w8.drew.heap.size := HT.out.lr.bel.size
          have HNLEN : Hid (((⟨a1, a1, []⟩, .slice none 0 0) : HV).1.l.length ≤ 80) := Lib.hid (by
            have h := hj_len HX2.out.ti HJ1.out
            have h2 : ((⟨a1, a1, []⟩, .slice none 0 0) : HV).1.l.length ≤ lb.length := h
            omega)
          have AFTER : Hid (∀ W4 g4' cap4', W4.ownsRow w.heap.size 9 1 (.slice (some ⟨g4', 0, none⟩) (((⟨a1, a1, []⟩, .slice none 0 0) : HV).1.l.length + c) cap4') (((⟨a1, a1, []⟩, .slice none 0 0) : HV).1.l.length + c) (flatC sc ((⟨a1, a1, []⟩, .slice none 0 0) : HV).1.l ++ flatC sc M) → (w8.drew).grownBy W4 (((⟨a1, a1, []⟩, .slice none 0 0) : HV).2 : Value).ownBlock → ((((⟨a1, a1, []⟩, .slice none 0 0) : HV).2 : Value).ownBlock = some g4' ∨ g4' = (w8.drew).heap.size) → (W4.cell? ⟨g4, 2, none⟩ = some ((⟨a1, a1, []⟩, .slice none 0 0) : HV).2 ∧ W4.frozen? ⟨g4, 2, none⟩ = false ∧ W4.cell? ⟨sk, 1, none⟩ = some (.int .i64 (c : Int)) ∧ g4 < W4.heap.size ∧ sk < W4.heap.size) ∧ LX w (([] : List HV) ++ [(⟨((⟨a1, a1, []⟩, .slice none 0 0) : HV).1.b, ((⟨a1, a1, []⟩, .slice none 0 0) : HV).1.e, ((⟨a1, a1, []⟩, .slice none 0 0) : HV).1.l ++ M⟩, .slice (some ⟨g4', 0, none⟩) (((⟨a1, a1, []⟩, .slice none 0 0) : HV).1.l.length + c) cap4')]) (.slice (some ⟨g4, 0, none⟩) 1 cap4) sk k c (W4.setCell ⟨g4, 2, none⟩ (.slice (some ⟨g4', 0, none⟩) (((⟨a1, a1, []⟩, .slice none 0 0) : HV).1.l.length + c) cap4'))) := Lib.hid (fun W4 g4' cap4' hr hg hloc => by
            have h := (HT.out.next (Below.drew (Below.refl _ w8))).app hgl hgs2 (W4 := W4) (g4 := g4') (cap4 := cap4') HML.out hr hg hloc
            simp only [HLEN] at h
            exact h)
          have HI2 : Hid (HI la (trun lb (DiffM.ex (R.take (t + 1)))) (([] : List HV).map Prod.fst ++ [⟨((⟨a1, a1, []⟩, .slice none 0 0) : HV).1.b, ((⟨a1, a1, []⟩, .slice none 0 0) : HV).1.e, ((⟨a1, a1, []⟩, .slice none 0 0) : HV).1.l ++ M⟩])) := Lib.hid (by
            have h := hu_take HX2.out HJ1.out
            rw [e1, hM] at h
            have hy : ((⟨a1, a1, []⟩, .slice none 0 0) : HV).1.e = a1 := rfl
            rw [HNX.out, HK.out, hy]
            exact h)
          have HA2 : Hid (a1 = (trun lb (DiffM.ex (R.take (t + 1)))).at_) := Lib.hid (by rw [HNX.out, ← e1]; exact HX.out.at2.symm)
          have OFF : Hid (Lf w lb (used (DiffM.ex (R.take (t + 1)))) (.slice (if cm = c then some ⟨g2, off2, none⟩ else some ⟨g2, off2 + c, none⟩) (nm - c) (cm - c))) := Lib.hid (by
            rw [HNX.out, HX.out.us2, e2]
            exact Lf.off ham hnm hcm (by omega))
          have q3 : ¬ (c : Int) > (nm : Int) := by omega
          have q4 : (c : Int) ≤ (nm : Int) := by omega
          have q5 : (nm : Int) ≤ (cm : Int) := by omega
          have q6 : (0 : Int) ≤ (c : Int) := by omega
          have q7 : (c : Int) ≤ (cm : Int) := by omega
          have hc200 : c ≤ 200 := by omega
          obtain ⟨vu, hvu⟩ : ∃ vu : Value, ((⟨a1, a1, []⟩, .slice none 0 0) : HV).2 = vu := ⟨_, rfl⟩
          rw [hvu] at c2 HRQ AFTER
          obtain ⟨ll, hll⟩ : ∃ ll : List ByteArray, ((⟨a1, a1, []⟩, .slice none 0 0) : HV).1.l = ll := ⟨_, rfl⟩
          rw [hll] at HRQ AFTER HNLEN HI2
          obtain ⟨yb, hyb⟩ : ∃ yb : Nat, ((⟨a1, a1, []⟩, .slice none 0 0) : HV).1.b = yb := ⟨_, rfl⟩
          obtain ⟨yy, hyy⟩ : ∃ yy : Nat, ((⟨a1, a1, []⟩, .slice none 0 0) : HV).1.e = yy := ⟨_, rfl⟩
          rw [hyb, hyy] at AFTER HI2
          have hll80 := HNLEN.out
          clear hcell HT e1 e2 ham hnm hcm HX HX2 HK HJ1 HNX HLEN HA HM HH hM HAT hvu hll hyb hyy
          go_upto_region 16 with fail
          go_region_law (refine step_append_lies _ (by rfl) _ _ _ (by rfl) w.heap.size 9 i1 _ 1 16 Try.underlying22 HI1.out.1 HI1.out.2.1 HI1.out.2.2.1 HI1.out.2.2.2 rfl (by decide) vu ll.length (flatC sc ll) (by rfl) HRQ.out ⟨g2, off2, none⟩ c cm (flatC sc M) (by rfl) HNL.out HNQ.out (flatC_all (by intro s u hu; simp [sc] at hu; subst hu; rfl) M) (by omega) (by unfold maxLen; omega) (by omega) hbase w8.heap.size (by rfl) ?_; intro g4' cap4' w9 hown4 hgrow4 hloc4 hlt4; obtain ⟨⟨z1, z2, z3, z4, z5⟩, hx9⟩ := AFTER.out _ _ _ hown4 hgrow4 (by first | exact hloc4 | simpa using hloc4); have HX9 := Lib.hid hx9; clear hx9 hown4 hgrow4 hloc4 hlt4)
          all_goals
            clear z1 z2 z3 z4 z5 HRQ HNQ HNL AFTER hbase c2 f2 b0 b1 b2
            generalize (w9.setCell ⟨g4, 2, none⟩ (.slice (some ⟨g4', 0, none⟩) (ll.length + c) cap4')) = w10 at *
            have b1 := HX9.out.b1
            have b2 := HX9.out.lt
            have HLR := Lib.hid HX9.out.lr
            have HI3 : Hid (HI la (trun lb (DiffM.ex (R.take (t + 1)))) ((([] : List HV) ++ [((⟨yb, yy, ll ++ M⟩, .slice (some ⟨g4', 0, none⟩) (ll.length + c) cap4') : HV)]).map Prod.fst)) := Lib.hid (by rw [List.map_append]; exact HI2.out)
            clear HX9 HI2
            by_cases hcc : cm = c
            · have hcc1 : (cm : Int) = (c : Int) := by omega
              rw [if_pos hcc] at OFF
              clear hcc
              go_wp2_with fail
              all_goals
                go_roundw
                case rel => exact ⟨t + 1, a1, _, by omega, by first | rfl | go_num, by first | rfl | go_num, HA2, by first | exact OFF | (simp only [*] at OFF ⊢; exact OFF), HLR, HI3⟩
                case measure => simp only [intOf]; omega
            · have hcc1 : ¬ (cm : Int) = (c : Int) := by omega
              rw [if_neg hcc] at OFF
              go_wp2_with fail
              all_goals
                go_roundw
                case rel => exact ⟨t + 1, a1, _, by omega, by first | rfl | go_num, by first | rfl | go_num, HA2, by first | exact OFF | (simp only [*] at OFF ⊢; exact OFF), HLR, HI3⟩
                case measure => simp only [intOf]; omega
        · rw [List.concat_eq_append] at hs0
          subst hs0
          obtain ⟨l1, l2, l3⟩ := hu_last HX.out HH.out
          have LL := Lib.hid HLX.out.last
          obtain ⟨g, cap, e5, hgl, hgw5, hgs, hcap, hcell⟩ := LL.out
          subst e5
          obtain ⟨L, hL⟩ : ∃ L, init.length = L := ⟨_, rfl⟩
          have HL1 := Lib.hid hL
          rw [hL] at hcap hcell
          have c1 : w5.cell? ⟨g, L * 3 + 1, none⟩ = some (.int .i64 (y0.1.e : Int)) := (hcell 1 (by omega)).1
          have hL8 : L ≤ 160 := by
            have h1 := hu_len HX.out HH.out
            rw [List.length_append, hL] at h1
            omega
          have p1 : ¬ (L : Int) < 0 := by omega
          have p2 : (0 : Int) ≤ (L : Int) := by omega
          have p3 : (L : Int) < ((L + 1 : Nat) : Int) := by omega
          have p5 : (L : Int) < (L : Int) + 1 := by omega
          have rl : IntKind.i64.wrap (L : Int) = (L : Int) := IntWalk.i64_in _ (by omega)
          rw [hL] at HLX ⊢
          obtain ⟨ye, hye⟩ : ∃ ye, y0.1.e = ye := ⟨_, rfl⟩
          rw [hye] at l1 l2 l3 c1
          by_cases hlt2 : ye < a1
          · -- a new one
            have HJ1 := Lib.hid (HHN.out (l3 hlt2))
            have p4 : (ye : Int) < (a1 : Int) := by omega
            clear hcell l1 l2 l3 HHN LL
            go_upto_region 11 with fail
            obtain ⟨L2, hL2⟩ : ∃ L2, L + 1 = L2 := ⟨_, rfl⟩
            have hlen : (init ++ [y0]).length = L2 := by rw [← hL2]; simp [hL]
            have hL9 : L2 ≤ 161 := by omega
            rw [hL2] at HLX ⊢
            have rl2 : IntKind.i64.wrap (L2 : Int) = (L2 : Int) := IntWalk.i64_in _ (by omega)
            clear hcap hlt2 p1 p2 p3 p4 p5 rl hye c1 HL1 hL b0 b1 b2
            have HROW : Hid ((w5.alloc (.cells #[.int .i64 (a1 : Int), .int .i64 (a1 : Int), .slice none 0 0] 54)).ownsRow w.heap.size 54 3 (.slice (some ⟨g, 0, none⟩) L2 cap) L2 (flatC hkc (init ++ [y0]))) := Lib.hid (by
              have h := HLX.out.lr.row.alloc (.cells #[.int .i64 (a1 : Int), .int .i64 (a1 : Int), .slice none 0 0] 54)
              rw [hlen] at h
              exact h)
            have HNEW := Lib.hid (three_new0 w5 (.int .i64 (a1 : Int)) (.int .i64 (a1 : Int)) (.slice none 0 0) 54)
            have hbase : w.heap.size ≤ (w5.alloc (.cells #[.int .i64 (a1 : Int), .int .i64 (a1 : Int), .slice none 0 0] 54)).heap.size := by simp; omega
            have AFTER : Hid (∀ W4 g4 cap4, W4.ownsRow w.heap.size 54 3 (.slice (some ⟨g4, 0, none⟩) (L2 + 1) cap4) (L2 + 1) (flatC hkc (init ++ [y0]) ++ [.int .i64 (a1 : Int), .int .i64 (a1 : Int), .slice none 0 0]) → (w5.alloc (.cells #[.int .i64 (a1 : Int), .int .i64 (a1 : Int), .slice none 0 0] 54)).grownBy W4 ((.slice (some ⟨g, 0, none⟩) L2 cap) : Value).ownBlock → (((.slice (some ⟨g, 0, none⟩) L2 cap) : Value).ownBlock = some g4 ∨ g4 = (w5.alloc (.cells #[.int .i64 (a1 : Int), .int .i64 (a1 : Int), .slice none 0 0] 54)).heap.size) → LX w ((init ++ [y0]) ++ [(⟨a1, a1, []⟩, .slice none 0 0)]) (.slice (some ⟨g4, 0, none⟩) (L2 + 1) cap4) sk k c W4) := Lib.hid (fun W4 g4 cap4 hr hg hloc => by
              have h := HLX.out.push a1 (o := (.cells #[.int .i64 (a1 : Int), .int .i64 (a1 : Int), .slice none 0 0] 54)) (W1 := W4) (g := g4) (cap := cap4) (by rw [hlen]; exact hr) hg hloc
              rw [hlen] at h
              exact h)
            clear HLX
            go_upto_region 13 with (at_builtin; refine wpList_append_lies _ rfl _ _ _ rfl w.heap.size 54 i0 _ 3 40 Try.underlying46 HI0.out.1 HI0.out.2.1 HI0.out.2.2.1 HI0.out.2.2.2 rfl (by decide) (.slice (some ⟨g, 0, none⟩) L2 cap) L2 (flatC hkc (init ++ [y0])) rfl HROW.out ⟨w5.heap.size, 0, none⟩ 1 1 [.int .i64 (a1 : Int), .int .i64 (a1 : Int), .slice none 0 0] rfl rfl HNEW.out (by simp [Value.oneCell']) (by omega) (by unfold maxLen; omega) (by omega) hbase (w5.heap.size + 1) (by simp) ?_; intro g4 cap4 w8 hown4 hgrow4 hloc4 hlt4; have HLT := Lib.hid (AFTER.out _ _ _ hown4 hgrow4 (by first | exact hloc4 | simpa using hloc4)); clear hown4 hgrow4 hloc4 hlt4 HROW HNEW AFTER hbase)
            have HLEN := hlen
            have HT := HLT
            clear HLT hlen
            obtain ⟨hgl, hgw6, hgs2, hcell⟩ := HT.out.lastA
            simp only [HLEN] at hcell
            have c2 : w8.cell? ⟨g4, L2 * 3 + 2, none⟩ = some ((⟨a1, a1, []⟩, .slice none 0 0) : HV).2 := (hcell 2 (by omega)).1
            have f2 : w8.frozen? ⟨g4, L2 * 3 + 2, none⟩ = false := (hcell 2 (by omega)).2
            have b0 := HT.out.b0
            have b1 := HT.out.b1
            have b2 := HT.out.lt
            obtain ⟨M, hM⟩ : ∃ M, (lb.drop u).take c = M := ⟨_, rfl⟩
            have HML : Hid (M.length = c) := Lib.hid (by rw [← hM, List.length_take, List.length_drop]; omega)
            have HAT : Hid (StAt w (some ⟨g2, off2, none⟩) M) := Lib.hid (by rw [← hM]; exact SlAt.take ham c)
            have HNQ := Lib.hid (SlAt.cells_at sc_len (by omega) ((HAT.out.next HT.out.lr.bel).next (Below.drew (Below.refl _ w8))))
            have HNL := Lib.hid (flatC_length sc_len M)
            rw [HML.out] at HNL
            have HRQ : Hid ((w8.drew).ownsRow w.heap.size 9 1 ((⟨a1, a1, []⟩, .slice none 0 0) : HV).2 ((⟨a1, a1, []⟩, .slice none 0 0) : HV).1.l.length (flatC sc ((⟨a1, a1, []⟩, .slice none 0 0) : HV).1.l)) := Lib.hid (row_next (HT.out.lr.ln ((⟨a1, a1, []⟩, .slice none 0 0) : HV) (by simp)) (Below.drew (Below.refl _ _)))
            have hbase : w.heap.size ≤ w8.drew.heap.size := HT.out.lr.bel.size
            have HNLEN : Hid (((⟨a1, a1, []⟩, .slice none 0 0) : HV).1.l.length ≤ 80) := Lib.hid (by
              have h := hj_len HX2.out.ti HJ1.out
              have h2 : ((⟨a1, a1, []⟩, .slice none 0 0) : HV).1.l.length ≤ lb.length := h
              omega)
            have AFTER : Hid (∀ W4 g4' cap4', W4.ownsRow w.heap.size 9 1 (.slice (some ⟨g4', 0, none⟩) (((⟨a1, a1, []⟩, .slice none 0 0) : HV).1.l.length + c) cap4') (((⟨a1, a1, []⟩, .slice none 0 0) : HV).1.l.length + c) (flatC sc ((⟨a1, a1, []⟩, .slice none 0 0) : HV).1.l ++ flatC sc M) → (w8.drew).grownBy W4 (((⟨a1, a1, []⟩, .slice none 0 0) : HV).2 : Value).ownBlock → ((((⟨a1, a1, []⟩, .slice none 0 0) : HV).2 : Value).ownBlock = some g4' ∨ g4' = (w8.drew).heap.size) → (W4.cell? ⟨g4, L2 * 3 + 2, none⟩ = some ((⟨a1, a1, []⟩, .slice none 0 0) : HV).2 ∧ W4.frozen? ⟨g4, L2 * 3 + 2, none⟩ = false ∧ W4.cell? ⟨sk, 1, none⟩ = some (.int .i64 (c : Int)) ∧ g4 < W4.heap.size ∧ sk < W4.heap.size) ∧ LX w ((init ++ [y0]) ++ [(⟨((⟨a1, a1, []⟩, .slice none 0 0) : HV).1.b, ((⟨a1, a1, []⟩, .slice none 0 0) : HV).1.e, ((⟨a1, a1, []⟩, .slice none 0 0) : HV).1.l ++ M⟩, .slice (some ⟨g4', 0, none⟩) (((⟨a1, a1, []⟩, .slice none 0 0) : HV).1.l.length + c) cap4')]) (.slice (some ⟨g4, 0, none⟩) (L2 + 1) cap4) sk k c (W4.setCell ⟨g4, L2 * 3 + 2, none⟩ (.slice (some ⟨g4', 0, none⟩) (((⟨a1, a1, []⟩, .slice none 0 0) : HV).1.l.length + c) cap4'))) := Lib.hid (fun W4 g4' cap4' hr hg hloc => by
              have h := (HT.out.next (Below.drew (Below.refl _ w8))).app hgl hgs2 (W4 := W4) (g4 := g4') (cap4 := cap4') HML.out hr hg hloc
              simp only [HLEN] at h
              exact h)
            have HI2 : Hid (HI la (trun lb (DiffM.ex (R.take (t + 1)))) ((init ++ [y0]).map Prod.fst ++ [⟨((⟨a1, a1, []⟩, .slice none 0 0) : HV).1.b, ((⟨a1, a1, []⟩, .slice none 0 0) : HV).1.e, ((⟨a1, a1, []⟩, .slice none 0 0) : HV).1.l ++ M⟩])) := Lib.hid (by
              have h := hu_take HX2.out HJ1.out
              rw [e1, hM] at h
              have hy : ((⟨a1, a1, []⟩, .slice none 0 0) : HV).1.e = a1 := rfl
              rw [HNX.out, HK.out, hy]
              exact h)
            have HA2 : Hid (a1 = (trun lb (DiffM.ex (R.take (t + 1)))).at_) := Lib.hid (by rw [HNX.out, ← e1]; exact HX.out.at2.symm)
            have OFF : Hid (Lf w lb (used (DiffM.ex (R.take (t + 1)))) (.slice (if cm = c then some ⟨g2, off2, none⟩ else some ⟨g2, off2 + c, none⟩) (nm - c) (cm - c))) := Lib.hid (by
              rw [HNX.out, HX.out.us2, e2]
              exact Lf.off ham hnm hcm (by omega))
            have q3 : ¬ (c : Int) > (nm : Int) := by omega
            have q4 : (c : Int) ≤ (nm : Int) := by omega
            have q5 : (nm : Int) ≤ (cm : Int) := by omega
            have q6 : (0 : Int) ≤ (c : Int) := by omega
            have q7 : (c : Int) ≤ (cm : Int) := by omega
            have hc200 : c ≤ 200 := by omega
            obtain ⟨vu, hvu⟩ : ∃ vu : Value, ((⟨a1, a1, []⟩, .slice none 0 0) : HV).2 = vu := ⟨_, rfl⟩
            rw [hvu] at c2 HRQ AFTER
            obtain ⟨ll, hll⟩ : ∃ ll : List ByteArray, ((⟨a1, a1, []⟩, .slice none 0 0) : HV).1.l = ll := ⟨_, rfl⟩
            rw [hll] at HRQ AFTER HNLEN HI2
            obtain ⟨yb, hyb⟩ : ∃ yb : Nat, ((⟨a1, a1, []⟩, .slice none 0 0) : HV).1.b = yb := ⟨_, rfl⟩
            obtain ⟨yy, hyy⟩ : ∃ yy : Nat, ((⟨a1, a1, []⟩, .slice none 0 0) : HV).1.e = yy := ⟨_, rfl⟩
            rw [hyb, hyy] at AFTER HI2
            have hll80 := HNLEN.out
            clear hcell HT e1 e2 ham hnm hcm HX HX2 HK HJ1 HNX HLEN HA HM HH hM HAT hvu hll hyb hyy
            go_upto_region 16 with fail
            go_region_law (refine step_append_lies _ (by rfl) _ _ _ (by rfl) w.heap.size 9 i1 _ 1 16 Try.underlying22 HI1.out.1 HI1.out.2.1 HI1.out.2.2.1 HI1.out.2.2.2 rfl (by decide) vu ll.length (flatC sc ll) (by rfl) HRQ.out ⟨g2, off2, none⟩ c cm (flatC sc M) (by rfl) HNL.out HNQ.out (flatC_all (by intro s u hu; simp [sc] at hu; subst hu; rfl) M) (by omega) (by unfold maxLen; omega) (by omega) hbase w8.heap.size (by rfl) ?_; intro g4' cap4' w9 hown4 hgrow4 hloc4 hlt4; obtain ⟨⟨z1, z2, z3, z4, z5⟩, hx9⟩ := AFTER.out _ _ _ hown4 hgrow4 (by first | exact hloc4 | simpa using hloc4); have HX9 := Lib.hid hx9; clear hx9 hown4 hgrow4 hloc4 hlt4)
            all_goals
              clear z1 z2 z3 z4 z5 HRQ HNQ HNL AFTER hbase c2 f2 b0 b1 b2
              generalize (w9.setCell ⟨g4, L2 * 3 + 2, none⟩ (.slice (some ⟨g4', 0, none⟩) (ll.length + c) cap4')) = w10 at *
              have b1 := HX9.out.b1
              have b2 := HX9.out.lt
              have HLR := Lib.hid HX9.out.lr
              have HI3 : Hid (HI la (trun lb (DiffM.ex (R.take (t + 1)))) (((init ++ [y0]) ++ [((⟨yb, yy, ll ++ M⟩, .slice (some ⟨g4', 0, none⟩) (ll.length + c) cap4') : HV)]).map Prod.fst)) := Lib.hid (by rw [List.map_append]; exact HI2.out)
              clear HX9 HI2
              by_cases hcc : cm = c
              · have hcc1 : (cm : Int) = (c : Int) := by omega
                rw [if_pos hcc] at OFF
                clear hcc
                go_wp2_with fail
                all_goals
                  go_roundw
                  case rel => exact ⟨t + 1, a1, _, by omega, by first | rfl | go_num, by first | rfl | go_num, HA2, by first | exact OFF | (simp only [*] at OFF ⊢; exact OFF), HLR, HI3⟩
                  case measure => simp only [intOf]; omega
              · have hcc1 : ¬ (cm : Int) = (c : Int) := by omega
                rw [if_neg hcc] at OFF
                go_wp2_with fail
                all_goals
                  go_roundw
                  case rel => exact ⟨t + 1, a1, _, by omega, by first | rfl | go_num, by first | rfl | go_num, HA2, by first | exact OFF | (simp only [*] at OFF ⊢; exact OFF), HLR, HI3⟩
                  case measure => simp only [intOf]; omega
          · -- the last one goes on
            have p4 : ¬ (ye : Int) < (a1 : Int) := by omega
            have HJ1 := Lib.hid (l2 (by omega))
            have hye2 : y0.1.e = a1 := by rw [hye]; omega
            clear l1 l2 l3 hlt2 hcell HHN LL
            go_upto_region 13 with fail
            have HT := Lib.hid HLX.out
            clear HLX c1
            have HLEN := HL1.out
            obtain ⟨hgl, hgw6, hgs2, hcell⟩ := HT.out.lastA
            simp only [HLEN] at hcell
            have c2 : w5.cell? ⟨g, L * 3 + 2, none⟩ = some y0.2 := (hcell 2 (by omega)).1
            have f2 : w5.frozen? ⟨g, L * 3 + 2, none⟩ = false := (hcell 2 (by omega)).2
            have b0 := HT.out.b0
            have b1 := HT.out.b1
            have b2 := HT.out.lt
            obtain ⟨M, hM⟩ : ∃ M, (lb.drop u).take c = M := ⟨_, rfl⟩
            have HML : Hid (M.length = c) := Lib.hid (by rw [← hM, List.length_take, List.length_drop]; omega)
            have HAT : Hid (StAt w (some ⟨g2, off2, none⟩) M) := Lib.hid (by rw [← hM]; exact SlAt.take ham c)
            have HNQ := Lib.hid (SlAt.cells_at sc_len (by omega) ((HAT.out.next HT.out.lr.bel).next (Below.drew (Below.refl _ w5))))
            have HNL := Lib.hid (flatC_length sc_len M)
            rw [HML.out] at HNL
            have HRQ : Hid ((w5.drew).ownsRow w.heap.size 9 1 y0.2 y0.1.l.length (flatC sc y0.1.l)) := Lib.hid (row_next (HT.out.lr.ln y0 (by simp)) (Below.drew (Below.refl _ _)))
            have hbase : w.heap.size ≤ w5.drew.heap.size := HT.out.lr.bel.size
            have HNLEN : Hid (y0.1.l.length ≤ 80) := Lib.hid (by
              have h := hj_len HX2.out.ti HJ1.out
              have h2 : y0.1.l.length ≤ lb.length := h
              omega)
            have AFTER : Hid (∀ W4 g4' cap4', W4.ownsRow w.heap.size 9 1 (.slice (some ⟨g4', 0, none⟩) (y0.1.l.length + c) cap4') (y0.1.l.length + c) (flatC sc y0.1.l ++ flatC sc M) → (w5.drew).grownBy W4 (y0.2 : Value).ownBlock → ((y0.2 : Value).ownBlock = some g4' ∨ g4' = (w5.drew).heap.size) → (W4.cell? ⟨g, L * 3 + 2, none⟩ = some y0.2 ∧ W4.frozen? ⟨g, L * 3 + 2, none⟩ = false ∧ W4.cell? ⟨sk, 1, none⟩ = some (.int .i64 (c : Int)) ∧ g < W4.heap.size ∧ sk < W4.heap.size) ∧ LX w (init ++ [(⟨y0.1.b, y0.1.e, y0.1.l ++ M⟩, .slice (some ⟨g4', 0, none⟩) (y0.1.l.length + c) cap4')]) (.slice (some ⟨g, 0, none⟩) (L + 1) cap) sk k c (W4.setCell ⟨g, L * 3 + 2, none⟩ (.slice (some ⟨g4', 0, none⟩) (y0.1.l.length + c) cap4'))) := Lib.hid (fun W4 g4' cap4' hr hg hloc => by
              have h := (HT.out.next (Below.drew (Below.refl _ w5))).app hgl hgs2 (W4 := W4) (g4 := g4') (cap4 := cap4') HML.out hr hg hloc
              simp only [HLEN] at h
              exact h)
            have HI2 : Hid (HI la (trun lb (DiffM.ex (R.take (t + 1)))) (init.map Prod.fst ++ [⟨y0.1.b, y0.1.e, y0.1.l ++ M⟩])) := Lib.hid (by
              have h := hu_take HX2.out HJ1.out
              rw [e1, hM] at h
              have hy : y0.1.e = a1 := hye2
              rw [HNX.out, HK.out, hy]
              exact h)
            have HA2 : Hid (a1 = (trun lb (DiffM.ex (R.take (t + 1)))).at_) := Lib.hid (by rw [HNX.out, ← e1]; exact HX.out.at2.symm)
            have OFF : Hid (Lf w lb (used (DiffM.ex (R.take (t + 1)))) (.slice (if cm = c then some ⟨g2, off2, none⟩ else some ⟨g2, off2 + c, none⟩) (nm - c) (cm - c))) := Lib.hid (by
              rw [HNX.out, HX.out.us2, e2]
              exact Lf.off ham hnm hcm (by omega))
            have q3 : ¬ (c : Int) > (nm : Int) := by omega
            have q4 : (c : Int) ≤ (nm : Int) := by omega
            have q5 : (nm : Int) ≤ (cm : Int) := by omega
            have q6 : (0 : Int) ≤ (c : Int) := by omega
            have q7 : (c : Int) ≤ (cm : Int) := by omega
            have hc200 : c ≤ 200 := by omega
            obtain ⟨vu, hvu⟩ : ∃ vu : Value, y0.2 = vu := ⟨_, rfl⟩
            rw [hvu] at c2 HRQ AFTER
            obtain ⟨ll, hll⟩ : ∃ ll : List ByteArray, y0.1.l = ll := ⟨_, rfl⟩
            rw [hll] at HRQ AFTER HNLEN HI2
            obtain ⟨yb, hyb⟩ : ∃ yb : Nat, y0.1.b = yb := ⟨_, rfl⟩
            obtain ⟨yy, hyy⟩ : ∃ yy : Nat, y0.1.e = yy := ⟨_, rfl⟩
            rw [hyb, hyy] at AFTER HI2
            have hll80 := HNLEN.out
            clear hcell HT e1 e2 ham hnm hcm HX HX2 HK HJ1 HNX HLEN HA HM HH hM HAT hvu hll hyb hyy
            go_upto_region 16 with fail
            go_region_law (refine step_append_lies _ (by rfl) _ _ _ (by rfl) w.heap.size 9 i1 _ 1 16 Try.underlying22 HI1.out.1 HI1.out.2.1 HI1.out.2.2.1 HI1.out.2.2.2 rfl (by decide) vu ll.length (flatC sc ll) (by rfl) HRQ.out ⟨g2, off2, none⟩ c cm (flatC sc M) (by rfl) HNL.out HNQ.out (flatC_all (by intro s u hu; simp [sc] at hu; subst hu; rfl) M) (by omega) (by unfold maxLen; omega) (by omega) hbase w5.heap.size (by rfl) ?_; intro g4' cap4' w9 hown4 hgrow4 hloc4 hlt4; obtain ⟨⟨z1, z2, z3, z4, z5⟩, hx9⟩ := AFTER.out _ _ _ hown4 hgrow4 (by first | exact hloc4 | simpa using hloc4); have HX9 := Lib.hid hx9; clear hx9 hown4 hgrow4 hloc4 hlt4)
            all_goals
              clear z1 z2 z3 z4 z5 HRQ HNQ HNL AFTER hbase c2 f2 b0 b1 b2
              generalize (w9.setCell ⟨g, L * 3 + 2, none⟩ (.slice (some ⟨g4', 0, none⟩) (ll.length + c) cap4')) = w10 at *
              have b1 := HX9.out.b1
              have b2 := HX9.out.lt
              have HLR := Lib.hid HX9.out.lr
              have HI3 : Hid (HI la (trun lb (DiffM.ex (R.take (t + 1)))) ((init ++ [((⟨yb, yy, ll ++ M⟩, .slice (some ⟨g4', 0, none⟩) (ll.length + c) cap4') : HV)]).map Prod.fst)) := Lib.hid (by rw [List.map_append]; exact HI2.out)
              clear HX9 HI2
              by_cases hcc : cm = c
              · have hcc1 : (cm : Int) = (c : Int) := by omega
                rw [if_pos hcc] at OFF
                clear hcc
                go_wp2_with fail
                all_goals
                  go_roundw
                  case rel => exact ⟨t + 1, a1, _, by omega, by first | rfl | go_num, by first | rfl | go_num, HA2, by first | exact OFF | (simp only [*] at OFF ⊢; exact OFF), HLR, HI3⟩
                  case measure => simp only [intOf]; omega
              · have hcc1 : ¬ (cm : Int) = (c : Int) := by omega
                rw [if_neg hcc] at OFF
                go_wp2_with fail
                all_goals
                  go_roundw
                  case rel => exact ⟨t + 1, a1, _, by omega, by first | rfl | go_num, by first | rfl | go_num, HA2, by first | exact OFF | (simp only [*] at OFF ⊢; exact OFF), HLR, HI3⟩
                  case measure => simp only [intOf]; omega
    · have hte : t = N := by omega
      have FIN : Hid (HuPost la lb w (.returned u5) wr) := Lib.hid (by
        refine ⟨_, hs, rfl, HL.out, ?_⟩
        have h := HH.out
        rw [List.take_of_length_le (by have := HN.out; omega), HND.out] at h
        exact h)
      have u1 : ¬ (t : Int) < (N : Int) := by omega
      clear HA HM HL HH hte
      go_wp2_with fail
      go_ret
      exact FIN.out
end Go.Proofs.Ytokfnajgjhkepaa.MergeT
