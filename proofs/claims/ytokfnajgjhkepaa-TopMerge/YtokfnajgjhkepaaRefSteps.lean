/-
  The document: DiffSteps.
-/
import Derived.Test.YtokfnajgjhkepaaRefFault2
import Derived.Test.YtokfnajgjhkepaaBnd3
import Derived.Deep.AppendLies
namespace Go.Proofs.Ytokfnajgjhkepaa.DiffR
open Go.RowKit Kit LineM StrM DiffM DiffA NumR HistM

def lenV : Value → Nat
  | .slice _ n _ => n
  | _ => 0
def intsN (l : List Nat) : List Int := l.map fun (i : Nat) => (i : Int)
theorem intsN_snoc (l : List Nat) (k : Nat) : intsN (l ++ [k]) = intsN l ++ [(k : Int)] := by simp [intsN]
theorem intsN_len (l : List Nat) : (intsN l).length = l.length := by simp [intsN]
/-- steps that are read, and a code -/
def SpPost (xs : List (Nat × Nat)) (c : Int) (w : World) (e : Ending) (w' : World) : Prop := ∃ v, e = .returned (.tuple #[v, .int .i64 c]) ∧ SlV 2 pc w' v xs ∧ Below w.heap.size w w'
/-- steps of the call's own, and a code -/
def SoPost (xs : List (Nat × Nat)) (c : Int) (w : World) (e : Ending) (w' : World) : Prop := ∃ v, e = .returned (.tuple #[v, .int .i64 c]) ∧ RO 2 pc w xs v w'
/-- the rest of a slice: where no room is left, it stays where it is -/
theorem tail_at {w : World} {g off c : Nat} {x : ByteArray} {l : List ByteArray} (h : StAt w (some ⟨g, off, none⟩) (x :: l)) (hc : l.length + 1 ≤ c) : StAt w (if c = 1 then some ⟨g, off, none⟩ else some ⟨g, off + 1, none⟩) l := by
  by_cases e : c = 1
  · have hl : l = [] := List.eq_nil_of_length_eq_zero (by omega)
    rw [hl]; exact SlAt.nil _ _
  · rw [if_neg e]
    have := SlAt.drop h 1
    simpa using this
theorem cells_two (w : World) (x0 x1 : Value) (t : TypeId) : ∀ j u, [x0, x1][j]? = some u → (w.alloc (.cells #[x0, x1] t)).cell? ((⟨w.heap.size, 0, none⟩ : Addr).add j) = some u := by
  intro j u hj
  have e : (⟨w.heap.size, 0, none⟩ : Addr).add j = ⟨w.heap.size, j, none⟩ := by rw [add_of rfl]; simp
  rw [e, cells_new]
  simpa using hj
/-- what is left of two lists, and what has been said of the rest -/
structure StL (w : World) (la lb : List ByteArray) (sa : Option Addr) (n ca : Nat) (sb : Option Addr) (m cb : Nat) (vk : Value) (wr : World) : Prop where
  is : ∃ xa xb done, xa.length = n ∧ xb.length = m ∧ StAt w sa xa ∧ StAt w sb xb ∧ kinds la lb = done ++ kinds xa xb ∧ IK w (intsN done) vk wr
  ca : n ≤ ca
  cb : m ≤ cb
set_option maxHeartbeats 1000000 in
theorem diffSteps_no (x y : Sv) (w : World) (hx : x.has w) (hy : y.has w) (h : lf [x, y] = 1) : Calls Try.prog 38 #[.slice x.a x.l.length x.cap, .slice y.a y.l.length y.cap] w (SpPost [] 1 w) := by
  have F := Lib.hid (fault_two x y w hx hy 22)
  rw [h] at F
  clear h hx hy
  go_enter Try.func38, Try.ntmps38
  go_wp2_with fail
  refine F.out.mono ?_
  rintro e w1 ⟨rfl, rfl⟩
  go_wp2_with fail
  go_ret2
  exact ⟨_, rfl, SlV.nil _, balloc (Below.refl _ _) _⟩
set_option maxRecDepth 100000 in
set_option maxHeartbeats 8000000 in
theorem diffStepsO (x y : Sv) (w : World) (hx : x.has w) (hy : y.has w) (hox : okL x.l) (hoy : okL y.l) (hcx : x.l.length ≤ x.cap) (hcy : y.l.length ≤ y.cap) : Calls Try.prog 38 #[.slice x.a x.l.length x.cap, .slice y.a y.l.length y.cap] w (SoPost (comb (kinds x.l y.l)) 0 w) := by
  obtain ⟨i0, hi, hz0, hz1, hz2⟩ := info_parts infoInt
  have HI := Lib.hid (And.intro hi (And.intro hz0 (And.intro hz1 hz2)))
  clear hi hz0 hz1 hz2
  have F := Lib.hid (fault_two x y w hx hy 22)
  have h0 : lf [x, y] = 0 := by
    rcases lf_two x y with h | h
    · exact h.1
    · exact absurd ⟨hox, hoy⟩ h.2
  rw [h0] at F
  have hb0 := balloc (Below.refl w.heap.size w) (.cells #[.slice x.a x.l.length x.cap, .slice y.a y.l.length y.cap] 22)
  have S0 : Hid (StL w x.l y.l x.a x.l.length x.cap y.a y.l.length y.cap (.slice none 0 0) (w.alloc (.cells #[.slice x.a x.l.length x.cap, .slice y.a y.l.length y.cap] 22))) := Lib.hid ⟨⟨x.l, y.l, [], rfl, rfl, hx, hy, rfl, IK.nil hb0⟩, hcx, hcy⟩
  have CM := Lib.hid (fun aa ca la ab cb lb W (h1 : StAt W aa la) (h2 : StAt W ab lb) (h3 : la.length ≤ 80) (h4 : lb.length ≤ 80) => common aa ca la ab cb lb W h1 h2 h3 h4)
  have hn := hox.1
  have hm := hoy.1
  clear h0 hx hy hox hoy hb0
  generalize x.l = la at *
  generalize y.l = lb at *
  generalize x.a = aa at *
  generalize y.a = ab at *
  generalize x.cap = ca at *
  generalize y.cap = cb at *
  have HLN : Hid (la.length ≤ 80 ∧ lb.length ≤ 80) := Lib.hid ⟨hn, hm⟩
  obtain ⟨n0, hn0⟩ : ∃ n0, la.length = n0 := ⟨_, rfl⟩
  obtain ⟨m0, hm0⟩ : ∃ m0, lb.length = m0 := ⟨_, rfl⟩
  rw [hn0] at hn hcx F S0 ⊢
  rw [hm0] at hm hcy F S0 ⊢
  clear hn0 hm0
  go_enter Try.func38, Try.ntmps38
  go_wp2_with fail
  refine F.out.mono ?_
  rintro e w1 ⟨rfl, rfl⟩
  generalize (w.alloc (.cells #[.slice aa n0 ca, .slice ab m0 cb] 22)) = w1 at *
  clear F
  go_wp2_with fail
  go_loopw [0, 1, 7] (fun va vb vk wr => ∃ (sa : Option Addr) (n ca : Nat) (sb : Option Addr) (m cb : Nat), va = .slice sa n ca ∧ vb = .slice sb m cb ∧ n ≤ 80 ∧ m ≤ 80 ∧ Hid (StL w la lb sa n ca sb m cb vk wr)) (fun va vb _ _ => lenV va + lenV vb)
  case atStart => exact ⟨_, _, _, _, _, _, rfl, rfl, hn, hm, S0⟩
  case round =>
    obtain ⟨sa, n, ca, sb, m, cb, rfl, rfl, hn8, hm8, HS⟩ := hrel
    clear S0
    by_cases hz : n = 0 ∧ m = 0
    · obtain ⟨rfl, rfl⟩ := hz
      obtain ⟨⟨xa, xb, done, hna, hmb, _, _, hk, hik⟩, _, _⟩ := HS.out
      have e1 : xa = [] := List.eq_nil_of_length_eq_zero hna
      have e2 : xb = [] := List.eq_nil_of_length_eq_zero hmb
      rw [e1, e2, kinds_nil, List.append_nil] at hk
      rw [← hk] at hik
      clear e1 e2 hna hmb hk HS
      obtain ⟨ks, hks⟩ : ∃ ks, kinds la lb = ks := ⟨_, rfl⟩
      have hkl : ks.length ≤ 160 := by
        have h1 := (kinds_scr la lb).counts
        have h2 := HLN.out
        rw [hks] at h1
        omega
      rw [hks] at hik
      have HKS := Lib.hid hks
      clear hks
      obtain ⟨ak, capk, rfl⟩ := hik.slice
      rw [intsN_len]
      have HIK := Lib.hid hik
      have HV : Hid (IsV wr (.slice ak ks.length capk) (intsN ks)) := Lib.hid (by have := hik.val; rwa [intsN_len] at this)
      have BW := Lib.hid hik.bel
      clear hik HIK
      obtain ⟨j0, hj, hy0, hy1, hy2⟩ := info_parts infoStep
      have HJ := Lib.hid (And.intro hj (And.intro hy0 (And.intro hy1 hy2)))
      clear hj hy0 hy1 hy2
      obtain ⟨N, hN⟩ : ∃ N, ks.length = N := ⟨_, rfl⟩
      have HN := Lib.hid hN
      rw [hN] at hkl HV ⊢
      clear hN
      obtain ⟨wz, rfl⟩ : ∃ wz, wz = wr := ⟨_, rfl⟩
      go_wp2_with fail
      go_loopw [8, 77] (fun vo vi wx => ∃ i : Nat, i ≤ N ∧ vi = .int .i64 (i : Int) ∧ Hid (RO 2 pc wz (comb (ks.take i)) vo wx)) (fun _ vi _ => N - (intOf vi).toNat)
      case atStart => exact ⟨0, by omega, rfl, Lib.hid (RO.nil _)⟩
      case round =>
        obtain ⟨i, hi, rfl, HR⟩ := hrel
        by_cases hlt : i < N
        · obtain ⟨k, hk⟩ : ∃ k, ks[i]? = some k := ⟨ks[i]'(by have := HN.out; omega), List.getElem?_eq_getElem _⟩
          have hget : ∀ (j z : Nat), ks[j]? = some z → ∃ g off, ak = some ⟨g, off, none⟩ ∧ g < wr.heap.size ∧ wr.cell? ⟨g, off + j, none⟩ = some (.int .i64 (z : Int)) := fun j z hz => by
            obtain ⟨al, cl, e, _, ha, _⟩ := HV.out.next HR.out.bel
            cases e
            exact IsAt.get ha (by simp [intsN, hz])
          obtain ⟨gk, ok, rfl, hgk, c0⟩ := hget i k hk
          have u0 : (0 : Int) ≤ (i : Int) := by omega
          have u1 : (i : Int) < (N : Int) := by omega
          have r1 : IntKind.i64.wrap ((i : Int) + 1) = (i : Int) + 1 := IntWalk.i64_in _ (by omega)
          have HNEW := Lib.hid (cells_two wr (.int .i64 (k : Int)) (.int .i64 ((1 : Nat) : Int)) 76)
          rcases comb_step hk with ⟨hi0, hcm⟩ | ⟨k', l, c, hk', hi0, hl, hci, hll, hcase⟩
          · subst hi0
            have HRO4 : Hid (RO 2 pc wz [] u8 (wr.alloc (.cells #[.int .i64 (k : Int), .int .i64 ((1 : Nat) : Int)] 76))) := Lib.hid (HR.out.next (balloc (Below.refl _ _) _))
            clear hk hget
            have c0' : wr.cell? ⟨gk, ok, none⟩ = some (.int .i64 (k : Int)) := c0
            clear HR
            go_wp2_with (at_builtin; refine wpList_append_rx _ rfl _ _ 49 rfl 76 j0 _ 2 16 Try.underlying49 HJ.out.1 HJ.out.2.1 HJ.out.2.2.1 HJ.out.2.2.2 rfl (by decide) _ _ _ rfl HRO4.out.row ⟨wr.heap.size, 0, none⟩ 1 [.int .i64 (k : Int), .int .i64 ((1 : Nat) : Int)] rfl rfl HNEW.out (by simp [Value.oneCell']) (by unfold maxLen; simp) (by simp) ?_; intro a4 cap4 w4 hown4 hgrow4 hat4; have HRN := Lib.hid (RO.push HRO4.out (o := (k, 1)) hown4 hgrow4 hat4); clear hown4 hgrow4 hat4)
            go_roundw
            case rel => exact ⟨1, by omega, rfl, Lib.hid (by rw [hcm]; exact HRN.out)⟩
            case measure => simp [intOf]; omega
          · obtain ⟨_, _, ek, _, c1⟩ := hget (i - 1) k' hk'
            cases ek
            have r2 : IntKind.i64.wrap ((i : Int) - 1) = (i : Int) - 1 := IntWalk.i64_in _ (by omega)
            have r2' : ((i : Int) - 1).toNat = i - 1 := by omega
            have q1 : decide ((i : Int) > 0) = true := decide_eq_true (by omega)
            have v0 : (0 : Int) ≤ (i : Int) - 1 := by omega
            have v1 : (i : Int) - 1 < (N : Int) := by omega
            have v2 : (1 : Int) ≤ (i : Int) := by omega
            rw [hl] at HR
            obtain ⟨p, hp⟩ : ∃ p, l.length = p := ⟨_, rfl⟩
            have hll1 : (l ++ [(k', c)]).length = p + 1 := by simp [hp]
            rcases hcase with ⟨rfl, hcm⟩ | ⟨hne, hcm⟩
            · obtain ⟨go, oo, co, rfl, hgo, _, hcell⟩ := RO.at_ pc_len HR.out (i := p) (o := (k', c)) (by rw [← hp]; simp)
              obtain ⟨d1, d2⟩ := hcell 1 (.int .i64 (c : Int)) (by omega) rfl
              have r3 : IntKind.i64.wrap ((p : Int) + 1 - 1) = (p : Int) := by rw [show (p : Int) + 1 - 1 = (p : Int) by omega]; exact IntWalk.i64_in _ (by omega)
              have r3' : IntKind.i64.wrap (p : Int) = (p : Int) := IntWalk.i64_in _ (by omega)
              have r4 : IntKind.i64.wrap ((c : Int) + 1) = ((c + 1 : Nat) : Int) := by rw [show (c : Int) + 1 = ((c + 1 : Nat) : Int) by omega]; exact IntWalk.i64_in _ (by omega)
              have x0 : (0 : Int) ≤ (p : Int) := by omega
              have x1 : (p : Int) < (p : Int) + 1 := by omega
              have HRN : Hid (RO 2 pc wz (l ++ [(k', c + 1)]) (.slice (some ⟨go, oo, none⟩) (p + 1) co) (wr.setCell ⟨go, oo + p * 2 + 1, none⟩ (.int .i64 ((c + 1 : Nat) : Int)))) := Lib.hid (by
                have h := HR.out
                rw [hll1] at h
                have := RO.put pc_len h hll1.symm (i := p) (j := 1) (o := (k', c)) (o' := (k', c + 1)) (u := .int .i64 ((c + 1 : Nat) : Int)) (by rw [← hp]; simp) (by omega) rfl
                have e : (l ++ [(k', c)]).set p (k', c + 1) = l ++ [(k', c + 1)] := by rw [← hp]; simp
                rwa [e] at this)
              rw [hll1]
              clear HR hk hget hk' hl hcell hll1
              go_wp2_with fail
              go_roundw
              case rel => exact ⟨i + 1, by omega, by go_num, Lib.hid (by rw [hcm]; exact HRN.out)⟩
              case measure => simp [intOf]; omega
            · have q2 : decide ((k' : Int) = (k : Int)) = false := decide_eq_false (by omega)
              have q3 : ¬ (k' : Int) = (k : Int) := by omega
              have HRO4 := Lib.hid (HR.out.next (balloc (Below.refl _ _) (.cells #[.int .i64 (k : Int), .int .i64 ((1 : Nat) : Int)] 76)))
              clear HR hk hget hk' hl
              go_wp2_with (at_builtin; refine wpList_append_rx _ rfl _ _ 49 rfl 76 j0 _ 2 16 Try.underlying49 HJ.out.1 HJ.out.2.1 HJ.out.2.2.1 HJ.out.2.2.2 rfl (by decide) _ _ _ rfl HRO4.out.row ⟨wr.heap.size, 0, none⟩ 1 [.int .i64 (k : Int), .int .i64 ((1 : Nat) : Int)] rfl rfl HNEW.out (by simp [Value.oneCell']) (by unfold maxLen; rw [hll1]; omega) (by rw [hll1]; omega) ?_; intro a4 cap4 w4 hown4 hgrow4 hat4; have HRN := Lib.hid (RO.push HRO4.out (o := (k, 1)) hown4 hgrow4 hat4); clear hown4 hgrow4 hat4)
              go_roundw
              case rel => exact ⟨i + 1, by omega, by go_num, Lib.hid (by rw [hcm]; have := HRN.out; rw [hll1] at this; exact this)⟩
              case measure => simp [intOf]; omega
        · have u1 : ¬ (i : Int) < (N : Int) := by omega
          have h := HR.out
          rw [List.take_of_length_le (by have := HN.out; omega)] at h
          have HFIN := Lib.hid (h.ahead BW.out)
          clear HR HV h
          go_wp2_with fail
          go_ret2
          exact ⟨_, rfl, by rw [HKS.out]; exact HFIN.out⟩
    · obtain ⟨⟨xa, xb, done, hna, hmb, h1, h2, hk, hik⟩, hca, hcb⟩ := HS.out
      have HIK := Lib.hid hik
      have HKD := Lib.hid hk
      have hdl : (intsN done).length ≤ 200 := by
        have e1 := congrArg List.length hk
        have e2 := (kinds_scr la lb).counts
        rw [List.length_append] at e1
        have := HLN.out
        rw [intsN_len]
        omega
      clear HS hk hik
      cases xa with
      | nil =>
        cases xb with
        | nil => exact absurd ⟨hna.symm, hmb.symm⟩ hz
        | cons y xb =>
          obtain ⟨g, off, rfl, _⟩ := StAt.get h2 (i := 0) (s := y) rfl
          have hm1 : m = xb.length + 1 := hmb.symm
          have hn1 : n = 0 := hna.symm
          have HK2 : Hid (kinds la lb = (done ++ [3]) ++ kinds [] xb) := Lib.hid (by rw [HKD.out, kinds_take, List.append_assoc]; rfl)
          have HAT : Hid (StAt w (if cb = 1 then some ⟨g, off, none⟩ else some ⟨g, off + 1, none⟩) xb) := Lib.hid (tail_at h2 (by omega))
          obtain ⟨m', hm'⟩ : ∃ m', xb.length = m' := ⟨_, rfl⟩
          rw [hm'] at hm1
          have HM := Lib.hid hm'
          have H1 := Lib.hid h1
          subst hn1 hm1
          clear hz hmb hna h1 h2 HKD hm'
          have HL : Hid (intsN (done ++ [3]) = intsN done ++ [((3 : Nat) : Int)]) := Lib.hid (intsN_snoc done 3)
          obtain ⟨L, hL⟩ : ∃ L, intsN done = L := ⟨_, rfl⟩
          rw [hL] at hdl HIK HL
          clear hL
          go_wp2_with fail
          go_quiet (fail)
          have HK4 := Lib.hid (HIK.out.next (bdrewN (Below.refl _ _) nq))
          generalize wr.drewN nq = w3 at *
          have hsz := HK4.out.bel.size
          have HROW := Lib.hid (HK4.out.row)
          clear HIK
          go_wp2_with (at_builtin; refine wpList_append_lies _ rfl _ _ 28 rfl w.heap.size 3 i0 _ 1 8 Try.underlying28 HI.out.1 HI.out.2.1 HI.out.2.2.1 HI.out.2.2.2 rfl (by decide) _ L.length (flatC ic L) rfl (HROW.out.alloc _) ⟨w3.heap.size, 0, none⟩ 1 1 [.int .i64 ((3 : Nat) : Int)] rfl rfl (cell_one_new _ _ _) (by simp [Value.oneCell']) (by omega) (by unfold maxLen; omega) (by omega) (by simp; omega) _ rfl ?_; intro g1 cap1 w4 hown1 hgrow1 _ _)
          have HIK2 : Hid (IK w (intsN (done ++ [3])) (.slice (some ⟨g1, 0, none⟩) (L.length + 1) cap1) w4) := Lib.hid ⟨by rw [HL.out, List.length_append, flatC_append]; exact hown1, bgrow (balloc HK4.out.bel _) (HROW.out.alloc _) hgrow1⟩
          clear hown1 hgrow1
          go_roundw
          case rel => exact ⟨_, _, _, _, _, _, rfl, rfl, by omega, by omega, Lib.hid ⟨⟨[], xb, _, rfl, HM.out, H1.out, HAT.out, HK2.out, HIK2.out⟩, by omega, by omega⟩⟩
          case measure => simp [lenV]
      | cons x xa =>
        obtain ⟨g, off, rfl, hg, c0⟩ := StAt.get h1 (i := 0) (s := x) rfl
        obtain ⟨n', hn'⟩ : ∃ n', xa.length = n' := ⟨_, rfl⟩
        have hn1 : n = n' + 1 := by rw [← hna, ← hn']; rfl
        subst hn1
        have HAT : Hid (StAt w (if ca = 1 then some ⟨g, off, none⟩ else some ⟨g, off + 1, none⟩) xa) := Lib.hid (tail_at h1 (by omega))
        have HN := Lib.hid hn'
        have H1 := Lib.hid h1
        have H2 := Lib.hid h2
        have HM := Lib.hid hmb
        have BW := Lib.hid (HIK.out.bel)
        have c0w := keep BW.out hg c0
        have hgw : g < wr.heap.size := by have := BW.out.size; omega
        by_cases hsame : ∃ xb', xb = x :: xb'
        · obtain ⟨xb', rfl⟩ := hsame
          obtain ⟨g2, off2, rfl, hg2, c2⟩ := StAt.get h2 (i := 0) (s := x) rfl
          obtain ⟨m', hm'⟩ : ∃ m', xb'.length = m' := ⟨_, rfl⟩
          have hm1 : m = m' + 1 := by rw [← hmb, ← hm']; rfl
          subst hm1
          have HBT : Hid (StAt w (if cb = 1 then some ⟨g2, off2, none⟩ else some ⟨g2, off2 + 1, none⟩) xb') := Lib.hid (tail_at h2 (by omega))
          have HM2 := Lib.hid hm'
          have c2w := keep BW.out hg2 c2
          have c0x : wr.cell? ⟨g, off, none⟩ = some (.string x) := c0w
          have c2x : wr.cell? ⟨g2, off2, none⟩ = some (.string x) := c2w
          have hg2w : g2 < wr.heap.size := by have := BW.out.size; omega
          have v0 : (0 : Int) < ((n' : Int) + 1) := by omega
          have v1 : (0 : Int) < ((m' : Int) + 1) := by omega
          have HQ := (same_iff x x).2 rfl
          have HK2 : Hid (kinds la lb = (done ++ [1]) ++ kinds xa xb') := Lib.hid (by rw [HKD.out, kinds_same, List.append_assoc]; rfl)
          have HL : Hid (intsN (done ++ [1]) = intsN done ++ [((1 : Nat) : Int)]) := Lib.hid (intsN_snoc done 1)
          obtain ⟨L, hL⟩ : ∃ L, intsN done = L := ⟨_, rfl⟩
          rw [hL] at hdl HIK HL
          clear hL hz hmb hna h1 h2 HKD hm' H1 H2 HM hn' c0 c0w c2 c2w hg hg2
          go_wp2_with fail
          go_quiet (fail)
          have HK4 := Lib.hid (HIK.out.next (bdrewN (Below.refl _ _) nq))
          generalize wr.drewN nq = w3 at *
          have hsz := HK4.out.bel.size
          have HROW := Lib.hid (HK4.out.row)
          clear HIK
          go_wp2_with (at_builtin; refine wpList_append_lies _ rfl _ _ 28 rfl w.heap.size 3 i0 _ 1 8 Try.underlying28 HI.out.1 HI.out.2.1 HI.out.2.2.1 HI.out.2.2.2 rfl (by decide) _ L.length (flatC ic L) rfl (HROW.out.alloc _) ⟨w3.heap.size, 0, none⟩ 1 1 [.int .i64 ((1 : Nat) : Int)] rfl rfl (cell_one_new _ _ _) (by simp [Value.oneCell']) (by omega) (by unfold maxLen; omega) (by omega) (by simp; omega) _ rfl ?_; intro g1 cap1 w4 hown1 hgrow1 _ _)
          have HIK2 : Hid (IK w (intsN (done ++ [1])) (.slice (some ⟨g1, 0, none⟩) (L.length + 1) cap1) w4) := Lib.hid ⟨by rw [HL.out, List.length_append, flatC_append]; exact hown1, bgrow (balloc HK4.out.bel _) (HROW.out.alloc _) hgrow1⟩
          clear hown1 hgrow1
          go_quiet (fail)
          have HIK3 := Lib.hid (HIK2.out.next (bdrewN (Below.refl _ _) nq))
          go_wp2_with fail
          go_roundw
          case rel => exact ⟨_, _, _, _, _, _, rfl, rfl, by omega, by omega, Lib.hid ⟨⟨xa, xb', _, HN.out, HM2.out, HAT.out, HBT.out, HK2.out, HIK3.out⟩, by omega, by omega⟩⟩
          case measure => simp [lenV]; omega
        · have HNS : Hid (kinds (x :: xa) xb = if lcs xa xb = lcs (x :: xa) xb then 2 :: kinds xa xb else 3 :: kinds (x :: xa) (xb.drop 1)) := Lib.hid (by
            cases xb with
            | nil => rw [if_pos (by rw [lcs_nil_right, lcs_nil_right]), kinds_drop]
            | cons y xb =>
              have hne : x ≠ y := fun e => hsame ⟨xb, by rw [e]⟩
              by_cases hl : lcs xa (y :: xb) = lcs (x :: xa) (y :: xb)
              · rw [if_pos hl, kinds_less hne hl]
              · rw [if_neg hl, kinds_more hne hl]; rfl)
          have hpick : (m = 0) ∨ ∃ y g2 off2 m', m = m' + 1 ∧ sb = some ⟨g2, off2, none⟩ ∧ g2 < wr.heap.size ∧ wr.cell? ⟨g2, off2, none⟩ = some (.string y) ∧ (x.toList == y.toList) = false := by
            cases xb with
            | nil => exact .inl hmb.symm
            | cons y xb =>
              have hne : x ≠ y := fun e => hsame ⟨xb, by rw [e]⟩
              obtain ⟨g2, off2, e2, hg2, c2⟩ := StAt.get h2 (i := 0) (s := y) rfl
              exact .inr ⟨y, g2, off2, xb.length, hmb.symm, e2, by have := BW.out.size; omega, keep BW.out hg2 c2, same_not hne⟩
          have hx9 : xa.length ≤ 80 ∧ (x :: xa).length ≤ 80 ∧ xb.length ≤ 80 := by rw [hn', hmb, List.length_cons, hn']; omega
          have HX9 := Lib.hid hx9
          clear hsame h1 h2 hna hx9 c0 hg hz hn' hmb
          have c0x : wr.cell? ⟨g, off, none⟩ = some (.string x) := c0w
          have v0 : (0 : Int) < ((n' : Int) + 1) := by omega
          obtain ⟨ad, had, HAD⟩ : ∃ ad, (if ca = 1 then some ⟨g, off, none⟩ else some ⟨g, off + 1, none⟩) = ad ∧ Hid (StAt w ad xa) := ⟨_, rfl, HAT⟩
          clear HAT c0w
          have hcc : (ca = 1 ∧ n' = 0 ∧ ad = some ⟨g, off, none⟩) ∨ (ca ≠ 1 ∧ ad = some ⟨g, off + 1, none⟩) := by
            by_cases h : ca = 1
            · rw [if_pos h] at had; exact .inl ⟨h, by omega, had.symm⟩
            · rw [if_neg h] at had; exact .inr ⟨h, had.symm⟩
          clear had
          rcases hpick with rfl | ⟨y, g2, off2, m', rfl, rfl, hg2, c2, HQ⟩
          · have hl : lcs xa xb = lcs (x :: xa) xb := by
              have : xb = [] := List.eq_nil_of_length_eq_zero HM.out
              rw [this, lcs_nil_right, lcs_nil_right]
            have HLQ := Lib.hid hl
            clear hl
            rcases hcc with ⟨rfl, rfl, rfl⟩ | ⟨hc1, rfl⟩
            all_goals
              go_wp2_with fail
              go_quiet (fail)
              have HK4 := Lib.hid (HIK.out.next (bdrewN (Below.refl _ _) nq))
              generalize wr.drewN nq = w3 at *
              have C1 := Lib.hid (fun c => CM.out _ c xa _ cb xb w3 (HAD.out.next HK4.out.bel) (H2.out.next HK4.out.bel) HX9.out.1 HX9.out.2.2)
              rw [HN.out, HM.out] at C1
              go_wp2_with fail
              refine (C1.out _).mono ?_
              rintro e w5 ⟨rfl, hb5⟩
              have HK5 := Lib.hid (HK4.out.next hb5)
              have C2 := Lib.hid (fun c => CM.out _ c (x :: xa) _ cb xb w5 (H1.out.next HK5.out.bel) (H2.out.next HK5.out.bel) HX9.out.2.1 HX9.out.2.2)
              rw [List.length_cons, HN.out, HM.out] at C2
              clear hb5 C1 HK4
              go_wp2_with fail
              refine (C2.out _).mono ?_
              rintro e w6 ⟨rfl, hb6⟩
              have HK6 := Lib.hid (HK5.out.next hb6)
              clear hb6 C2 HK5 HIK
              have hl := HLQ.out
              have HK2 : Hid (kinds la lb = (done ++ [2]) ++ kinds xa xb) := Lib.hid (by rw [HKD.out, HNS.out, if_pos hl, List.append_assoc]; rfl)
              obtain ⟨c1, hc1'⟩ : ∃ c1, lcs xa xb = c1 := ⟨_, rfl⟩
              obtain ⟨c2', hc2'⟩ : ∃ c2', lcs (x :: xa) xb = c2' := ⟨_, rfl⟩
              have HQ1 : c1 = c2' := by rw [← hc1', ← hc2']; exact hl
              rw [hc1', hc2']
              subst HQ1
              clear hc1' hc2' hl HNS HKD
              have HL : Hid (intsN (done ++ [2]) = intsN done ++ [((2 : Nat) : Int)]) := Lib.hid (intsN_snoc done 2)
              obtain ⟨L, hL⟩ : ∃ L, intsN done = L := ⟨_, rfl⟩
              rw [hL] at hdl HK6 HL
              clear hL
              have hsz := HK6.out.bel.size
              have HROW := Lib.hid (HK6.out.row)
              go_wp2_with (at_builtin; refine wpList_append_lies _ rfl _ _ 28 rfl w.heap.size 3 i0 _ 1 8 Try.underlying28 HI.out.1 HI.out.2.1 HI.out.2.2.1 HI.out.2.2.2 rfl (by decide) _ L.length (flatC ic L) rfl (HROW.out.alloc _) ⟨w6.heap.size, 0, none⟩ 1 1 [.int .i64 ((2 : Nat) : Int)] rfl rfl (cell_one_new _ _ _) (by simp [Value.oneCell']) (by omega) (by unfold maxLen; omega) (by omega) (by simp; omega) _ rfl ?_; intro g1 cap1 w4 hown1 hgrow1 _ _)
              have HIK2 : Hid (IK w (intsN (done ++ [2])) (.slice (some ⟨g1, 0, none⟩) (L.length + 1) cap1) w4) := Lib.hid ⟨by rw [HL.out, List.length_append, flatC_append]; exact hown1, bgrow (balloc HK6.out.bel _) (HROW.out.alloc _) hgrow1⟩
              clear hown1 hgrow1
              go_roundw
              case rel => exact ⟨_, _, _, _, _, _, rfl, rfl, by omega, by omega, Lib.hid ⟨⟨xa, xb, _, HN.out, HM.out, HAD.out, H2.out, HK2.out, HIK2.out⟩, by omega, by omega⟩⟩
              case measure => simp [lenV]
          · rcases hcc with ⟨rfl, rfl, rfl⟩ | ⟨hc1, rfl⟩
            all_goals
              go_wp2_with fail
              go_quiet (fail)
              have HK4 := Lib.hid (HIK.out.next (bdrewN (Below.refl _ _) nq))
              generalize wr.drewN nq = w3 at *
              have C1 := Lib.hid (fun c => CM.out _ c xa _ cb xb w3 (HAD.out.next HK4.out.bel) (H2.out.next HK4.out.bel) HX9.out.1 HX9.out.2.2)
              rw [HN.out, HM.out] at C1
              go_wp2_with fail
              refine (C1.out _).mono ?_
              rintro e w5 ⟨rfl, hb5⟩
              have HK5 := Lib.hid (HK4.out.next hb5)
              have C2 := Lib.hid (fun c => CM.out _ c (x :: xa) _ cb xb w5 (H1.out.next HK5.out.bel) (H2.out.next HK5.out.bel) HX9.out.2.1 HX9.out.2.2)
              rw [List.length_cons, HN.out, HM.out] at C2
              clear hb5 C1 HK4
              go_wp2_with fail
              refine (C2.out _).mono ?_
              rintro e w6 ⟨rfl, hb6⟩
              have HK6 := Lib.hid (HK5.out.next hb6)
              clear hb6 C2 HK5 HIK
              by_cases hl : lcs xa xb = lcs (x :: xa) xb
              · have HK2 : Hid (kinds la lb = (done ++ [2]) ++ kinds xa xb) := Lib.hid (by rw [HKD.out, HNS.out, if_pos hl, List.append_assoc]; rfl)
                obtain ⟨c1, hc1'⟩ : ∃ c1, lcs xa xb = c1 := ⟨_, rfl⟩
                obtain ⟨c2', hc2'⟩ : ∃ c2', lcs (x :: xa) xb = c2' := ⟨_, rfl⟩
                have HQ1 : c1 = c2' := by rw [← hc1', ← hc2']; exact hl
                rw [hc1', hc2']
                subst HQ1
                clear hc1' hc2' hl HNS HKD
                have HL : Hid (intsN (done ++ [2]) = intsN done ++ [((2 : Nat) : Int)]) := Lib.hid (intsN_snoc done 2)
                obtain ⟨L, hL⟩ : ∃ L, intsN done = L := ⟨_, rfl⟩
                rw [hL] at hdl HK6 HL
                clear hL
                have hsz := HK6.out.bel.size
                have HROW := Lib.hid (HK6.out.row)
                go_wp2_with (at_builtin; refine wpList_append_lies _ rfl _ _ 28 rfl w.heap.size 3 i0 _ 1 8 Try.underlying28 HI.out.1 HI.out.2.1 HI.out.2.2.1 HI.out.2.2.2 rfl (by decide) _ L.length (flatC ic L) rfl (HROW.out.alloc _) ⟨w6.heap.size, 0, none⟩ 1 1 [.int .i64 ((2 : Nat) : Int)] rfl rfl (cell_one_new _ _ _) (by simp [Value.oneCell']) (by omega) (by unfold maxLen; omega) (by omega) (by simp; omega) _ rfl ?_; intro g1 cap1 w4 hown1 hgrow1 _ _)
                have HIK2 : Hid (IK w (intsN (done ++ [2])) (.slice (some ⟨g1, 0, none⟩) (L.length + 1) cap1) w4) := Lib.hid ⟨by rw [HL.out, List.length_append, flatC_append]; exact hown1, bgrow (balloc HK6.out.bel _) (HROW.out.alloc _) hgrow1⟩
                clear hown1 hgrow1
                go_roundw
                case rel => exact ⟨_, _, _, _, _, _, rfl, rfl, by omega, by omega, Lib.hid ⟨⟨xa, xb, _, HN.out, HM.out, HAD.out, H2.out, HK2.out, HIK2.out⟩, by omega, by omega⟩⟩
                case measure => simp [lenV]
              · have HK2 : Hid (kinds la lb = (done ++ [3]) ++ kinds (x :: xa) (xb.drop 1)) := Lib.hid (by rw [HKD.out, HNS.out, if_neg hl, List.append_assoc]; rfl)
                have q1 : ¬ ((lcs xa xb : Nat) : Int) = ((lcs (x :: xa) xb : Nat) : Int) := fun h => hl (by omega)
                have HBT : Hid (StAt w (if cb = 1 then some ⟨g2, off2, none⟩ else some ⟨g2, off2 + 1, none⟩) (xb.drop 1) ∧ (xb.drop 1).length = m') := Lib.hid (by
                  have h2 := H2.out
                  have hm2 := HM.out
                  cases xb with
                  | nil => simp at hm2
                  | cons y xb =>
                    have e : xb.length = m' := by simpa using hm2
                    exact ⟨tail_at h2 (by show xb.length + 1 ≤ cb; omega), by simpa using e⟩)
                obtain ⟨c1, hc1'⟩ : ∃ c1, lcs xa xb = c1 := ⟨_, rfl⟩
                obtain ⟨c2', hc2'⟩ : ∃ c2', lcs (x :: xa) xb = c2' := ⟨_, rfl⟩
                rw [hc1', hc2'] at q1 ⊢
                clear hc1' hc2' hl HNS HKD
                have HL : Hid (intsN (done ++ [3]) = intsN done ++ [((3 : Nat) : Int)]) := Lib.hid (intsN_snoc done 3)
                obtain ⟨L, hL⟩ : ∃ L, intsN done = L := ⟨_, rfl⟩
                rw [hL] at hdl HK6 HL
                clear hL
                have hsz := HK6.out.bel.size
                have HROW := Lib.hid (HK6.out.row)
                go_wp2_with (at_builtin; refine wpList_append_lies _ rfl _ _ 28 rfl w.heap.size 3 i0 _ 1 8 Try.underlying28 HI.out.1 HI.out.2.1 HI.out.2.2.1 HI.out.2.2.2 rfl (by decide) _ L.length (flatC ic L) rfl (HROW.out.alloc _) ⟨w6.heap.size, 0, none⟩ 1 1 [.int .i64 ((3 : Nat) : Int)] rfl rfl (cell_one_new _ _ _) (by simp [Value.oneCell']) (by omega) (by unfold maxLen; omega) (by omega) (by simp; omega) _ rfl ?_; intro g1 cap1 w4 hown1 hgrow1 _ _)
                have HIK2 : Hid (IK w (intsN (done ++ [3])) (.slice (some ⟨g1, 0, none⟩) (L.length + 1) cap1) w4) := Lib.hid ⟨by rw [HL.out, List.length_append, flatC_append]; exact hown1, bgrow (balloc HK6.out.bel _) (HROW.out.alloc _) hgrow1⟩
                clear hown1 hgrow1
                have HNX := Lib.hid (show (x :: xa).length = xa.length + 1 from rfl)
                rw [HN.out] at HNX
                go_roundw
                case rel => exact ⟨_, _, _, _, _, _, rfl, rfl, by omega, by omega, Lib.hid ⟨⟨x :: xa, xb.drop 1, _, HNX.out, HBT.out.2, H1.out, HBT.out.1, HK2.out, HIK2.out⟩, by omega, by omega⟩⟩
                case measure => simp [lenV]
theorem diffSteps (x y : Sv) (w : World) (hx : x.has w) (hy : y.has w) (hox : okL x.l) (hoy : okL y.l) (hcx : x.l.length ≤ x.cap) (hcy : y.l.length ≤ y.cap) : Calls Try.prog 38 #[.slice x.a x.l.length x.cap, .slice y.a y.l.length y.cap] w (SpPost (comb (kinds x.l y.l)) 0 w) := by
  refine (diffStepsO x y w hx hy hox hoy hcx hcy).mono ?_
  rintro e w' ⟨v, rfl, h⟩
  exact ⟨v, rfl, h.sl pc_len, h.bel⟩
end Go.Proofs.Ytokfnajgjhkepaa.DiffR
