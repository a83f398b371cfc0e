/-
  The document: Merged.
-/
import Derived.Test.YtokfnajgjhkepaaRefTouched
import Derived.Test.YtokfnajgjhkepaaRefMake1
import Derived.Test.YtokfnajgjhkepaaBnd1
import Derived.Test.YtokfnajgjhkepaaMergeLen
import Derived.Test.YtokfnajgjhkepaaBnd3
import Derived.BigQuiet
import Derived.Deep.CutBlock
namespace Go.Proofs.Ytokfnajgjhkepaa.MergeT
open Go.RowKit Kit LineM StrM DiffM DiffA DiffR DiffP DiffK

def mk1 : ByteArray := ⟨#[60, 60, 60, 60, 60, 60, 60]⟩
def mk2 : ByteArray := ⟨#[61, 61, 61, 61, 61, 61, 61]⟩
def mk3 : ByteArray := ⟨#[62, 62, 62, 62, 62, 62, 62]⟩
/-- lines, a number and a code -/
def MgPost (R : List ByteArray × Nat) (c : Int) (w : World) (e : Ending) (w' : World) : Prop := ∃ v, e = .returned (.tuple #[v, .int .i64 (R.2 : Int), .int .i64 c]) ∧ SlV 1 sc w' v R.1 ∧ Below w.heap.size w w'
/-- .. and they are not too many -/
def MrPost (R : List ByteArray × Nat) (c : Int) (w : World) (e : Ending) (w' : World) : Prop := MgPost R c w e w' ∧ R.1.length ≤ 100000
/-- three lists, as a call with three arguments hands them over -/
theorem three_at (w : World) (x y z : Sv) (t : TypeId) : SlAt 1 svc (w.alloc (.cells #[.slice x.a x.l.length x.cap, .slice y.a y.l.length y.cap, .slice z.a z.l.length z.cap] t)) (some ⟨w.heap.size, 0, none⟩) [x, y, z] := by
  refine ⟨fun i s hi => ⟨w.heap.size, 0, rfl, by simp, fun j hj => ?_⟩⟩
  obtain rfl : j = 0 := by omega
  match i, hi with
  | 0, hi => simp at hi; subst hi; simp [svc]
  | 1, hi => simp at hi; subst hi; simp [svc]
  | 2, hi => simp at hi; subst hi; simp [svc]
theorem mem_three {x y z s : Sv} (h : s ∈ [x, y, z]) : s = x ∨ s = y ∨ s = z := by simpa using h
theorem fault_three (x y z : Sv) (w : World) (hx : x.has w) (hy : y.has w) (hz : z.has w) (t : TypeId) : Calls Try.prog 26 #[.slice (some ⟨w.heap.size, 0, none⟩) 3 3] (w.alloc (.cells #[.slice x.a x.l.length x.cap, .slice y.a y.l.length y.cap, .slice z.a z.l.length z.cap] t)) (LfPost (lf [x, y, z]) (w.alloc (.cells #[.slice x.a x.l.length x.cap, .slice y.a y.l.length y.cap, .slice z.a z.l.length z.cap] t))) :=
  linesFault _ 3 [x, y, z] _ (three_at w x y z t) (fun s hs => by
    have hb := balloc (Below.refl w.heap.size w) (.cells #[.slice x.a x.l.length x.cap, .slice y.a y.l.length y.cap, .slice z.a z.l.length z.cap] t)
    rcases mem_three hs with rfl | rfl | rfl
    · exact SlAt.next hx hb
    · exact SlAt.next hy hb
    · exact SlAt.next hz hb) (by simp)
theorem lf_three {x y z : Sv} (hx : okL x.l) (hy : okL y.l) (hz : okL z.l) : lf [x, y, z] = 0 := lf_ok (fun s hs => by
  rcases mem_three hs with rfl | rfl | rfl
  · exact hx
  · exact hy
  · exact hz)
set_option maxRecDepth 100000 in
set_option maxHeartbeats 1000000 in
theorem merged_no (x y z : Sv) (w : World) (hx : x.has w) (hy : y.has w) (hz : z.has w) (h : lf [x, y, z] = 1) : Calls Try.prog 9 #[.slice x.a x.l.length x.cap, .slice y.a y.l.length y.cap, .slice z.a z.l.length z.cap] w (MgPost ([], 0) 1 w) := by
  have hb0 := balloc (Below.refl w.heap.size w) (.cells #[.slice x.a x.l.length x.cap] 22)
  have F := Lib.hid (fault_three x y z (w.alloc (.cells #[.slice x.a x.l.length x.cap] 22)) (SlAt.next hx hb0) (SlAt.next hy hb0) (SlAt.next hz hb0) 22)
  rw [h, show (w.alloc (.cells #[.slice x.a x.l.length x.cap] 22)).heap.size = w.heap.size + 1 by simp] at F
  clear h hx hy hz hb0
  generalize x.l.length = n at *
  generalize y.l.length = m at *
  generalize z.l.length = k at *
  go_enter Try.func9, Try.ntmps9
  go_wp2_with fail
  refine F.out.mono ?_
  rintro e w1 ⟨rfl, rfl⟩
  go_wp2_with fail
  go_ret3
  exact ⟨_, rfl, SlV.nil _, balloc (balloc (Below.refl _ _) _) _⟩
/-- the comparison of two lists, so far -/
def SameTo (X Y : List ByteArray) (nx ny : Nat) (b : Bool) (k : Nat) : Prop := (b = true → nx = ny ∧ X.take k = Y.take k) ∧ (b = false → X ≠ Y)
/-- where the merging stands: what is out, what is still to come -/
structure Mg (R : List ByteArray × Nat) (base : List ByteArray) (A B : TS ByteArray) (w6 : World) (i c : Nat) (vo : Value) (W : World) : Prop where
  is : ∃ out : List ByteArray, SK w6 out vo W ∧ out.length ≤ 500 * i ∧ out ++ (mtail mk1 mk2 mk3 base A B i).1 = R.1 ∧ c + (mtail mk1 mk2 mk3 base A B i).2 = R.2
  le : c ≤ i
theorem or_zero {g : Nat → Bool} {i : Nat} : false = true ↔ ∃ j, i ≤ j ∧ j < i ∧ g j = true := ⟨fun h => (by cases h), fun ⟨j, h1, h2, _⟩ => (by omega)⟩
theorem or_next {g : Nat → Bool} {b : Bool} {i k : Nat} (hik : i ≤ k) (h : b = true ↔ ∃ j, i ≤ j ∧ j < k ∧ g j = true) : (b || g k) = true ↔ ∃ j, i ≤ j ∧ j < k + 1 ∧ g j = true := by
  rw [Bool.or_eq_true, h]
  constructor
  · rintro (⟨j, h1, h2, h3⟩ | h1)
    · exact ⟨j, h1, by omega, h3⟩
    · exact ⟨k, hik, by omega, h1⟩
  · rintro ⟨j, h1, h2, h3⟩
    by_cases e : j = k
    · exact .inr (by rw [← e]; exact h3)
    · exact .inl ⟨j, h1, by omega, h3⟩
set_option maxRecDepth 100000 in
set_option maxHeartbeats 16000000 in
theorem mergedR (x y z : Sv) (w : World) (hx : x.has w) (hy : y.has w) (hz : z.has w) (hox : okL x.l) (hoy : okL y.l) (hoz : okL z.l) (hcx : x.l.length ≤ x.cap) (hcy : y.l.length ≤ y.cap) (hcz : z.l.length ≤ z.cap) : Calls Try.prog 9 #[.slice x.a x.l.length x.cap, .slice y.a y.l.length y.cap, .slice z.a z.l.length z.cap] w (MrPost (mrg mk1 mk2 mk3 x.l y.l z.l) 0 w) := by
  have hb0 := balloc (Below.refl w.heap.size w) (.cells #[.slice x.a x.l.length x.cap] 22)
  have F := Lib.hid (fault_three x y z (w.alloc (.cells #[.slice x.a x.l.length x.cap] 22)) (SlAt.next hx hb0) (SlAt.next hy hb0) (SlAt.next hz hb0) 22)
  rw [lf_three hox hoy hoz, show (w.alloc (.cells #[.slice x.a x.l.length x.cap] 22)).heap.size = w.heap.size + 1 by simp] at F
  have TA := Lib.hid (fun W (hW : Below w.heap.size w W) => touched x y W (SlAt.next hx hW) (SlAt.next hy hW) hox hoy hcx hcy)
  have TB := Lib.hid (fun W (hW : Below w.heap.size w W) => touched x z W (SlAt.next hx hW) (SlAt.next hz hW) hox hoz hcx hcz)
  have HB : Hid (StAt w x.a x.l) := Lib.hid hx
  have B0 : Hid (Below w.heap.size w ((w.alloc (.cells #[.slice x.a x.l.length x.cap] 22)).alloc (.cells #[.slice x.a x.l.length x.cap, .slice y.a y.l.length y.cap, .slice z.a z.l.length z.cap] 22))) := Lib.hid (balloc hb0 _)
  have C0 : Hid (((w.alloc (.cells #[.slice x.a x.l.length x.cap] 22)).alloc (.cells #[.slice x.a x.l.length x.cap, .slice y.a y.l.length y.cap, .slice z.a z.l.length z.cap] 22)).cell? ⟨w.heap.size, 0, none⟩ = some (.slice x.a x.l.length x.cap)) := Lib.hid (by
    have h0 : (w.alloc (.cells #[.slice x.a x.l.length x.cap] 22)).cell? ⟨w.heap.size, 0, none⟩ = some (.slice x.a x.l.length x.cap) := by rw [cells_new]; rfl
    exact keep (balloc (Below.refl _ _) _) (block_lt h0) h0)
  have hn8 := hox.1
  have HLB : Hid (y.l.length ≤ 80) := Lib.hid hoy.1
  have HLC : Hid (z.l.length ≤ 80) := Lib.hid hoz.1
  clear hb0 hx hy hz hox hoy hoz hcx hcy hcz
  generalize x.l = la at *
  generalize y.l = lb at *
  generalize z.l = lc at *
  generalize x.a = aa at *
  generalize y.a = ab at *
  generalize z.a = ac at *
  generalize x.cap = ca at *
  generalize y.cap = cb at *
  generalize z.cap = cc at *
  obtain ⟨n, hn⟩ : ∃ n, la.length = n := ⟨_, rfl⟩
  have HN := Lib.hid hn
  rw [hn] at hn8 F TA TB B0 C0 ⊢
  clear hn
  go_enter Try.func9, Try.ntmps9
  go_wp2_with fail
  refine F.out.mono ?_
  rintro e w1 ⟨rfl, rfl⟩
  generalize ((w.alloc (.cells #[.slice aa n ca] 22)).alloc (.cells #[.slice aa n ca, .slice ab lb.length cb, .slice ac lc.length cc] 22)) = w1 at *
  obtain ⟨bx, hbx⟩ : ∃ bx, w.heap.size = bx := ⟨_, rfl⟩
  rw [hbx] at C0 ⊢
  have c0 := C0.out
  have c0l := block_lt c0
  clear hbx F
  go_wp2_with fail
  refine (TA.out _ B0.out).mono ?_
  rintro e w2 ⟨ga, oa, pa, vsa, rfl, htA⟩
  have HA := Lib.hid htA
  have B2 := Lib.hid (bstep B0.out htA.bel)
  have C2 := Lib.hid (keep htA.bel c0l c0)
  have c2 := C2.out
  have c2l := block_lt c2
  clear htA TA c0 c0l
  go_wp2_with fail
  refine (TB.out _ B2.out).mono ?_
  rintro e w6 ⟨gb, ob, pb, vsb, rfl, htB⟩
  have HA6 := Lib.hid (HA.out.next htB.bel)
  have HB6 := Lib.hid htB
  have B6 := Lib.hid (bstep B2.out htB.bel)
  have C6 := Lib.hid (keep htB.bel c2l c2)
  have hbl6 := block_lt C6.out
  clear htB TB c2 c2l HA C2 B2 B0 C0
  have MDA := Lib.hid (fun lo hi h1 h2 W (hW : Below w6.heap.size w6 W) => make1 _ W ga oa pa n bx lo hi (marks la lb) vsa aa ca la (HA6.out.next hW) (by rw [HN.out]; exact keep hW hbl6 C6.out) (SlAt.next HB.out (bstep B6.out hW)) HN.out h1 (by rw [← HN.out]; exact h2) hn8 (fun i => sofar_len HLB.out h1 h2))
  have MDB := Lib.hid (fun lo hi h1 h2 W (hW : Below w6.heap.size w6 W) => make1 _ W gb ob pb n bx lo hi (marks la lc) vsb aa ca la (HB6.out.next hW) (by rw [HN.out]; exact keep hW hbl6 C6.out) (SlAt.next HB.out (bstep B6.out hW)) HN.out h1 (by rw [← HN.out]; exact h2) hn8 (fun i => sofar_len HLC.out h1 h2))
  have MLA := Lib.hid (fun lo hi h1 h2 => made_len (la := la) (b := lb) (lo := lo) (hi := hi) HLB.out h1 h2)
  have MLB := Lib.hid (fun lo hi h1 h2 => made_len (la := la) (b := lc) (lo := lo) (hi := hi) HLC.out h1 h2)
  have hgaA := Lib.hid (And.intro HA6.out.gap HA6.out.gone)
  have hgaB := Lib.hid (And.intro HB6.out.gap HB6.out.gone)
  have S0 : Hid (Mg (mrg mk1 mk2 mk3 la lb lc) la (marks la lb) (marks la lc) w6 0 0 (.slice none 0 0) w6) := Lib.hid ⟨⟨[], SK.nil (Below.refl _ _), by simp, rfl, by unfold mrg; rw [Nat.zero_add]⟩, Nat.le_refl _⟩
  rw [HN.out] at MDA MDB MLA MLB
  clear HA6 HB6 HLB HLC
  generalize mrg mk1 mk2 mk3 la lb lc = R at *
  generalize marks la lb = A at *
  generalize marks la lc = B at *
  go_wp2_with fail
  go_loopw [17, 18, 19] (fun vo vc vi wr => ∃ i c : Nat, i ≤ n + 1 ∧ c ≤ i ∧ vc = .int .i64 (c : Int) ∧ vi = .int .i64 (i : Int) ∧ Hid (Mg R la A B w6 i c vo wr)) (fun _ _ vi _ => n + 1 - (intOf vi).toNat)
  case atStart => exact ⟨0, 0, by omega, by omega, rfl, rfl, S0⟩
  case round =>
    obtain ⟨i, c, hin1, hci, rfl, rfl, HM⟩ := hrel
    clear S0
    obtain ⟨out, hsk, hol, hR1, hR2⟩ := HM.out.is
    have HS := Lib.hid hsk
    have HR1 := Lib.hid hR1
    have HR2 := Lib.hid hR2
    have b6 := keep hsk.bel hbl6 C6.out
    have b6l := block_lt b6
    clear HM hsk hR1 hR2
    by_cases hin : i ≤ n
    · have u0 : (i : Int) ≤ (n : Int) := by omega
      have u1 : (0 : Int) ≤ (i : Int) := by omega
      have u2 : (i : Int) < ((n + 1 : Nat) : Int) := by omega
      have u3 : (i : Int) < (n : Int) + 1 := by omega
      have ri : IntKind.i64.wrap ((i : Int) + 1) = (i : Int) + 1 := IntWalk.i64_in _ (by omega)
      have gA := keep HS.out.bel hgaA.out.1.lt (hgaA.out.1.cell i (by omega))
      have gAl := block_lt gA
      have gB := keep HS.out.bel hgaB.out.1.lt (hgaB.out.1.cell i (by omega))
      have gBl := block_lt gB
      by_cases hg : A.gap i = false ∧ B.gap i = false
      · rw [hg.1] at gA
        rw [hg.2] at gB
        have hoff := mtail_off (m1 := mk1) (m2 := mk2) (m3 := mk3) (base := la) (A := A) (B := B) (i := i) (by rw [HN.out]; exact hin) hg
        rw [hoff] at HR1 HR2
        clear hoff hg
        by_cases hi1 : i < n
        · obtain ⟨xl, hxl⟩ : ∃ xl, la[i]? = some xl := ⟨la[i]'(by have := HN.out; omega), List.getElem?_eq_getElem _⟩
          rw [hxl] at HR1
          obtain ⟨g2, off2, rfl, hg2, c2⟩ := StAt.get (SlAt.next HB.out (bstep B6.out HS.out.bel)) hxl
          have u4 : (i : Int) < (n : Int) := by omega
          have HSL := Lib.hid (HS.out.next (balloc (Below.refl _ _) (.cells #[.string xl] 9)))
          clear hxl
          go_wp2_with (at_builtin; refine wpList_appendSK w6 _ rfl _ _ rfl _ out rfl HSL.out _ [xl] rfl (lit_one wr xl) (by simp; omega) ?_; intro v5 w5 hv5; have HS5 := Lib.hid hv5; clear hv5)
          go_roundw
          case rel => exact ⟨i + 1, c, by omega, by omega, rfl, by first | rfl | go_num, Lib.hid ⟨⟨_, HS5.out, by simp; omega, by rw [← HR1.out]; simp, HR2.out⟩, by omega⟩⟩
          case measure => simp only [intOf]; omega
        · have u4 : ¬ (i : Int) < (n : Int) := by omega
          have hno : la[i]? = none := List.getElem?_eq_none (by have := HN.out; omega)
          rw [hno] at HR1
          clear hno
          go_wp2_with fail
          go_roundw
          case rel => exact ⟨i + 1, c, by omega, by omega, rfl, by first | rfl | go_num, Lib.hid ⟨⟨_, HS.out, by omega, by rw [← HR1.out]; simp, HR2.out⟩, by omega⟩⟩
          case measure => simp only [intOf]; omega
      · have hor := gap_or hg
        have hon := mtail_on (m1 := mk1) (m2 := mk2) (m3 := mk3) (base := la) (A := A) (B := B) (i := i) (by rw [HN.out]; exact hin) hg
        have hsp := reach_spec (both A B) n _ i (Nat.le_refl _) hin
        rw [hon] at HR1 HR2
        rw [HN.out] at HR1 HR2
        have HOR := Lib.hid hor
        clear hon hg
        obtain ⟨hh, hhh⟩ : ∃ hh, reach (both A B) n i = hh := ⟨_, rfl⟩
        rw [hhh] at hsp HR1 HR2
        have HRE := Lib.hid hhh
        obtain ⟨hs1, hs2, hs3, hs4⟩ := hsp
        have HS4 := Lib.hid hs4
        clear hhh hs3 hs4
        go_upto_region 12 with fail
        go_cut [68] from 57 to 68 (fun t wx => t = .bool false ∧ wr = wx)
        case first =>
          cases hA : A.gap i with
          | true =>
            rw [hA] at gA
            clear hA
            go_wp2_with fail
            go_meet
            exact ⟨rfl, rfl⟩
          | false =>
            have hB : B.gap i = true := hor.resolve_left (by rw [hA]; simp)
            rw [hA] at gA
            rw [hB] at gB
            clear hA hB
            go_wp2_with fail
            go_meet
            exact ⟨rfl, rfl⟩
        case rest =>
          obtain ⟨rfl, rfl⟩ := hcut
          clear hor gA gB gAl gBl
          go_upto_block 2 with fail
          obtain ⟨wq, rfl⟩ : ∃ wq, wq = wr := ⟨_, rfl⟩
          go_cut [20] from 81 to 98 (fun t wx => t = .int .i64 (hh : Int) ∧ wq = wx)
          case first =>
            go_wp2_with fail
            go_loopw [20] (fun vh wx => ∃ h : Nat, i ≤ h ∧ h ≤ n ∧ vh = .int .i64 (h : Int) ∧ Hid (reach (both A B) n h = hh) ∧ wq = wx) (fun vh _ => n - (intOf vh).toNat)
            case atStart => exact ⟨i, Nat.le_refl _, hin, rfl, HRE, rfl⟩
            case round =>
              obtain ⟨h, hih, hhn, rfl, HH, rfl⟩ := hrel
              by_cases hlt : h < n
              · have g0 := keep HS.out.bel hgaA.out.2.lt (hgaA.out.2.cell h hlt)
                have g0l := block_lt g0
                have g1 := keep HS.out.bel hgaB.out.2.lt (hgaB.out.2.cell h hlt)
                have g1l := block_lt g1
                have v0 : (h : Int) < (n : Int) := by omega
                have v1 : (0 : Int) ≤ (h : Int) := by omega
                have rh : IntKind.i64.wrap ((h : Int) + 1) = (h : Int) + 1 := IntWalk.i64_in _ (by omega)
                cases hA : A.gone h with
                | true =>
                  have HH2 : Hid (reach (both A B) n (h + 1) = hh) := Lib.hid (by rw [← reach_go hlt (by unfold both; rw [hA]; rfl)]; exact HH.out)
                  rw [hA] at g0
                  clear hA
                  go_wp2_with fail
                  go_roundw
                  case rel => exact ⟨h + 1, by omega, by omega, by first | rfl | go_num, HH2, by first | rfl | trivial⟩
                  case measure => simp only [intOf]; omega
                | false =>
                  cases hB : B.gone h with
                  | true =>
                    have HH2 : Hid (reach (both A B) n (h + 1) = hh) := Lib.hid (by rw [← reach_go hlt (by unfold both; rw [hA, hB]; rfl)]; exact HH.out)
                    rw [hA] at g0
                    rw [hB] at g1
                    clear hA hB
                    go_wp2_with fail
                    go_roundw
                    case rel => exact ⟨h + 1, by omega, by omega, by first | rfl | go_num, HH2, by first | rfl | trivial⟩
                    case measure => simp only [intOf]; omega
                  | false =>
                    have he : Hid (hh = h) := Lib.hid (by rw [← HH.out]; exact reach_at (fun hz => by have := hz.2; unfold both at this; rw [hA, hB] at this; cases this))
                    rw [hA] at g0
                    rw [hB] at g1
                    clear hA hB
                    go_wp2_with fail
                    go_meet
                    exact ⟨by rw [he.out], rfl⟩
              · have v0 : ¬ (h : Int) < (n : Int) := by omega
                have he : Hid (hh = h) := Lib.hid (by rw [← HH.out]; exact reach_at (fun hz => hlt hz.1))
                go_wp2_with fail
                go_meet
                exact ⟨by rw [he.out], rfl⟩
          case rest =>
            obtain ⟨rfl, rfl⟩ := hcut
            clear HRE
            go_wp2_with fail
            go_loopw [21, 22, 23] (fun va vb vk wx => ∃ (ba bb : Bool) (k : Nat), i ≤ k ∧ k ≤ hh + 1 ∧ va = .bool ba ∧ vb = .bool bb ∧ vk = .int .i64 (k : Int) ∧ Hid ((ba = true ↔ ∃ j, i ≤ j ∧ j < k ∧ A.gap j = true) ∧ (bb = true ↔ ∃ j, i ≤ j ∧ j < k ∧ B.gap j = true)) ∧ wq = wx) (fun _ _ vk _ => hh + 1 - (intOf vk).toNat)
            case atStart => exact ⟨false, false, i, Nat.le_refl _, by omega, rfl, rfl, rfl, Lib.hid ⟨or_zero, or_zero⟩, rfl⟩
            case round =>
              obtain ⟨ba, bb, k, hik, hkh, rfl, rfl, rfl, HU, rfl⟩ := hrel
              by_cases hlt : k ≤ hh
              · have g0 := keep HS.out.bel hgaA.out.1.lt (hgaA.out.1.cell k (by omega))
                have g0l := block_lt g0
                have g1 := keep HS.out.bel hgaB.out.1.lt (hgaB.out.1.cell k (by omega))
                have g1l := block_lt g1
                have v0 : (k : Int) ≤ (hh : Int) := by omega
                have v1 : (0 : Int) ≤ (k : Int) := by omega
                have v2 : (k : Int) < (n : Int) + 1 := by omega
                have v3 : (k : Int) < ((n + 1 : Nat) : Int) := by omega
                have rh : IntKind.i64.wrap ((k : Int) + 1) = (k : Int) + 1 := IntWalk.i64_in _ (by omega)
                have HU2 : Hid (((ba || A.gap k) = true ↔ ∃ j, i ≤ j ∧ j < k + 1 ∧ A.gap j = true) ∧ ((bb || B.gap k) = true ↔ ∃ j, i ≤ j ∧ j < k + 1 ∧ B.gap j = true)) := Lib.hid ⟨or_next hik HU.out.1, or_next hik HU.out.2⟩
                clear HU
                generalize A.gap k = ak at *
                generalize B.gap k = bk at *
                cases ba <;> cases bb
                all_goals
                  go_wp2_with fail
                  go_roundw
                  case rel => exact ⟨_, _, k + 1, by omega, by omega, rfl, rfl, by first | rfl | go_num, HU2, by first | rfl | trivial⟩
                  case measure => simp only [intOf]; omega
              · have v0 : ¬ (k : Int) ≤ (hh : Int) := by omega
                have hke : k = hh + 1 := by omega
                have HUA : Hid ((ba = true ↔ uses A.gap i hh) ∧ (bb = true ↔ uses B.gap i hh)) := Lib.hid (by
                  have h := HU.out
                  rw [hke] at h
                  exact ⟨h.1.trans ⟨fun ⟨j, h1, h2, h3⟩ => ⟨j, h1, by omega, h3⟩, fun ⟨j, h1, h2, h3⟩ => ⟨j, h1, by omega, h3⟩⟩, h.2.trans ⟨fun ⟨j, h1, h2, h3⟩ => ⟨j, h1, by omega, h3⟩, fun ⟨j, h1, h2, h3⟩ => ⟨j, h1, by omega, h3⟩⟩⟩)
                clear HU hke
                go_wp2_with fail
                refine (MDA.out i hh hs1 hs2 wq HS.out.bel).mono ?_
                rintro e w7 ⟨vx, rfl, hx7⟩
                have HX7 := Lib.hid hx7
                have B7 := Lib.hid (bstep HS.out.bel hx7.bel)
                have BQ7 := Lib.hid hx7.bel
                clear hx7
                go_wp2_with fail
                refine (MDB.out i hh hs1 hs2 w7 B7.out).mono ?_
                rintro e w8 ⟨vy, rfl, hy8⟩
                have HX8 := Lib.hid (HX7.out.next hy8.bel)
                have HY8 := Lib.hid hy8
                have HS8 := Lib.hid (HS.out.next (bstep HX7.out.bel hy8.bel))
                have hxl := MLA.out i hh hs1 hs2
                have hyl := MLB.out i hh hs1 hs2
                have HRG : Hid (region mk1 mk2 mk3 la A B i hh = pick mk1 mk2 mk3 (uses A.gap i hh) (uses B.gap i hh) (made la A.gone A.puts i hh) (made la B.gone B.puts i hh)) := Lib.hid rfl
                clear hy8 HX7 B7 MDA MDB MLA MLB
                generalize made la A.gone A.puts i hh = X at *
                generalize made la B.gone B.puts i hh = Y at *
                obtain ⟨ax, cx, rfl, _, hsx, _⟩ := HX8.out.val
                obtain ⟨ay, cy, rfl, _, hsy, _⟩ := HY8.out.val
                have HAX := Lib.hid hsx
                have HAY := Lib.hid hsy
                obtain ⟨nx, hnx⟩ : ∃ nx, X.length = nx := ⟨_, rfl⟩
                obtain ⟨ny, hny⟩ : ∃ ny, Y.length = ny := ⟨_, rfl⟩
                have HNX := Lib.hid hnx
                have HNY := Lib.hid hny
                rw [hnx] at hxl ⊢
                rw [hny] at hyl ⊢
                rw [hnx] at HX8
                rw [hny] at HY8
                clear hsx hsy hnx hny
                go_upto_region 27 with fail
                go_cut [26] from 131 to 135 (fun t wx => ∃ b0 : Bool, t = .bool b0 ∧ (b0 = true ↔ nx = ny) ∧ w8 = wx)
                case first =>
                  go_wp2_with fail
                  go_meet
                  exact ⟨((nx : Int) == (ny : Int)), rfl, by rw [beq_iff_eq]; omega, rfl⟩
                case rest =>
                  obtain ⟨b0, rfl, hb0, rfl⟩ := hcut
                  have HB0 := Lib.hid hb0
                  clear hb0
                  go_upto_block 6 with fail
                  go_cut [26, 27] from 136 to 153 (fun t k wx => ∃ b : Bool, t = .bool b ∧ (b = true ↔ X = Y) ∧ ∃ q, w8.drewN q = wx)
                  case first =>
                    go_wp2_with fail
                    go_loopw [26, 27] (fun vs vk wx => ∃ (b : Bool) (k : Nat), k ≤ nx ∧ vs = .bool b ∧ vk = .int .i64 (k : Int) ∧ Hid (SameTo X Y nx ny b k) ∧ ∃ q, w8.drewN q = wx) (fun _ vk _ => nx - (intOf vk).toNat)
                    case atStart =>
                      refine ⟨b0, 0, Nat.zero_le _, rfl, rfl, Lib.hid ⟨fun h => ⟨HB0.out.1 h, by simp⟩, fun h e => ?_⟩, 0, rfl⟩
                      have h2 := HB0.out.2 (by rw [← HNX.out, ← HNY.out, e])
                      rw [h] at h2
                      cases h2
                    case round =>
                      obtain ⟨b, k, hkn, rfl, rfl, HE, q, rfl⟩ := hrel
                      cases b with
                      | false =>
                        have HNE := Lib.hid (HE.out.2 rfl)
                        go_wp2_with fail
                        go_meet
                        exact ⟨false, rfl, by simp [HNE.out], _, rfl⟩
                      | true =>
                        obtain ⟨hnn, htk⟩ := HE.out.1 rfl
                        have HTK := Lib.hid htk
                        by_cases hlk : k < nx
                        · obtain ⟨p, hp⟩ : ∃ p, X[k]? = some p := ⟨X[k]'(by have := HNX.out; omega), List.getElem?_eq_getElem _⟩
                          obtain ⟨r, hr⟩ : ∃ r, Y[k]? = some r := ⟨Y[k]'(by have := HNY.out; omega), List.getElem?_eq_getElem _⟩
                          obtain ⟨g1, o1, rfl, _, p1⟩ := StAt.get HAX.out hp
                          obtain ⟨g2, o2, rfl, _, p2⟩ := StAt.get HAY.out hr
                          have v0 : (k : Int) < (nx : Int) := by omega
                          have v1 : (k : Int) < (ny : Int) := by omega
                          have v2 : (0 : Int) ≤ (k : Int) := by omega
                          have rk : IntKind.i64.wrap ((k : Int) + 1) = (k : Int) + 1 := IntWalk.i64_in _ (by omega)
                          have HNN := Lib.hid hnn
                          by_cases hpr : p = r
                          · have HQ := (same_iff p r).2 hpr
                            have HE2 : Hid (SameTo X Y nx ny true (k + 1)) := Lib.hid ⟨fun _ => ⟨HNN.out, by rw [List.take_add_one, List.take_add_one, hp, hr, HTK.out, hpr]⟩, fun h => (by cases h)⟩
                            clear HE HTK hnn htk hp hr hpr
                            go_wp2_with fail
                            go_quiet (fail)
                            go_wp2_with fail
                            go_roundw
                            case rel => exact ⟨true, k + 1, by omega, rfl, by first | rfl | go_num, HE2, _, rfl⟩
                            case measure => simp only [intOf]; omega
                          · have HQ := same_not hpr
                            have HE2 : Hid (SameTo X Y nx ny false (k + 1)) := Lib.hid ⟨fun h => (by cases h), fun _ e => by rw [e, hr] at hp; exact hpr (Option.some.inj hp).symm⟩
                            clear HE HTK hnn htk hp hr hpr
                            go_wp2_with fail
                            go_quiet (fail)
                            go_wp2_with fail
                            go_roundw
                            case rel => exact ⟨false, k + 1, by omega, rfl, by first | rfl | go_num, HE2, _, rfl⟩
                            case measure => simp only [intOf]; omega
                        · have v0 : ¬ (k : Int) < (nx : Int) := by omega
                          have HEQ : Hid (X = Y) := Lib.hid (by
                            have h := HTK.out
                            rwa [List.take_of_length_le (by have := HNX.out; omega), List.take_of_length_le (by have := HNY.out; omega)] at h)
                          clear HE HTK hnn htk
                          go_wp2_with fail
                          go_meet
                          exact ⟨true, rfl, by simp [HEQ.out], _, rfl⟩
                  case rest =>
                    obtain ⟨b, rfl, hb, q, rfl⟩ := hcut
                    have HBS := Lib.hid hb
                    have HO : Hid (Ot w6 w8 wq.heap.size out u17 (w8.drewN q)) := Lib.hid ⟨HS8.out.next (bdrewN (Below.refl _ _) q), fun b hb => .inl (HS.out.row.lt b hb).2, Nat.le_refl _, fun _ _ _ => rfl⟩
                    have hb9 := keep (bstep HS8.out.bel (bdrewN (Below.refl _ _) q)) hbl6 C6.out
                    have B9 := Lib.hid (bstep HS8.out.bel (bdrewN (Below.refl _ _) q))
                    clear hb HAX HAY HB0 HS HS8
                    generalize w8.drewN q = w9 at *
                    obtain ⟨PK, hPK⟩ : ∃ PK, pick mk1 mk2 mk3 (uses A.gap i hh) (uses B.gap i hh) X Y = PK := ⟨_, rfl⟩
                    have HPK := Lib.hid hPK
                    rw [hPK] at HRG
                    clear hPK
                    go_upto_block 8 with fail
                    go_cut [17, 18] from 154 to 185 (fun vo vc wx => vc = .int .i64 ((c + PK.2 : Nat) : Int) ∧ PK.2 ≤ 1 ∧ PK.1.length ≤ 163 ∧ Hid (SK w6 (out ++ PK.1) vo wx ∧ Below w6.heap.size w6 wx))
                    case first =>
                      by_cases hbb : bb = false ∨ b = true
                      · have hp : PK = (X, 0) := by
                          rw [← HPK.out]
                          unfold pick
                          rw [if_pos]
                          rcases hbb with h | h
                          · left; intro hu; rw [HUA.out.2.2 hu] at h; cases h
                          · right; exact HBS.out.1 h
                        have HP := Lib.hid hp
                        have HXV := Lib.hid (HO.out.read HX8.out)
                        clear hp HPK
                        have hbb2 : bb = false ∨ (bb = true ∧ b = true) := by
                          cases bb
                          · exact .inl rfl
                          · exact .inr ⟨rfl, hbb.resolve_left (by simp)⟩
                        clear hbb
                        rcases hbb2 with rfl | ⟨rfl, rfl⟩
                        all_goals
                          go_wp2_with (at_builtin; refine wpList_appendOt w6 w8 wq.heap.size w9 rfl _ _ rfl _ out rfl HO.out (.slice ax nx cx) X rfl HXV.out (by have := HNX.out; omega) ?_; intro v10 w10 hv10; have HZ := Lib.hid hv10; clear hv10)
                          go_meet
                          exact ⟨by rw [HP.out]; simp, by rw [HP.out]; omega, by rw [HP.out]; have := HNX.out; dsimp only; omega, by rw [HP.out]; exact Lib.hid ⟨HZ.out.sk, HZ.out.sk.bel⟩⟩
                      · have hbt : bb = true := by
                          cases bb
                          · exact absurd (.inl rfl) hbb
                          · rfl
                        have hbf : b = false := by
                          cases b
                          · rfl
                          · exact absurd (.inr rfl) hbb
                        subst hbt hbf
                        have hne : X ≠ Y := fun h => by have := HBS.out.2 h; cases this
                        have HYQ := Lib.hid (HY8.out.rebase BQ7.out)
                        have hc1 : c ≤ 81 := by omega
                        have rc : IntKind.i64.wrap ((c : Int) + 1) = (c : Int) + 1 := IntWalk.i64_in _ (by omega)
                        clear hbb
                        cases ba with
                        | false =>
                          have hp : PK = (Y, 0) := by
                            rw [← HPK.out]
                            exact pick_right (fun hu => by have := HUA.out.1.2 hu; cases this) (HUA.out.2.1 rfl) _ _
                          have HP := Lib.hid hp
                          have HYV := Lib.hid (HO.out.read HYQ.out)
                          clear hp HPK hne
                          go_wp2_with (at_builtin; refine wpList_appendOt w6 w8 wq.heap.size w9 rfl _ _ rfl _ out rfl HO.out (.slice ay ny cy) Y rfl HYV.out (by have := HNY.out; omega) ?_; intro v10 w10 hv10; have HZ := Lib.hid hv10; clear hv10)
                          go_meet
                          exact ⟨by rw [HP.out]; simp, by rw [HP.out]; omega, by rw [HP.out]; have := HNY.out; dsimp only; omega, by rw [HP.out]; exact Lib.hid ⟨HZ.out.sk, HZ.out.sk.bel⟩⟩
                        | true =>
                          have hp : PK = (mk1 :: X ++ mk2 :: Y ++ [mk3], 1) := by
                            rw [← HPK.out]
                            unfold pick
                            rw [if_neg (fun h => h.elim (fun h => h (HUA.out.2.1 rfl)) hne), if_neg (fun h => h (HUA.out.1.1 rfl))]
                          have HP := Lib.hid hp
                          have HOa := Lib.hid (HO.out.next (balloc (Below.refl _ _) (.cells #[.string mk1] 9)))
                          clear hp HPK hne
                          go_wp2_with (first
                            | (at_builtin; refine wpList_appendOt w6 w8 wq.heap.size _ rfl _ _ rfl _ out rfl HOa.out _ [mk1] rfl (lit_one w9 mk1) (by simp; omega) ?_; intro v10 w10 hv10; have HOb := Lib.hid hv10; have HXV := Lib.hid (hv10.read HX8.out); clear hv10 HOa)
                            | (at_builtin; refine wpList_appendOt w6 w8 wq.heap.size _ rfl _ _ rfl _ (out ++ [mk1]) rfl HOb.out (.slice ax nx cx) X rfl HXV.out (by have := HNX.out; simp; omega) ?_; intro v11 w11 hv11; have HOc := Lib.hid (hv11.next (balloc (Below.refl _ _) (.cells #[.string mk2] 9))); clear hv11 HOb)
                            | (at_builtin; refine wpList_appendOt w6 w8 wq.heap.size _ rfl _ _ rfl _ (out ++ [mk1] ++ X) rfl HOc.out _ [mk2] rfl (lit_one w11 mk2) (by have := HNX.out; simp; omega) ?_; intro v12 w12 hv12; have HOd := Lib.hid hv12; have HYV := Lib.hid (hv12.read HYQ.out); clear hv12 HOc)
                            | (at_builtin; refine wpList_appendOt w6 w8 wq.heap.size _ rfl _ _ rfl _ (out ++ [mk1] ++ X ++ [mk2]) rfl HOd.out (.slice ay ny cy) Y rfl HYV.out (by have := HNX.out; have := HNY.out; simp; omega) ?_; intro v13 w13 hv13; have HOe := Lib.hid (hv13.next (balloc (Below.refl _ _) (.cells #[.string mk3] 9))); clear hv13 HOd)
                            | (at_builtin; refine wpList_appendOt w6 w8 wq.heap.size _ rfl _ _ rfl _ (out ++ [mk1] ++ X ++ [mk2] ++ Y) rfl HOe.out _ [mk3] rfl (lit_one w13 mk3) (by have := HNX.out; have := HNY.out; simp; omega) ?_; intro v14 w14 hv14; have HZ := Lib.hid hv14; clear hv14 HOe))
                          go_meet
                          refine ⟨by rw [HP.out]; simp, by rw [HP.out]; exact Nat.le_refl _, by rw [HP.out]; have := HNX.out; have := HNY.out; simp; omega, ?_⟩
                          rw [HP.out]
                          have e : out ++ (mk1 :: X ++ mk2 :: Y ++ [mk3]) = out ++ [mk1] ++ X ++ [mk2] ++ Y ++ [mk3] := by simp
                          rw [e]
                          exact Lib.hid ⟨HZ.out.sk, HZ.out.sk.bel⟩
                    case rest =>
                      obtain ⟨rfl, hp1, hp2, hz⟩ := hcut
                      rw [HRG.out] at HR1 HR2
                      have HZ := Lib.hid hz.out.1
                      have hb9z := keep hz.out.2 hbl6 C6.out
                      clear hz HO HX8 HY8 HBS HUA HPK hb9 HRG HNX HNY BQ7
                      obtain ⟨P1, d⟩ := PK
                      dsimp only at *
                      have rh : IntKind.i64.wrap ((hh : Int) + 1) = (hh : Int) + 1 := IntWalk.i64_in _ (by omega)
                      by_cases hhn : hh < n
                      · obtain ⟨xl, hxl⟩ : ∃ xl, la[hh]? = some xl := ⟨la[hh]'(by have := HN.out; omega), List.getElem?_eq_getElem _⟩
                        rw [hxl] at HR1
                        obtain ⟨g2, off2, rfl, hg2, c2⟩ := StAt.get (SlAt.next HB.out (bstep B6.out HZ.out.bel)) hxl
                        have u4 : (hh : Int) < (n : Int) := by omega
                        have u5 : (0 : Int) ≤ (hh : Int) := by omega
                        have HSL := Lib.hid (HZ.out.next (balloc (Below.refl _ _) (.cells #[.string xl] 9)))
                        clear hxl
                        go_wp2_with (at_builtin; refine wpList_appendSK w6 _ rfl _ _ rfl _ (out ++ P1) rfl HSL.out _ [xl] rfl (lit_one _ xl) (by simp; omega) ?_; intro v5 w5 hv5; have HS5 := Lib.hid hv5; clear hv5)
                        go_roundw
                        case rel => exact ⟨hh + 1, c + d, by omega, by omega, by first | rfl | go_num, by first | rfl | go_num, Lib.hid ⟨⟨_, HS5.out, by simp; omega, by rw [← HR1.out]; simp, by rw [← HR2.out]; omega⟩, by omega⟩⟩
                        case measure => simp only [intOf]; omega
                      · have u4 : ¬ (hh : Int) < (n : Int) := by omega
                        have hno : la[hh]? = none := List.getElem?_eq_none (by have := HN.out; omega)
                        rw [hno] at HR1
                        clear hno
                        go_wp2_with fail
                        go_roundw
                        case rel => exact ⟨hh + 1, c + d, by omega, by omega, by first | rfl | go_num, by first | rfl | go_num, Lib.hid ⟨⟨_, HZ.out, by simp; omega, by rw [← HR1.out]; simp, by rw [← HR2.out]; omega⟩, by omega⟩⟩
                        case measure => simp only [intOf]; omega
    · have u0 : ¬ (i : Int) ≤ (n : Int) := by omega
      have hend := mtail_end (m1 := mk1) (m2 := mk2) (m3 := mk3) (base := la) (A := A) (B := B) (i := i) (by rw [HN.out]; exact hin)
      rw [hend] at HR1 HR2
      have FIN : Hid (MrPost R 0 w (.returned (.tuple #[u17, .int .i64 (c : Int), .int .i64 0])) wr) := Lib.hid ⟨⟨u17, by rw [← HR2.out]; rfl, by rw [← HR1.out, List.append_nil]; exact HS.out.val, bstep B6.out HS.out.bel⟩, by rw [← HR1.out, List.append_nil]; omega⟩
      clear hend HR1 HR2 HS
      go_wp2_with fail
      go_ret3
      exact FIN.out
end Go.Proofs.Ytokfnajgjhkepaa.MergeT
