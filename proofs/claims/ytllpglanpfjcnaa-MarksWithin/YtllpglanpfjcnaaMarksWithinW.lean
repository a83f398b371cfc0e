/-
  The law MarksWithin.
-/
import Derived.Test.YtllpglanpfjcnaaMarksOrderedW
import Derived.Test.YtllpglanpfjcnaaEditApplyV
namespace Go.Proofs.Ytllpglanpfjcnaa.MarkK
open Go.RowKit Kit EditM MarkM MarkC EditC EditK Lift Txt ChgM

theorem apT_size {l : List EdM} {t : Bs} (h : apC l t = 0) : ((apT l t).length : Int) = szN l t.length := by
  induction l generalizing t with
  | nil => rfl
  | cons e l ih =>
    by_cases hf : e.fault t = 0
    · simp only [apC, if_pos hf] at h
      have e1 := ih h
      have e2 := (EdM.fits_of hf).len
      obtain ⟨g1, g2, g3, g4, g5⟩ := EdM.fits_of hf
      show ((apT l (e.step t)).length : Int) = szN l ((t.length : Int) - e.cut + e.put.size)
      rw [e1]; congr 1; rw [e2]; omega
    · simp only [apC, if_neg hf] at h; exact absurd h hf
theorem mvd_zero {l : List EdM} {n : Int} (h : szC l n = 0) : mvd l ⟨0, false⟩ = ⟨0, false⟩ := by
  induction l generalizing n with
  | nil => rfl
  | cons e l ih =>
    by_cases hf : fault n e.at_ e.cut e.put.size = 0
    · simp only [szC, if_pos hf] at h
      obtain ⟨h1, h2, h3, h4, h5, h6⟩ := fault_zero.1 hf
      have : plc e ⟨0, false⟩ = ⟨0, false⟩ := by
        unfold plc placed
        dsimp only
        congr 1
        simp only [Bool.false_eq_true, if_false]
        (repeat' split) <;> omega
      show mvd l (plc e ⟨0, false⟩) = _
      rw [this]; exact ih h
    · simp only [szC, if_neg hf] at h; exact absurd h hf
theorem mvd_end {l : List EdM} {n : Int} (h : szC l n = 0) : mvd l ⟨n, true⟩ = ⟨szN l n, true⟩ := by
  induction l generalizing n with
  | nil => rfl
  | cons e l ih =>
    by_cases hf : fault n e.at_ e.cut e.put.size = 0
    · simp only [szC, if_pos hf] at h
      obtain ⟨h1, h2, h3, h4, h5, h6⟩ := fault_zero.1 hf
      have : plc e ⟨n, true⟩ = ⟨n - e.cut + e.put.size, true⟩ := by
        unfold plc placed
        dsimp only
        congr 1
        simp only [if_true]
        (repeat' split) <;> omega
      show mvd l (plc e ⟨n, true⟩) = _
      rw [this]; exact ih h
    · simp only [szC, if_neg hf] at h; exact absurd h hf
/-- the two marks that hold to the ends -/
def two (n : Int) : List MkM := [⟨0, false⟩, ⟨n, true⟩]
theorem cell_four_new (w : World) (x0 x1 x2 x3 : Value) (t : TypeId) : ∀ j u, [x0, x1, x2, x3][j]? = some u → (w.alloc (.cells #[x0, x1, x2, x3] t)).cell? ((⟨w.heap.size, 0, none⟩ : Addr).add j) = some u := by
  intro j u hj
  have e : (⟨w.heap.size, 0, none⟩ : Addr).add j = ⟨w.heap.size, j, none⟩ := by rw [add_of rfl]; simp
  rw [e, cells_new]
  simpa using hj

set_option maxRecDepth 100000 in
set_option maxHeartbeats 4000000 in
theorem marksWithin (a0 : Option Addr) (len0 cap0 : Nat) (z0 : List Int) (a1 : Option Addr) (len1 cap1 : Nat) (z1 : List Int) (al : Option Addr) (cap : Nat) (l : List ChgM) (w : World) (hz : IsRow .i64 w a0 len0 cap0 z0) (hy : IsRow .i64 w a1 len1 cap1 z1) (hl : ChsAt w al l) (hh : ∀ c ∈ l, c.has w) (hle : l.length ≤ cap) (hmx : cap ≤ maxLen) {S : Prop} (_ : S) :
    Calls Try.prog 7 #[.slice a0 len0 cap0, .slice a1 len1 cap1, .slice al l.length cap] w fun e w' => e = .returned (.bool true) ∧ Below w.heap.size w w' := by
  have hlen : l.length ≤ 9223372036854775807 := by unfold maxLen at hmx; omega
  clear hle hmx
  have TO := Lib.hid (textOf a1 len1 cap1 z1 80 w hy (by omega))
  have hs80 : (textS ((z1.take len1).take 80)).size ≤ 80 := by rw [textS_size]; simp only [List.length_take]; omega
  generalize textS ((z1.take len1).take 80) = s at *
  have ES := Lib.hid (edits l al cap 15 s.size w hl hh hlen (by omega) (by omega))
  have MK := Lib.hid (fun W hW => marksK a0 len0 cap0 z0 20 s.size W (isRow_next hz hW) (by omega) (by omega))
  have CO := edsOf_szC l 15 s.size (by omega)
  have CA := (edsOf_code l 15 s.data.toList (by rw [size_list]; omega)).1
  rw [size_list] at CA
  have LE := edsOf_len l 15 (s.size : Int)
  have MI := marksOf_in ((z0.take len0).take 20) (size := (s.size : Int)) (by omega)
  have ML : (marksOf ((z0.take len0).take 20) (s.size : Int)).length ≤ 20 := by unfold marksOf; rw [List.length_map, List.length_take]; omega
  generalize marksOf ((z0.take len0).take 20) (s.size : Int) = ms at *
  generalize edsOf l 15 (s.size : Int) = es at *
  have MI2 : ∀ m ∈ ms ++ two s.size, m.in_ (s.size : Int) := by
    intro m hm
    simp only [two, List.mem_append, List.mem_cons, List.not_mem_nil, or_false] at hm
    rcases hm with hm | rfl | rfl
    · exact MI m hm
    · exact ⟨by simp, by show (0 : Int) ≤ s.size; omega⟩
    · exact ⟨by show (0 : Int) ≤ s.size; omega, by simp⟩
  have MV := Lib.hid (fun W v u hv hu => moved (s.size : Int) (ms ++ two s.size) v es u W hv hu (by simp [two]; omega) (by omega) CO.2 (by omega) (by omega) MI2 CO.1)
  have AP := Lib.hid (fun W u hu => applyV s es u W hu CO.2 (by omega) (by omega) CA)
  have TS : Hid (((str (apT es s.data.toList)).size : Int) = szN es s.size) := Lib.hid (by
    rw [size_str, apT_size CA, size_list])
  have INX : Hid (∀ (i : Nat) (m : MkM), ((ms ++ two s.size).map (mvd es))[i]? = some m → m.in_ (szN es s.size)) := Lib.hid fun i m hm => by
    obtain ⟨x, hx, rfl⟩ := List.mem_map.1 (List.mem_of_getElem? hm)
    exact mvd_in CO.1 (MI2 x hx)
  have L0 : Hid (((ms ++ two s.size).map (mvd es))[ms.length]? = some ⟨0, false⟩) := Lib.hid (by
    simp [two]; exact mvd_zero CO.1)
  have L1 : Hid (((ms ++ two s.size).map (mvd es))[ms.length + 1]? = some ⟨szN es s.size, true⟩) := Lib.hid (by
    simp [two]; exact mvd_end CO.1)
  have HG : Hid (∀ i, i < ms.length + 2 → ∃ m, ((ms ++ two s.size).map (mvd es))[i]? = some m) := Lib.hid fun i hi => ⟨_, List.getElem?_eq_getElem (by simp [two]; omega)⟩
  have ts6 : (str (apT es s.data.toList)).size ≤ 600 := by rw [size_str]; exact apT_len CA (by rw [size_list]; omega)
  have LN : Hid ((ms ++ two s.size).length = ms.length + 2) := Lib.hid (by simp [two])
  rw [LN.out] at MV
  clear hz hl hh CO CA MI MI2 hy
  generalize (ms ++ two s.size).map (mvd es) = XL at *
  generalize str (apT es s.data.toList) = t at *
  generalize szN es s.size = tz at *
  generalize l.length = LL at *
  obtain ⟨i0, hi, hz0, hz1, hz2⟩ := info_parts infoMark
  have HI := Lib.hid (And.intro hi (And.intro hz0 (And.intro hz1 hz2)))
  clear hi hz0 hz1 hz2
  go_enter Try.func7, Try.ntmps7
  go_wp2_with fail
  refine TO.out.mono ?_
  rintro e w1 ⟨rfl, rfl⟩
  go_wp2_with fail
  refine ES.out.mono ?_
  rintro e w2 ⟨u, rfl, hu, hb2⟩
  have C2 := Lib.hid (MK.out w2 hb2)
  have U2 := Lib.hid hu
  have B2 := Lib.hid hb2
  clear hu hb2 ES TO MK
  go_wp2_with fail
  refine C2.out.mono ?_
  rintro e w3 ⟨v, rfl, hv⟩
  have V3 := Lib.hid hv
  have U3 := Lib.hid (U2.out.next hv.bel)
  have B3 := Lib.hid (bstep B2.out hv.bel)
  have E2 := Lib.hid (hv.next (balloc (Below.refl _ _) (.cells #[.int .i64 0, .bool false, .int .i64 (s.size : Int), .bool true] 28)))
  have HNEW := Lib.hid (cell_four_new w3 (.int .i64 0) (.bool false) (.int .i64 (s.size : Int)) (.bool true) 28)
  have hzw : w2.heap.size ≤ w3.heap.size := hv.bel.size
  clear hv C2
  go_wp2_with (at_builtin; refine wpList_append_lies _ rfl _ _ 22 rfl w2.heap.size 28 i0 _ 2 16 Try.underlying22 HI.out.1 HI.out.2.1 HI.out.2.2.1 HI.out.2.2.2 rfl (by decide) _ ms.length (flatC MkM.cs ms) rfl E2.out.row ⟨w3.heap.size, 0, none⟩ 2 2 [.int .i64 0, .bool false, .int .i64 (s.size : Int), .bool true] rfl rfl HNEW.out (by simp [Value.oneCell']) (by omega) (by unfold maxLen; omega) (by omega) (by simp; omega) _ rfl ?_; intro g4 cap4 w4 hown4 hgrow4 _ _; have V4 : Hid (MsK w2 (ms ++ two s.size) (.slice (some ⟨g4, 0, none⟩) (ms.length + 2) cap4) w4) := Lib.hid ⟨by rw [flatC_append, LN.out]; exact hown4, bgrow E2.out.bel E2.out.row hgrow4⟩; have UU : Hid (EdsV w4 u es) := Lib.hid (U2.out.next (bgrow E2.out.bel E2.out.row hgrow4)); clear hown4 hgrow4)
  have B4 := Lib.hid (bstep B2.out V4.out.bel)
  have CM := Lib.hid (MV.out w4 _ _ V4.out.val UU.out)
  clear V3 U3 B3 E2 HNEW U2 B2 MV
  refine CM.out.mono ?_
  rintro e w5 ⟨xa, xcap, rfl, _, hx, hb5⟩
  have B5 := Lib.hid (bstep B4.out hb5)
  have U5 := Lib.hid (UU.out.next hb5)
  have X5 := Lib.hid hx
  clear hx hb5 B4 UU CM V4
  go_wp2_with fail
  refine (AP.out _ _ U5.out).mono ?_
  rintro e w6 ⟨rfl, hb6⟩
  have B6 := Lib.hid (bstep B5.out hb6)
  have X6 := Lib.hid (X5.out.next hb6)
  clear hb6 B5 U5 X5 AP
  generalize ms.length = M at *
  obtain ⟨n, hn⟩ : ∃ n, n = M + 2 := ⟨_, rfl⟩
  rw [← hn] at HG ⊢
  have n1 : n ≤ M + 2 := by omega
  have n2 : M + 2 ≤ n := by omega
  clear hn
  go_wp2_with fail
  go_loop [15] (fun vi => ∃ i : Nat, i ≤ n ∧ vi = .int .i64 (i : Int)) (fun vi => n - (intOf vi).toNat)
  case atStart => exact ⟨0, by omega, rfl⟩
  case round =>
    obtain ⟨i, hi, rfl⟩ := hrel
    by_cases hlt : i < n
    · obtain ⟨m, hm⟩ := HG.out i hlt
      obtain ⟨g, off, rfl, _, c0, _⟩ := MksAt.get X6.out hm
      obtain ⟨m0, m1⟩ := INX.out i m hm
      have m2 : m.at_ ≤ (t.size : Int) := by rw [TS.out]; exact m1
      have i1 : (i : Int) < (n : Int) := by omega
      have i2 : (0 : Int) ≤ (i : Int) := by omega
      clear hm m1
      generalize m.at_ = x at *
      go_wp2_with fail
      go_round
      case rel => exact ⟨i + 1, by omega, by go_num⟩
      case measure => simp [intOf]; omega
    · obtain ⟨g, off, rfl, _, c0, _⟩ := MksAt.get X6.out L0.out
      obtain ⟨g', off', eg, _, d0, _⟩ := MksAt.get X6.out L1.out
      simp only [Option.some.injEq, Addr.mk.injEq, and_true] at eg
      obtain ⟨rfl, rfl⟩ := eg
      have ez1 : (n : Int) - 2 = (M : Int) := by omega
      have ez2 : (n : Int) - 1 = (M : Int) + 1 := by omega
      have et : ((M : Int) + 1).toNat = M + 1 := by omega
      have i1 : (M : Int) < (n : Int) := by omega
      have i2 : (0 : Int) ≤ (M : Int) := by omega
      have i3 : (M : Int) + 1 < (n : Int) := by omega
      have i4 : (0 : Int) ≤ (M : Int) + 1 := by omega
      have eqt : (tz == (t.size : Int)) = true := by rw [TS.out]; simp
      go_wp2_with fail
      go_ret
      exact ⟨rfl, B6.out⟩

end Go.Proofs.Ytllpglanpfjcnaa.MarkK
