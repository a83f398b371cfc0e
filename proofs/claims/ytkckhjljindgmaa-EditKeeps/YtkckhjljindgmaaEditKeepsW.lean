/-
  The law EditKeeps.
-/
import Derived.Test.YtkckhjljindgmaaEditRestW
import Derived.Test.YtkckhjljindgmaaEditPlace
import Derived.Deep.Cut
import Derived.Deep.DeepCutAuto
namespace Go.Proofs.Ytkckhjljindgmaa.EditK
open Go.RowKit Kit EditM EditC ChgM Txt Lift

/-- where an offset goes, among the natural numbers -/
def plN (a c p i : Nat) : Nat := if i < a then i else if i < a + c then a + p else i + p - c
theorem placed_nat (a c p i : Nat) : placed (a : Int) (c : Int) p (i : Int) true = (plN a c p i : Int) := by
  unfold placed plN
  by_cases h1 : i < a
  · rw [if_pos (by omega), if_pos h1]
  · rw [if_neg (by omega), if_neg h1]
    by_cases h2 : i < a + c
    · rw [if_pos (.inl (by omega)), if_pos h2]; simp
    · rw [if_neg h2]
      by_cases h3 : c = 0 ∧ i = a
      · rw [if_pos (.inr (by omega))]; simp; omega
      · rw [if_neg (by omega)]; omega
theorem plN_mono {a c p i k : Nat} (h : i ≤ k) : plN a c p i ≤ plN a c p k := by
  unfold plN; split <;> split <;> (try split) <;> (try split) <;> omega
theorem made_get {t : Bs} {a c : Nat} {p : Bs} {i : Nat} (h : a + c ≤ t.length) (hi : i < t.length) (ho : i < a ∨ a + c ≤ i) : plN a c p.length i < (made t a c p).length ∧ (made t a c p)[plN a c p.length i]? = t[i]? := by
  have hl := made_length (p := p) h
  have e1 : (t.take a).length = a := by rw [List.length_take]; omega
  unfold plN
  by_cases h1 : i < a
  · rw [if_pos h1]
    refine ⟨by omega, ?_⟩
    unfold made
    rw [List.append_assoc, List.getElem?_append_left (by omega), List.getElem?_take, if_pos h1]
  · rw [if_neg h1, if_neg (by omega)]
    refine ⟨by omega, ?_⟩
    unfold made
    have e2 : (t.take a ++ p).length = a + p.length := by rw [List.length_append, e1]
    rw [List.getElem?_append_right (by rw [e2]; omega), e2, List.getElem?_drop]
    congr 1; omega

set_option maxRecDepth 100000 in
set_option maxHeartbeats 1000000 in
theorem editKeeps (a0 : Option Addr) (len0 cap0 : Nat) (z0 : List Int) (c : ChgM) (x y : Int) (w : World) (hz : IsRow .i64 w a0 len0 cap0 z0) (hc : c.has w) {P Q : Prop} (_ : P) (_ : Q) :
    Calls Try.prog 11 #[.slice a0 len0 cap0, .agg #[.int .i64 c.at_, .int .i64 c.cut, .slice c.ta c.tlen c.tcap], .int .i64 x, .int .i64 y] w fun e w' => e = .returned (.bool true) ∧ Below w.heap.size w w' := by
  have TO := Lib.hid (fun W (hW : Below w.heap.size w W) => textOf a0 len0 cap0 z0 80 W (isRow_next hz hW) (by omega))
  have hs80 : (textS ((z0.take len0).take 80)).size ≤ 80 := by rw [textS_size]; simp only [List.length_take]; omega
  generalize textS ((z0.take len0).take 80) = s0 at *
  obtain ⟨s, hs⟩ : ∃ s, s = s0 ++ (⟨#[120]⟩ : ByteArray) := ⟨_, rfl⟩
  have hsz : s.size = s0.size + 1 := by rw [hs, ByteArray.size_append]; rfl
  have HS := Lib.hid hs
  have h1 : 1 ≤ s.size := by omega
  have h81 : s.size ≤ 81 := by omega
  have hss : s0.size + 1 ≤ 81 := by omega
  have hsn : ((s.size - 1 : Nat) : Int) = (s.size : Int) - 1 := by omega
  have EO := Lib.hid (fun W (hW : Below w.heap.size w W) => editOf c ((s.size : Int) - 1) W (hc.next hW) (by omega) (by omega))
  obtain ⟨F1, F2, F3, F4, F5, hp8⟩ := edOf_facts c (n := (s.size : Int) - 1) (by omega)
  have OK := edOf_ok c (n := (s.size : Int) - 1) (by omega) (by omega)
  generalize edOf c ((s.size : Int) - 1) = e at *
  have FT : e.fits s.data.toList := ⟨F1, F3, by rw [size_list]; omega, by rw [size_list]; omega, by rw [size_list]; omega⟩
  have ED := Lib.hid (fun W v (hv : EdsV W v [e]) => edited s [e] v W hv (fun x hx => by simp at hx; rw [hx]; exact OK) (by simp) (by omega) (apC_one FT))
  have AT := Lib.hid (show apT [e] s.data.toList = made s.data.toList e.at_.toNat e.cut.toNat e.put.data.toList from rfl)
  rw [AT.out] at ED
  clear hc hz AT OK FT hs hsn F2 hsz
  obtain ⟨a, cc, p⟩ := e
  dsimp only at *
  obtain ⟨a, rfl⟩ := Int.eq_ofNat_of_zero_le F1
  obtain ⟨cc, rfl⟩ := Int.eq_ofNat_of_zero_le F3
  simp only [Int.toNat_natCast] at ED
  have F6 : a + cc ≤ s.size := by omega
  have P1 := Lib.hid (fun W => picked x (s.size : Int) W (by omega) (by omega))
  have P2 := Lib.hid (fun W => picked y (s.size : Int) W (by omega) (by omega))
  obtain ⟨i, hi⟩ := Int.eq_ofNat_of_zero_le (Int.emod_nonneg x (show (s.size : Int) ≠ 0 by omega))
  obtain ⟨k, hk⟩ := Int.eq_ofNat_of_zero_le (Int.emod_nonneg y (show (s.size : Int) ≠ 0 by omega))
  have hil := Int.emod_lt_of_pos x (show (0 : Int) < (s.size : Int) by omega)
  have hkl := Int.emod_lt_of_pos y (show (0 : Int) < (s.size : Int) by omega)
  rw [hi] at P1 hil
  rw [hk] at P2 hkl
  clear hi hk
  have PI := Lib.hid (fun W => place_ok (a : Int) (cc : Int) (i : Int) p true W (by omega) (by omega) (by omega) (by omega) (by omega) (by omega) (by omega))
  have PK := Lib.hid (fun W => place_ok (a : Int) (cc : Int) (k : Int) p true W (by omega) (by omega) (by omega) (by omega) (by omega) (by omega) (by omega))
  rw [placed_nat] at PI PK
  have hm : i ≤ k → ¬ plN a cc p.size k < plN a cc p.size i := fun h => by have := plN_mono (a := a) (c := cc) (p := p.size) h; omega
  have hin : a ≤ i → i < a + cc → plN a cc p.size i = a + p.size := fun h1 h2 => by unfold plN; rw [if_neg (by omega), if_pos h2]
  obtain ⟨t, ht⟩ : ∃ t, t = str (made s.data.toList a cc p.data.toList) := ⟨_, rfl⟩
  have hout : (i < a ∨ a + cc ≤ i) → plN a cc p.size i < t.size ∧ t.data.toList[plN a cc p.size i]? = s.data.toList[i]? := fun h => by
    have := made_get (t := s.data.toList) (p := p.data.toList) (by rw [size_list]; exact F6) (by rw [size_list]; omega) h
    rw [size_list] at this
    rw [ht, size_str, list_str]
    exact this
  rw [← ht] at ED
  generalize plN a cc p.size i = pi at *
  generalize plN a cc p.size k = pk at *
  have OA := Lib.hid (fun (W : World) (o : Obj) => one_at' W o ⟨(a : Int), (cc : Int), p⟩)
  have HM := Lib.hid hm
  have HIN := Lib.hid hin
  have HOUT := Lib.hid hout
  clear ht hm hin hout
  go_enter Try.func11, Try.ntmps11
  go_wp2_with fail
  refine (TO.out _ (balloc (Below.refl _ _) _)).mono ?_
  rintro e w1 ⟨rfl, rfl⟩
  go_upto_region 2 with fail
  rw [← HS.out]
  go_wp2_with fail
  refine (EO.out _ (balloc (Below.refl _ _) _)).mono ?_
  rintro e w2 ⟨rfl, hb2⟩
  have B2 := Lib.hid (bstep (balloc (Below.refl _ _) _) hb2)
  clear hb2 TO EO
  go_wp2_with fail
  refine (ED.out _ _ (OA.out _ _)).mono ?_
  rintro e w3 ⟨rfl, hb3⟩
  have x0 : w3.cell? ⟨w2.heap.size, 0, none⟩ = some (.int .i64 (a : Int)) := keep hb3 (by simp; try omega) (by simp)
  have x1 : w3.cell? ⟨w2.heap.size, 1, none⟩ = some (.int .i64 (cc : Int)) := keep hb3 (by simp; try omega) (by simp)
  have x2 : w3.cell? ⟨w2.heap.size, 2, none⟩ = some (.string p) := keep hb3 (by simp; try omega) (by simp)
  have B3 := Lib.hid (bstep (balloc (balloc B2.out _) _) hb3)
  have z3 : w2.heap.size < w3.heap.size := by have := hb3.size; simp at this; omega
  clear hb3 ED OA B2
  go_wp2_with fail
  refine (P1.out _).mono ?_
  rintro e w1 ⟨rfl, rfl⟩
  go_wp2_with fail
  refine (P2.out _).mono ?_
  rintro e w1 ⟨rfl, rfl⟩
  clear P1 P2
  go_wp2_with fail
  refine (PI.out _).mono ?_
  rintro e w4 ⟨rfl, hb4⟩
  have y0 : w4.cell? ⟨w2.heap.size, 0, none⟩ = some (.int .i64 (a : Int)) := keep hb4 z3 x0
  have y1 : w4.cell? ⟨w2.heap.size, 1, none⟩ = some (.int .i64 (cc : Int)) := keep hb4 z3 x1
  have y2 : w4.cell? ⟨w2.heap.size, 2, none⟩ = some (.string p) := keep hb4 z3 x2
  have z4 : w2.heap.size < w4.heap.size := by have := hb4.size; omega
  have B4 := Lib.hid (bstep B3.out hb4)
  clear hb4 x0 x1 x2 z3 B3 PI
  go_wp2_with fail
  refine (PK.out _).mono ?_
  rintro e w5 ⟨rfl, hb5⟩
  have x0 : w5.cell? ⟨w2.heap.size, 0, none⟩ = some (.int .i64 (a : Int)) := keep hb5 z4 y0
  have x1 : w5.cell? ⟨w2.heap.size, 1, none⟩ = some (.int .i64 (cc : Int)) := keep hb5 z4 y1
  have x2 : w5.cell? ⟨w2.heap.size, 2, none⟩ = some (.string p) := keep hb5 z4 y2
  have B5 := Lib.hid (bstep B4.out hb5)
  clear hb5 y0 y1 y2 z4 B4 PK
  go_upto_region 8 with fail
  go_cut [73] (fun t wx => t = .bool false ∧ wx = w5)
  case first =>
    by_cases hik : i ≤ k
    · have h2 := HM.out hik
      go_wp2_with fail
      go_meet
      exact ⟨rfl, rfl⟩
    · go_wp2_with fail
      go_meet
      exact ⟨rfl, rfl⟩
  case rest =>
    obtain ⟨rfl, rfl⟩ := hcut
    by_cases hai : a ≤ i
    · by_cases hac : i < a + cc
      · have hpi := HIN.out hai hac
        have hac2 : (i : Int) < (a : Int) + (cc : Int) := by omega
        have hpe : ((pi : Int) == (a : Int) + (p.size : Int)) = true := by rw [hpi]; simp
        clear hpi
        go_wp2_with fail
        go_ret
        exact ⟨rfl, B5.out⟩
      · obtain ⟨hpl, hpe⟩ := HOUT.out (.inr (by omega))
        have hac2 : ¬ (i : Int) < (a : Int) + (cc : Int) := by omega
        have hil2 : i < s.size := by omega
        have hg : t[pi] = s[i] := by
          rw [List.getElem?_eq_getElem (by rw [size_list]; exact hpl), List.getElem?_eq_getElem (by rw [size_list]; exact hil2)] at hpe
          exact Option.some.inj hpe
        clear hpe
        go_wp2_with fail
        go_quiet (fail)
        go_wp2_with fail
        go_ret
        exact ⟨rfl, bdrewN B5.out _⟩
    · obtain ⟨hpl, hpe⟩ := HOUT.out (.inl (by omega))
      have hil2 : i < s.size := by omega
      have hg : t[pi] = s[i] := by
        rw [List.getElem?_eq_getElem (by rw [size_list]; exact hpl), List.getElem?_eq_getElem (by rw [size_list]; exact hil2)] at hpe
        exact Option.some.inj hpe
      clear hpe
      go_wp2_with fail
      go_quiet (fail)
      go_wp2_with fail
      go_ret
      exact ⟨rfl, bdrewN B5.out _⟩

end Go.Proofs.Ytkckhjljindgmaa.EditK
