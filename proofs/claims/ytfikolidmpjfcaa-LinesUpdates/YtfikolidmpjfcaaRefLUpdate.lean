/-
  The document's answer: LinesUpdate.
-/
import Derived.Test.YtfikolidmpjfcaaRefStarts
import Derived.Test.YtfikolidmpjfcaaRefLStarts
import Derived.Test.YtfikolidmpjfcaaEditFaultRef
import Derived.Test.YtfikolidmpjfcaaEditMadeRef
namespace Go.Proofs.Ytfikolidmpjfcaa.LineR
open Go.RowKit Kit EditM LineM

theorem vld_size {size z : Int} {zs : List Int} {m : Nat} (h : Vld 600 zs) (hm : zs.length = m + 1) (hz : zs[m]? = some z) : Vld size zs ↔ z ≤ size := by
  rw [good_last h.head h.inc hm hz]
  have := h.le z (List.mem_of_getElem? hz)
  omega
theorem vld_600 {size : Int} {zs : List Int} (h : Vld size zs) : Vld 600 zs := ⟨h.head, h.inc, fun x hx => by have := h.le x hx; omega⟩
theorem mem_next {zs : List Int} {j : Nat} {x y : Int} (h : zs[j]? = some x) : decide (y ∈ zs.take (j + 1)) = (decide (y ∈ zs.take j) || (x == y)) := by
  rw [take_next h]
  by_cases q : y ∈ zs.take j
  · simp [q]
  · by_cases e : x = y
    · subst e; simp
    · have e2 : ¬ y = x := fun h => e h.symm
      simp [q, e, e2]

set_option maxRecDepth 100000 in
set_option maxHeartbeats 2000000 in
theorem update_bad (size : Int) (zs : List Int) (al : Option Addr) (cap : Nat) (a c : Int) (p : ByteArray) (w : World) (hl : IsAt w al zs) (hmx : zs.length ≤ maxLen) (hv : ¬ Vld size zs) :
    Calls Try.prog 14 #[.slice al zs.length cap, .int .i64 size, .agg #[.int .i64 a, .int .i64 c, .string p]] w (IsPost w [] 4) := by
  obtain ⟨w0, hw0⟩ : ∃ w0, w0 = w.alloc (.cells #[.int .i64 a, .int .i64 c, .string p] 29) := ⟨_, rfl⟩
  have HW : Hid (Below w.heap.size w w0) := Lib.hid (by rw [hw0]; exact balloc (Below.refl _ _) _)
  have HL : Hid (IsAt w0 al zs) := Lib.hid (by rw [hw0]; exact hl.next (balloc (Below.refl _ _) _))
  have SM := Lib.hid (startsMay zs al cap w0 HL.out hmx)
  unfold maxLen at hmx
  by_cases h6 : Vld 600 zs
  · rw [goodB_yes h6] at SM
    obtain ⟨m, hm⟩ : ∃ m, zs.length = m + 1 := ⟨zs.length - 1, by have := h6.ne; omega⟩
    have hz : zs[m]? = some (zs.getD m 0) := by simp [List.getD, show m < zs.length by omega]
    have hlt : size < zs.getD m 0 := by
      refine Classical.byContradiction fun q => hv ((vld_size h6 hm hz).2 (by omega))
    have CZ := Lib.hid (fun W (hW : Below w0.heap.size w0 W) => IsAt.get (HL.out.next hW) hz)
    rw [hm] at SM hmx ⊢
    generalize zs.getD m 0 = z at *
    clear hl hz h6 hv HL hm
    have i1 : (m : Int) < ((m + 1 : Nat) : Int) := by omega
    have i2 : (0 : Int) ≤ (m : Int) := by omega
    have r1 : IntKind.i64.wrap ((m : Int) + 1 - 1) = (m : Int) := by rw [show (m : Int) + 1 - 1 = (m : Int) by omega]; exact IntWalk.i64_in _ (by omega)
    have r2 : IntKind.i64.wrap (((m + 1 : Nat) : Int) - 1) = (m : Int) := by rw [show ((m + 1 : Nat) : Int) - 1 = (m : Int) by omega]; exact IntWalk.i64_in _ (by omega)
    go_enter Try.func14, Try.ntmps14
    go_wp2_with fail
    rw [← hw0]
    clear hw0
    refine SM.out.mono ?_
    rintro e w1 ⟨rfl, hb1⟩
    obtain ⟨g, off, rfl, _, c0⟩ := CZ.out _ hb1
    have B := Lib.hid (bstep HW.out hb1)
    clear hb1 SM CZ HW
    go_wp2_with fail
    go_ret2
    exact ⟨_, rfl, IK.nil B.out⟩
  · rw [goodB_no h6] at SM
    clear hl h6 hv HL
    generalize zs.length = n at *
    go_enter Try.func14, Try.ntmps14
    go_wp2_with fail
    rw [← hw0]
    clear hw0
    refine SM.out.mono ?_
    rintro e w1 ⟨rfl, hb1⟩
    have B := Lib.hid (bstep HW.out hb1)
    clear hb1 SM HW
    go_wp2_with fail
    go_ret2
    exact ⟨_, rfl, IK.nil B.out⟩
set_option maxRecDepth 100000 in
set_option maxHeartbeats 2000000 in
theorem update_fault (size : Int) (zs : List Int) (al : Option Addr) (cap : Nat) (a c : Int) (p : ByteArray) (w : World) (hl : IsAt w al zs) (hmx : zs.length ≤ maxLen) (hv : Vld size zs) (ha : a ≤ 9223372036854775807) (hc : c ≤ 9223372036854775807) (hp : p.size ≤ 140737488351232) (hf : fault size a c p.size ≠ 0) :
    Calls Try.prog 14 #[.slice al zs.length cap, .int .i64 size, .agg #[.int .i64 a, .int .i64 c, .string p]] w (IsPost w [] (fault size a c p.size)) := by
  obtain ⟨w0, hw0⟩ : ∃ w0, w0 = w.alloc (.cells #[.int .i64 a, .int .i64 c, .string p] 29) := ⟨_, rfl⟩
  have HW : Hid (Below w.heap.size w w0) := Lib.hid (by rw [hw0]; exact balloc (Below.refl _ _) _)
  have HB : Hid (B3 w.heap.size (.int .i64 a) (.int .i64 c) (.string p) w0) := Lib.hid (by rw [hw0]; exact B3.new _ _ _ _ _)
  have HL : Hid (IsAt w0 al zs) := Lib.hid (by rw [hw0]; exact hl.next (balloc (Below.refl _ _) _))
  have SM := Lib.hid (startsMay zs al cap w0 HL.out hmx)
  unfold maxLen at hmx
  have h6 := vld_600 hv
  rw [goodB_yes h6] at SM
  obtain ⟨m, hm⟩ : ∃ m, zs.length = m + 1 := ⟨zs.length - 1, by have := h6.ne; omega⟩
  have hz : zs[m]? = some (zs.getD m 0) := by simp [List.getD, show m < zs.length by omega]
  have hle : zs.getD m 0 ≤ size := (vld_size h6 hm hz).1 hv
  have CZ := Lib.hid (fun W (hW : Below w0.heap.size w0 W) => IsAt.get (HL.out.next hW) hz)
  rw [hm] at SM hmx ⊢
  generalize zs.getD m 0 = z at *
  have CK := Lib.hid (fun W => EditR.fault_ref size a c p W ha hc hp)
  have gf : (fault size a c p.size != 0) = true := by simpa using hf
  clear hl hz h6 hv HL hm hf
  have i1 : (m : Int) < ((m + 1 : Nat) : Int) := by omega
  have i2 : (0 : Int) ≤ (m : Int) := by omega
  have r1 : IntKind.i64.wrap ((m : Int) + 1 - 1) = (m : Int) := by rw [show (m : Int) + 1 - 1 = (m : Int) by omega]; exact IntWalk.i64_in _ (by omega)
  have r2 : IntKind.i64.wrap (((m + 1 : Nat) : Int) - 1) = (m : Int) := by rw [show ((m + 1 : Nat) : Int) - 1 = (m : Int) by omega]; exact IntWalk.i64_in _ (by omega)
  generalize fault size a c p.size = fv at *
  go_enter Try.func14, Try.ntmps14
  go_wp2_with fail
  rw [← hw0]
  clear hw0
  refine SM.out.mono ?_
  rintro e w1 ⟨rfl, hb1⟩
  obtain ⟨g, off, rfl, _, c0⟩ := CZ.out _ hb1
  obtain ⟨_, d0, d1, d2, _, _, _⟩ := HB.out.next hb1
  have B := Lib.hid (bstep HW.out hb1)
  clear hb1 SM CZ HW HB
  go_wp2_with fail
  refine (CK.out _).mono ?_
  rintro e w2 ⟨rfl, hb2⟩
  have B2 := Lib.hid (bstep B.out hb2)
  clear hb2 CK B
  go_wp2_with fail
  go_ret2
  exact ⟨_, rfl, IK.nil B2.out⟩

set_option maxRecDepth 100000 in
set_option maxHeartbeats 4000000 in
theorem update_ok (n : Nat) (zs : List Int) (al : Option Addr) (cap a c : Nat) (p : ByteArray) (w : World) (hl : IsAt w al zs) (hv : Vld n zs) (h6n : n ≤ 600) (hac : a + c ≤ n) (hp : n + p.size ≤ 600 + c) :
    Calls Try.prog 14 #[.slice al zs.length cap, .int .i64 (n : Int), .agg #[.int .i64 (a : Int), .int .i64 (c : Int), .string p]] w (IsPost w (sts (made (txt zs n) a c p.data.toList)) 0) := by
  obtain ⟨w0, hw0⟩ : ∃ w0, w0 = w.alloc (.cells #[.int .i64 (a : Int), .int .i64 (c : Int), .string p] 29) := ⟨_, rfl⟩
  have HW : Hid (Below w.heap.size w w0) := Lib.hid (by rw [hw0]; exact balloc (Below.refl _ _) _)
  have HB : Hid (B3 w.heap.size (.int .i64 (a : Int)) (.int .i64 (c : Int)) (.string p) w0) := Lib.hid (by rw [hw0]; exact B3.new _ _ _ _ _)
  have HL : Hid (IsAt w0 al zs) := Lib.hid (by rw [hw0]; exact hl.next (balloc (Below.refl _ _) _))
  have h601 := hv.len
  have SM := Lib.hid (startsMay zs al cap w0 HL.out (by unfold maxLen; omega))
  have h6 := vld_600 hv
  rw [goodB_yes h6] at SM
  obtain ⟨m, hm⟩ : ∃ m, zs.length = m + 1 := ⟨zs.length - 1, by have := h6.ne; omega⟩
  have HG : Hid (∀ i, i < m + 1 → zs[i]? = some (zs.getD i 0)) := Lib.hid fun i hi => by simp [List.getD, show i < zs.length by omega]
  obtain ⟨g, off, rfl, hg0, _⟩ := HL.out.get (HG.out 0 (by omega))
  have HC : Hid (∀ W, Below w0.heap.size w0 W → ∀ i, i < m + 1 → W.cell? ⟨g, off + i, none⟩ = some (.int .i64 (zs.getD i 0))) := Lib.hid fun W hW i hi => by
    obtain ⟨g', off', e', _, c⟩ := IsAt.get (HL.out.next hW) (HG.out i hi)
    simp only [Option.some.injEq, Addr.mk.injEq, and_true] at e'
    obtain ⟨rfl, rfl⟩ := e'
    exact c
  have hle : zs.getD m 0 ≤ n := (vld_size h6 hm (HG.out m (by omega))).1 hv
  have HM := Lib.hid hm
  rw [hm] at SM h601 ⊢
  have CK := Lib.hid (fun W => EditR.fault_ref (n : Int) (a : Int) (c : Int) p W (by omega) (by omega) (by omega))
  rw [fault_ok (by omega) (by omega)] at CK
  have hts : (str (txt zs n)).size = n := by rw [size_str, txt_len]
  have MD := Lib.hid (fun W => EditR.editMade (str (txt zs n)) p a c W (by omega) (by omega) (by omega))
  rw [list_str] at MD
  have SR := Lib.hid (fun W => starts (str (made (txt zs n) a c p.data.toList)) W (by rw [size_str, made_length (by rw [txt_len]; exact hac), txt_len, size_list]; omega))
  rw [list_str] at SR
  have TS : Hid (∀ i, (str (txt zs i)).size = i) := Lib.hid fun i => by rw [size_str, txt_len]
  have TX : Hid (∀ i : Nat, (((i : Int) + 1 ∈ zs) → str (txt zs i) ++ ⟨#[10]⟩ = str (txt zs (i + 1))) ∧ (¬ ((i : Int) + 1 ∈ zs) → str (txt zs i) ++ ⟨#[120]⟩ = str (txt zs (i + 1)))) := Lib.hid fun i => by
    constructor
    · intro h; rw [txt_succ, if_pos h, ← str_append]; rfl
    · intro h; rw [txt_succ, if_neg h, ← str_append]; rfl
  have T0 : Hid (str (txt zs 0) = ⟨#[]⟩) := Lib.hid rfl
  generalize sts (made (txt zs n) a c p.data.toList) = R at *
  generalize made (txt zs n) a c p.data.toList = M at *
  clear hl hv HL hm hts h6
  have c0 := HC.out
  have i1 : (m : Int) < ((m + 1 : Nat) : Int) := by omega
  have i2 : (0 : Int) ≤ (m : Int) := by omega
  have r1 : IntKind.i64.wrap ((m : Int) + 1 - 1) = (m : Int) := by rw [show (m : Int) + 1 - 1 = (m : Int) by omega]; exact IntWalk.i64_in _ (by omega)
  have r2 : IntKind.i64.wrap (((m + 1 : Nat) : Int) - 1) = (m : Int) := by rw [show ((m + 1 : Nat) : Int) - 1 = (m : Int) by omega]; exact IntWalk.i64_in _ (by omega)
  clear c0
  go_enter Try.func14, Try.ntmps14
  go_wp2_with fail
  rw [← hw0]
  clear hw0
  refine SM.out.mono ?_
  rintro e w1 ⟨rfl, hb1⟩
  have cm := HC.out _ hb1 m (by omega)
  obtain ⟨_, d0, d1, d2, _, _, _⟩ := HB.out.next hb1
  have B := Lib.hid hb1
  clear hb1 SM
  generalize zs.getD m 0 = z at *
  go_wp2_with fail
  refine (CK.out _).mono ?_
  rintro e w2 ⟨rfl, hb2⟩
  have B2 := Lib.hid (bstep B.out hb2)
  clear hb2 CK B cm d0 d1 d2
  obtain ⟨_, d0, d1, d2, _, _, _⟩ := HB.out.next B2.out
  have CC := Lib.hid (HC.out _ B2.out)
  clear HC hle
  go_wp2_with fail
  go_loop [9, 10] (fun vt vi => ∃ i : Nat, i ≤ n ∧ vi = .int .i64 (i : Int) ∧ vt = .string (str (txt zs i))) (fun _ vi => n - (intOf vi).toNat)
  case atStart => exact ⟨0, by omega, rfl, by rw [T0.out]⟩
  case round =>
    obtain ⟨i, hi, rfl, rfl⟩ := hrel
    by_cases hlt : i < n
    · have r3 : IntKind.i64.wrap ((i : Int) + 1) = (i : Int) + 1 := IntWalk.i64_in _ (by omega)
      have hsz := TS.out i
      obtain ⟨tx1, tx2⟩ := TX.out i
      have TX1 := Lib.hid tx1
      have TX2 := Lib.hid tx2
      clear tx1 tx2
      have n1 : ¬ 9223372036854775807 < (str (txt zs i)).size + 1 := by omega
      generalize str (txt zs i) = ts at *
      go_wp2_with fail
      go_loop [11, 40] (fun vf vj => ∃ j : Nat, j ≤ m + 1 ∧ vj = .int .i64 (j : Int) ∧ vf = .bool (decide ((i : Int) + 1 ∈ zs.take j))) (fun _ vj => m + 1 - (intOf vj).toNat)
      case atStart => exact ⟨0, by omega, rfl, by simp⟩
      case round =>
        obtain ⟨j, hj, rfl, rfl⟩ := hrel
        by_cases hlt2 : j < m + 1
        · have cj := CC.out j hlt2
          have NX := Lib.hid (mem_next (y := (i : Int) + 1) (HG.out j hlt2))
          generalize decide ((i : Int) + 1 ∈ zs.take j) = f at *
          generalize zs.getD j 0 = x at *
          have j1 : (j : Int) < ((m + 1 : Nat) : Int) := by omega
          have j2 : (0 : Int) ≤ (j : Int) := by omega
          have j3 : (j : Int) < (m : Int) + 1 := by omega
          cases f
          · cases hx : (x == (i : Int) + 1)
            all_goals
              rw [hx] at NX
              go_wp2_with fail
              go_round
              case rel => exact ⟨j + 1, by omega, by go_num, by rw [NX.out]; rfl⟩
              case measure => simp [intOf]; omega
          · go_wp2_with fail
            go_round
            case rel => exact ⟨j + 1, by omega, by go_num, by rw [NX.out]; rfl⟩
            case measure => simp [intOf]; omega
        · obtain rfl : j = m + 1 := by omega
          have hall : zs.take (m + 1) = zs := List.take_of_length_le (by rw [HM.out]; omega)
          rw [hall]
          have j3 : ¬ ((m : Int) + 1 < (m : Int) + 1) := by omega
          by_cases q : (i : Int) + 1 ∈ zs
          · have E := Lib.hid (TX1.out q)
            rw [decide_eq_true q]
            clear q
            go_wp2_with fail
            go_round
            case rel => exact ⟨i + 1, by omega, by go_num, congrArg Value.string E.out⟩
            case measure => simp [intOf]; omega
          · have E := Lib.hid (TX2.out q)
            rw [decide_eq_false q]
            clear q
            go_wp2_with fail
            go_round
            case rel => exact ⟨i + 1, by omega, by go_num, congrArg Value.string E.out⟩
            case measure => simp [intOf]; omega
    · obtain rfl : i = n := by omega
      clear TX TS T0 CC HG
      go_wp2_with fail
      refine (MD.out _).mono ?_
      rintro e w3 ⟨rfl, hb3⟩
      have B3' := Lib.hid (bstep (HW.out.trans (B2.out.mono HW.out.size)) hb3)
      clear hb3 MD d0 d1 d2
      go_wp2_with fail
      refine (SR.out _).mono ?_
      rintro e w4 ⟨v4, rfl, hk4⟩
      have FIN := Lib.hid (hk4.rebase B3'.out)
      clear hk4 SR
      go_wp2_with fail
      go_ret2
      exact ⟨_, rfl, FIN.out⟩
end Go.Proofs.Ytfikolidmpjfcaa.LineR
