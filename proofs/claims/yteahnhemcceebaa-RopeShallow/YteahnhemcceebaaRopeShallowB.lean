/-
  The law RopeShallow, its first loop.
-/
import Derived.Test.YteahnhemcceebaaRopeShallowA
namespace Go.Proofs.Yteahnhemcceebaa.KeepC
open Go.RowKit Kit RopeM RopeC Txt Lift PosM BitsM

/-- what the loop keeps -/
def ShW (w : World) (i now sz : Nat) (L : List OpM) (ov : Value) (wr : World) : Prop := Sh L i now sz ∧ wr.ownsRow w.heap.size 50 6 ov (3 + i) (opCells L) ∧ Below w.heap.size w wr

set_option maxRecDepth 100000 in
set_option maxHeartbeats 20000000 in
theorem ropeShallow (ta : Option Addr) (tlen tcap : Nat) (zs : List Int) (front : Bool) (w : World) (hrow : IsRow .i64 w ta tlen tcap zs) :
    Calls Try.prog 8 #[.slice ta tlen tcap, .bool front] w fun e w' => e = .returned (.bool true) ∧ Below w.heap.size w w' := by
  obtain ⟨i0, hi, hz0, hz1, hz2⟩ := info_parts infoOp
  have HI := Lib.hid (And.intro hi (And.intro hz0 (And.intro hz1 hz2)))
  clear hi hz0 hz1 hz2
  have hlz := row_len hrow
  unfold maxLen at hlz
  have HROW := Lib.hid hrow
  clear hrow
  go_enter Try.func8, Try.ntmps8
  go_wp2_with fail
  go_loopw [5, 6, 7, 8] (fun ov nv sv x wr => ∃ (i now sz : Nat) (L : List OpM), i ≤ 50 ∧ nv = .int .i64 (now : Int) ∧ sv = .int .i64 (sz : Int) ∧ x = .int .i64 (i : Int) ∧ ShW w i now sz L ov wr) (fun _ _ _ x _ => 50 - (intOf x).toNat)
  case atStart => exact ⟨0, 0, 0, base3, by omega, rfl, rfl, rfl, Sh.start, base3_row w, balloc (Below.refl _ _) _⟩
  case round =>
    obtain ⟨i, now, sz, L, hi, rfl, rfl, rfl, hsh, hr, hW⟩ := hrel
    by_cases hi50 : i < 50
    · have HSH := Lib.hid hsh
      have HR := Lib.hid hr
      have HW := Lib.hid hW
      have hup := hsh.up
      have hlt := hsh.lt
      have hwz := hW.size
      clear hsh hr
      cases front with
      | true =>
        by_cases hil : i < tlen
        · obtain ⟨b, off, rfl, hzl, hcell⟩ := row_at (isRow_nx HROW.out hW) (by omega)
          have hck := hcell i (by omega)
          obtain ⟨r, hr⟩ := Int.eq_ofNat_of_zero_le (Int.emod_nonneg (zs.getD i 0) (show (2 : Int) ≠ 0 by omega))
          have lr := Int.emod_lt_of_pos (zs.getD i 0) (show (0 : Int) < 2 by omega)
          have PK := Lib.hid (picked (zs.getD i 0) 2 wr (by omega) (by omega))
          rw [hr] at PK lr
          have hr2 : r = 0 ∨ r = 1 := by omega
          clear hr lr hcell hzl
          generalize zs.getD i 0 = z at *
          rcases hr2 with rfl | rfl
          · clear hW
            have ST := Lib.hid (HSH.out.step (x := 1) (a := 1) (b := now) hi50 (by omega) (.inr ⟨rfl, rfl⟩))
            go_wp2_with (first
              | (go_at_call 21; refine PK.out.mono ?_; rintro e wz ⟨rfl, rfl⟩)
              | (at_builtin; refine wpList_append_lies _ rfl _ _ 22 rfl w.heap.size 50 i0 _ 6 56 Try.underlying22 HI.out.1 HI.out.2.1 HI.out.2.2.1 HI.out.2.2.2 rfl (by decide) _ (3 + i) (opCells L) rfl ((HR.out.alloc _).alloc _) ⟨wr.heap.size + 1, 0, none⟩ 1 1 [.int .i64 2, .string ⟨#[]⟩, .int .i64 1, .int .i64 (now : Int), .int .i64 0, .int .i64 0] rfl rfl (cell6 _ _ _ _ _ _ _ _ _) (by simp [Value.oneCell']) (by omega) (by unfold maxLen; omega) (by omega) (by simp; omega) _ rfl ?_; intro g3 cap3 w3 hown3 hgrow3 _ _; have M3 := Lib.hid (show w3.ownsRow w.heap.size 50 6 (.slice (some ⟨g3, 0, none⟩) (3 + i + 1) cap3) (3 + i + 1) (opCells (L ++ [catOp 1 now])) ∧ Below w.heap.size w w3 from ⟨by rw [opCells_append]; exact hown3, bgrow (balloc (balloc HW.out _) _) ((HR.out.alloc _).alloc _) hgrow3⟩); clear hown3 hgrow3))
            go_roundw
            case rel => exact ⟨i + 1, 3 + i, sz + 1, L ++ [catOp 1 now], by omega, by go_num, by go_num, by go_num, ST.out, by have h := M3.out.1.alloc (.cells #[.int .i64 1, .int .i64 3] 3); rw [show 3 + i + 1 = 3 + (i + 1) by omega] at h; exact h, balloc M3.out.2 _⟩
            case measure => simp [intOf]; omega
          · clear hW
            have ST := Lib.hid (HSH.out.step (x := 2) (a := 2) (b := now) hi50 (by omega) (.inr ⟨rfl, rfl⟩))
            go_wp2_with (first
              | (go_at_call 21; refine PK.out.mono ?_; rintro e wz ⟨rfl, rfl⟩)
              | (at_builtin; refine wpList_append_lies _ rfl _ _ 22 rfl w.heap.size 50 i0 _ 6 56 Try.underlying22 HI.out.1 HI.out.2.1 HI.out.2.2.1 HI.out.2.2.2 rfl (by decide) _ (3 + i) (opCells L) rfl ((HR.out.alloc _).alloc _) ⟨wr.heap.size + 1, 0, none⟩ 1 1 [.int .i64 2, .string ⟨#[]⟩, .int .i64 2, .int .i64 (now : Int), .int .i64 0, .int .i64 0] rfl rfl (cell6 _ _ _ _ _ _ _ _ _) (by simp [Value.oneCell']) (by omega) (by unfold maxLen; omega) (by omega) (by simp; omega) _ rfl ?_; intro g3 cap3 w3 hown3 hgrow3 _ _; have M3 := Lib.hid (show w3.ownsRow w.heap.size 50 6 (.slice (some ⟨g3, 0, none⟩) (3 + i + 1) cap3) (3 + i + 1) (opCells (L ++ [catOp 2 now])) ∧ Below w.heap.size w w3 from ⟨by rw [opCells_append]; exact hown3, bgrow (balloc (balloc HW.out _) _) ((HR.out.alloc _).alloc _) hgrow3⟩); clear hown3 hgrow3))
            go_roundw
            case rel => exact ⟨i + 1, 3 + i, sz + 3, L ++ [catOp 2 now], by omega, by go_num, by go_num, by go_num, ST.out, by have h := M3.out.1.alloc (.cells #[.int .i64 1, .int .i64 3] 3); rw [show 3 + i + 1 = 3 + (i + 1) by omega] at h; exact h, balloc M3.out.2 _⟩
            case measure => simp [intOf]; omega
        · have PK := Lib.hid (picked 0 2 wr (by omega) (by omega))
          have hil2 : tlen ≤ i := by omega
          clear hW
          have ST := Lib.hid (HSH.out.step (x := 1) (a := 1) (b := now) hi50 (by omega) (.inr ⟨rfl, rfl⟩))
          go_wp2_with (first
            | (go_at_call 21; refine PK.out.mono ?_; rintro e wz ⟨rfl, rfl⟩)
            | (at_builtin; refine wpList_append_lies _ rfl _ _ 22 rfl w.heap.size 50 i0 _ 6 56 Try.underlying22 HI.out.1 HI.out.2.1 HI.out.2.2.1 HI.out.2.2.2 rfl (by decide) _ (3 + i) (opCells L) rfl ((HR.out.alloc _).alloc _) ⟨wr.heap.size + 1, 0, none⟩ 1 1 [.int .i64 2, .string ⟨#[]⟩, .int .i64 1, .int .i64 (now : Int), .int .i64 0, .int .i64 0] rfl rfl (cell6 _ _ _ _ _ _ _ _ _) (by simp [Value.oneCell']) (by omega) (by unfold maxLen; omega) (by omega) (by simp; omega) _ rfl ?_; intro g3 cap3 w3 hown3 hgrow3 _ _; have M3 := Lib.hid (show w3.ownsRow w.heap.size 50 6 (.slice (some ⟨g3, 0, none⟩) (3 + i + 1) cap3) (3 + i + 1) (opCells (L ++ [catOp 1 now])) ∧ Below w.heap.size w w3 from ⟨by rw [opCells_append]; exact hown3, bgrow (balloc (balloc HW.out _) _) ((HR.out.alloc _).alloc _) hgrow3⟩); clear hown3 hgrow3))
          go_roundw
          case rel => exact ⟨i + 1, 3 + i, sz + 1, L ++ [catOp 1 now], by omega, by go_num, by go_num, by go_num, ST.out, by have h := M3.out.1.alloc (.cells #[.int .i64 1, .int .i64 3] 3); rw [show 3 + i + 1 = 3 + (i + 1) by omega] at h; exact h, balloc M3.out.2 _⟩
          case measure => simp [intOf]; omega
      | false =>
        by_cases hil : i < tlen
        · obtain ⟨b, off, rfl, hzl, hcell⟩ := row_at (isRow_nx HROW.out hW) (by omega)
          have hck := hcell i (by omega)
          obtain ⟨r, hr⟩ := Int.eq_ofNat_of_zero_le (Int.emod_nonneg (zs.getD i 0) (show (2 : Int) ≠ 0 by omega))
          have lr := Int.emod_lt_of_pos (zs.getD i 0) (show (0 : Int) < 2 by omega)
          have PK := Lib.hid (picked (zs.getD i 0) 2 wr (by omega) (by omega))
          rw [hr] at PK lr
          have hr2 : r = 0 ∨ r = 1 := by omega
          clear hr lr hcell hzl
          generalize zs.getD i 0 = z at *
          rcases hr2 with rfl | rfl
          · clear hW
            have ST := Lib.hid (HSH.out.step (x := 1) (a := now) (b := 1) hi50 (by omega) (.inl ⟨rfl, rfl⟩))
            go_wp2_with (first
              | (go_at_call 21; refine PK.out.mono ?_; rintro e wz ⟨rfl, rfl⟩)
              | (at_builtin; refine wpList_append_lies _ rfl _ _ 22 rfl w.heap.size 50 i0 _ 6 56 Try.underlying22 HI.out.1 HI.out.2.1 HI.out.2.2.1 HI.out.2.2.2 rfl (by decide) _ (3 + i) (opCells L) rfl ((HR.out.alloc _).alloc _) ⟨wr.heap.size + 1, 0, none⟩ 1 1 [.int .i64 2, .string ⟨#[]⟩, .int .i64 (now : Int), .int .i64 1, .int .i64 0, .int .i64 0] rfl rfl (cell6 _ _ _ _ _ _ _ _ _) (by simp [Value.oneCell']) (by omega) (by unfold maxLen; omega) (by omega) (by simp; omega) _ rfl ?_; intro g3 cap3 w3 hown3 hgrow3 _ _; have M3 := Lib.hid (show w3.ownsRow w.heap.size 50 6 (.slice (some ⟨g3, 0, none⟩) (3 + i + 1) cap3) (3 + i + 1) (opCells (L ++ [catOp now 1])) ∧ Below w.heap.size w w3 from ⟨by rw [opCells_append]; exact hown3, bgrow (balloc (balloc HW.out _) _) ((HR.out.alloc _).alloc _) hgrow3⟩); clear hown3 hgrow3))
            go_roundw
            case rel => exact ⟨i + 1, 3 + i, sz + 1, L ++ [catOp now 1], by omega, by go_num, by go_num, by go_num, ST.out, by have h := M3.out.1.alloc (.cells #[.int .i64 1, .int .i64 3] 3); rw [show 3 + i + 1 = 3 + (i + 1) by omega] at h; exact h, balloc M3.out.2 _⟩
            case measure => simp [intOf]; omega
          · clear hW
            have ST := Lib.hid (HSH.out.step (x := 2) (a := now) (b := 2) hi50 (by omega) (.inl ⟨rfl, rfl⟩))
            go_wp2_with (first
              | (go_at_call 21; refine PK.out.mono ?_; rintro e wz ⟨rfl, rfl⟩)
              | (at_builtin; refine wpList_append_lies _ rfl _ _ 22 rfl w.heap.size 50 i0 _ 6 56 Try.underlying22 HI.out.1 HI.out.2.1 HI.out.2.2.1 HI.out.2.2.2 rfl (by decide) _ (3 + i) (opCells L) rfl ((HR.out.alloc _).alloc _) ⟨wr.heap.size + 1, 0, none⟩ 1 1 [.int .i64 2, .string ⟨#[]⟩, .int .i64 (now : Int), .int .i64 2, .int .i64 0, .int .i64 0] rfl rfl (cell6 _ _ _ _ _ _ _ _ _) (by simp [Value.oneCell']) (by omega) (by unfold maxLen; omega) (by omega) (by simp; omega) _ rfl ?_; intro g3 cap3 w3 hown3 hgrow3 _ _; have M3 := Lib.hid (show w3.ownsRow w.heap.size 50 6 (.slice (some ⟨g3, 0, none⟩) (3 + i + 1) cap3) (3 + i + 1) (opCells (L ++ [catOp now 2])) ∧ Below w.heap.size w w3 from ⟨by rw [opCells_append]; exact hown3, bgrow (balloc (balloc HW.out _) _) ((HR.out.alloc _).alloc _) hgrow3⟩); clear hown3 hgrow3))
            go_roundw
            case rel => exact ⟨i + 1, 3 + i, sz + 3, L ++ [catOp now 2], by omega, by go_num, by go_num, by go_num, ST.out, by have h := M3.out.1.alloc (.cells #[.int .i64 1, .int .i64 3] 3); rw [show 3 + i + 1 = 3 + (i + 1) by omega] at h; exact h, balloc M3.out.2 _⟩
            case measure => simp [intOf]; omega
        · have PK := Lib.hid (picked 0 2 wr (by omega) (by omega))
          have hil2 : tlen ≤ i := by omega
          clear hW
          have ST := Lib.hid (HSH.out.step (x := 1) (a := now) (b := 1) hi50 (by omega) (.inl ⟨rfl, rfl⟩))
          go_wp2_with (first
            | (go_at_call 21; refine PK.out.mono ?_; rintro e wz ⟨rfl, rfl⟩)
            | (at_builtin; refine wpList_append_lies _ rfl _ _ 22 rfl w.heap.size 50 i0 _ 6 56 Try.underlying22 HI.out.1 HI.out.2.1 HI.out.2.2.1 HI.out.2.2.2 rfl (by decide) _ (3 + i) (opCells L) rfl ((HR.out.alloc _).alloc _) ⟨wr.heap.size + 1, 0, none⟩ 1 1 [.int .i64 2, .string ⟨#[]⟩, .int .i64 (now : Int), .int .i64 1, .int .i64 0, .int .i64 0] rfl rfl (cell6 _ _ _ _ _ _ _ _ _) (by simp [Value.oneCell']) (by omega) (by unfold maxLen; omega) (by omega) (by simp; omega) _ rfl ?_; intro g3 cap3 w3 hown3 hgrow3 _ _; have M3 := Lib.hid (show w3.ownsRow w.heap.size 50 6 (.slice (some ⟨g3, 0, none⟩) (3 + i + 1) cap3) (3 + i + 1) (opCells (L ++ [catOp now 1])) ∧ Below w.heap.size w w3 from ⟨by rw [opCells_append]; exact hown3, bgrow (balloc (balloc HW.out _) _) ((HR.out.alloc _).alloc _) hgrow3⟩); clear hown3 hgrow3))
          go_roundw
          case rel => exact ⟨i + 1, 3 + i, sz + 1, L ++ [catOp now 1], by omega, by go_num, by go_num, by go_num, ST.out, by have h := M3.out.1.alloc (.cells #[.int .i64 1, .int .i64 3] 3); rw [show 3 + i + 1 = 3 + (i + 1) by omega] at h; exact h, balloc M3.out.2 _⟩
          case measure => simp [intOf]; omega
    · obtain rfl : i = 50 := by omega
      clear HROW hlz
      have hL : L.length = 53 := hsh.len
      have hlo := hsh.lo
      have hup := hsh.up
      have hnow := hsh.lt
      have HV : Hid (OpsV wr u5 L) := Lib.hid (OpsV.of_owns (base := w.heap.size) (by rw [hL]; exact hr))
      obtain ⟨g5, cap5, rfl, hle5⟩ : ∃ g cap, u5 = .slice (some ⟨g, 0, none⟩) 53 cap ∧ 53 ≤ cap := by
        rcases hr.2 with ⟨_, h0⟩ | ⟨g, cap, cur, e, _, _, h2, _⟩
        · omega
        · exact ⟨g, cap, e, h2⟩
      have HC : Hid (∀ j u, (opCells L)[j]? = some u → wr.cell? ((⟨g5, 0, none⟩ : Addr).add j) = some u) := Lib.hid (by
        obtain ⟨a, cap, e, _, ha, _⟩ := HV.out
        simp only [Value.slice.injEq] at e
        obtain ⟨rfl, _, _⟩ := e
        exact ops_cells ha)
      have HCL : Hid ((opCells L).length = 53 * 6) := Lib.hid (by rw [opCells_length, hL])
      have DV : Hid (∀ v W, OpsV W v L → Calls Try.prog 18 #[v] W fun e w' => ∃ g off cap dd, e = .returned (.tuple #[.slice (some ⟨g, off, none⟩) 53 cap, .int .i64 0]) ∧ g < w'.heap.size ∧ w'.cell? ⟨g, off + now, none⟩ = some (.int .i64 ((dd : Nat) : Int)) ∧ 1 ≤ dd ∧ dd ≤ 2 * BitsM.bits sz ∧ Below W.heap.size W w') := Lib.hid fun v W h => depthsV v L now sz W h hsh
      have MV : Hid (∀ W : World, Below wr.heap.size wr W → Calls Try.prog 15 #[.slice (some ⟨g5, 0, none⟩) 53 cap5] W fun e w' => ∃ g cap hv' l c, e = .returned (.tuple #[.slice (some ⟨g, 0, none⟩) 53 cap, hv', .int .i64 0]) ∧ g < w'.heap.size ∧ w'.cell? ⟨g, now * 3, none⟩ = some (.int .i64 (sz : Int)) ∧ w'.cell? ⟨g, now * 3 + 1, none⟩ = some (.int .i64 l) ∧ w'.cell? ⟨g, now * 3 + 2, none⟩ = some (.int .i64 c) ∧ mayB (sz : Int) l c = true ∧ Below W.heap.size W w') := Lib.hid fun W hW => measureV _ L now sz W (HV.out.next hW) hsh
      have HW := Lib.hid hW
      have hb10 : BitsM.bits sz ≤ 10 := bits_le 10 _ (by omega)
      clear hsh hr hW HV
      go_wp2_with (at_builtin; refine wpList_append_own _ rfl _ _ 22 rfl wr.heap.size 50 i0 _ 6 56 Try.underlying22 HI.out.1 HI.out.2.1 HI.out.2.2.1 HI.out.2.2.2 rfl (by decide) _ 0 [] rfl (World.ownsRow_nil _ _ _ _) ⟨g5, 0, none⟩ 53 cap5 (opCells L) rfl HCL.out HC.out (opCells_one L) (by unfold maxLen; omega) (by omega) (by simp) ?_; intro v' w1 hown hgrow _)
      have HV1 : Hid (OpsV w1 v' L) := Lib.hid (OpsV.of_owns (base := wr.heap.size) (by rw [hL]; simpa using hown))
      have B1 : Hid (Below wr.heap.size wr w1) := Lib.hid (grows_below hgrow)
      clear hown hgrow HC HCL
      go_wp2_with fail
      refine (DV.out _ _ HV1.out).mono ?_
      rintro e w2 ⟨gd, offd, capd, dd, rfl, hgd, d0, hd1, hd2, hb⟩
      have B2 : Hid (Below wr.heap.size wr w2) := Lib.hid (bstep B1.out hb)
      clear hb DV HV1 B1
      go_wp2_with fail
      refine (MV.out _ B2.out).mono ?_
      rintro e w3 ⟨gp, capp, hv', lp, cp, rfl, hgp, p0, p1, p2, hmay, hb⟩
      have d0 := keep hb hgd d0
      have B3 : Hid (Below w.heap.size w w3) := Lib.hid (bstep HW.out (bstep B2.out hb))
      have MY := Lib.hid (PosC.may (sz : Int) lp cp w3)
      rw [hmay] at MY
      clear hb MV B2 HW hmay
      go_wp2_with fail
      go_loopw [16, 17] (fun mo x wx => ∃ k : Nat, k ≤ sz ∧ x = .int .i64 (k : Int) ∧ mo = .int .i64 ((2 + 2 * (BitsM.bits sz - BitsM.bits k) : Nat) : Int) ∧ BitsM.bits k ≤ BitsM.bits sz ∧ wx = w3) (fun _ x _ => (intOf x).toNat)
      case atStart => exact ⟨sz, Nat.le_refl _, rfl, by simp, Nat.le_refl _, rfl⟩
      case round =>
        obtain ⟨k, hk, rfl, rfl, hbk, rfl⟩ := hrel
        by_cases hk0 : 0 < k
        · have e1 := bits_pos hk0
          have e2 : ((2 + 2 * (BitsM.bits sz - BitsM.bits (k / 2)) : Nat) : Int) = ((2 + 2 * (BitsM.bits sz - BitsM.bits k) : Nat) : Int) + 2 := by omega
          have hmo : 2 + 2 * (BitsM.bits sz - BitsM.bits k) ≤ 22 := by omega
          have HE2 := Lib.hid e2
          have HB2 : BitsM.bits (k / 2) ≤ BitsM.bits sz := by omega
          clear e1 e2
          generalize 2 + 2 * (BitsM.bits sz - BitsM.bits k) = mo at *
          go_wp2_with fail
          go_roundw
          case rel => exact ⟨k / 2, by omega, by go_num, by rw [HE2.out], HB2, trivial⟩
          case measure => simp [intOf]; omega
        · obtain rfl : k = 0 := by omega
          have e0 : 2 + 2 * (BitsM.bits sz - BitsM.bits 0) = 2 + 2 * BitsM.bits sz := by rw [bits_zero]; omega
          rw [e0]
          clear e0 hbk hb10
          have x1 : dd ≤ 2 + 2 * BitsM.bits sz := by omega
          generalize 2 + 2 * BitsM.bits sz = mo at *
          have x2 : decide ((dd : Int) ≤ (mo : Int)) = true := by simp; omega
          have x3 : decide ((1 : Int) ≤ (dd : Int)) = true := by simp; omega
          go_wp2_with fail
          refine MY.out.mono ?_
          rintro e w4 ⟨rfl, hb⟩
          have B4 := Lib.hid (bstep B3.out hb)
          clear hb
          go_wp2_with fail
          go_ret
          exact ⟨rfl, B4.out⟩

end Go.Proofs.Yteahnhemcceebaa.KeepC
