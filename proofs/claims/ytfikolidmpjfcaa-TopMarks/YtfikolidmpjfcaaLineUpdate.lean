/-
  Package lines: what Update answers at valid starts and a valid edit.
-/
import Derived.Test.YtfikolidmpjfcaaLineAppend
import Derived.Test.YtfikolidmpjfcaaLineSearch
import Derived.Test.YtfikolidmpjfcaaLineValid
import Derived.Test.YtfikolidmpjfcaaEditCheck
import Derived.Laws.AppendOwn
namespace Go.Proofs.Ytfikolidmpjfcaa.LineC
open Go.RowKit Kit EditM LineM

set_option maxRecDepth 100000 in
set_option maxHeartbeats 4000000 in
theorem update_ok (t : Bs) (al : Option Addr) (cap a c : Nat) (p : ByteArray) (w : World) (hl : IsAt w al (sts t)) (hlc : (sts t).length ≤ cap) (hac : a + c ≤ t.length) (ht : t.length ≤ 600) (hp : t.length + p.size ≤ 600 + c) :
    Calls Try.prog 13 #[.slice al (sts t).length cap, .int .i64 (t.length : Int), .agg #[.int .i64 (a : Int), .int .i64 (c : Int), .string p]] w (IsPost w (sts (made t a c p.data.toList)) 0) := by
  obtain ⟨w0, hw0⟩ : ∃ w0, w0 = w.alloc (.cells #[.int .i64 (a : Int), .int .i64 (c : Int), .string p] 29) := ⟨_, rfl⟩
  have HL : Hid (IsAt w0 al (sts t)) := Lib.hid (by rw [hw0]; exact hl.next (balloc (Below.refl _ _) _))
  have HB : Hid (B3 w.heap.size (.int .i64 (a : Int)) (.int .i64 (c : Int)) (.string p) w0) := Lib.hid (by rw [hw0]; exact B3.new _ _ _ _ _)
  have HW : Hid (Below w.heap.size w w0) := Lib.hid (by rw [hw0]; exact balloc (Below.refl _ _) _)
  have hg := sts_good (n := (t.length : Int)) (Int.le_refl _) ht
  have h601 := hg.len
  have VA := Lib.hid (valid (t.length : Int) (sts t) al cap w0 HL.out hlc (by unfold maxLen; omega))
  rw [goodB_yes hg] at VA
  have CK := Lib.hid (fun W => EditC.check (t.length : Int) (a : Int) (c : Int) p W (by omega) (by omega))
  rw [fault_ok (by omega) (by omega)] at CK
  have CU := Lib.hid (fun (x : Int) W (hW : Below w0.heap.size w0 W) => countUpTo (sts t) al cap x W (HL.out.next hW) (by omega))
  have AP := Lib.hid (fun w1 xs v W (hv : IK w1 xs v W) (hx : xs.length ≤ 1000) => appendStarts w1 xs v p (a : Int) W hv hx (by omega) (by omega) (by omega))
  have SM := Lib.hid (fun i j hi hj => sts_made (p := p.data.toList) (i := i) (j := j) hac hi hj)
  have SP := Lib.hid (fun i hi => upto_pos (i := i) (a := (a : Int)) hg (by omega) hi)
  have RG : Hid (∀ x ∈ sts t, 0 ≤ x ∧ x ≤ 600) := Lib.hid fun x hx => by have := sts_rng hx; omega
  have FL : Hid ((fts a p.data.toList).length ≤ p.size) := Lib.hid (by rw [fts_len]; have := PosM.lns_col_le p.data.toList; rw [size_list] at this; omega)
  obtain ⟨g, off, rfl, hg0, _⟩ := HL.out.get hg.head
  generalize sts (made t a c p.data.toList) = R at *
  generalize fts a p.data.toList = F at *
  generalize sts t = zs at *
  generalize (t.length : Int) = tl at *
  obtain ⟨n, hn⟩ : ∃ n, n = zs.length := ⟨_, rfl⟩
  have HN := Lib.hid hn
  have EB : Hid (∀ W, Below w0.heap.size w0 W → B3 w.heap.size (.int .i64 (a : Int)) (.int .i64 (c : Int)) (.string p) W) := Lib.hid fun W hW => HB.out.next hW
  rw [← hn] at hlc h601 VA CU ⊢
  obtain ⟨i0, hi, hz0, hz1, hz2⟩ := info_parts infoInt
  have HI := Lib.hid (And.intro hi (And.intro hz0 (And.intro hz1 hz2)))
  have r1 : IntKind.i64.wrap ((a : Int) + (c : Int)) = (a : Int) + (c : Int) := IntWalk.i64_in _ (by omega)
  obtain ⟨_, d0, d1, d2, _, _, _⟩ := HB.out
  clear hi hz0 hz1 hz2 hn hl hg HB
  go_enter Try.func13, Try.ntmps13
  go_wp2_with fail
  rw [← hw0]
  clear hw0
  refine VA.out.mono ?_
  rintro e w1 ⟨rfl, rfl⟩
  clear VA
  go_wp2_with fail
  refine (CK.out _).mono ?_
  rintro e w1 ⟨rfl, hb1⟩
  have B1 := Lib.hid hb1
  clear hb1 CK d0 d1 d2
  obtain ⟨_, d0, d1, d2, _, _, _⟩ := EB.out _ B1.out
  go_wp2_with fail
  refine (CU.out _ _ B1.out).mono ?_
  rintro e w2 ⟨i, rfl, hu1, hb2⟩
  have U1 := Lib.hid hu1
  have hi0 := SP.out i hu1
  have hin := hu1.le
  rw [← HN.out] at hin
  have B2 := Lib.hid (bstep B1.out hb2)
  clear hu1 hb2 d0 d1 d2 SP B1
  obtain ⟨_, d0, d1, d2, _, _, _⟩ := EB.out _ B2.out
  have i1 : (0 : Int) ≤ (i : Int) := by omega
  have i2 : (i : Int) ≤ (n : Int) := by omega
  go_wp2_with fail
  refine (CU.out _ _ B2.out).mono ?_
  rintro e w3 ⟨j, rfl, hu2, hb3⟩
  have hjn := hu2.le
  rw [← HN.out] at hjn
  have RR := Lib.hid (SM.out i j U1.out hu2)
  have B3' := Lib.hid (bstep B2.out hb3)
  clear hu2 hb3 d0 d1 d2 B2 CU SM U1
  obtain ⟨_, d0, d1, d2, _, _, _⟩ := EB.out _ B3'.out
  obtain ⟨m, rfl⟩ : ∃ m, n = j + m := ⟨n - j, by omega⟩
  obtain ⟨cp, rfl⟩ : ∃ cp, cap = j + cp := ⟨cap - j, by omega⟩
  have j1 : (0 : Int) ≤ (j : Int) := by omega
  have j2 : (j : Int) ≤ ((j + m : Nat) : Int) := by omega
  have TI : Hid (IsAt w3 (some ⟨g, off, none⟩) (zs.take i) ∧ (zs.take i).length = i) := Lib.hid ⟨(HL.out.next B3'.out).take i, by rw [List.length_take, ← HN.out]; omega⟩
  have DI : Hid (IsAt w0 (some ⟨g, off + j, none⟩) (zs.drop j) ∧ (zs.drop j).length = m) := Lib.hid ⟨by have := HL.out.drop j; simpa using this, by rw [List.length_drop, ← HN.out]; omega⟩
  have RT : Hid (∀ x ∈ zs.drop j, 0 ≤ x ∧ x ≤ 600) := Lib.hid fun x hx => RG.out x (List.mem_of_mem_drop hx)
  have PL : Hid ((p.data.toList.length : Int) = (p.size : Int)) := Lib.hid (by simp)
  rw [PL.out] at RR
  generalize zs.take i = xs at *
  generalize zs.drop j = ys at *
  clear RG PL HL
  have hzz : w0.heap.size ≤ w3.heap.size := B3'.out.size
  have LW : Hid ((w3.alloc (.cells #[] 3)).ownsRow w0.heap.size 3 1 (.slice (some ⟨w3.heap.size, 0, none⟩) 0 0) 0 []) := Lib.hid (World.ownsRow_lit w3 #[] 0 hzz (by unfold maxLen; omega) rfl)
  have TA : Hid (IsAt (w3.alloc (.cells #[] 3)) (some ⟨g, off, none⟩) xs) := Lib.hid (TI.out.1.next (balloc (Below.refl _ _) _))
  have TL := TI.out.2
  have NF : Hid (∀ v' w', w'.ownsRow w0.heap.size 3 1 v' (0 + i) ([] ++ flatC ic xs) → (w3.alloc (.cells #[] 3)).grownBy w' (some w3.heap.size) → IK w0 xs v' w') := Lib.hid fun v' w' h1 h2 =>
    ⟨by rw [TI.out.2]; simpa using h1, bgrow (balloc B3'.out _) LW.out h2⟩
  obtain ⟨off2, ho2⟩ : ∃ off2, (if cp = 0 then off else off + j) = off2 := ⟨_, rfl⟩
  have DJ : Hid (IsAt w0 (some ⟨g, off2, none⟩) ys ∧ ys.length = m) := Lib.hid (by
    by_cases q : cp = 0
    · have : ys = [] := List.eq_nil_of_length_eq_zero (by rw [DI.out.2]; omega)
      subst this
      exact ⟨SlAt.nil _ _, DI.out.2⟩
    · rw [← ho2, if_neg q]; exact DI.out)
  clear DI TI
  by_cases hcp : cp = 0
  · rw [if_pos hcp] at ho2; subst ho2; subst hcp
    go_wp2_with (at_builtin; refine wpList_append_own _ rfl _ _ 22 rfl w0.heap.size 3 i0 _ 1 8 Try.underlying22 HI.out.1 HI.out.2.1 HI.out.2.2.1 HI.out.2.2.2 rfl (by decide) _ 0 [] rfl LW.out ⟨g, off, none⟩ i _ (flatC ic xs) rfl (by rw [flatC_length ic_len, TL]) (SlAt.cells_at ic_len (by omega) TA.out) (flatC_all ic_one xs) (by unfold maxLen; omega) (by omega) (by simp; omega) ?_; intro v4 w4 hown4 hgrow4 _; have K4 := Lib.hid (NF.out v4 w4 hown4 hgrow4); obtain ⟨_, q0, q1, q2, _, _, _⟩ := EB.out _ K4.out.bel; clear hown4 hgrow4)
    have A1 := Lib.hid (AP.out w0 xs v4 w4 K4.out (by omega))
    clear K4 AP NF TA LW d0 d1 d2 q0 q1 q2
    refine A1.out.mono ?_
    rintro e w5 ⟨v5, rfl, hk5⟩
    have K5 := Lib.hid hk5
    clear hk5 A1
    go_wp2_with fail
    go_loopw [11, 50] (fun vo vi wr => ∃ k : Nat, k ≤ m ∧ vi = .int .i64 (k : Int) ∧ Hid (IK w0 (xs ++ F ++ (ys.take k).map fun x => x + (p.size : Int) - (c : Int)) vo wr)) (fun _ vi _ => m - (intOf vi).toNat)
    case atStart => exact ⟨0, by omega, rfl, Lib.hid (by simpa using K5.out)⟩
    case round =>
      obtain ⟨k, hk, rfl, HK⟩ := hrel
      clear K5
      obtain ⟨_, d0, d1, d2, _, _, _⟩ := EB.out _ HK.out.bel
      obtain rfl : k = 0 := by omega
      obtain rfl : m = 0 := by omega
      have FIN : Hid (IK w R u11 wr) := Lib.hid (by
        have := HK.out
        rw [← DJ.out.2, List.take_length, ← RR.out] at this
        exact this.rebase HW.out)
      clear HK
      go_wp2_with fail
      go_ret2
      exact ⟨_, rfl, FIN.out⟩
  · rw [if_neg hcp] at ho2; subst ho2
    go_wp2_with (at_builtin; refine wpList_append_own _ rfl _ _ 22 rfl w0.heap.size 3 i0 _ 1 8 Try.underlying22 HI.out.1 HI.out.2.1 HI.out.2.2.1 HI.out.2.2.2 rfl (by decide) _ 0 [] rfl LW.out ⟨g, off, none⟩ i _ (flatC ic xs) rfl (by rw [flatC_length ic_len, TL]) (SlAt.cells_at ic_len (by omega) TA.out) (flatC_all ic_one xs) (by unfold maxLen; omega) (by omega) (by simp; omega) ?_; intro v4 w4 hown4 hgrow4 _; have K4 := Lib.hid (NF.out v4 w4 hown4 hgrow4); obtain ⟨_, q0, q1, q2, _, _, _⟩ := EB.out _ K4.out.bel; clear hown4 hgrow4)
    have A1 := Lib.hid (AP.out w0 xs v4 w4 K4.out (by omega))
    clear K4 AP NF TA LW d0 d1 d2 q0 q1 q2
    refine A1.out.mono ?_
    rintro e w5 ⟨v5, rfl, hk5⟩
    have K5 := Lib.hid hk5
    clear hk5 A1
    go_wp2_with fail
    go_loopw [11, 50] (fun vo vi wr => ∃ k : Nat, k ≤ m ∧ vi = .int .i64 (k : Int) ∧ Hid (IK w0 (xs ++ F ++ (ys.take k).map fun x => x + (p.size : Int) - (c : Int)) vo wr)) (fun _ vi _ => m - (intOf vi).toNat)
    case atStart => exact ⟨0, by omega, rfl, Lib.hid (by simpa using K5.out)⟩
    case round =>
      obtain ⟨k, hk, rfl, HK⟩ := hrel
      clear K5
      obtain ⟨_, d0, d1, d2, _, _, _⟩ := EB.out _ HK.out.bel
      by_cases hlt : k < m
      · have hy : ys[k]? = some (ys.getD k 0) := by have := DJ.out.2; simp [List.getD, show k < ys.length by omega]
        obtain ⟨g', off', e', hg', cx⟩ := IsAt.get (DJ.out.1.next HK.out.bel) hy
        simp only [Option.some.injEq, Addr.mk.injEq, and_true] at e'
        obtain ⟨rfl, rfl⟩ := e'
        obtain ⟨x0, x1⟩ := RT.out _ (List.mem_of_getElem? hy)
        have E : Hid (xs ++ F ++ (ys.take (k + 1)).map (fun x => x + (p.size : Int) - (c : Int)) = (xs ++ F ++ (ys.take k).map (fun x => x + (p.size : Int) - (c : Int))) ++ [ys.getD k 0 + (p.size : Int) - (c : Int)]) := Lib.hid (by
          rw [take_next hy, List.map_append]; simp)
        have hL : (xs ++ F ++ (ys.take k).map (fun x => x + (p.size : Int) - (c : Int))).length ≤ 2000 := by
          have := FL.out
          simp only [List.length_append, List.length_map, List.length_take, TL]; omega
        generalize xs ++ F ++ (ys.take k).map (fun x => x + (p.size : Int) - (c : Int)) = L at *
        generalize ys.getD k 0 = x at *
        clear hy
        have hsz := HK.out.bel.size
        have HROW := Lib.hid (HK.out.row)
        have r2 : IntKind.i64.wrap (x + (p.size : Int)) = x + (p.size : Int) := IntWalk.i64_in _ (by omega)
        have r3 : IntKind.i64.wrap (x + (p.size : Int) - (c : Int)) = x + (p.size : Int) - (c : Int) := IntWalk.i64_in _ (by omega)
        have k1 : (0 : Int) ≤ (k : Int) := by omega
        have k2 : (k : Int) < (m : Int) := by omega
        go_wp2_with (at_builtin; refine wpList_append_lies _ rfl _ _ 22 rfl w0.heap.size 3 i0 _ 1 8 Try.underlying22 HI.out.1 HI.out.2.1 HI.out.2.2.1 HI.out.2.2.2 rfl (by decide) _ L.length (flatC ic L) rfl (HROW.out.alloc _) ⟨wr.heap.size, 0, none⟩ 1 1 [.int .i64 (x + (p.size : Int) - (c : Int))] rfl rfl (cell_one_new _ _ _) (by simp [Value.oneCell']) (by omega) (by unfold maxLen; omega) (by omega) (by simp; omega) _ rfl ?_; intro g6 cap6 w6 hown6 hgrow6 _ _)
        go_roundw
        case rel => exact ⟨k + 1, by omega, by go_num, Lib.hid ⟨by rw [E.out, List.length_append, flatC_append]; exact hown6, bgrow (balloc HK.out.bel _) (HROW.out.alloc _) hgrow6⟩⟩
        case measure => simp [intOf]; omega
      · obtain rfl : k = m := by omega
        have FIN : Hid (IK w R u11 wr) := Lib.hid (by
          have := HK.out
          rw [← DJ.out.2, List.take_length, ← RR.out] at this
          exact this.rebase HW.out)
        clear HK
        go_wp2_with fail
        go_ret2
        exact ⟨_, rfl, FIN.out⟩
end Go.Proofs.Ytfikolidmpjfcaa.LineC
