/-
  The laws MergeOne and MergeTurned, walked, where package merge keeps its contracts.
-/
import Derived.Test.YtokfnajgjhkepaaKeepMerged
import Derived.Test.YtokfnajgjhkepaaKeepLn
namespace Go.Proofs.Ytokfnajgjhkepaa.MergeT
open Go.RowKit Kit Lift Txt LineM StrM DiffM DiffA DiffR DiffP DiffK

/-- the same lines, told so -/
theorem same_yes {v1 v2 : Value} {l : List ByteArray} {W : World} (h1 : SlV 1 sc W v1 l) (h2 : SlV 1 sc W v2 l) (hl : l.length ≤ 100000) : Calls Try.prog 14 #[v1, v2] W fun e w' => e = .returned (.bool true) ∧ Below W.heap.size W w' := by
  refine (sameTexts v1 v2 l l W h1 h2 hl).mono ?_
  rintro e w' ⟨b, rfl, hb, hbw⟩
  exact ⟨by rw [hb.2 rfl], hbw⟩
set_option maxRecDepth 100000 in
set_option maxHeartbeats 8000000 in
theorem mergeOne (P : MergeProg) (a0 : Option Addr) (len0 cap0 : Nat) (zs : List Int) (a1 : Option Addr) (len1 cap1 : Nat) (ys : List Int) (kd : Int) (w : World) (h0 : IsRow .i64 w a0 len0 cap0 zs) (h1 : IsRow .i64 w a1 len1 cap1 ys) {X : Prop} (_ : X) :
    Calls Try.prog 4 #[.slice a0 len0 cap0, .slice a1 len1 cap1, .int .i64 kd] w fun e w' => e = .returned (.bool true) ∧ Below w.heap.size w w' := by
  obtain ⟨hk1, hk8⟩ := kinds8 kd
  have PK := Lib.hid (fun W => picked kd 8 W (by omega) (by omega))
  obtain ⟨r, hr⟩ : ∃ r, kd % 8 = r := ⟨_, rfl⟩
  rw [hr] at hk1 hk8 PK
  clear hr
  have L0 := Lib.hid (fun W (hW : Below w.heap.size w W) => lines a0 len0 cap0 zs 30 (1 + r) W (kept h0 hW) (by omega) hk1 hk8)
  have L1 := Lib.hid (fun W (hW : Below w.heap.size w W) => lines a1 len1 cap1 ys 30 (1 + r) W (kept h1 hW) (by omega) hk1 hk8)
  have MG := Lib.hid (fun v0 v1 v2 la lb lc W h0 h1 h2 ha hb hc => merged P v0 v1 v2 la lb lc W h0 h1 h2 ha hb hc)
  have ST := Lib.hid (fun v1 v2 l W (h1 : SlV 1 sc W v1 l) (h2 : SlV 1 sc W v2 l) hl => same_yes h1 h2 hl)
  have r0 : IntKind.i64.wrap (1 + r) = 1 + r := IntWalk.i64_in _ (by omega)
  clear h0 h1 P
  go_enter Try.func4, Try.ntmps4
  go_wp2_with fail
  refine (PK.out _).mono ?_
  rintro e w' ⟨rfl, rfl⟩
  clear PK
  go_wp2_with fail
  refine (L0.out _ (Below.refl _ _)).mono ?_
  rintro e w1 ⟨v1, la, rfl, hs1, ho1⟩
  have B1 := Lib.hid hs1.bel
  have V1 := Lib.hid hs1.val
  have OA := Lib.hid (ho1.ok (by omega))
  clear hs1 ho1 L0
  go_wp2_with fail
  refine (L1.out _ B1.out).mono ?_
  rintro e w2 ⟨v2, lb, rfl, hs2, ho2⟩
  have B2 := Lib.hid (bstep B1.out hs2.bel)
  have W1 := Lib.hid (fun W (hW : Below w2.heap.size w2 W) => (V1.out.next hs2.bel).next hW)
  have W2 := Lib.hid (fun W (hW : Below w2.heap.size w2 W) => hs2.val.next hW)
  have OB := Lib.hid (ho2.ok (by omega))
  clear hs2 ho2 L1 V1 B1
  have M1 := Lib.hid (fun W (hW : Below w2.heap.size w2 W) => MG.out v1 v2 v1 la lb la W (W1.out W hW) (W2.out W hW) (W1.out W hW) OA.out OB.out OA.out)
  have M2 := Lib.hid (fun W (hW : Below w2.heap.size w2 W) => MG.out v1 v1 v2 la la lb W (W1.out W hW) (W1.out W hW) (W2.out W hW) OA.out OA.out OB.out)
  have M3 := Lib.hid (fun W (hW : Below w2.heap.size w2 W) => MG.out v1 v2 v2 la lb lb W (W1.out W hW) (W2.out W hW) (W2.out W hW) OA.out OB.out OB.out)
  rw [mrg_left] at M1
  rw [mrg_right] at M2
  rw [mrg_same] at M3
  clear MG OA W1
  go_wp2_with fail
  refine (M1.out _ (Below.refl _ _)).mono ?_
  rintro e w3 ⟨v3, rfl, hv3, hb3⟩
  have B3 := Lib.hid hb3
  have V3 := Lib.hid hv3
  clear hv3 hb3 M1
  go_wp2_with fail
  refine (M2.out _ B3.out).mono ?_
  rintro e w4 ⟨v4, rfl, hv4, hb4⟩
  have B4 := Lib.hid (bstep B3.out hb4)
  have V3' := Lib.hid (V3.out.next hb4)
  have V4 := Lib.hid hv4
  clear hv4 hb4 M2 B3 V3
  go_wp2_with fail
  refine (M3.out _ B4.out).mono ?_
  rintro e w5 ⟨v5, rfl, hv5, hb5⟩
  have B5 := Lib.hid (bstep B4.out hb5)
  have X3 := Lib.hid (fun W (hW : Below w5.heap.size w5 W) => (V3'.out.next hb5).next hW)
  have X4 := Lib.hid (fun W (hW : Below w5.heap.size w5 W) => (V4.out.next hb5).next hW)
  have X5 := Lib.hid (fun W (hW : Below w5.heap.size w5 W) => hv5.next hW)
  have S1 := Lib.hid (fun v W (hW : Below w5.heap.size w5 W) (hv : SlV 1 sc W v lb) => ST.out v v2 lb W hv (W2.out W (bstep B5.out hW)) (by have := OB.out.1; omega))
  clear hv5 hb5 M3 B4 V3' V4 ST W2 OB
  go_wp2_with fail
  refine (S1.out v3 w5 (Below.refl _ _) (X3.out _ (Below.refl _ _))).mono ?_
  rintro e w6 ⟨rfl, hb6⟩
  have B6 := Lib.hid hb6
  clear hb6
  go_wp2_with fail
  refine (S1.out v4 w6 B6.out (X4.out _ B6.out)).mono ?_
  rintro e w7 ⟨rfl, hb7⟩
  have B7 := Lib.hid (bstep B6.out hb7)
  clear hb7
  go_wp2_with fail
  refine (S1.out v5 w7 B7.out (X5.out _ B7.out)).mono ?_
  rintro e w8 ⟨rfl, hb8⟩
  have B8 := Lib.hid (bstep B2.out (bstep B5.out (bstep B7.out hb8)))
  clear hb8
  go_wp2_with fail
  go_ret
  exact ⟨by first | rfl | simp, B8.out⟩
end Go.Proofs.Ytokfnajgjhkepaa.MergeT
