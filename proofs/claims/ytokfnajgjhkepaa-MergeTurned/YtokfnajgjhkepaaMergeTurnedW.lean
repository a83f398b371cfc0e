/-
  The law MergeTurned, walked, where package merge keeps its contracts.
-/
import Derived.Test.YtokfnajgjhkepaaMergeOneW
import Derived.Test.YtokfnajgjhkepaaMergeBound
namespace Go.Proofs.Ytokfnajgjhkepaa.MergeT
open Go.RowKit Kit Lift Txt LineM StrM DiffM DiffA DiffR DiffP DiffK

set_option maxRecDepth 100000 in
set_option maxHeartbeats 2000000 in
theorem mergeTurned (P : MergeProg) (a0 : Option Addr) (len0 cap0 : Nat) (zs : List Int) (a1 : Option Addr) (len1 cap1 : Nat) (ys : List Int) (a2 : Option Addr) (len2 cap2 : Nat) (xs : List Int) (kd : Int) (w : World) (h0 : IsRow .i64 w a0 len0 cap0 zs) (h1 : IsRow .i64 w a1 len1 cap1 ys) (h2 : IsRow .i64 w a2 len2 cap2 xs) {X : Prop} (_ : X) :
    Calls Try.prog 5 #[.slice a0 len0 cap0, .slice a1 len1 cap1, .slice a2 len2 cap2, .int .i64 kd] w fun e w' => e = .returned (.bool true) ∧ Below w.heap.size w w' := by
  obtain ⟨hk1, hk8⟩ := kinds8 kd
  have PK := Lib.hid (fun W => picked kd 8 W (by omega) (by omega))
  obtain ⟨r, hr⟩ : ∃ r, kd % 8 = r := ⟨_, rfl⟩
  rw [hr] at hk1 hk8 PK
  clear hr
  have L0 := Lib.hid (fun W (hW : Below w.heap.size w W) => lines a0 len0 cap0 zs 25 (1 + r) W (kept h0 hW) (by omega) hk1 hk8)
  have L1 := Lib.hid (fun W (hW : Below w.heap.size w W) => lines a1 len1 cap1 ys 25 (1 + r) W (kept h1 hW) (by omega) hk1 hk8)
  have L2 := Lib.hid (fun W (hW : Below w.heap.size w W) => lines a2 len2 cap2 xs 25 (1 + r) W (kept h2 hW) (by omega) hk1 hk8)
  have MG := Lib.hid (fun v0 v1 v2 la lb lc W h0 h1 h2 ha hb hc => merged P v0 v1 v2 la lb lc W h0 h1 h2 ha hb hc)
  have ST := Lib.hid (fun v1 v2 l W (h1 : SlV 1 sc W v1 l) (h2 : SlV 1 sc W v2 l) hl => same_yes h1 h2 hl)
  have r0 : IntKind.i64.wrap (1 + r) = 1 + r := IntWalk.i64_in _ (by omega)
  clear h0 h1 h2 P
  go_enter Try.func5, Try.ntmps5
  go_wp2_with fail
  refine (PK.out _).mono ?_
  rintro e w' ⟨rfl, rfl⟩
  clear PK
  go_wp2_with fail
  refine (L0.out _ (Below.refl _ _)).mono ?_
  rintro e w1 ⟨v1, la, rfl, hs1, ho1⟩
  have B1 := Lib.hid hs1.bel
  have V1 := Lib.hid hs1.val
  have OA := Lib.hid (ho1.ok (by omega))
  clear hs1 ho1 L0
  go_wp2_with fail
  refine (L1.out _ B1.out).mono ?_
  rintro e w2 ⟨v2, lb, rfl, hs2, ho2⟩
  have B2 := Lib.hid (bstep B1.out hs2.bel)
  have V1' := Lib.hid (V1.out.next hs2.bel)
  have V2 := Lib.hid hs2.val
  have OB := Lib.hid (ho2.ok (by omega))
  clear hs2 ho2 L1 V1 B1
  go_wp2_with fail
  refine (L2.out _ B2.out).mono ?_
  rintro e w3 ⟨v3, lc, rfl, hs3, ho3⟩
  have B3 := Lib.hid (bstep B2.out hs3.bel)
  have W1 := Lib.hid (fun W (hW : Below w3.heap.size w3 W) => (V1'.out.next hs3.bel).next hW)
  have W2 := Lib.hid (fun W (hW : Below w3.heap.size w3 W) => (V2.out.next hs3.bel).next hW)
  have W3 := Lib.hid (fun W (hW : Below w3.heap.size w3 W) => hs3.val.next hW)
  have OC := Lib.hid (ho3.ok (by omega))
  clear hs3 ho3 L2 V1' V2 B2
  have M1 := Lib.hid (fun W (hW : Below w3.heap.size w3 W) => MG.out v1 v2 v3 la lb lc W (W1.out W hW) (W2.out W hW) (W3.out W hW) OA.out OB.out OC.out)
  have M2 := Lib.hid (fun W (hW : Below w3.heap.size w3 W) => MG.out v1 v3 v2 la lc lb W (W1.out W hW) (W3.out W hW) (W2.out W hW) OA.out OC.out OB.out)
  have ht := mrg_turn (m1 := mk1) (m2 := mk2) (m3 := mk3) la lb lc
  have hl := mrg_len (m1 := mk1) (m2 := mk2) (m3 := mk3) OA.out.1 OB.out.1 OC.out.1
  clear MG OA OB OC W1 W2 W3
  generalize mrg mk1 mk2 mk3 la lb lc = R at *
  generalize mrg mk1 mk2 mk3 la lc lb = S at *
  obtain ⟨L, p⟩ := R
  obtain ⟨M, q⟩ := S
  dsimp only at ht hl
  obtain ⟨rfl, hLM, hsame⟩ := ht
  go_wp2_with fail
  refine (M1.out _ (Below.refl _ _)).mono ?_
  rintro e w4 ⟨v4, rfl, hv4, hb4⟩
  have B4 := Lib.hid hb4
  have V4 := Lib.hid hv4
  clear hv4 hb4 M1
  go_wp2_with fail
  refine (M2.out _ B4.out).mono ?_
  rintro e w5 ⟨v5, rfl, hv5, hb5⟩
  have B5 := Lib.hid (bstep B3.out (bstep B4.out hb5))
  have V4' := Lib.hid (V4.out.next hb5)
  have V5 := Lib.hid hv5
  clear hv5 hb5 M2 B4 V4
  obtain ⟨a4, c4, e4, _⟩ := V4'.out
  obtain ⟨a5, c5, e5, _⟩ := V5.out
  dsimp only at e4 e5 V4' V5 ⊢
  subst e4 e5
  rw [← hLM] at V5 ⊢
  by_cases hp : 0 < p
  · have q1 : (p : Int) > 0 := by omega
    have q2 : decide ((p : Int) > 0) = true := decide_eq_true q1
    have q3 : decide (0 < p) = true := decide_eq_true hp
    clear hsame hLM V4' V5 ST
    generalize L.length = k at *
    go_wp2_with fail
    go_ret
    exact ⟨by first | rfl | (simp; done) | (simp; omega), B5.out⟩
  · have hp0 : p = 0 := by omega
    have hLM2 := hsame hp0
    have hV5 : SlV 1 sc w5 (.slice a5 L.length c5) L := by
      have := V5.out
      rwa [← hLM2] at this
    have S1 := Lib.hid (ST.out (.slice a4 L.length c4) (.slice a5 L.length c5) L w5 V4'.out hV5 hl)
    subst hp0
    clear hsame hLM hLM2 V4' V5 ST hp hV5
    generalize L.length = k at *
    go_wp2_with fail
    refine S1.out.mono ?_
    rintro e w6 ⟨rfl, hb6⟩
    have B6 := Lib.hid (bstep B5.out hb6)
    clear hb6
    go_wp2_with fail
    go_ret
    exact ⟨by first | rfl | (simp; done) | (simp; omega), B6.out⟩
end Go.Proofs.Ytokfnajgjhkepaa.MergeT
