/-
  The law MergeFar, walked, where package merge keeps its contracts.
-/
import Derived.Test.YtokfnajgjhkepaaMergeOneW
import Derived.Test.YtokfnajgjhkepaaBnd1
namespace Go.Proofs.Ytokfnajgjhkepaa.MergeT
open Go.RowKit Kit Lift Txt LineM StrM DiffM DiffA DiffR DiffP DiffK

def mkd : ByteArray := ⟨#[45, 45]⟩
theorem far_list (a b : List ByteArray) (x : ByteArray) : [] ++ a ++ [x] ++ b = a ++ x :: b := by simp
theorem ok_far {a b : List ByteArray} (ha : LnOk 12 a) (hb : LnOk 12 b) : okL (a ++ mkd :: b) := by
  refine ⟨by have := ha.len; have := hb.len; simp; omega, fun s hs => ?_⟩
  rcases List.mem_append.1 hs with h | h
  · rw [ha.one s h]; omega
  · rcases List.mem_cons.1 h with h | h
    · rw [h]; show 2 ≤ 600; omega
    · rw [hb.one s h]; omega
theorem not_far {a : List ByteArray} (ha : LnOk 12 a) : mkd ∉ a := fun h => by
  have := ha.one _ h
  have e : mkd.size = 2 := rfl
  omega
set_option maxRecDepth 100000 in
set_option maxHeartbeats 4000000 in
theorem mergeFar (P : MergeProg) (a0 : Option Addr) (len0 cap0 : Nat) (zs : List Int) (a1 : Option Addr) (len1 cap1 : Nat) (ys : List Int) (a2 : Option Addr) (len2 cap2 : Nat) (xs : List Int) (a3 : Option Addr) (len3 cap3 : Nat) (us : List Int) (w : World) (h0 : IsRow .i64 w a0 len0 cap0 zs) (h1 : IsRow .i64 w a1 len1 cap1 ys) (h2 : IsRow .i64 w a2 len2 cap2 xs) (h3 : IsRow .i64 w a3 len3 cap3 us) :
    Calls Try.prog 6 #[.slice a0 len0 cap0, .slice a1 len1 cap1, .slice a2 len2 cap2, .slice a3 len3 cap3] w fun e w' => e = .returned (.bool true) ∧ Below w.heap.size w w' := by
  have L0 := Lib.hid (fun W (hW : Below w.heap.size w W) => lines a0 len0 cap0 zs 12 5 W (kept h0 hW) (by omega) (by omega) (by omega))
  have L1 := Lib.hid (fun W (hW : Below w.heap.size w W) => lines a1 len1 cap1 ys 12 5 W (kept h1 hW) (by omega) (by omega) (by omega))
  have L2 := Lib.hid (fun W (hW : Below w.heap.size w W) => lines a2 len2 cap2 xs 12 5 W (kept h2 hW) (by omega) (by omega) (by omega))
  have L3 := Lib.hid (fun W (hW : Below w.heap.size w W) => lines a3 len3 cap3 us 12 5 W (kept h3 hW) (by omega) (by omega) (by omega))
  have MG := Lib.hid (fun v0 v1 v2 la lb lc W h0 h1 h2 ha hb hc => merged P v0 v1 v2 la lb lc W h0 h1 h2 ha hb hc)
  have ST := Lib.hid (fun v1 v2 l W (h1 : SlV 1 sc W v1 l) (h2 : SlV 1 sc W v2 l) hl => same_yes h1 h2 hl)
  clear h0 h1 h2 h3 P
  go_enter Try.func6, Try.ntmps6
  go_wp2_with fail
  refine (L0.out _ (Below.refl _ _)).mono ?_
  rintro e wh ⟨vh, lh, rfl, hs, ho⟩
  have Bwh := Lib.hid hs.bel
  have Vh := Lib.hid (fun W (hW : Below wh.heap.size wh W) => hs.val.next hW)
  have Oh := Lib.hid ho
  clear hs ho L0
  go_wp2_with fail
  refine (L1.out _ Bwh.out).mono ?_
  rintro e wt ⟨vt, lt, rfl, hs, ho⟩
  have Bwt := Lib.hid (bstep Bwh.out hs.bel)
  have Vt := Lib.hid (fun W (hW : Below wt.heap.size wt W) => hs.val.next hW)
  have Ot := Lib.hid ho
  have Vh' := Lib.hid (fun W (hW : Below wt.heap.size wt W) => Vh.out W (bstep hs.bel hW))
  clear hs ho L1 Vh
  have Vt' := Vt
  have P0 : Hid (SK wt [] (.slice none 0 0) wt) := Lib.hid (SK.nil (Below.refl _ _))
  have PA := Lib.hid (Vh'.out wt (Below.refl _ _))
  go_wp2_with (first
    | (at_builtin; refine wpList_appendSK wt _ rfl _ _ rfl _ [] rfl P0.out vh lh rfl PA.out (by have := Oh.out.len; simp; omega) ?_; intro xP1 yP1 hy; have P1 := Lib.hid (hy.next (balloc (Below.refl _ _) (.cells #[.string mkd] 9))); clear hy P0 PA)
    | (at_builtin; refine wpList_appendSK wt _ rfl _ _ rfl _ ([] ++ lh) rfl P1.out _ [mkd] rfl (lit_one yP1 mkd) (by have := Oh.out.len; simp; omega) ?_; intro xP2 yP2 hy; have P2 := Lib.hid hy; have PB := Lib.hid (Vt'.out yP2 hy.bel); clear hy P1)
    | (at_builtin; refine wpList_appendSK wt _ rfl _ _ rfl _ ([] ++ lh ++ [mkd]) rfl P2.out vt lt rfl PB.out (by have := Oh.out.len; have := Ot.out.len; simp; omega) ?_; intro xP3 yP3 hy; have P3 := Lib.hid hy; clear hy P2 PB))
  have BP := Lib.hid (bstep Bwt.out P3.out.bel)
  have VP := Lib.hid (fun W (hW : Below yP3.heap.size yP3 W) => P3.out.val.next hW)
  have Vh2 := Lib.hid (fun W (hW : Below yP3.heap.size yP3 W) => Vh'.out W (bstep P3.out.bel hW))
  have Vt2 := Lib.hid (fun W (hW : Below yP3.heap.size yP3 W) => Vt'.out W (bstep P3.out.bel hW))
  clear P3 Vh' Vt' Vt
  refine (L2.out _ BP.out).mono ?_
  rintro e wu ⟨vu, lu, rfl, hs, ho⟩
  have Bwu := Lib.hid (bstep BP.out hs.bel)
  have Vu := Lib.hid (fun W (hW : Below wu.heap.size wu W) => hs.val.next hW)
  have Ou := Lib.hid ho
  have VP2 := Lib.hid (fun W (hW : Below wu.heap.size wu W) => VP.out W (bstep hs.bel hW))
  have Vh3 := Lib.hid (fun W (hW : Below wu.heap.size wu W) => Vh2.out W (bstep hs.bel hW))
  have Vt3 := Lib.hid (fun W (hW : Below wu.heap.size wu W) => Vt2.out W (bstep hs.bel hW))
  clear hs ho L2 VP Vh2 Vt2 BP
  go_wp2_with fail
  refine (L3.out _ Bwu.out).mono ?_
  rintro e wv ⟨vv, lv, rfl, hs, ho⟩
  have Bwv := Lib.hid (bstep Bwu.out hs.bel)
  have Vv := Lib.hid (fun W (hW : Below wv.heap.size wv W) => hs.val.next hW)
  have Ov := Lib.hid ho
  have VP3 := Lib.hid (fun W (hW : Below wv.heap.size wv W) => VP2.out W (bstep hs.bel hW))
  have Vh4 := Lib.hid (fun W (hW : Below wv.heap.size wv W) => Vh3.out W (bstep hs.bel hW))
  have Vt4 := Lib.hid (fun W (hW : Below wv.heap.size wv W) => Vt3.out W (bstep hs.bel hW))
  have Vu4 := Lib.hid (fun W (hW : Below wv.heap.size wv W) => Vu.out W (bstep hs.bel hW))
  clear hs ho L3 VP2 Vh3 Vt3 Vu Bwu
  have Q0 : Hid (SK wv [] (.slice none 0 0) wv) := Lib.hid (SK.nil (Below.refl _ _))
  have QA := Lib.hid (Vu4.out wv (Below.refl _ _))
  go_wp2_with (first
    | (at_builtin; refine wpList_appendSK wv _ rfl _ _ rfl _ [] rfl Q0.out vu lu rfl QA.out (by have := Ou.out.len; simp; omega) ?_; intro xQ1 yQ1 hy; have Q1 := Lib.hid (hy.next (balloc (Below.refl _ _) (.cells #[.string mkd] 9))); clear hy Q0 QA)
    | (at_builtin; refine wpList_appendSK wv _ rfl _ _ rfl _ ([] ++ lu) rfl Q1.out _ [mkd] rfl (lit_one yQ1 mkd) (by have := Ou.out.len; simp; omega) ?_; intro xQ2 yQ2 hy; have Q2 := Lib.hid hy; have QB := Lib.hid (Vt4.out yQ2 hy.bel); clear hy Q1)
    | (at_builtin; refine wpList_appendSK wv _ rfl _ _ rfl _ ([] ++ lu ++ [mkd]) rfl Q2.out vt lt rfl QB.out (by have := Ou.out.len; have := Ot.out.len; simp; omega) ?_; intro xQ3 yQ3 hy; have Q3 := Lib.hid hy; clear hy Q2 QB; have R0 : Hid (SK yQ3 [] (.slice none 0 0) yQ3) := Lib.hid (SK.nil (Below.refl _ _)); have RA := Lib.hid (Vh4.out yQ3 Q3.out.bel); have Vv5 := Lib.hid (fun W (hW : Below yQ3.heap.size yQ3 W) => Vv.out W (bstep Q3.out.bel hW)))
    | (at_builtin; refine wpList_appendSK yQ3 _ rfl _ _ rfl _ [] rfl R0.out vh lh rfl RA.out (by have := Oh.out.len; simp; omega) ?_; intro xR1 yR1 hy; have R1 := Lib.hid (hy.next (balloc (Below.refl _ _) (.cells #[.string mkd] 9))); clear hy R0 RA)
    | (at_builtin; refine wpList_appendSK yQ3 _ rfl _ _ rfl _ ([] ++ lh) rfl R1.out _ [mkd] rfl (lit_one yR1 mkd) (by have := Oh.out.len; simp; omega) ?_; intro xR2 yR2 hy; have R2 := Lib.hid hy; have RB := Lib.hid (Vv5.out yR2 hy.bel); clear hy R1)
    | (at_builtin; refine wpList_appendSK yQ3 _ rfl _ _ rfl _ ([] ++ lh ++ [mkd]) rfl R2.out vv lv rfl RB.out (by have := Oh.out.len; have := Ov.out.len; simp; omega) ?_; intro xR3 yR3 hy; have R3 := Lib.hid hy; clear hy R2 RB; have T0 : Hid (SK yR3 [] (.slice none 0 0) yR3) := Lib.hid (SK.nil (Below.refl _ _)); have TA := Lib.hid (Vu4.out yR3 (bstep Q3.out.bel R3.out.bel)); have Vv6 := Lib.hid (fun W (hW : Below yR3.heap.size yR3 W) => Vv5.out W (bstep R3.out.bel hW)))
    | (at_builtin; refine wpList_appendSK yR3 _ rfl _ _ rfl _ [] rfl T0.out vu lu rfl TA.out (by have := Ou.out.len; simp; omega) ?_; intro xT1 yT1 hy; have T1 := Lib.hid (hy.next (balloc (Below.refl _ _) (.cells #[.string mkd] 9))); clear hy T0 TA)
    | (at_builtin; refine wpList_appendSK yR3 _ rfl _ _ rfl _ ([] ++ lu) rfl T1.out _ [mkd] rfl (lit_one yT1 mkd) (by have := Ou.out.len; simp; omega) ?_; intro xT2 yT2 hy; have T2 := Lib.hid hy; have TB := Lib.hid (Vv6.out yT2 hy.bel); clear hy T1)
    | (at_builtin; refine wpList_appendSK yR3 _ rfl _ _ rfl _ ([] ++ lu ++ [mkd]) rfl T2.out vv lv rfl TB.out (by have := Ou.out.len; have := Ov.out.len; simp; omega) ?_; intro xT3 yT3 hy; have T3 := Lib.hid hy; clear hy T2 TB))
  have BB := Lib.hid (bstep Q3.out.bel (bstep R3.out.bel T3.out.bel))
  have B9 := Lib.hid (bstep Bwv.out BB.out)
  have Z1 := Lib.hid (VP3.out yT3 BB.out)
  have Z2 := Lib.hid (Q3.out.val.next (bstep R3.out.bel T3.out.bel))
  have Z3 := Lib.hid (R3.out.val.next T3.out.bel)
  have Z4 := Lib.hid (fun W (hW : Below yT3.heap.size yT3 W) => T3.out.val.next hW)
  rw [far_list] at Z1 Z2 Z3 Z4
  have C1 := Lib.hid (MG.out _ _ _ _ _ _ yT3 Z1.out Z2.out Z3.out (ok_far Oh.out Ot.out) (ok_far Ou.out Ot.out) (ok_far Oh.out Ov.out))
  rw [mrg_far (not_far Oh.out) (not_far Ou.out)] at C1
  have hlen : (lu ++ mkd :: lv).length ≤ 100000 := by
    have := Ou.out.len
    have := Ov.out.len
    simp; omega
  have S1 := Lib.hid (fun v W (hW : Below yT3.heap.size yT3 W) (hv : SlV 1 sc W v (lu ++ mkd :: lv)) => ST.out v _ _ W hv (Z4.out W hW) hlen)
  clear Q3 R3 T3 VP3 Vh4 Vt4 Vu4 Vv Vv5 Vv6 Z1 Z2 Z3 Z4 BB Bwv Oh Ot Ou Ov MG ST hlen
  generalize lu ++ mkd :: lv = LL at *
  refine C1.out.mono ?_
  rintro e w5 ⟨v5, rfl, hv5, hb5⟩
  have B5 := Lib.hid hb5
  have S2 := Lib.hid (S1.out v5 w5 hb5 hv5)
  clear hb5 hv5 C1 S1
  go_wp2_with fail
  refine S2.out.mono ?_
  rintro e w6 ⟨rfl, hb6⟩
  have B6 := Lib.hid (bstep B9.out (bstep B5.out hb6))
  clear hb6 S2
  go_wp2_with fail
  go_ret
  exact ⟨by first | rfl | simp, B6.out⟩
end Go.Proofs.Ytokfnajgjhkepaa.MergeT
