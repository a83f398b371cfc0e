/-
  The law DiffCommon, walked, where package diff keeps its contracts.
-/
import Derived.Test.YtcknmaimkodaeaaDiffMetricW
import Derived.Test.YtcknmaimkodaeaaAppendSK
namespace Go.Proofs.Ytcknmaimkodaeaa.DiffK
open Go.RowKit Kit Lift Txt LineM StrM DiffM DiffA DiffR DiffL

theorem LnOk.app {n m : Nat} {L M : List ByteArray} (h : LnOk n L) (k : LnOk m M) : LnOk (n + m) (L ++ M) := ⟨by have := h.len; have := k.len; simp; omega, fun s hs => by
  rcases List.mem_append.1 hs with hs | hs
  · exact h.one s hs
  · exact k.one s hs⟩
theorem LnOk.single {s : ByteArray} (h : s.size = 1) : LnOk 1 [s] := ⟨by simp, fun x hx => by rw [List.mem_singleton] at hx; rw [hx]; exact h⟩
set_option maxRecDepth 100000 in
set_option maxHeartbeats 8000000 in
theorem diffCommon (P : DiffProg) (a0 : Option Addr) (len0 cap0 : Nat) (zs : List Int) (a1 : Option Addr) (len1 cap1 : Nat) (ys : List Int) (a2 : Option Addr) (len2 cap2 : Nat) (xs : List Int) (a3 : Option Addr) (len3 cap3 : Nat) (us : List Int) (kd : Int) (w : World) (h0 : IsRow .i64 w a0 len0 cap0 zs) (h1 : IsRow .i64 w a1 len1 cap1 ys) (h2 : IsRow .i64 w a2 len2 cap2 xs) (h3 : IsRow .i64 w a3 len3 cap3 us) {X : Prop} (_ : X) :
    Calls Try.prog 9 #[.slice a0 len0 cap0, .slice a1 len1 cap1, .slice a2 len2 cap2, .slice a3 len3 cap3, .int .i64 kd] w fun e w' => e = .returned (.bool true) ∧ Below w.heap.size w w' := by
  obtain ⟨hk1, hk8⟩ := kinds8 kd
  have PK := Lib.hid (fun W => picked kd 8 W (by omega) (by omega))
  obtain ⟨r, hr⟩ : ∃ r, kd % 8 = r := ⟨_, rfl⟩
  rw [hr] at hk1 hk8 PK
  clear hr
  have L0 := Lib.hid (fun W (hW : Below w.heap.size w W) => lines a0 len0 cap0 zs 20 (1 + r) W (kept h0 hW) (by omega) hk1 hk8)
  have L1 := Lib.hid (fun W (hW : Below w.heap.size w W) => lines a1 len1 cap1 ys 20 (1 + r) W (kept h1 hW) (by omega) hk1 hk8)
  have L2 := Lib.hid (fun W (hW : Below w.heap.size w W) => lines a2 len2 cap2 xs 10 (1 + r) W (kept h2 hW) (by omega) hk1 hk8)
  have L3 := Lib.hid (fun W (hW : Below w.heap.size w W) => lines a3 len3 cap3 us 10 (1 + r) W (kept h3 hW) (by omega) hk1 hk8)
  have CO := Lib.hid (fun v1 v2 la lb W h1 h2 ha hb => costOf P v1 v2 la lb W h1 h2 ha hb)
  have r0 : IntKind.i64.wrap (1 + r) = 1 + r := IntWalk.i64_in _ (by omega)
  clear h0 h1 h2 h3 P
  go_enter Try.func9, Try.ntmps9
  go_wp2_with fail
  refine (PK.out _).mono ?_
  rintro e w' ⟨rfl, rfl⟩
  clear PK
  go_wp2_with fail
  refine (L0.out _ (Below.refl _ _)).mono ?_
  rintro e w1 ⟨v1, la, rfl, hs1, ho1⟩
  have B1 := Lib.hid hs1.bel
  have V1 := Lib.hid hs1.val
  have OA := Lib.hid ho1
  clear hs1 ho1 L0
  go_wp2_with fail
  refine (L1.out _ B1.out).mono ?_
  rintro e w2 ⟨v2, lb, rfl, hs2, ho2⟩
  have B2 := Lib.hid (bstep B1.out hs2.bel)
  have V1' := Lib.hid (V1.out.next hs2.bel)
  have V2 := Lib.hid hs2.val
  have OB := Lib.hid ho2
  clear hs2 ho2 L1 V1 B1
  go_wp2_with fail
  refine (L2.out _ B2.out).mono ?_
  rintro e w3 ⟨v3, lh, rfl, hs3, ho3⟩
  have B3 := Lib.hid (bstep B2.out hs3.bel)
  have W1 := Lib.hid (V1'.out.next hs3.bel)
  have W2 := Lib.hid (V2.out.next hs3.bel)
  have W3 := Lib.hid hs3.val
  have OH := Lib.hid ho3
  clear hs3 ho3 L2 V1' V2 B2
  go_wp2_with fail
  refine (L3.out _ B3.out).mono ?_
  rintro e w4 ⟨v4, lt, rfl, hs4, ho4⟩
  have B4 := Lib.hid (bstep B3.out hs4.bel)
  have X1 := Lib.hid (W1.out.next hs4.bel)
  have X2 := Lib.hid (W2.out.next hs4.bel)
  have X3 := Lib.hid (W3.out.next hs4.bel)
  have X4 := Lib.hid hs4.val
  have OT := Lib.hid ho4
  clear hs4 ho4 L3 W1 W2 W3 B3
  have hlen : la.length ≤ 20 ∧ lb.length ≤ 20 ∧ lh.length ≤ 10 ∧ lt.length ≤ 10 := ⟨OA.out.len, OB.out.len, OH.out.len, OT.out.len⟩
  have HLEN := Lib.hid hlen
  have OLA := hlen.1
  have hfr := cost_frame lh la lb lt
  have hmo := cost_more (⟨#[99]⟩ : ByteArray) la lb
  have hbd : cost la lb ≤ 40 := by
    have := cost_eq la lb
    omega
  have OKU := Lib.hid (((OH.out.app OA.out).app OT.out).ok (by omega))
  have OKV := Lib.hid (((OH.out.app OB.out).app OT.out).ok (by omega))
  have OKZ := Lib.hid ((OA.out.app (LnOk.single (s := (⟨#[99]⟩ : ByteArray)) rfl)).ok (by omega))
  have OKA := Lib.hid (OA.out.ok (by omega))
  have OKB := Lib.hid (OB.out.ok (by omega))
  have S0 : Hid (SK w4 [] (.slice none 0 0) w4) := Lib.hid (SK.nil (Below.refl _ _))
  clear hlen OA OB OH OT
  go_wp2_with (first
    | (at_builtin; refine wpList_appendSK w4 _ rfl _ _ rfl _ [] rfl S0.out v3 lh rfl X3.out (by have := HLEN.out; simp; omega) ?_; intro u1 y1 hy1; have S1 := Lib.hid hy1; have T1 := Lib.hid (X1.out.next hy1.bel); clear hy1 S0)
    | (at_builtin; refine wpList_appendSK w4 _ rfl _ _ rfl _ ([] ++ lh) rfl S1.out v1 la rfl T1.out (by have := HLEN.out; simp; omega) ?_; intro u2 y2 hy2; have S2 := Lib.hid hy2; have T2 := Lib.hid (X4.out.next hy2.bel); clear hy2 S1 T1)
    | (at_builtin; refine wpList_appendSK w4 _ rfl _ _ rfl _ ([] ++ lh ++ la) rfl S2.out v4 lt rfl T2.out (by have := HLEN.out; simp; omega) ?_; intro u3 y3 hy3; have S3 := Lib.hid hy3; have Y3 := Lib.hid (X3.out.next hy3.bel); have R0 : Hid (SK y3 [] (.slice none 0 0) y3) := Lib.hid (SK.nil (Below.refl _ _)); clear hy3 S2 T2)
    | (at_builtin; refine wpList_appendSK y3 _ rfl _ _ rfl _ [] rfl R0.out v3 lh rfl Y3.out (by have := HLEN.out; simp; omega) ?_; intro u4 y4 hy4; have R1 := Lib.hid hy4; have Y1 := Lib.hid (X2.out.next (bstep S3.out.bel hy4.bel)); clear hy4 R0 Y3)
    | (at_builtin; refine wpList_appendSK y3 _ rfl _ _ rfl _ ([] ++ lh) rfl R1.out v2 lb rfl Y1.out (by have := HLEN.out; simp; omega) ?_; intro u5 y5 hy5; have R2 := Lib.hid hy5; have Y2 := Lib.hid (X4.out.next (bstep S3.out.bel hy5.bel)); clear hy5 R1 Y1)
    | (at_builtin; refine wpList_appendSK y3 _ rfl _ _ rfl _ ([] ++ lh ++ lb) rfl R2.out v4 lt rfl Y2.out (by have := HLEN.out; simp; omega) ?_; intro u6 y6 hy6; have R3 := Lib.hid hy6; clear hy6 R2 Y2))
  have BB := Lib.hid (bstep S3.out.bel R3.out.bel)
  have Z1 := Lib.hid (X1.out.next BB.out)
  have Z2 := Lib.hid (X2.out.next BB.out)
  have U1 := Lib.hid (S3.out.val.next R3.out.bel)
  have U2 := Lib.hid R3.out.val
  rw [List.nil_append] at U1 U2
  have B6 := Lib.hid (bstep B4.out BB.out)
  clear S3 R3 X1 X2 X3 X4 B4 BB HLEN
  have K1 := Lib.hid (fun W (hW : Below y6.heap.size y6 W) => CO.out _ _ la lb W (Z1.out.next hW) (Z2.out.next hW) OKA.out OKB.out)
  have K2 := Lib.hid (fun W (hW : Below y6.heap.size y6 W) => CO.out _ _ _ _ W (U1.out.next hW) (U2.out.next hW) OKU.out OKV.out)
  have K3 := Lib.hid (fun v W (hW : Below y6.heap.size y6 W) (hv : SlV 1 sc W v (la ++ [⟨#[99]⟩])) => CO.out _ _ _ lb W hv (Z2.out.next hW) OKZ.out OKB.out)
  rw [hfr] at K2
  clear hfr CO OKU OKV OKZ OKA OKB U1 U2 Z2
  generalize cost la lb = x at *
  generalize cost (la ++ [⟨#[99]⟩]) lb = z at *
  refine (K1.out _ (Below.refl _ _)).mono ?_
  rintro e w7 ⟨rfl, hb7⟩
  have B7 := Lib.hid hb7
  clear hb7 K1
  go_wp2_with fail
  refine (K2.out _ B7.out).mono ?_
  rintro e w8 ⟨rfl, hb8⟩
  have B8 := Lib.hid (bstep B7.out hb8)
  have Z3 := Lib.hid (Z1.out.next B8.out)
  have Q0 : Hid (SK w8 [] (.slice none 0 0) w8) := Lib.hid (SK.nil (Below.refl _ _))
  have HLA := Lib.hid OLA
  clear hb8 K2 B7 Z1 OLA
  go_wp2_with (first
    | (at_builtin; refine wpList_appendSK w8 _ rfl _ _ rfl _ [] rfl Q0.out v1 la rfl Z3.out (by have := HLA.out; simp; omega) ?_; intro u7 y7 hy7; have Q1 := Lib.hid (hy7.next (balloc (Below.refl _ _) (.cells #[.string ⟨#[99]⟩] 9))); clear hy7 Q0)
    | (at_builtin; refine wpList_appendSK w8 _ rfl _ _ rfl _ ([] ++ la) rfl Q1.out _ [⟨#[99]⟩] rfl (lit_one y7 ⟨#[99]⟩) (by have := HLA.out; simp; omega) ?_; intro u8 y8 hy8; have Q2 := Lib.hid hy8; clear hy8 Q1))
  have B9 := Lib.hid (bstep B8.out Q2.out.bel)
  have V9 := Lib.hid Q2.out.val
  rw [List.nil_append] at V9
  have K4 := Lib.hid (K3.out _ _ B9.out V9.out)
  clear K3 V9 Q2 Z3
  refine K4.out.mono ?_
  rintro e w9 ⟨rfl, hb9⟩
  have B10 := Lib.hid (bstep B6.out (bstep B9.out hb9))
  clear hb9 K4 B9 B8 B6 HLA
  have r1 : IntKind.i64.wrap ((x : Int) + 1) = (x : Int) + 1 := IntWalk.i64_in _ (by omega)
  have r2 : IntKind.i64.wrap ((x : Int) - 1) = (x : Int) - 1 := IntWalk.i64_in _ (by omega)
  have q0 : decide ((x : Int) ≥ 0) = true := decide_eq_true (by omega)
  have hz : ((z : Int) ≤ (x : Int) + 1 ∧ (x : Int) + 1 ≤ (z : Int)) ∨ (¬ (z : Int) = (x : Int) + 1 ∧ (z : Int) ≤ (x : Int) - 1 ∧ (x : Int) - 1 ≤ (z : Int)) := by omega
  clear hmo
  rcases hz with ⟨z1, z2⟩ | ⟨z1, z2, z3⟩
  all_goals
    go_wp2_with fail
    go_ret
    exact ⟨by first | rfl | (simp; done) | (simp; omega), B10.out⟩
end Go.Proofs.Ytcknmaimkodaeaa.DiffK
