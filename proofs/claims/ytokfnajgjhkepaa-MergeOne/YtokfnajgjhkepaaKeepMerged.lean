/-
  fustiankeep.merged, where package merge keeps its contracts.
-/
import Derived.Test.YtokfnajgjhkepaaMergeLawsW
import Derived.Test.YtokfnajgjhkepaaKeepSame
import Derived.Test.YtokfnajgjhkepaaCopyV
namespace Go.Proofs.Ytokfnajgjhkepaa.MergeT
open Go.RowKit Kit LineM StrM DiffM DiffA DiffR DiffP DiffK

/-- lines, a number, and that all is well -/
def KmPost (R : List ByteArray × Nat) (w : World) (e : Ending) (w' : World) : Prop := ∃ v, e = .returned (.tuple #[v, .int .i64 (R.2 : Int), .bool true]) ∧ SlV 1 sc w' v R.1 ∧ Below w.heap.size w w'
theorem sc_one1 (s : ByteArray) : ∀ u ∈ sc s, u.oneCell' = true := by
  intro u hu
  simp [sc] at hu
  subst hu; rfl
theorem ok_a : okL [(⟨#[97]⟩ : ByteArray)] := ⟨by show 1 ≤ 80; omega, fun s hs => by
  have e : s = ⟨#[97]⟩ := by simpa using hs
  rw [e]; show 1 ≤ 600; omega⟩
theorem ok_nil : okL ([] : List ByteArray) := ⟨by show 0 ≤ 80; omega, fun s hs => by simp at hs⟩
theorem merge_lit (P : MergeProg) (W : World) : Calls Try.prog 8 #[.slice none 0 0, .slice (some ⟨W.heap.size, 0, none⟩) 1 1, .slice none 0 0] (W.alloc (.cells #[.string ⟨#[97]⟩] 9)) (MgPost ([⟨#[97]⟩], 0) 0 (W.alloc (.cells #[.string ⟨#[97]⟩] 9))) := by
  obtain ⟨a, c, e, _, h1, _⟩ := lit_one W ⟨#[97]⟩
  have e' : some (⟨W.heap.size, 0, none⟩ : Addr) = a := by
    simp only [Value.slice.injEq] at e
    exact e.1
  subst e'
  have h := P.merge ⟨none, [], 0⟩ ⟨some ⟨W.heap.size, 0, none⟩, [⟨#[97]⟩], 1⟩ ⟨none, [], 0⟩ (W.alloc (.cells #[.string ⟨#[97]⟩] 9)) (show StAt _ _ _ from SlAt.nil _ _) (show StAt _ _ _ from h1) (show StAt _ _ _ from SlAt.nil _ _) ok_nil ok_a ok_nil (Nat.le_refl _) (Nat.le_refl _) (Nat.le_refl _)
  dsimp only at h
  rw [mrg_left] at h
  exact h
set_option maxRecDepth 100000 in
set_option maxHeartbeats 2000000 in
theorem merged (P : MergeProg) (v0 v1 v2 : Value) (la lb lc : List ByteArray) (w : World) (h0 : SlV 1 sc w v0 la) (h1 : SlV 1 sc w v1 lb) (h2 : SlV 1 sc w v2 lc) (ha : okL la) (hb : okL lb) (hc : okL lc) :
    Calls Try.prog 13 #[v0, v1, v2] w (KmPost (mrg mk1 mk2 mk3 la lb lc) w) := by
  obtain ⟨i0, hi, hz0, hz1, hz2⟩ := info_parts infoStr
  have HI := Lib.hid (And.intro hi (And.intro hz0 (And.intro hz1 hz2)))
  clear hi hz0 hz1 hz2
  have V0 := Lib.hid h0
  have V1 := Lib.hid (fun W (hW : Below w.heap.size w W) => h1.next hW)
  have V2 := Lib.hid (fun W (hW : Below w.heap.size w W) => h2.next hW)
  have hla := ha.1
  have hlb := hb.1
  have hlc := hc.1
  have CO := Lib.hid (fun (x y z : Sv) W (hx : x.has W) (hy : y.has W) (hz : z.has W) h3 h4 h5 (e1 : x.l = la) (e2 : y.l = lb) (e3 : z.l = lc) => P.merge x y z W hx hy hz (by rw [e1]; exact ha) (by rw [e2]; exact hb) (by rw [e3]; exact hc) h3 h4 h5)
  have ONE := Lib.hid (fun W => merge_lit P W)
  have ST := Lib.hid (fun v1 v2 la lb W h1 h2 hl => sameTexts v1 v2 la lb W h1 h2 hl)
  clear h0 h1 h2 ha hb hc P
  go_enter Try.func13, Try.ntmps13
  go_wp2_with (first
    | (at_builtin; refine wpList_copyV sc_len sc_one1 (by omega) rfl _ _ 22 rfl 9 i0 _ 16 Try.underlying22 HI.out.1 HI.out.2.1 HI.out.2.2.1 HI.out.2.2.2 rfl rfl _ rfl la V0.out (by unfold maxLen; omega) (by omega) ?_; intro v3 w3 hv3 hb3; have B3 := Lib.hid hb3; have V3 := Lib.hid (fun W (hW : Below w3.heap.size w3 W) => hv3.next hW); have V1' := Lib.hid (V1.out w3 hb3); clear hv3 hb3 V0 V1)
    | (at_builtin; refine wpList_copyV sc_len sc_one1 (by omega) rfl _ _ 22 rfl 9 i0 _ 16 Try.underlying22 HI.out.1 HI.out.2.1 HI.out.2.2.1 HI.out.2.2.2 rfl rfl _ rfl lb V1'.out (by unfold maxLen; omega) (by omega) ?_; intro v4 w4 hv4 hb4; have B4 := Lib.hid (bstep B3.out hb4); have V3' := Lib.hid (V3.out w4 hb4); have V4 := Lib.hid (fun W (hW : Below w4.heap.size w4 W) => hv4.next hW); have V2' := Lib.hid (V2.out w4 B4.out); clear hv4 hb4 V1' V3 V2 B3)
    | (at_builtin; refine wpList_copyV sc_len sc_one1 (by omega) rfl _ _ 22 rfl 9 i0 _ 16 Try.underlying22 HI.out.1 HI.out.2.1 HI.out.2.2.1 HI.out.2.2.2 rfl rfl _ rfl lc V2'.out (by unfold maxLen; omega) (by omega) ?_; intro v5 w5 hv5 hb5; have B5 := Lib.hid (bstep B4.out hb5); have X3 := Lib.hid (V3'.out.next hb5); have X4 := Lib.hid (V4.out w5 hb5); have X5 := Lib.hid hv5; clear hv5 hb5 V2' V3' V4 B4))
  obtain ⟨a3, c3, rfl, hc3, hs3, _⟩ := X3.out
  obtain ⟨a4, c4, rfl, hc4, hs4, _⟩ := X4.out
  obtain ⟨a5, c5, rfl, hc5, hs5, _⟩ := X5.out
  have C1 := Lib.hid (CO.out ⟨a3, la, c3⟩ ⟨a4, lb, c4⟩ ⟨a5, lc, c5⟩ w5 hs3 hs4 hs5 hc3 hc4 hc5 rfl rfl rfl)
  clear X3 X4 X5 hs3 hs4 hs5 hc3 hc4 hc5 CO
  dsimp only at C1
  obtain ⟨R, hR⟩ : ∃ R, mrg mk1 mk2 mk3 la lb lc = R := ⟨_, rfl⟩
  rw [hR] at C1
  have HRE := Lib.hid hR
  clear hR
  refine C1.out.mono ?_
  rintro e w6 ⟨v6, rfl, hv6, hb6⟩
  have B6 := Lib.hid (bstep B5.out hb6)
  have V6 := Lib.hid hv6
  have O1 := Lib.hid (ONE.out w6)
  clear hb6 hv6 C1 B5 ONE
  go_wp2_with fail
  refine O1.out.mono ?_
  rintro e w7 ⟨v7, rfl, hv7, hb7⟩
  have B7 := Lib.hid (bstep (balloc B6.out _) hb7)
  have V7 := Lib.hid ((V6.out.next (balloc (Below.refl _ _) _)).next hb7)
  have S1 := Lib.hid (ST.out v7 _ _ _ _ (hv7.next (balloc (Below.refl _ _) _)) (lit_one w7 ⟨#[97]⟩) (by simp))
  clear hb7 hv7 O1 V6 B6 ST
  go_wp2_with fail
  refine S1.out.mono ?_
  rintro e w8 ⟨b, rfl, hb, hb8⟩
  have hbt : b = true := hb.2 rfl
  subst hbt
  have B8 := Lib.hid (bstep (balloc B7.out _) hb8)
  have V8 := Lib.hid ((V7.out.next (balloc (Below.refl _ _) _)).next hb8)
  clear hb hb8 S1 V7 B7
  go_wp2_with fail
  go_ret3
  rw [HRE.out]
  exact ⟨_, rfl, V8.out, B8.out⟩
end Go.Proofs.Ytokfnajgjhkepaa.MergeT
