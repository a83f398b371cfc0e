/-
  fustiankeep.costOf, where package diff keeps its contracts.
-/
import Derived.Test.YtcknmaimkodaeaaDiffLawsW
import Derived.Test.YtcknmaimkodaeaaCopyV
namespace Go.Proofs.Ytcknmaimkodaeaa.DiffK
open Go.RowKit Kit LineM StrM DiffM DiffA DiffR DiffL

theorem sc_one (s : ByteArray) : ∀ u ∈ sc s, u.oneCell' = true := by
  intro u hu
  simp [sc] at hu
  subst hu; rfl
theorem lit_a (w : World) (s : ByteArray) : StAt (w.alloc (.cells #[.string s] 9)) (some ⟨w.heap.size, 0, none⟩) [s] := by
  refine ⟨fun i x hi => ⟨w.heap.size, 0, rfl, by simp, fun j hj => ?_⟩⟩
  obtain rfl : j = 0 := by omega
  match i, hi with
  | 0, hi => simp at hi; subst hi; simp [sc]
theorem cost_one : cost [(⟨#[97]⟩ : ByteArray)] [] = 1 := by
  have := cost_eq [(⟨#[97]⟩ : ByteArray)] []
  rw [lcs_nil_right] at this
  simpa using this
theorem cost_lit (P : DiffProg) (W : World) : Calls Try.prog 12 #[.slice (some ⟨W.heap.size, 0, none⟩) 1 1, .slice none 0 0] (W.alloc (.cells #[.string ⟨#[97]⟩] 9)) (NcPost 1 0 (W.alloc (.cells #[.string ⟨#[97]⟩] 9))) := by
  have h := P.cost ⟨some ⟨W.heap.size, 0, none⟩, [⟨#[97]⟩], 1⟩ ⟨none, [], 0⟩ (W.alloc (.cells #[.string ⟨#[97]⟩] 9)) (show StAt _ _ _ from lit_a W ⟨#[97]⟩) (show StAt _ _ _ from SlAt.nil _ _) (Nat.le_refl _) (Nat.le_refl _) ⟨by show 1 ≤ 80; omega, fun s hs => by
    have e : s = ⟨#[97]⟩ := by simpa using hs
    rw [e]
    show 1 ≤ 600
    omega⟩ ⟨by show 0 ≤ 80; omega, fun s hs => by simp at hs⟩
  have e : (DiffM.cost [(⟨#[97]⟩ : ByteArray)] [] : Nat) = 1 := cost_one
  dsimp only at h
  rw [e] at h
  exact h
set_option maxRecDepth 100000 in
set_option maxHeartbeats 2000000 in
theorem costOf (P : DiffProg) (v1 v2 : Value) (la lb : List ByteArray) (w : World) (h1 : SlV 1 sc w v1 la) (h2 : SlV 1 sc w v2 lb) (ha : okL la) (hb : okL lb) :
    Calls Try.prog 20 #[v1, v2] w fun e w' => e = .returned (.int .i64 (cost la lb : Int)) ∧ Below w.heap.size w w' := by
  obtain ⟨i0, hi, hz0, hz1, hz2⟩ := info_parts infoStr
  have HI := Lib.hid (And.intro hi (And.intro hz0 (And.intro hz1 hz2)))
  clear hi hz0 hz1 hz2
  have V1 := Lib.hid h1
  have V2 := Lib.hid (fun W (hW : Below w.heap.size w W) => h2.next hW)
  have hla := ha.1
  have hlb := hb.1
  have CO := Lib.hid (fun (x y : Sv) W (hx : x.has W) (hy : y.has W) h3 h4 (e1 : x.l = la) (e2 : y.l = lb) => P.cost x y W hx hy h3 h4 (by rw [e1]; exact ha) (by rw [e2]; exact hb))
  have ONE := Lib.hid (fun W => cost_lit P W)
  clear h1 h2 ha hb
  go_enter Try.func20, Try.ntmps20
  go_wp2_with (first
    | (at_builtin; refine wpList_copyV sc_len sc_one (by omega) rfl _ _ 22 rfl 9 i0 _ 16 Try.underlying22 HI.out.1 HI.out.2.1 HI.out.2.2.1 HI.out.2.2.2 rfl rfl _ rfl la V1.out (by unfold maxLen; omega) (by omega) ?_; intro v3 w3 hv3 hb3; have B3 := Lib.hid hb3; have V3 := Lib.hid hv3; have V2' := Lib.hid (V2.out w3 hb3); clear hv3 hb3 V1)
    | (at_builtin; refine wpList_copyV sc_len sc_one (by omega) rfl _ _ 22 rfl 9 i0 _ 16 Try.underlying22 HI.out.1 HI.out.2.1 HI.out.2.2.1 HI.out.2.2.2 rfl rfl _ rfl lb V2'.out (by unfold maxLen; omega) (by omega) ?_; intro v4 w4 hv4 hb4; have B4 := Lib.hid (bstep B3.out hb4); have V3' := Lib.hid (V3.out.next hb4); have V4 := Lib.hid hv4; clear hv4 hb4 V2'))
  obtain ⟨a3, c3, rfl, hc3, hs3, _⟩ := V3'.out
  obtain ⟨a4, c4, rfl, hc4, hs4, _⟩ := V4.out
  have C1 := Lib.hid (CO.out ⟨a3, la, c3⟩ ⟨a4, lb, c4⟩ w4 hs3 hs4 hc3 hc4 rfl rfl)
  clear V3' V4 V3 hs3 hs4 CO hc3 hc4
  refine C1.out.mono ?_
  rintro e w5 ⟨rfl, hb5⟩
  have B5 := Lib.hid (bstep B4.out hb5)
  clear hb5 C1 B4
  have O1 := Lib.hid (ONE.out w5)
  clear ONE
  obtain ⟨c, hc⟩ : ∃ c, cost la lb = c := ⟨_, rfl⟩
  have HC := Lib.hid hc
  rw [hc]
  clear hc
  go_wp2_with fail
  refine O1.out.mono ?_
  rintro e w6 ⟨rfl, hb6⟩
  have B6 := Lib.hid (bstep (balloc B5.out _) hb6)
  clear hb6 O1
  go_wp2_with fail
  go_ret
  exact ⟨by rw [HC.out]; rfl, B6.out⟩
end Go.Proofs.Ytcknmaimkodaeaa.DiffK
