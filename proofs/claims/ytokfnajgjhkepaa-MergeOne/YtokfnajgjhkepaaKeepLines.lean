/-
  fustiankeep.Lines: how many lines it makes, and how long they are.
-/
import Derived.Test.YtokfnajgjhkepaaPick
import Derived.Test.YtokfnajgjhkepaaBnd2
import Derived.Deep.AppendLies
import Derived.Lib.Strings
namespace Go.Proofs.Ytokfnajgjhkepaa.DiffK
open Go.RowKit Kit Lift Txt LineM StrM

theorem infoStrK : (Try.prog.info? 9).map (fun i => (i.zero, i.size, i.bytes)) = some (some (.string ⟨#[]⟩), 1, 16) := by kernel_rfl
/-- at most n lines of one byte -/
structure LnOk (n : Nat) (L : List ByteArray) : Prop where
  len : L.length ≤ n
  one : ∀ s ∈ L, s.size = 1
def LsPost (n : Nat) (w : World) (e : Ending) (w' : World) : Prop := ∃ v L, e = .returned v ∧ SK w L v w' ∧ LnOk n L
theorem LnOk.snoc {n : Nat} {L : List ByteArray} (h : LnOk n L) (hl : L.length < n) {s : ByteArray} (hs : s.size = 1) : LnOk n (L ++ [s]) := by
  refine ⟨by simp; omega, fun x hx => ?_⟩
  rcases List.mem_append.1 hx with hx | hx
  · exact h.one x hx
  · rw [List.mem_singleton] at hx; rw [hx]; exact hs
theorem kept {w w' : World} {a : Option Addr} {len cap : Nat} {zs : List Int} (h : IsRow .i64 w a len cap zs) (hb : Below w.heap.size w w') : IsRow .i64 w' a len cap zs := by
  rcases h with h | ⟨x, e, h1, h2, h3, h4, h5⟩
  · exact .inl h
  · exact .inr ⟨x, e, h1, h2, h3, fun i hi => (hb.cell (block_lt (h4 i hi))).trans (h4 i hi), h5⟩
theorem size8 : (⟨#[97, 98, 99, 100, 101, 102, 103, 104]⟩ : ByteArray).size = 8 := rfl
set_option maxRecDepth 100000 in
set_option maxHeartbeats 2000000 in
theorem lines (a : Option Addr) (len cap : Nat) (zs : List Int) (n : Nat) (kd : Int) (w : World) (h : IsRow .i64 w a len cap zs) (hn : n ≤ 1000) (hk1 : 1 ≤ kd) (hk8 : kd ≤ 8) :
    Calls Try.prog 12 #[.slice a len cap, .int .i64 n, .int .i64 kd] w (LsPost n w) := by
  obtain ⟨h1, h2⟩ := row_len h
  unfold maxLen at h2
  have HR := Lib.hid h
  clear h
  obtain ⟨i0, hi, hz0, hz1, hz2⟩ := info_parts infoStrK
  have HI := Lib.hid (And.intro hi (And.intro hz0 (And.intro hz1 hz2)))
  clear hi hz0 hz1 hz2
  have hmin : min (8 : Int) kd = kd := by omega
  have hmin2 : ¬ (8 : Int) < kd := by omega
  go_enter Try.func12, Try.ntmps12
  go_wp2_with fail
  go_loopw [7, 8] (fun vo vi wr => ∃ k : Nat, k ≤ len ∧ k ≤ n ∧ vi = .int .i64 (k : Int) ∧ Hid (∃ L : List ByteArray, L.length = k ∧ LnOk n L ∧ SK w L vo wr)) (fun _ vi _ => len - (intOf vi).toNat)
  case atStart => exact ⟨0, by omega, by omega, rfl, Lib.hid ⟨[], rfl, ⟨by simp, by simp⟩, SK.nil (Below.refl _ _)⟩⟩
  case round =>
    obtain ⟨k, hk, hkn, rfl, HO⟩ := hrel
    obtain ⟨L, hLk, hLo, hS⟩ := HO.out
    have HS := Lib.hid hS
    clear HO hS
    by_cases hgo : k < len ∧ k < n
    · obtain ⟨hlt, hlt2⟩ := hgo
      obtain ⟨b, off, rfl, _, hc⟩ := row_at (kept HR.out HS.out.bel) (by omega)
      have hck := hc k (by omega)
      have r0 := Int.emod_nonneg (zs.getD k 0) (show kd ≠ 0 by omega)
      have r1 := Int.emod_lt_of_pos (zs.getD k 0) (show (0 : Int) < kd by omega)
      have HP := Lib.hid (fun w => picked (zs.getD k 0) kd w (by omega) (by omega))
      obtain ⟨r, hr⟩ := Int.eq_ofNat_of_zero_le r0
      rw [hr] at HP r1
      have r2 : r < 8 := by omega
      have u0 : (0 : Int) ≤ (k : Int) := by omega
      have u1 : (k : Int) < (len : Int) := by omega
      have u2 : (k : Int) < (n : Int) := by omega
      have rk : IntKind.i64.wrap ((k : Int) + 1) = (k : Int) + 1 := IntWalk.i64_in _ (by omega)
      have hs8 : ((⟨#[97, 98, 99, 100, 101, 102, 103, 104]⟩ : ByteArray).extract r 8).size = 8 - r := by rw [ByteArray.size_extract, size8]; omega
      have hs1 : (((⟨#[97, 98, 99, 100, 101, 102, 103, 104]⟩ : ByteArray).extract r 8).extract 0 1).size = 1 := by rw [ByteArray.size_extract, hs8]; omega
      have HON : Hid (LnOk n (L ++ [((⟨#[97, 98, 99, 100, 101, 102, 103, 104]⟩ : ByteArray).extract r 8).extract 0 1])) := Lib.hid (hLo.snoc (by omega) hs1)
      have x0 : (0 : Int) ≤ (r : Int) := by omega
      have x1 : (r : Int) ≤ 8 := by omega
      have x2 : (1 : Int) ≤ ((((⟨#[97, 98, 99, 100, 101, 102, 103, 104]⟩ : ByteArray).extract r 8).size : Nat) : Int) := by rw [hs8]; omega
      have hL3 : L.length ≤ 1000 := by omega
      have hbz := HS.out.bel.size
      have HROW := Lib.hid HS.out.row
      clear r0 hr hc hLo hs1
      generalize zs.getD k 0 = z at *
      have hcase : kd = 8 ∨ kd < 8 := by omega
      rcases hcase with rfl | hk7
      all_goals
        go_wp2_with fail
        refine (HP.out _).mono ?_
        rintro e w' ⟨rfl, rfl⟩
        go_wp2_with (at_builtin; refine wpList_append_lies _ rfl _ _ 22 rfl w.heap.size 9 i0 _ 1 16 Try.underlying22 HI.out.1 HI.out.2.1 HI.out.2.2.1 HI.out.2.2.2 rfl (by decide) _ L.length (flatC sc L) rfl (HROW.out.alloc _) ⟨wr.heap.size, 0, none⟩ 1 1 [.string (((⟨#[97, 98, 99, 100, 101, 102, 103, 104]⟩ : ByteArray).extract r 8).extract 0 1)] rfl rfl (cell_one_new _ _ _) (by simp [Value.oneCell']) (by omega) (by unfold maxLen; omega) (by omega) (by simp; omega) _ rfl ?_; intro g1 cap1 w4 hown1 hgrow1 _ _)
        have HNX : Hid (∃ L : List ByteArray, L.length = k + 1 ∧ LnOk n L ∧ SK w L (.slice (some ⟨g1, 0, none⟩) (L.length + 0) cap1) w4) := Lib.hid ⟨_, by simp [hLk], HON.out, ⟨by rw [List.length_append, flatC_append]; exact hown1, bgrow (balloc HS.out.bel _) (HROW.out.alloc _) hgrow1⟩⟩
        clear hown1 hgrow1
        go_roundw
        case rel => exact ⟨k + 1, by omega, by omega, by go_num, by
          obtain ⟨L', e1, e2, e3⟩ := HNX.out
          refine Lib.hid ⟨L', e1, e2, ?_⟩
          rw [e1] at e3
          exact e3⟩
        case measure => simp [intOf]; omega
    · have hq : (¬ (k : Int) < (len : Int)) ∨ ((k : Int) < (len : Int) ∧ ¬ (k : Int) < (n : Int)) := by omega
      have HLO := Lib.hid hLo
      clear hgo hLo
      rcases hq with q1 | ⟨q1, q2⟩
      all_goals
        go_wp2_with fail
        go_ret
        exact ⟨_, L, rfl, HS.out, HLO.out⟩
end Go.Proofs.Ytokfnajgjhkepaa.DiffK
