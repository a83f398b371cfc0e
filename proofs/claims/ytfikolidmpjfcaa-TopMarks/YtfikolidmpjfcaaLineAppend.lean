/-
  Package lines: what appendStarts and Starts answer.
-/
import Derived.Test.YtfikolidmpjfcaaLineAt
import Derived.WalkSpells
import Derived.Deep.AppendLies
import Derived.Maps.AppendAt
import Derived.Test.YtfikolidmpjfcaaStr
namespace Go.Proofs.Ytfikolidmpjfcaa.LineC
open Go.RowKit Kit EditM LineM StrC

theorem take_snoc (s : ByteArray) (k : Nat) (h : k < s.size) : s.data.toList.take (k + 1) = s.data.toList.take k ++ [s[k]] := by
  rw [List.take_succ_eq_append_getElem (by simpa using h)]; rfl
set_option maxRecDepth 100000 in
set_option maxHeartbeats 2000000 in
theorem appendStarts (w0 : World) (xs : List Int) (v : Value) (s : ByteArray) (a : Int) (w : World) (h : IK w0 xs v w) (hx : xs.length ≤ 1000) (hs : s.size ≤ 600) (a0 : 0 ≤ a) (a1 : a ≤ 600) :
    Calls Try.prog 26 #[v, .string s, .int .i64 a] w (IkPost w0 (xs ++ fts a s.data.toList)) := by
  obtain ⟨i0, hi, hz0, hz1, hz2⟩ := info_parts infoInt
  have HI := Lib.hid (And.intro hi (And.intro hz0 (And.intro hz1 hz2)))
  have H0 := Lib.hid h
  have hxl := hx
  clear hi hz0 hz1 hz2 h
  go_enter Try.func26, Try.ntmps26
  go_wp2
  go_loopw [0, 10] (fun vo vi wr => ∃ k : Nat, k ≤ s.size ∧ vi = .int .i64 (k : Int) ∧ Hid (IK w0 (xs ++ fts a (s.data.toList.take k)) vo wr)) (fun _ vi _ => s.size - (intOf vi).toNat)
  case atStart => exact ⟨0, by omega, rfl, Lib.hid (by simpa [fts] using H0.out)⟩
  case round =>
    obtain ⟨k, hk, rfl, HK⟩ := hrel
    clear H0
    by_cases hlt : k < s.size
    · have hts := take_snoc s k hlt
      by_cases hc : s[k] = 10
      · have hb : ((s[k].toNat : Int) == 10) = true := by rw [hc]; rfl
        have E : Hid (xs ++ fts a (s.data.toList.take (k + 1)) = (xs ++ fts a (s.data.toList.take k)) ++ [a + (k : Int) + 1]) := Lib.hid (by
          rw [hts, hc, fts_feed, List.append_assoc, List.length_take, Nat.min_eq_left (by simp; omega)])
        have hL : (xs ++ fts a (s.data.toList.take k)).length ≤ 1600 := by
          have := PosM.lns_col_le (s.data.toList.take k)
          rw [List.length_append, fts_len]
          rw [List.length_take] at this
          omega
        clear hts hc
        generalize xs ++ fts a (s.data.toList.take k) = L at *
        have hsz := HK.out.bel.size
        have HROW := Lib.hid (HK.out.row)
        have r1 : IntKind.i64.wrap (a + (k : Int)) = a + (k : Int) := IntWalk.i64_in _ (by omega)
        have r2 : IntKind.i64.wrap (a + (k : Int) + 1) = a + (k : Int) + 1 := IntWalk.i64_in _ (by omega)
        go_wp2_with (at_builtin; refine wpList_append_lies _ rfl _ _ 22 rfl w0.heap.size 3 i0 _ 1 8 Try.underlying22 HI.out.1 HI.out.2.1 HI.out.2.2.1 HI.out.2.2.2 rfl (by decide) _ L.length (flatC ic L) rfl (HROW.out.alloc _) ⟨wr.heap.size, 0, none⟩ 1 1 [.int .i64 (a + (k : Int) + 1)] rfl rfl (cell_one_new _ _ _) (by simp [Value.oneCell']) (by omega) (by unfold maxLen; omega) (by omega) (by simp; omega) _ rfl ?_; intro g cap w1 hown1 hgrow1 _ _)
        go_roundw
        case rel => exact ⟨k + 1, by omega, by go_num, Lib.hid ⟨by rw [E.out, List.length_append, flatC_append]; exact hown1, bgrow (balloc HK.out.bel _) (HROW.out.alloc _) hgrow1⟩⟩
        case measure => simp [intOf]; omega
      · have hb : ((s[k].toNat : Int) == 10) = false := byte_ne hc
        have E : Hid (fts a (s.data.toList.take (k + 1)) = fts a (s.data.toList.take k)) := Lib.hid (by rw [hts, fts_other _ _ hc])
        clear hts hc
        go_wp2
        go_roundw
        case rel => exact ⟨k + 1, by omega, by go_num, Lib.hid (by rw [E.out]; exact HK.out)⟩
        case measure => simp [intOf]; omega
    · have e1 : s.data.toList.take k = s.data.toList := List.take_of_length_le (by simp; omega)
      rw [e1] at HK
      clear e1
      go_wp2
      go_ret
      exact ⟨_, rfl, HK.out⟩

set_option maxHeartbeats 1000000 in
theorem starts_no (s : ByteArray) (w : World) (h : 600 < s.size) :
    Calls Try.prog 10 #[.string s] w (IsPost w [] 1) := by
  go_enter Try.func10, Try.ntmps10
  go_wp2
  go_ret2
  exact ⟨_, rfl, IK.nil (Below.refl _ _)⟩
set_option maxRecDepth 100000 in
set_option maxHeartbeats 1000000 in
theorem starts (s : ByteArray) (w : World) (h : s.size ≤ 600) :
    Calls Try.prog 10 #[.string s] w (IsPost w (sts s.data.toList) 0) := by
  have A := Lib.hid (fun v W (hv : IK w [0] v W) => appendStarts w [0] v s 0 W hv (by simp) h (by omega) (by omega))
  have L0 : Hid (IK w [0] (.slice (some ⟨w.heap.size, 0, none⟩) 1 1) (w.alloc (.cells #[.int .i64 0] 3))) := Lib.hid ⟨World.ownsRow_lit w #[.int .i64 0] 1 (Nat.le_refl _) (by unfold maxLen; decide) rfl, balloc (Below.refl _ _) _⟩
  have A1 := Lib.hid (A.out _ _ L0.out)
  clear A L0
  go_enter Try.func10, Try.ntmps10
  go_wp2_with fail
  refine A1.out.mono ?_
  rintro e w1 ⟨v1, rfl, hk1⟩
  have K1 := Lib.hid hk1
  clear hk1 A1
  go_wp2_with fail
  go_ret2
  exact ⟨_, rfl, K1.out⟩
end Go.Proofs.Ytfikolidmpjfcaa.LineC
