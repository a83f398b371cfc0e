/-
  The document's answer: LinesStarts.
-/
import Derived.Test.YtfikolidmpjfcaaRefCut
import Derived.Test.YtfikolidmpjfcaaLineAt
namespace Go.Proofs.Ytfikolidmpjfcaa.LineR
open Go.RowKit Kit EditM LineM LinesM

set_option maxHeartbeats 1000000 in
theorem starts_no (s : ByteArray) (w : World) (h : 600 < s.size) :
    Calls Try.prog 11 #[.string s] w (IsPost w [] 1) := by
  go_enter Try.func11, Try.ntmps11
  go_wp2
  go_ret2
  exact ⟨_, rfl, IK.nil (Below.refl _ _)⟩
set_option maxRecDepth 100000 in
set_option maxHeartbeats 2000000 in
theorem starts (s : ByteArray) (w : World) (h600 : s.size ≤ 600) :
    Calls Try.prog 11 #[.string s] w (IsPost w (sts s.data.toList) 0) := by
  obtain ⟨i0, hi, hz0, hz1, hz2⟩ := info_parts infoInt
  have HI := Lib.hid (And.intro hi (And.intro hz0 (And.intro hz1 hz2)))
  clear hi hz0 hz1 hz2
  have hgt : decide ((600 : Int) < (s.size : Int)) = false := by simp; omega
  have hll := RefCut.lines_le s.data.toList
  have hsm := cut_small s.data.toList
  have HEN := Lib.hid (fun k hk => ends_small s.data.toList k hk 0)
  have hsl : s.data.toList.length = s.size := by simp
  rw [hsl] at hll hsm HEN
  have HSM := Lib.hid hsm
  have HO := Lib.hid (offs_sts s.data.toList)
  clear hsm hsl
  have C := Lib.hid (fun w => RefCut.cutLines s w h600)
  generalize sts s.data.toList = R at *
  generalize cut s.data.toList = L at *
  obtain ⟨n, hn⟩ : ∃ n, n = L.length := ⟨_, rfl⟩
  have HN := Lib.hid hn
  rw [← hn] at C hll HEN
  clear hn
  go_enter Try.func11, Try.ntmps11
  go_wp2_with fail
  refine (C.out _).mono ?_
  rintro e w1 ⟨v, rfl, hrow, hB⟩
  obtain ⟨a, cap, rfl, hcells⟩ := Row.of_owns hrow
  have HC := Lib.hid hcells
  have HB := Lib.hid hB
  clear hrow hB hcells C
  simp only [List.length_map, ← HN.out] at HC ⊢
  go_wp2_with fail
  go_loopw [4, 5, 14] (fun vo va vi wr => ∃ k : Nat, k ≤ n ∧ vi = .int .i64 (k : Int) ∧ va = .int .i64 (ends 0 (L.take k)) ∧ Hid (IK w1 (offs 0 (L.take k)) vo wr)) (fun _ _ vi _ => n - (intOf vi).toNat)
  case atStart => exact ⟨0, Nat.zero_le _, rfl, rfl, Lib.hid (IK.nil (Below.refl _ _))⟩
  case round =>
    obtain ⟨k, hk, rfl, rfl, HK⟩ := hrel
    by_cases hlt : k < n
    · obtain ⟨b, off, rfl, hbl, hq⟩ := HC.out (by omega)
      have hlt' : k < L.length := by rw [← HN.out]; exact hlt
      have p1 := (HK.out.bel.cell (p := ⟨b, off + k, none⟩) hbl).trans (hq k (by omega))
      rw [List.getElem?_map, List.getElem?_eq_getElem hlt'] at p1
      have hx : (L[k]).length ≤ 600 := by have := HSM.out L[k] (List.getElem_mem _); omega
      have tk : L.take (k + 1) = L.take k ++ [L[k]] := List.take_succ_eq_append_getElem hlt'
      have NX : Hid (offs 0 (L.take (k + 1)) = offs 0 (L.take k) ++ [ends 0 (L.take k)] ∧ ends 0 (L.take (k + 1)) = ends 0 (L.take k) + (L[k]).length + 1) := Lib.hid ⟨by rw [tk, offs_snoc], by rw [tk, ends_snoc]⟩
      have e0 := ends_ge (L.take k) 0
      have e1 := HEN.out k hlt
      have zz : (⟨(L[k]).toArray⟩ : ByteArray).size = (L[k]).length := by simp [ByteArray.size]
      have hL : (offs 0 (L.take k)).length ≤ 700 := by
        have key : ∀ (m : List Bs) (z : Int), (offs z m).length = m.length := by
          intro m; induction m with
          | nil => intro z; rfl
          | cons x m ih => intro z; simp [offs, ih]
        rw [key, List.length_take]; omega
      simp only [Option.map_some, RefCut.strV] at p1
      rw [← zz] at NX hx
      clear hq zz tk
      generalize (⟨(L[k]).toArray⟩ : ByteArray) = x at *
      generalize ends 0 (L.take k) = en at *
      generalize offs 0 (L.take k) = os at *
      have hsz := HK.out.bel.size
      have HROW := Lib.hid HK.out.row
      have r1 : IntKind.i64.wrap ((x.size : Int) + 1) = (x.size : Int) + 1 := IntWalk.i64_in _ (by omega)
      have r2 : IntKind.i64.wrap (en + ((x.size : Int) + 1)) = en + ((x.size : Int) + 1) := IntWalk.i64_in _ (by omega)
      go_wp2_with (at_builtin; refine wpList_append_lies _ rfl _ _ 22 rfl w1.heap.size 3 i0 _ 1 8 Try.underlying22 HI.out.1 HI.out.2.1 HI.out.2.2.1 HI.out.2.2.2 rfl (by decide) _ os.length (flatC ic os) rfl (HROW.out.alloc _) ⟨wr.heap.size, 0, none⟩ 1 1 [.int .i64 en] rfl rfl (cell_one_new _ _ _) (by simp [Value.oneCell']) (by omega) (by unfold maxLen; omega) (by omega) (by simp; omega) _ rfl ?_; intro g cap w3 hown1 hgrow1 _ _)
      go_roundw
      case rel => exact ⟨k + 1, by omega, by go_num, congrArg (Value.int IntKind.i64) (by rw [NX.out.2]; omega), Lib.hid ⟨by rw [NX.out.1, List.length_append, flatC_append]; exact hown1, bgrow (balloc HK.out.bel _) (HROW.out.alloc _) hgrow1⟩⟩
      case measure => simp [intOf]; omega
    · obtain rfl : k = n := by omega
      have FIN : Hid (IK w R u4 wr) := Lib.hid (by
        have := HK.out
        rw [HN.out, List.take_length, HO.out] at this
        exact this.rebase HB.out)
      clear HK
      go_wp2
      go_ret2
      exact ⟨_, rfl, FIN.out⟩
end Go.Proofs.Ytfikolidmpjfcaa.LineR
