/-
  The drawn texts of a and b of the kept statements: Few.
-/
import Derived.Test.YtokfnajgjhkepaaPick
import Derived.Test.YtokfnajgjhkepaaBnd2
import Derived.Lib.Strings
namespace Go.Proofs.Ytokfnajgjhkepaa.FewT
open Go.RowKit Kit Lift Txt

def ab (z : Int) : UInt8 := if z % 2 = 0 then 97 else 98
def fewL (zs : List Int) : List UInt8 := zs.map ab
/-- a text of a and b -/
def fewS (zs : List Int) : ByteArray := ⟨(fewL zs).toArray⟩
theorem fewS_list (zs : List Int) : (fewS zs).data.toList = fewL zs := by simp [fewS]
theorem fewS_size (zs : List Int) : (fewS zs).size = zs.length := by simp [fewS, fewL, ByteArray.size]
theorem fewS_snoc (zs : List Int) (z : Int) : fewS (zs ++ [z]) = fewS zs ++ ⟨#[ab z]⟩ := by
  apply ByteArray.ext
  apply Array.toList_inj.1
  rw [ByteArray.data_append, Array.toList_append, fewS_list, fewS_list]
  simp [fewL]
theorem few_ab {zs : List Int} {c : UInt8} (h : c ∈ fewL zs) : c = 97 ∨ c = 98 := by
  simp only [fewL, List.mem_map] at h
  obtain ⟨z, _, rfl⟩ := h
  unfold ab; split <;> simp
theorem row_next' {w w' : World} {a : Option Addr} {len cap : Nat} {zs : List Int} (h : IsRow .i64 w a len cap zs) (hb : Below w.heap.size w w') : IsRow .i64 w' a len cap zs := by
  rcases h with h | ⟨x, e, h1, h2, h3, h4, h5⟩
  · exact .inl h
  · exact .inr ⟨x, e, h1, h2, h3, fun i hi => (hb.cell (block_lt (h4 i hi))).trans (h4 i hi), h5⟩

set_option maxRecDepth 100000 in
set_option maxHeartbeats 2000000 in
theorem few (a : Option Addr) (len cap : Nat) (zs : List Int) (n : Nat) (w : World) (h : IsRow .i64 w a len cap zs) (hn : n ≤ 1000) :
    Calls Try.prog 17 #[.slice a len cap, .int .i64 n] w fun e w' => e = .returned (.string (fewS ((zs.take len).take n))) ∧ Below w.heap.size w w' := by
  obtain ⟨h1, h2⟩ := row_len h
  unfold maxLen at h2
  have HR := Lib.hid h
  clear h
  go_enter Try.func17, Try.ntmps17
  go_wp2
  go_loopw [5, 6] (fun o i wr => ∃ k : Nat, k ≤ len ∧ k ≤ n ∧ i = .int .i64 k ∧ o = .string (fewS (zs.take k)) ∧ Hid (Below w.heap.size w wr)) (fun _ i _ => len - (intOf i).toNat)
  case atStart => exact ⟨0, Nat.zero_le _, Nat.zero_le _, rfl, rfl, Lib.hid (Below.refl _ _)⟩
  case round =>
    obtain ⟨k, hk, hkn, rfl, rfl, HB⟩ := hrel
    by_cases hlt : k < len
    · by_cases hlt2 : k < n
      · obtain ⟨b, off, rfl, _, hc⟩ := row_at (row_next' HR.out HB.out) (by omega)
        have hck := hc k (by omega)
        have hbl := block_lt hck
        have HP := Lib.hid (fun w => picked (zs.getD k 0) 2 w (by omega) (by omega))
        have hz : zs[k] = zs.getD k 0 := by simp [List.getD, List.getElem?_eq_getElem (show k < zs.length by omega)]
        have HE : Hid (fewS (zs.take (k + 1)) = fewS (zs.take k) ++ ⟨#[ab (zs.getD k 0)]⟩) := Lib.hid (by
          rw [List.take_succ_eq_append_getElem (by omega), fewS_snoc, hz])
        have hsz : (fewS (zs.take k)).size ≤ 1000 := by rw [fewS_size, List.length_take]; omega
        have B1 := Lib.hid (balloc HB.out (.cells #[.string ⟨#[97]⟩, .string ⟨#[98]⟩] 9))
        have hck' : (wr.alloc (.cells #[.string ⟨#[97]⟩, .string ⟨#[98]⟩] 9)).cell? ⟨b, off + k, none⟩ = some (.int .i64 (zs.getD k 0)) := keep (balloc (Below.refl _ _) _) hbl hck
        clear hc hz
        rcases Int.emod_two_eq (zs.getD k 0) with h0 | h0
        all_goals
          unfold ab at HE
          rw [h0] at HP HE
          generalize zs.getD k 0 = z at *
          go_wp2_with fail
          refine (HP.out _).mono ?_
          rintro e w' ⟨rfl, rfl⟩
          go_wp2
          go_roundw
          case rel => exact ⟨k + 1, by omega, by omega, by go_num, by rw [HE.out]; rfl, B1⟩
          case measure => simp [intOf]; omega
      · go_wp2
        go_ret
        have e : k = n := by omega
        subst e
        exact ⟨by rw [List.take_take, Nat.min_eq_left hk]; rfl, HB.out⟩
    · go_wp2
      go_ret
      have e : k = len := by omega
      subst e
      exact ⟨by rw [List.take_take, Nat.min_eq_right hkn]; rfl, HB.out⟩

end Go.Proofs.Ytokfnajgjhkepaa.FewT
