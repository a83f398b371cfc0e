/-
  The law FindJust, walked.
-/
import Derived.Test.YtkiebkjndmcddaaBorderPeriodW
import Derived.Test.YtkiebkjndmcddaaRefMany
namespace Go.Proofs.Ytkiebkjndmcddaa.FindK
open Go.RowKit Kit LineM FindM FindR FindP EditM FewT Lift Txt

/-- how many there are, where they do not matter -/
def LnPost (n : Nat) (w : World) (e : Ending) (w' : World) : Prop := ∃ al cap, e = .returned (.tuple #[.slice al n cap, .int .i64 0]) ∧ Below w.heap.size w w'
theorem all_len (t f : ByteArray) (w : World) (ht : t.size ≤ 600) (hf : f.size ≤ 20) (h0 : 0 < f.size) : Calls Try.prog 12 #[.string t, .string f] w (LnPost (hits t.data.toList f.data.toList).length w) := by
  refine (all_ok t f w (by unfold ffault; rw [if_neg (by omega), if_neg (by omega)])).mono ?_
  rintro e w' ⟨v, rfl, hv, hb⟩
  obtain ⟨al, cap, rfl, _, _⟩ := isV_get hv
  exact ⟨al, cap, rfl, hb⟩
theorem hitsTo_pre (t f : List UInt8) {i : Nat} : ∀ {n : Nat}, i ≤ n → ∃ r, hitsTo t f n = hitsTo t f i ++ r
  | 0, h => by obtain rfl : i = 0 := by omega
               exact ⟨[], by simp⟩
  | n + 1, h => by
    by_cases e : i = n + 1
    · subst e; exact ⟨[], by simp⟩
    · obtain ⟨r, hr⟩ := hitsTo_pre t f (n := n) (i := i) (by omega)
      exact ⟨_, by rw [hitsTo_succ, hr, List.append_assoc]⟩
theorem hitsTo_at {t f : List UInt8} {i n : Nat} (h : i < n) (hs : stands t f i = true) : (hitsTo t f n)[(hitsTo t f i).length]? = some i := by
  obtain ⟨r, hr⟩ := hitsTo_pre t f (i := i + 1) (n := n) (by omega)
  rw [hr, hitsTo_succ, if_pos hs, List.append_assoc, List.getElem?_append_right (Nat.le_refl _), Nat.sub_self]
  rfl
set_option maxRecDepth 100000 in
set_option maxHeartbeats 8000000 in
theorem findJust (a0 : Option Addr) (len0 cap0 : Nat) (zs : List Int) (a1 : Option Addr) (len1 cap1 : Nat) (ys : List Int) (cut : Int) (w : World) (h0 : IsRow .i64 w a0 len0 cap0 zs) (h1 : IsRow .i64 w a1 len1 cap1 ys) {X : Prop} (_ : X) :
    Calls Try.prog 7 #[.slice a0 len0 cap0, .slice a1 len1 cap1, .int .i64 cut] w fun e w' => e = .returned (.bool true) ∧ Below w.heap.size w w' := by
  have FW := Lib.hid (few a0 len0 cap0 zs 80 w h0 (by omega))
  have FV := Lib.hid (fun W (hW : Below w.heap.size w W) => few a1 len1 cap1 ys 5 W (row_next' h1 hW) (by omega))
  have hsz : (fewS ((zs.take len0).take 80)).size ≤ 80 := by rw [fewS_size]; simp only [List.length_take]; omega
  have hfz : (fewS ((ys.take len1).take 5)).size ≤ 5 := by rw [fewS_size]; simp only [List.length_take]; omega
  clear h0 h1
  generalize fewS ((zs.take len0).take 80) = s at *
  generalize fewS ((ys.take len1).take 5) = F at *
  have hf1 : F.size + 1 ≤ 140737488355328 := by omega
  have hF1 : 0 < (F ++ ⟨#[97]⟩ : ByteArray).size := by rw [size_a]; omega
  have hF2 : (F ++ ⟨#[97]⟩ : ByteArray).size ≤ 6 := by rw [size_a]; omega
  have SU := Lib.hid (fun W => findSure W)
  go_enter Try.func7, Try.ntmps7
  go_wp2_with fail
  refine FW.out.mono ?_
  rintro e w1 ⟨rfl, hb1⟩
  have B1 := Lib.hid hb1
  have FV1 := Lib.hid (FV.out w1 hb1)
  clear hb1 FW FV
  go_wp2_with fail
  refine FV1.out.mono ?_
  rintro e w2 ⟨rfl, hb2⟩
  have B2 := Lib.hid (bstep B1.out hb2)
  clear hb2 FV1 B1
  go_wp2_with fail
  generalize (F ++ ⟨#[97]⟩ : ByteArray) = f at *
  have ff0 : ffault s.size f.size = 0 := by unfold ffault; rw [if_neg (by omega), if_neg (by omega)]
  have AL := Lib.hid (all_ok s f w2 ff0)
  have AN := Lib.hid (fun t W (ht : t.size ≤ 600) => all_len t f W ht (by omega) hF1)
  have HH := Lib.hid (fun (i : Nat) (h : stands s.data.toList f.data.toList i = true) => (mem_hits (t := s.data.toList) (f := f.data.toList) (fun e => by have := size_list f; rw [e] at this; simp at this; omega)).2 h)
  have HE := Lib.hid (hitsTo_end (t := s.data.toList) (f := f.data.toList) (fun e => by have := size_list f; rw [e] at this; simp at this; omega))
  have HCUT := Lib.hid (fun (c : Nat) (hc : c ≤ s.data.toList.length) => hits_cut (t := s.data.toList) (f := f.data.toList) (fun e => by have := size_list f; rw [e] at this; simp at this; omega) hc)
  rw [size_list, size_list] at HE
  refine AL.out.mono ?_
  rintro e w3 ⟨v3, rfl, hv3, hb3⟩
  have B3 := Lib.hid (bstep B2.out hb3)
  obtain ⟨al, cap, rfl, _, hc⟩ := isV_get hv3
  have HC := Lib.hid hc
  clear hv3 hb3 B2 AL hc
  obtain ⟨N, hN⟩ : ∃ N, (hits s.data.toList f.data.toList).length = N := ⟨_, rfl⟩
  rw [hN] at HCUT ⊢
  have HN := Lib.hid hN
  have hN80 : N ≤ 80 := by rw [← hN]; have := hits_len s.data.toList f.data.toList; rw [size_list] at this; omega
  clear hN
  go_wp2_with fail
  refine (SU.out _).mono ?_
  rintro e w4 ⟨rfl, hb4⟩
  have B4 := Lib.hid (bstep B3.out hb4)
  have HC4 : Hid (∀ (i x : Nat), (hits s.data.toList f.data.toList)[i]? = some x → ∃ g off, al = some ⟨g, off, none⟩ ∧ g < w4.heap.size ∧ w4.cell? ⟨g, off + i, none⟩ = some (.int .i64 (x : Int))) := Lib.hid (fun i x hx => by
    obtain ⟨g, off, e, h1, h2⟩ := HC.out i x hx
    exact ⟨g, off, e, by have := hb4.size; omega, keep hb4 h1 h2⟩)
  clear hb4 B3 HC SU
  go_wp2_with fail
  go_loopw [11, 12] (fun vk vi wr => ∃ i k : Nat, i ≤ s.size + 1 - f.size ∧ vi = .int .i64 (i : Int) ∧ vk = .int .i64 (k : Int) ∧ Hid (k = (hitsTo s.data.toList f.data.toList i).length) ∧ k ≤ i ∧ wr = w4) (fun _ vi _ => s.size + 1 - f.size - (intOf vi).toNat)
  case atStart => exact ⟨0, 0, by omega, rfl, rfl, Lib.hid rfl, by omega, rfl⟩
  case round =>
    obtain ⟨i, k, hi, rfl, rfl, HK, hki, rfl⟩ := hrel
    have r1 : IntKind.i64.wrap ((i : Int) + (f.size : Int)) = (i : Int) + (f.size : Int) := IntWalk.i64_in _ (by omega)
    by_cases hlt : i < s.size + 1 - f.size
    · have hle : i + f.size ≤ s.size := by omega
      have HX := ext_eq s f i hle
      have r2 : IntKind.i64.wrap ((i : Int) + 1) = (i : Int) + 1 := IntWalk.i64_in _ (by omega)
      have r3 : IntKind.i64.wrap ((k : Int) + 1) = (k : Int) + 1 := IntWalk.i64_in _ (by omega)
      have u0 : (0 : Int) ≤ (i : Int) := by omega
      have u1 : (i : Int) ≤ (i : Int) + (f.size : Int) := by omega
      have u2 : (i : Int) + (f.size : Int) ≤ (s.size : Int) := by omega
      have u3 : (0 : Int) ≤ (k : Int) := by omega
      have HS := Lib.hid (hitsTo_succ s.data.toList f.data.toList i)
      cases hst : stands s.data.toList f.data.toList i
      · rw [hst] at HX HS
        simp only [Bool.false_eq_true, if_false, List.append_nil] at HS
        have HK2 : Hid (k = (hitsTo s.data.toList f.data.toList (i + 1)).length) := Lib.hid (by rw [HS.out]; exact HK.out)
        by_cases hkN : k < N
        · obtain ⟨x, hx⟩ : ∃ x, (hits s.data.toList f.data.toList)[k]? = some x := ⟨_, List.getElem?_eq_getElem (by rw [HN.out]; exact hkN)⟩
          obtain ⟨g, off, rfl, hg, c1⟩ := HC4.out k x hx
          have hxi : x ≠ i := fun e => by
            have h2 := List.mem_of_getElem? hx
            have h3 := (List.mem_filter.1 h2).2
            rw [e, hst] at h3; cases h3
          have q1 : decide ((x : Int) = (i : Int)) = false := decide_eq_false (by omega)
          have q2 : ¬ (x : Int) = (i : Int) := by omega
          have q3 : (k : Int) < (N : Int) := by omega
          clear hx HS HK hst
          go_wp2_with fail
          go_roundw
          case rel => exact ⟨i + 1, k, by omega, by go_num, rfl, HK2, by omega, trivial⟩
          case measure => simp [intOf]; omega
        · have q3 : ¬ (k : Int) < (N : Int) := by omega
          clear HS HK hst
          go_wp2_with fail
          go_roundw
          case rel => exact ⟨i + 1, k, by omega, by go_num, rfl, HK2, by omega, trivial⟩
          case measure => simp [intOf]; omega
      · rw [hst] at HX HS
        simp only [if_true] at HS
        have hget := hitsTo_at (t := s.data.toList) (f := f.data.toList) hlt hst
        rw [← HE.out, ← HK.out] at hget
        have hkN : k < N := by have := (List.getElem?_eq_some_iff.1 hget).1; rwa [HN.out] at this
        obtain ⟨g, off, rfl, hg, c1⟩ := HC4.out k i hget
        have HK2 : Hid (k + 1 = (hitsTo s.data.toList f.data.toList (i + 1)).length) := Lib.hid (by rw [HS.out, List.length_append, ← HK.out]; rfl)
        have q3 : (k : Int) < (N : Int) := by omega
        clear HS HK hst hget
        go_wp2_with fail
        go_roundw
        case rel => exact ⟨i + 1, k + 1, by omega, by go_num, by go_num, HK2, by omega, trivial⟩
        case measure => simp [intOf]; omega
    · have ek : k = N := by rw [HK.out, ← HN.out, HE.out]; congr 2; omega
      have u2 : ¬ (i : Int) + (f.size : Int) ≤ (s.size : Int) := by omega
      subst ek
      obtain ⟨c, hc, hcl⟩ : ∃ c : Nat, cut % ((s.size : Int) + 1) = (c : Int) ∧ c ≤ s.size := by
        have h1 := Int.emod_nonneg cut (show ((s.size : Int) + 1) ≠ 0 by omega)
        have h2 := Int.emod_lt_of_pos cut (show (0 : Int) < (s.size : Int) + 1 by omega)
        exact ⟨(cut % ((s.size : Int) + 1)).toNat, by omega, by omega⟩
      have PK := Lib.hid (picked cut ((s.size : Int) + 1) wr (by omega) (by omega))
      rw [hc] at PK
      have A1 := Lib.hid (AN.out (s.extract 0 c) · (by rw [ByteArray.size_extract]; omega))
      have A2 := Lib.hid (AN.out (s.extract c s.size) · (by rw [ByteArray.size_extract]; omega))
      have v0 : (0 : Int) ≤ (c : Int) := by omega
      have v1 : (c : Int) ≤ (s.size : Int) := by omega
      have r4 : IntKind.i64.wrap ((c : Int) - (f.size : Int)) = (c : Int) - (f.size : Int) := IntWalk.i64_in _ (by omega)
      have r5 : IntKind.i64.wrap ((c : Int) - (f.size : Int) + 1) = (c : Int) - (f.size : Int) + 1 := IntWalk.i64_in _ (by omega)
      have r6 : IntKind.i64.wrap ((c : Int) + (f.size : Int)) = (c : Int) + (f.size : Int) := IntWalk.i64_in _ (by omega)
      have r7 : IntKind.i64.wrap ((c : Int) + (f.size : Int) - 1) = (c : Int) + (f.size : Int) - 1 := IntWalk.i64_in _ (by omega)
      have HCU := Lib.hid (HCUT.out c (by rw [size_list]; exact hcl))
      have A3 := Lib.hid (AN.out (s.extract (max 0 ((c : Int) - (f.size : Int) + 1)).toNat (min (s.size : Int) ((c : Int) + (f.size : Int) - 1)).toNat) · (by rw [ByteArray.size_extract]; omega))
      have e1 : (s.extract 0 c).data.toList = s.data.toList.take c := by rw [Lib.extract_data]; simp
      have e2 : (s.extract c s.size).data.toList = s.data.toList.drop c := by rw [Lib.extract_data, List.take_of_length_le (by rw [List.length_drop, size_list]; exact Nat.le_refl _)]
      have e3 : (s.extract (max 0 ((c : Int) - (f.size : Int) + 1)).toNat (min (s.size : Int) ((c : Int) + (f.size : Int) - 1)).toNat).data.toList = (s.data.toList.take (min s.data.toList.length (c + f.data.toList.length - 1))).drop (c + 1 - f.data.toList.length) := by
        rw [Lib.extract_data, List.drop_take, size_list, size_list]
        congr 1
        · omega
        · congr 1; omega
      rw [e1] at A1
      rw [e2] at A2
      rw [e3] at A3
      clear e1 e2 e3
      generalize (hits (s.data.toList.take c) f.data.toList).length = n1 at *
      generalize (hits (s.data.toList.drop c) f.data.toList).length = n2 at *
      generalize (hits ((s.data.toList.take (min s.data.toList.length (c + f.data.toList.length - 1))).drop (c + 1 - f.data.toList.length)) f.data.toList).length = n3 at *
      have hsum := HCU.out
      have r8 : IntKind.i64.wrap ((n1 : Int) + (n2 : Int)) = (n1 : Int) + (n2 : Int) := IntWalk.i64_in _ (by omega)
      have r9 : IntKind.i64.wrap ((n1 : Int) + (n2 : Int) + (n3 : Int)) = (k : Int) := by rw [show (n1 : Int) + (n2 : Int) + (n3 : Int) = (k : Int) by omega]; exact IntWalk.i64_in _ (by omega)
      clear hsum
      clear HK HC4 HE HH HCUT hc
      go_wp2_with fail
      refine PK.out.mono ?_
      rintro e wa ⟨rfl, rfl⟩
      go_wp2_with fail
      refine (A1.out _).mono ?_
      rintro e wb ⟨a3, c3, rfl, hb5⟩
      have B5 := Lib.hid (bstep B4.out hb5)
      clear hb5 A1 B4
      go_wp2_with fail
      refine (A2.out _).mono ?_
      rintro e wc ⟨a4, c4, rfl, hb6⟩
      have B6 := Lib.hid (bstep B5.out hb6)
      clear hb6 A2 B5
      go_wp2_with fail
      refine (A3.out _).mono ?_
      rintro e wd ⟨a5, c5, rfl, hb7⟩
      have B7 := Lib.hid (bstep B6.out hb7)
      clear hb7 A3 B6
      go_wp2_with fail
      go_ret
      exact ⟨by first | rfl | simp, B7.out⟩
end Go.Proofs.Ytkiebkjndmcddaa.FindK
