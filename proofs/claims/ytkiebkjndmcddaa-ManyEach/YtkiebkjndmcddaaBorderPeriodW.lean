/-
  The law BorderPeriod, walked.
-/
import Derived.Test.YtkiebkjndmcddaaFindSure
import Derived.Test.YtkiebkjndmcddaaRefBorder
import Derived.BigQuiet
namespace Go.Proofs.Ytkiebkjndmcddaa.FindK
open Go.RowKit Kit LineM FindM FindR FindP EditM FewT Lift

theorem isV_get {w : World} {v : Value} {l : List Nat} (h : IsV w v (ints l)) : ∃ al cap, v = .slice al l.length cap ∧ (al = none ∨ ∃ g off, al = some ⟨g, off, none⟩ ∧ g < w.heap.size) ∧ ∀ (i x : Nat), l[i]? = some x → ∃ g off, al = some ⟨g, off, none⟩ ∧ g < w.heap.size ∧ w.cell? ⟨g, off + i, none⟩ = some (.int .i64 (x : Int)) := by
  obtain ⟨al, cap, e, hle, ha, hd⟩ := h
  have hl : (ints l).length = l.length := by simp [ints]
  rw [hl] at e
  refine ⟨al, cap, e, ?_, fun i x hx => ?_⟩
  · rcases hd with ⟨h1, _⟩ | h1
    · exact .inl h1
    · exact .inr h1
  · exact IsAt.get ha (by simp [ints, hx])
theorem size_a (F : ByteArray) : (F ++ ⟨#[97]⟩ : ByteArray).size = F.size + 1 := by rw [ByteArray.size_append]; rfl
/-- what a border tells -/
structure BdF (s : ByteArray) (n d K : Nat) : Prop where
  sum : n = d + K
  pos : 0 < d
  per : ∀ j (h1 : d + j < s.size) (h2 : j < s.size), d + j < n → s[d + j] = s[j]
  max : ∀ m q, K < m → m < n → n = q + m → ((s.extract 0 m).toList == (s.extract q n).toList) = false
  nxt : 0 < K → bord s.data.toList K < K ∧ ∀ q, n = q + bord s.data.toList K → ((s.extract 0 (bord s.data.toList K)).toList == (s.extract q n).toList) = true
theorem bdF (s : ByteArray) (h : 0 < s.size) : ∃ d, BdF s s.size d (bord s.data.toList s.size) := by
  have hb := bord_is s.data.toList h
  refine ⟨s.size - bord s.data.toList s.size, by have := hb.1; omega, by have := hb.1; omega, fun j h1 h2 h3 => ?_, fun m q h1 h2 h3 => ?_, fun h0 => ?_⟩
  · have h4 := hb.period (i := s.size - bord s.data.toList s.size + j) (by omega) (by omega)
    rw [sget s _ h1, show s.size - bord s.data.toList s.size + j - (s.size - bord s.data.toList s.size) = j by omega, sget s j h2] at h4
    exact Option.some.inj h4
  · have := bord_not s s.size m (Nat.le_refl _) (by omega) (fun hm => by
      have := bord_max (s := s.data.toList) (n := s.size) (k := m) ⟨h2, hm⟩
      omega)
    rwa [show s.size - m = q by omega] at this
  · have h5 := bord_is s.data.toList h0
    refine ⟨h5.1, fun q hq => ?_⟩
    have := bord_yes s s.size (bord s.data.toList (bord s.data.toList s.size)) (Nat.le_refl _) (by have := hb.1; have := h5.1; omega) (hb.2.comp h5)
    rwa [show s.size - bord s.data.toList (bord s.data.toList s.size) = q by omega] at this
set_option maxRecDepth 100000 in
set_option maxHeartbeats 4000000 in
theorem borderPeriod (a0 : Option Addr) (len0 cap0 : Nat) (zs : List Int) (w : World) (h0 : IsRow .i64 w a0 len0 cap0 zs) :
    Calls Try.prog 8 #[.slice a0 len0 cap0] w fun e w' => e = .returned (.bool true) ∧ Below w.heap.size w w' := by
  have FW := Lib.hid (few a0 len0 cap0 zs 60 w h0 (by omega))
  have hsz : (fewS ((zs.take len0).take 60)).size ≤ 60 := by rw [fewS_size]; simp only [List.length_take]; omega
  clear h0
  generalize fewS ((zs.take len0).take 60) = F at *
  have hf1 : F.size + 1 ≤ 140737488355328 := by omega
  have BO := Lib.hid (fun W => border (F ++ ⟨#[97]⟩) W (by rw [size_a]; omega))
  have SU := Lib.hid (fun W => findSure W)
  have hS1 : 0 < (F ++ ⟨#[97]⟩ : ByteArray).size := by rw [size_a]; omega
  have hS2 : (F ++ ⟨#[97]⟩ : ByteArray).size ≤ 61 := by rw [size_a]; omega
  go_enter Try.func8, Try.ntmps8
  go_wp2_with fail
  refine FW.out.mono ?_
  rintro e w1 ⟨rfl, hb1⟩
  have B1 := Lib.hid hb1
  clear hb1 FW
  go_wp2_with fail
  generalize (F ++ ⟨#[97]⟩ : ByteArray) = s at *
  refine (BO.out _).mono ?_
  rintro e w2 ⟨v2, rfl, hv2, hb2⟩
  have B2 := Lib.hid (bstep B1.out hb2)
  obtain ⟨al, cap, rfl, _, hc⟩ := isV_get hv2
  clear hv2 hb2 BO B1
  rw [bords_len]
  obtain ⟨d, hd⟩ := bdF s hS1
  obtain ⟨g, off, rfl, hg, cn⟩ := hc (s.size - 1) _ (bords_get s.data.toList (by omega))
  rw [show s.size - 1 + 1 = s.size by omega] at cn
  have CK : Hid (∀ k, 0 < k → k < s.size → w2.cell? ⟨g, off + (k - 1), none⟩ = some (.int .i64 (bord s.data.toList k : Int))) := Lib.hid (fun k h1 h2 => by
    obtain ⟨g', off', e, _, c⟩ := hc (k - 1) _ (bords_get s.data.toList (by omega))
    cases e
    rwa [show k - 1 + 1 = k by omega] at c)
  clear hc
  have HD := Lib.hid hd
  have hsum := hd.sum
  have hdp := hd.pos
  clear hd
  generalize hK : bord s.data.toList s.size = K at *
  clear hK
  have r1 : IntKind.i64.wrap ((s.size : Int) - 1) = (s.size : Int) - 1 := IntWalk.i64_in _ (by omega)
  have r1' : ((s.size : Int) - 1).toNat = s.size - 1 := by omega
  have u1 : (0 : Int) ≤ (s.size : Int) - 1 := by omega
  have u2 : (s.size : Int) - 1 < (s.size : Int) := by omega
  have u3 : (1 : Int) ≤ (s.size : Int) := by omega
  have r2 : IntKind.i64.wrap ((s.size : Int) - (K : Int)) = (d : Int) := by rw [show (s.size : Int) - (K : Int) = (d : Int) by omega]; exact IntWalk.i64_in _ (by omega)
  have HSUM := Lib.hid hsum
  have hKl : K < s.size := by omega
  have hdl : d ≤ s.size := by omega
  clear hsum
  go_wp2_with fail
  refine (SU.out _).mono ?_
  rintro e w3 ⟨rfl, hb3⟩
  have B3 := Lib.hid (bstep B2.out hb3)
  have CK3 : Hid (∀ k, 0 < k → k < s.size → w3.cell? ⟨g, off + (k - 1), none⟩ = some (.int .i64 (bord s.data.toList k : Int))) := Lib.hid (fun k h1 h2 => keep hb3 hg (CK.out k h1 h2))
  have cn3 := keep hb3 hg cn
  have hg3 : g < w3.heap.size := by have := hb3.size; omega
  clear hb3 cn CK B2 SU
  go_wp2_with fail
  clear cn3 r1 r1' u1 u2
  go_loopw [8] (fun vi wr => ∃ i : Nat, d ≤ i ∧ i ≤ s.size ∧ vi = .int .i64 (i : Int) ∧ ∃ q, wr = w3.drewN q) (fun vi _ => s.size - (intOf vi).toNat)
  case atStart => exact ⟨d, by omega, hdl, rfl, 0, rfl⟩
  case round =>
    obtain ⟨i, hdi, hin, rfl, q, rfl⟩ := hrel
    by_cases hlt : i < s.size
    · obtain ⟨j, hj⟩ : ∃ j, i = d + j := ⟨i - d, by omega⟩
      have hjs : j < s.size := by omega
      have i0 : (0 : Int) ≤ (i : Int) := by omega
      have i1 : (i : Int) < (s.size : Int) := by omega
      have i2 : (0 : Int) ≤ (j : Int) := by omega
      have i3 : (j : Int) < (s.size : Int) := by omega
      have r3 : IntKind.i64.wrap ((i : Int) - (d : Int)) = (j : Int) := by rw [show (i : Int) - (d : Int) = (j : Int) by omega]; exact IntWalk.i64_in _ (by omega)
      have r4 : IntKind.i64.wrap ((i : Int) + 1) = (i : Int) + 1 := IntWalk.i64_in _ (by omega)
      have hss : s[i] = s[j] := by
        have := HD.out.per j (by omega) hjs (by omega)
        simp only [hj]; exact this
      have q1 : ((s[i].toNat : Int) != (s[j].toNat : Int)) = false := by rw [hss]; simp
      have q2 : ((s[i].toNat : Int) = (s[j].toNat : Int)) := by rw [hss]
      clear hj hss
      go_wp2_with fail
      go_quiet (fail)
      go_wp2_with fail
      go_roundw
      case rel => exact ⟨i + 1, by omega, by omega, by go_num, _, rfl⟩
      case measure => simp [intOf]; omega
    · have i1 : ¬ (i : Int) < (s.size : Int) := by omega
      have r5 : IntKind.i64.wrap ((K : Int) + 1) = (K : Int) + 1 := IntWalk.i64_in _ (by omega)
      go_wp2_with fail
      go_loopw [9] (fun vm wr => ∃ m : Nat, K < m ∧ m ≤ s.size ∧ vm = .int .i64 (m : Int) ∧ ∃ q, wr = w3.drewN q) (fun vm _ => s.size - (intOf vm).toNat)
      case atStart => exact ⟨K + 1, by omega, by omega, by go_num, _, rfl⟩
      case round =>
        obtain ⟨m, hKm, hmn, rfl, q', rfl⟩ := hrel
        by_cases hml : m < s.size
        · obtain ⟨y, hy⟩ : ∃ y, s.size = y + m := ⟨s.size - m, by omega⟩
          have HE := HD.out.max m y hKm hml hy
          have r6 : IntKind.i64.wrap ((s.size : Int) - (m : Int)) = (y : Int) := by rw [show (s.size : Int) - (m : Int) = (y : Int) by omega]; exact IntWalk.i64_in _ (by omega)
          have r7 : IntKind.i64.wrap ((m : Int) + 1) = (m : Int) + 1 := IntWalk.i64_in _ (by omega)
          have j0 : (0 : Int) ≤ (m : Int) := by omega
          have j1 : (m : Int) < (s.size : Int) := by omega
          have j2 : (m : Int) ≤ (s.size : Int) := by omega
          have j3 : (0 : Int) ≤ (y : Int) := by omega
          have j4 : (y : Int) ≤ (s.size : Int) := by omega
          have j5 : y ≤ s.size := by omega
          clear hy
          go_wp2_with fail
          go_quiet (fail)
          go_wp2_with fail
          go_roundw
          case rel => exact ⟨m + 1, by omega, by omega, by go_num, _, rfl⟩
          case measure => simp [intOf]; omega
        · have j1 : ¬ (m : Int) < (s.size : Int) := by omega
          by_cases hK0 : K = 0
          · subst hK0
            go_wp2_with fail
            go_quiet (fail)
            go_wp2_with fail
            go_ret
            exact ⟨rfl, bdrewN (bdrewN B3.out _) _⟩
          · obtain ⟨hx, hy⟩ := HD.out.nxt (by omega)
            have c1 := CK3.out K (by omega) hKl
            generalize bord s.data.toList K = x at *
            obtain ⟨y, hyq⟩ : ∃ y, s.size = y + x := ⟨s.size - x, by omega⟩
            have HE := hy y hyq
            have r6 : IntKind.i64.wrap ((K : Int) - 1) = (K : Int) - 1 := IntWalk.i64_in _ (by omega)
            have r7 : ((K : Int) - 1).toNat = K - 1 := by omega
            have r8 : IntKind.i64.wrap ((s.size : Int) - (x : Int)) = (y : Int) := by rw [show (s.size : Int) - (x : Int) = (y : Int) by omega]; exact IntWalk.i64_in _ (by omega)
            have k0 : (0 : Int) ≤ (K : Int) - 1 := by omega
            have k1 : (K : Int) - 1 < (s.size : Int) := by omega
            have k2 : (1 : Int) ≤ (K : Int) := by omega
            have k3 : ((K : Int) == 0) = false := by rw [beq_eq_false_iff_ne]; omega
            have k4 : decide ((x : Int) < (K : Int)) = true := decide_eq_true (by omega)
            have k5 : (0 : Int) ≤ (x : Int) := by omega
            have k6 : (x : Int) ≤ (s.size : Int) := by omega
            have k7 : (y : Int) ≤ (s.size : Int) := by omega
            have k8 : (0 : Int) ≤ (y : Int) := by omega
            have k9 : y ≤ s.size := by omega
            have k10 : x ≤ s.size := by omega
            have k11 : decide (x < K) = true := decide_eq_true (by omega)
            have k12 : decide ((K : Int) = 0) = false := decide_eq_false (by omega)
            clear hyq hy
            go_wp2_with fail
            go_quiet (fail)
            go_wp2_with fail
            go_ret
            exact ⟨rfl, bdrewN (bdrewN B3.out _) _⟩
end Go.Proofs.Ytkiebkjndmcddaa.FindK
