/-
  Package lines: what countUpTo answers.
-/
import Derived.Test.YtfikolidmpjfcaaLineAt
import Derived.WalkSpells
import Derived.RegionTactic
namespace Go.Proofs.Ytfikolidmpjfcaa.LineC
open Go.RowKit Kit EditM LineM

/-- what is asked of the test that is searched by -/
def SrchOk (p1 p2 : Value) (P : Nat → Bool) (n : Nat) (w : World) : Prop :=
  ∀ W, Below w.heap.size w W → ∀ k : Nat, k < n → Calls Try.prog 43 #[.int .i64 (k : Int), p1, p2] W fun e w' => e = .returned (.bool (P k)) ∧ Below W.heap.size W w'
def SrchPost (P : Nat → Bool) (n : Nat) (w : World) (e : Ending) (w' : World) : Prop := ∃ i : Nat, e = .returned (.int .i64 (i : Int)) ∧ i ≤ n ∧ (0 < i → P (i - 1) = false) ∧ (i < n → P i = true) ∧ Below w.heap.size w w'
def SrchI (P : Nat → Bool) (n i j : Nat) : Prop := (0 < i → P (i - 1) = false) ∧ (j < n → P j = true)
set_option maxHeartbeats 2000000 in
theorem search (n : Nat) (p1 p2 : Value) (P : Nat → Bool) (w : World) (hn : n ≤ 1000000) (h : SrchOk p1 p2 P n w) :
    Calls Try.prog 42 #[.int .i64 (n : Int), .func (.func 43) #[] #[p1, p2]] w (SrchPost P n w) := by
  have H := Lib.hid h
  clear h
  go_enter Try.func42, Try.ntmps42
  go_wp2_with fail
  go_loopw [5, 6] (fun vi vj wr => ∃ i j : Nat, vi = .int .i64 (i : Int) ∧ vj = .int .i64 (j : Int) ∧ i ≤ j ∧ j ≤ n ∧ Hid (SrchI P n i j ∧ Below w.heap.size w wr)) (fun vi vj _ => (intOf vj).toNat - (intOf vi).toNat)
  case atStart => exact ⟨0, n, rfl, rfl, by omega, by omega, Lib.hid ⟨⟨fun h => by omega, fun h => by omega⟩, Below.refl _ _⟩⟩
  case round =>
    obtain ⟨i, j, rfl, rfl, hij, hjn, HK⟩ := hrel
    by_cases hlt : i < j
    · obtain ⟨hh, hhe⟩ : ∃ hh, hh = (i + j) / 2 := ⟨_, rfl⟩
      have ez : ((i : Int) + (j : Int)) / 2 = (hh : Int) := by omega
      have q1 : i ≤ hh := by omega
      have q2 : hh < j := by omega
      clear hhe
      have C := Lib.hid (H.out wr HK.out.2 hh (by omega))
      cases hp : P hh
      · have HN : Hid (SrchI P n (hh + 1) j) := Lib.hid ⟨fun _ => hp, HK.out.1.2⟩
        rw [hp] at C
        clear hp
        go_wp2_with fail
        refine C.out.mono ?_
        rintro e w1 ⟨rfl, hb⟩
        have B := Lib.hid (bstep HK.out.2 hb)
        clear hb C HK
        go_wp2_with fail
        go_roundw
        case rel => exact ⟨hh + 1, j, by go_num, rfl, by omega, by omega, Lib.hid ⟨HN.out, B.out⟩⟩
        case measure => simp [intOf]; omega
      · have HN : Hid (SrchI P n i hh) := Lib.hid ⟨HK.out.1.1, fun _ => hp⟩
        rw [hp] at C
        clear hp
        go_wp2_with fail
        refine C.out.mono ?_
        rintro e w1 ⟨rfl, hb⟩
        have B := Lib.hid (bstep HK.out.2 hb)
        clear hb C HK
        go_wp2_with fail
        go_roundw
        case rel => exact ⟨i, hh, rfl, rfl, by omega, by omega, Lib.hid ⟨HN.out, B.out⟩⟩
        case measure => simp [intOf]; omega
    · obtain rfl : j = i := by omega
      go_wp2_with fail
      go_ret
      exact ⟨j, rfl, hjn, HK.out.1.1, HK.out.1.2, HK.out.2⟩

set_option maxHeartbeats 2000000 in
theorem test1 (zs : List Int) (al : Option Addr) (cap : Nat) (a : Int) (p q k : Nat) (z : Int) (w : World) (h : IsAt w al zs) (cp : w.cell? ⟨p, 0, none⟩ = some (.slice al zs.length cap)) (cq : w.cell? ⟨q, 0, none⟩ = some (.int .i64 a)) (hz : zs[k]? = some z) :
    Calls Try.prog 43 #[.int .i64 (k : Int), .pointer (some ⟨p, 0, none⟩), .pointer (some ⟨q, 0, none⟩)] w fun e w' => e = .returned (.bool (decide (a < z))) ∧ Below w.heap.size w w' := by
  obtain ⟨g, off, rfl, hg, c0⟩ := h.get hz
  have hk := (List.getElem?_eq_some_iff.1 hz).1
  clear h hz hg
  generalize zs.length = n at *
  have i1 : (k : Int) < (n : Int) := by omega
  have i2 : (0 : Int) ≤ (k : Int) := by omega
  go_enter Try.func43, Try.ntmps43
  go_wp2
  go_quiet (fail)
  go_wp2
  go_ret
  exact ⟨by first | rfl | simp, bdrewN (Below.refl _ _) _⟩

def UpPost (zs : List Int) (a : Int) (w : World) (e : Ending) (w' : World) : Prop := ∃ i : Nat, e = .returned (.int .i64 (i : Int)) ∧ UpTo zs a i ∧ Below w.heap.size w w'
theorem get_some {zs : List Int} {k : Nat} (h : k < zs.length) : zs[k]? = some (zs.getD k 0) := by simp [List.getD, h]
set_option maxRecDepth 100000 in
set_option maxHeartbeats 2000000 in
theorem countUpTo (zs : List Int) (al : Option Addr) (cap : Nat) (a : Int) (w : World) (h : IsAt w al zs) (hn : zs.length ≤ 1000000) :
    Calls Try.prog 30 #[.slice al zs.length cap, .int .i64 a] w (UpPost zs a w) := by
  obtain ⟨w2, hw2⟩ : ∃ w2, w2 = (w.alloc (.cells #[.slice al zs.length cap] 22)).alloc (.cells #[.int .i64 a] 3) := ⟨_, rfl⟩
  have B2 : Below w.heap.size w w2 := by rw [hw2]; exact balloc (balloc (Below.refl _ _) _) _
  have cp : w2.cell? ⟨w.heap.size, 0, none⟩ = some (.slice al zs.length cap) := by rw [hw2]; simp
  have cq : w2.cell? ⟨w.heap.size + 1, 0, none⟩ = some (.int .i64 a) := by rw [hw2]; simp
  have hz2 : w2.heap.size = w.heap.size + 2 := by rw [hw2]; simp
  have C := Lib.hid (search zs.length (.pointer (some ⟨w.heap.size, 0, none⟩)) (.pointer (some ⟨w.heap.size + 1, 0, none⟩)) (fun k => decide (a < zs.getD k 0)) w2 hn (fun W hW k hk => test1 zs al cap a w.heap.size (w.heap.size + 1) k _ W ((h.next B2).next hW) (keep hW (by omega) cp) (keep hW (by omega) cq) (get_some hk)))
  have FIN : Hid (∀ (i : Nat) w', SrchPost (fun k => decide (a < zs.getD k 0)) zs.length w2 (.returned (.int .i64 (i : Int))) w' → UpPost zs a w (.returned (.int .i64 (i : Int))) w') := Lib.hid fun i w' ⟨j, e, h1, h2, h3, h4⟩ => by
    have hij : i = j := by have : (i : Int) = (j : Int) := by simpa using e
                           omega
    subst hij
    refine ⟨i, rfl, ⟨h1, fun h0 x hx => ?_, fun x hx => ?_⟩, bstep B2 h4⟩
    · have := of_decide_eq_false (h2 h0)
      simp only [List.getD, hx] at this
      simpa using this
    · have := of_decide_eq_true (h3 (List.getElem?_eq_some_iff.1 hx).1)
      simp only [List.getD, hx] at this
      simpa using this
  have HW := Lib.hid hw2
  clear cp cq hz2 B2 hw2 h
  generalize (fun k => decide (a < zs.getD k 0)) = P at *
  rw [HW.out] at C
  generalize zs.length = n at *
  go_enter Try.func30, Try.ntmps30
  go_wp2_with fail
  refine C.out.mono ?_
  rintro e w1 ⟨i, rfl, hk⟩
  have F := Lib.hid (FIN.out i w1 ⟨i, rfl, by rw [HW.out]; exact hk⟩)
  clear hk C FIN HW
  go_wp2_with fail
  go_ret
  exact F.out
end Go.Proofs.Ytfikolidmpjfcaa.LineC
