/-
  fustiankeep.sameWords at equal words.
-/
import Derived.Test.YtedlgobpoifnfaaWordAt
import Derived.Test.YtedlgobpoifnfaaSameK
import Derived.BigQuiet
namespace Go.Proofs.Ytedlgobpoifnfaa.WordK
open Go.RowKit Kit WordM LineM WordC

set_option maxRecDepth 100000 in
set_option maxHeartbeats 4000000 in
theorem same (va vb : Value) (l : List (List UInt8 × List Int)) (w : World) (h1 : WsV w va l) (h2 : WsV w vb l) (hl : l.length ≤ 600) (hp : ∀ p ∈ l, p.2.length ≤ 600) :
    Calls Try.prog 21 #[va, vb] w fun e w' => e = .returned (.bool true) ∧ Below w.heap.size w w' := by
  have mixed : Try.prog.follows .mixedOrders = true := by kernel_rfl
  obtain ⟨a1, c1, rfl⟩ := h1.form
  obtain ⟨a2, c2, rfl⟩ := h2.form
  have A1 := Lib.hid h1
  have A2 := Lib.hid h2
  have HP := Lib.hid hp
  clear h1 h2 hp
  generalize hN : l.length = N at *
  have HN := Lib.hid hN
  clear hN
  go_enter Try.func21, Try.ntmps21
  go_wp2_with fail
  go_loopw [5] (fun vi wr => ∃ k : Nat, k ≤ N ∧ vi = .int .i64 (k : Int) ∧ Hid (Below w.heap.size w wr)) (fun vi _ => N - (intOf vi).toNat)
  case atStart => exact ⟨0, by omega, rfl, Lib.hid (Below.refl _ _)⟩
  case round =>
    obtain ⟨k, hk, rfl, HK⟩ := hrel
    by_cases hlt : k < N
    · have hil : k < l.length := by rw [HN.out]; exact hlt
      obtain ⟨p, hpx⟩ : ∃ p, l[k]? = some p := ⟨l[k], by simp [hil]⟩
      obtain ⟨g1, o1, u1, rfl, hg1, x0, x1, hu1⟩ := A1.out.get hpx
      obtain ⟨g2, o2, u2, rfl, hg2, y0, y1, hu2⟩ := A2.out.get hpx
      have hp6 : p.2.length ≤ 600 := HP.out p (List.mem_of_getElem? hpx)
      have BD : Hid (Below w.heap.size w wr.drew) := Lib.hid (HK.out.trans (Below.drew (Below.refl _ _)))
      have S0 : Hid ((wr.drew.cell? ⟨g1, o1 + k * 2, none⟩ = some (.string (bs p.1)) ∧ wr.drew.cell? ⟨g1, o1 + k * 2 + 1, none⟩ = some u1) ∧ (wr.drew.cell? ⟨g2, o2 + k * 2, none⟩ = some (.string (bs p.1)) ∧ wr.drew.cell? ⟨g2, o2 + k * 2 + 1, none⟩ = some u2)) := Lib.hid ⟨⟨keep BD.out hg1 x0, keep BD.out hg1 x1⟩, keep BD.out hg2 y0, keep BD.out hg2 y1⟩
      have SA := Lib.hid (SameK.same u1 u2 p.2 wr.drew (IsV.row (SlV.next hu1 BD.out)) (IsV.row (SlV.next hu2 BD.out)) (by unfold maxLen; omega))
      have NX := Lib.hid (fun W' (hb : Below wr.drew.heap.size wr.drew W') => And.intro (And.intro (keep hb (block_lt S0.out.1.1) S0.out.1.1) (keep hb (block_lt S0.out.1.2) S0.out.1.2)) (And.intro (keep hb (block_lt S0.out.2.1) S0.out.2.1) (keep hb (block_lt S0.out.2.2) S0.out.2.2)))
      have r1 : IntKind.i64.wrap ((k : Int) + 1) = (k : Int) + 1 := IntWalk.i64_in _ (by omega)
      have p1 : (0 : Int) ≤ (k : Int) := by omega
      have p2 : (k : Int) < (N : Int) := by omega
      clear x0 x1 y0 y1 hu1 hu2 hil hpx HK
      generalize bs p.1 = x at *
      go_wp2_with fail
      go_region_held3 (fun W => (W.cell? ⟨g1, o1 + k * 2, none⟩ = some (.string x) ∧ W.cell? ⟨g1, o1 + k * 2 + 1, none⟩ = some u1) ∧ (W.cell? ⟨g2, o2 + k * 2, none⟩ = some (.string x) ∧ W.cell? ⟨g2, o2 + k * 2 + 1, none⟩ = some u2))
        (first | exact S0.out | exact S1.out)
        (first
          | (go_at_call 24; refine SA.out.mono ?_; rintro e w5 ⟨rfl, hb5⟩; have S1 := Lib.hid (NX.out _ hb5); have B5 := Lib.hid (bstep BD.out hb5); clear hb5))
      rename_i hHeld
      clear hHeld
      go_wp2_with fail
      go_roundw
      case rel => exact ⟨k + 1, by omega, by go_num, B5⟩
      case measure => simp [intOf]; omega
    · go_wp2_with fail
      go_ret
      exact ⟨rfl, HK.out⟩
end Go.Proofs.Ytedlgobpoifnfaa.WordK
