/-
  Package rope: what repeat and exists answer.
-/
import Derived.Test.YtkckhjljindgmaaRopeSplit
import Derived.Test.YtkckhjljindgmaaRopeSpec
namespace Go.Proofs.Ytkckhjljindgmaa.RopeC
open Go.RowKit Kit RopeM

set_option maxRecDepth 100000 in
set_option maxHeartbeats 2000000 in
theorem repeat_ (t : RT) (k : Nat) (w : World) (ht : RopeAt w t) (hk : k ≤ 4) (hm : t.len ≤ 600) :
    Calls Try.prog 68 #[t.ptr, .int .i64 (k : Int)] w fun e w' => ∃ u : RT, e = .returned (.pointer u.addr) ∧ RopeAt w' u ∧ u.txt = cop t.txt k ∧ Below w.heap.size w w' := by
  rw [show t.ptr = .pointer t.addr from rfl]
  have J : Hid (∀ (u : RT) (i : Nat) W, i < k → RopeAt W u → u.txt = cop t.txt i → Below w.heap.size w W → Calls Try.prog 66 #[.pointer u.addr, .pointer t.addr] W fun e w' => ∃ u' : RT, e = .returned (.pointer u'.addr) ∧ RopeAt w' u' ∧ u'.txt = cop t.txt (i + 1) ∧ Below w.heap.size w w') := Lib.hid (by
    intro u i W hi hu hu1 hW
    have hlen : u.len ≤ 2400 := by
      rw [← RT.txt_len, hu1, cop_length, RT.txt_len]
      have : i * t.len ≤ 4 * 600 := Nat.mul_le_mul (by omega) hm
      omega
    refine (join u t W hu (ht.next hW) (by omega)).mono ?_
    rintro e w' ⟨u', rfl, g1, g2, -, g4⟩
    exact ⟨u', rfl, g1, by rw [g2, hu1, cop], bstep hW g4⟩)
  generalize hta : t.addr = ta at *
  clear ht hm
  go_enter Try.func68, Try.ntmps68
  go_wp2_with fail
  go_loopw [5, 7] (fun p m wr => ∃ (i : Nat) (u : RT), i ≤ k ∧ m = .int .i64 (i : Int) ∧ p = .pointer u.addr ∧ RopeAt wr u ∧ u.txt = cop t.txt i ∧ Below w.heap.size w wr) (fun _ m _ => k - (intOf m).toNat)
  case atStart => exact ⟨0, .nil, by omega, rfl, rfl, RopeAt.nil _, rfl, Below.refl _ _⟩
  case round =>
    obtain ⟨i, u, hi, rfl, rfl, hu, hu1, hW⟩ := hrel
    by_cases hik : i < k
    · have J1 := Lib.hid (J.out u i _ hik hu hu1 hW)
      clear hu hu1 hW J
      generalize u.addr = ua at *
      go_wp2_with fail
      refine J1.out.mono ?_
      rintro e w1 ⟨u', rfl, g1, g2, g3⟩
      have G := Lib.hid (show RopeAt w1 u' ∧ u'.txt = cop t.txt (i + 1) ∧ Below w.heap.size w w1 from ⟨g1, g2, g3⟩)
      clear g1 g2 g3 J1
      go_wp2_with fail
      go_roundw
      case rel => exact ⟨i + 1, u', by omega, rfl, rfl, G.out⟩
      case measure => simp [intOf]; omega
    · obtain rfl : i = k := by omega
      have G := Lib.hid (show RopeAt wr u ∧ u.txt = cop t.txt i ∧ Below w.heap.size w wr from ⟨hu, hu1, hW⟩)
      clear hu hu1 hW J
      go_wp2_with fail
      go_ret
      exact ⟨u, rfl, G.out⟩

set_option maxHeartbeats 1000000 in
theorem exists_ (x : Int) (a : Option Addr) (n cap : Nat) (w : World) :
    Calls Try.prog 63 #[.int .i64 x, .slice a n cap] w fun e w' => e = .returned (.bool (has x n)) ∧ w = w' := by
  by_cases h : 0 ≤ x
  · go_enter Try.func63, Try.ntmps63
    go_wp2
    go_ret
    exact ⟨by simp [has, h], rfl⟩
  · have h' : x < 0 := by omega
    go_enter Try.func63, Try.ntmps63
    go_wp2
    go_ret
    exact ⟨by simp [has]; omega, rfl⟩

end Go.Proofs.Ytkckhjljindgmaa.RopeC
