/-
  Package diff: apply (a step that drops lines).
-/
import Derived.Test.YtcknmaimkodaeaaDiffApply
namespace Go.Proofs.Ytcknmaimkodaeaa.DiffP
open Go.RowKit Kit LineM StrM DiffM DiffA DiffR HistM

set_option maxRecDepth 100000 in
set_option maxHeartbeats 8000000 in
theorem apply_drop (w W : World) (x z : List ByteArray) (bk i k : Nat) (out : List ByteArray) (h : PS w x z bk i k out W) (c : Nat) (hc1 : 1 ≤ c) (hc2 : c ≤ 200) (hle : i + c ≤ x.length) :
    Calls Try.prog 27 #[.pointer (some ⟨bk, 0, none⟩), .agg #[.int .i64 2, .int .i64 (c : Int)]] W (fun e w' => e = .returned (.int .i64 0) ∧ PS w x z bk (i + c) k out w') := by
  obtain ⟨so, sn, vo, hpb, ⟨sa, na, ca, rfl, hat, hnl, hcap⟩, hz⟩ := h.is
  have hcn : c ≤ na := by omega
  obtain ⟨x0, hx0⟩ : ∃ x0, (x.drop i)[0]? = some x0 := ⟨_, List.getElem?_eq_getElem (by rw [List.length_drop]; omega)⟩
  obtain ⟨g, off, rfl, hg, _⟩ := StAt.get hat hx0
  have OFF := Lib.hid (Lf.off hat hnl hcap hcn)
  have HZ := Lib.hid hz
  have HP := Lib.hid (fun n => hpb.next (bdrewN (balloc (Below.refl _ _) (.cells #[.int .i64 2, .int .i64 (c : Int)] 28)) n))
  have HB := Lib.hid (fun n => (B2.new W (.int .i64 2) (.int .i64 (c : Int)) 28).next (bdrewN (Below.refl _ _) n))
  have hlt := hpb.box.lt
  have c0 := hpb.box.c0
  have q1 : ¬ (c : Int) < 1 := by omega
  have q2 : ¬ (c : Int) > 200 := by omega
  have q3 : ¬ (c : Int) > (na : Int) := by omega
  have q4 : (c : Int) ≤ (na : Int) := by omega
  have q5 : (na : Int) ≤ (ca : Int) := by omega
  have q6 : (0 : Int) ≤ (c : Int) := by omega
  have hbw : bk ≠ W.heap.size := by omega
  clear h hpb hat hx0 hz
  by_cases hcc : ca = c
  · subst hcc
    have hna : na = ca := by omega
    subst hna
    rw [if_pos rfl, Nat.sub_self] at OFF
    go_enter Try.func27, Try.ntmps27
    go_wp2_with fail
    go_quiet (fail)
    have HP2 := Lib.hid (HP.out nq)
    have HB2 := Lib.hid (HB.out nq)
    generalize ((W.alloc (.cells #[.int .i64 2, .int .i64 (na : Int)] 28)).drewN nq) = w4 at *
    have d0 := HP2.out.box.c0
    have d1 := HP2.out.box.f0
    have d2 := HB2.out.c0
    have d3 := HB2.out.c1
    have d4 := HP2.out.box.lt
    have FIN : Hid (∀ v, Lf w x (i + na) v → PS w x z bk (i + na) k out ((w4.setCell ⟨bk, 0, none⟩ v).drew)) := Lib.hid (fun v hv => ⟨v, sn, vo, (HP2.out.put0 v).next (Below.drew (Below.refl _ _)), hv, HZ.out⟩)
    clear HP HB c0
    go_wp2_with fail
    go_big_region
    go_wp2_with fail
    go_ret
    exact ⟨rfl, FIN.out _ OFF.out⟩
  · have hcc2 : ¬ (ca : Int) = (c : Int) := by omega
    rw [if_neg hcc] at OFF
    go_enter Try.func27, Try.ntmps27
    go_wp2_with fail
    go_quiet (fail)
    have HP2 := Lib.hid (HP.out nq)
    have HB2 := Lib.hid (HB.out nq)
    generalize ((W.alloc (.cells #[.int .i64 2, .int .i64 (c : Int)] 28)).drewN nq) = w4 at *
    have d0 := HP2.out.box.c0
    have d1 := HP2.out.box.f0
    have d2 := HB2.out.c0
    have d3 := HB2.out.c1
    have d4 := HP2.out.box.lt
    have FIN : Hid (∀ v, Lf w x (i + c) v → PS w x z bk (i + c) k out ((w4.setCell ⟨bk, 0, none⟩ v).drew)) := Lib.hid (fun v hv => ⟨v, sn, vo, (HP2.out.put0 v).next (Below.drew (Below.refl _ _)), hv, HZ.out⟩)
    clear HP HB c0
    go_wp2_with fail
    go_big_region
    go_wp2_with fail
    go_ret
    exact ⟨rfl, FIN.out _ OFF.out⟩
end Go.Proofs.Ytcknmaimkodaeaa.DiffP
