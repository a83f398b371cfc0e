/-
  The law RopeMeasures.
-/
import Derived.Test.YteahnhemcceebaaRopePlaysW
import Derived.Test.YteahnhemcceebaaRopeMeas
import Derived.Test.YteahnhemcceebaaRefPosOf
import Derived.Test.YteahnhemcceebaaRefPolyOf
namespace Go.Proofs.Yteahnhemcceebaa.RopeL
open Go.RowKit Kit RopeM RopeC RefC PosM PolyM

theorem refPos (t : List UInt8) (w : World) (h : t.length ≤ 600) : Calls Try.prog 16 #[.string ⟨t.toArray⟩] w fun e w' => e = .returned (.agg #[.int .i64 (t.length : Int), .int .i64 (lns t : Int), .int .i64 (col t : Int)]) ∧ Below w.heap.size w w' := by
  have e : (⟨t.toArray⟩ : ByteArray).size = t.length := by simp [ByteArray.size]
  have := PosOfC.refOf ⟨t.toArray⟩ w (by rw [e]; unfold maxLen; omega)
  rw [e] at this
  simpa using this
theorem refPoly (t : List UInt8) (w : World) (h : t.length ≤ 600) : Calls Try.prog 17 #[.string ⟨t.toArray⟩] w fun e w' => e = .returned (.agg #[.int .i64 (hv t : Int), .int .i64 (hs t.length : Int)]) ∧ Below w.heap.size w w' := by
  have e : (⟨t.toArray⟩ : ByteArray).size = t.length := by simp [ByteArray.size]
  have := PolyC.refOf ⟨t.toArray⟩ w (by rw [e]; unfold maxLen; omega)
  rw [e] at this
  simpa using this

/-- the row of texts, as a reader holds it -/
theorem Row.text {w : World} {v : Value} {ts : Tx} (h : Row w v (ts.map strV)) : ∃ a cap, v = .slice a ts.length cap ∧ ∀ (i : Nat) t, ts[i]? = some t → ∃ g off, a = some ⟨g, off, none⟩ ∧ g < w.heap.size ∧ w.cell? ⟨g, off + i, none⟩ = some (.string ⟨t.toArray⟩) := by
  obtain ⟨a, cap, rfl, h⟩ := h
  refine ⟨a, cap, by simp, fun i t hi => ?_⟩
  have hlt := (List.getElem?_eq_some_iff.1 hi).1
  obtain ⟨g, off, e, hg, hc⟩ := h (by simp; omega)
  refine ⟨g, off, e, hg, ?_⟩
  rw [hc i (by simpa using hlt)]
  simp [strV, hi]

set_option maxRecDepth 100000 in
set_option maxHeartbeats 2000000 in
theorem ropeMeasures_ok (a : Option Addr) (cap : Nat) (l : List OpM) (w : World) (hl : OpsAt w a l) (h80 : l.length ≤ 80) :
    Calls Try.prog 4 #[.slice a l.length cap] w fun e w' => e = .returned (.bool true) ∧ Below w.heap.size w w' := by
  have P := Lib.hid (measured l a cap w hl h80)
  have Q : Hid (∀ W : World, Below w.heap.size w W → Calls Try.prog 12 #[.slice a l.length cap] W fun e w' => ∃ tv cv, e = .returned (.tuple #[tv, cv, .int .i64 0]) ∧ Row w' tv ((texts l []).map strV) ∧ Row w' cv (ints (codes l [])) ∧ Below W.heap.size W w') := Lib.hid fun W hW => played l a cap W (hl.next hW) h80
  have HF := Lib.hid (Fine.nil.texts (l := l))
  clear hl h80
  generalize l.length = n at *
  generalize texts l [] = ts at *
  go_enter Try.func4, Try.ntmps4
  go_wp2_with fail
  refine P.out.mono ?_
  rintro e w1 ⟨pv, hv', rfl, hm, hb⟩
  have M1 := Lib.hid hm
  have B1 := Lib.hid hb
  clear hm hb P
  go_wp2_with fail
  refine (Q.out _ B1.out).mono ?_
  rintro e w2 ⟨tv, cv, rfl, ht, _, hb⟩
  have B2 := Lib.hid (bstep B1.out hb)
  obtain ⟨⟨ap, cp, rfl, hp⟩, ⟨ah, ch, rfl, hh⟩⟩ := M1.out.next hb
  obtain ⟨at', ct, rfl, htt⟩ := Row.text ht
  have HP := Lib.hid hp
  have HH := Lib.hid hh
  have HT := Lib.hid htt
  have hlen := HF.out.1
  have HLIM := Lib.hid HF.out.2
  clear hp hh htt ht hb Q M1 HF
  obtain ⟨m, hm⟩ : ∃ m, ts.length = m := ⟨_, rfl⟩
  rw [hm] at hlen ⊢
  have HM := Lib.hid hm
  clear hm
  go_wp2_with fail
  go_loopw [9] (fun x wr => ∃ (i : Nat), i ≤ m ∧ x = .int .i64 (i : Int) ∧ Below w2.heap.size w2 wr) (fun x _ => m - (intOf x).toNat)
  case atStart => exact ⟨0, by omega, rfl, Below.refl _ _⟩
  case round =>
    obtain ⟨i, hin, rfl, hW⟩ := hrel
    by_cases hlt : i < m
    · obtain ⟨t, hti⟩ : ∃ t, ts[i]? = some t := ⟨ts[i]'(by rw [HM.out]; exact hlt), by simp [HM.out, hlt]⟩
      obtain ⟨gp, rfl, hgp, p0, p1, p2⟩ := HP.out i t hti
      obtain ⟨gh, rfl, hgh, h0, h1⟩ := HH.out i t hti
      obtain ⟨gt, off, rfl, hgt, t0⟩ := HT.out i t hti
      have hl6 := HLIM.out t (List.mem_of_getElem? hti)
      have RP := Lib.hid (fun W => refPos t W hl6)
      have RH := Lib.hid (fun W => refPoly t W hl6)
      generalize (⟨t.toArray⟩ : ByteArray) = st at *
      generalize (t.length : Int) = q0 at *
      generalize (lns t : Int) = q1 at *
      generalize (col t : Int) = q2 at *
      generalize (hv t : Int) = q3 at *
      generalize (hs t.length : Int) = q4 at *
      have hs0 : Hid (∀ W, Below w2.heap.size w2 W → Below w2.heap.size w2 W ∧ (W.cell? ⟨gp, i * 3, none⟩ = some (.int .i64 q0) ∧ W.cell? ⟨gp, i * 3 + 1, none⟩ = some (.int .i64 q1) ∧ W.cell? ⟨gp, i * 3 + 2, none⟩ = some (.int .i64 q2)) ∧ (W.cell? ⟨gh, i * 2, none⟩ = some (.int .i64 q3) ∧ W.cell? ⟨gh, i * 2 + 1, none⟩ = some (.int .i64 q4)) ∧ W.cell? ⟨gt, off + i, none⟩ = some (.string st)) := Lib.hid fun W hW => ⟨hW, ⟨keep hW hgp p0, keep hW hgp p1, keep hW hgp p2⟩, ⟨keep hW hgh h0, keep hW hgh h1⟩, keep hW hgt t0⟩
      have HW := Lib.hid hW
      clear hW p0 p1 p2 h0 h1 t0 hti hl6
      go_upto_region 8 with fail
      go_region_held3 (fun W => Below w2.heap.size w2 W ∧ (W.cell? ⟨gp, i * 3, none⟩ = some (.int .i64 q0) ∧ W.cell? ⟨gp, i * 3 + 1, none⟩ = some (.int .i64 q1) ∧ W.cell? ⟨gp, i * 3 + 2, none⟩ = some (.int .i64 q2)) ∧ (W.cell? ⟨gh, i * 2, none⟩ = some (.int .i64 q3) ∧ W.cell? ⟨gh, i * 2 + 1, none⟩ = some (.int .i64 q4)) ∧ W.cell? ⟨gt, off + i, none⟩ = some (.string st))
        (first | exact hs0.out _ HW.out.drew | exact hs0.out _ (by assumption))
        (first | (go_at_call 16; refine (RP.out _).mono ?_; rintro e w3 ⟨rfl, hb⟩; have hb3 : Below w2.heap.size w2 w3 := bstep HW.out.drew hb) | (go_at_call 17; refine (RH.out _).mono ?_; rintro e w4 ⟨rfl, hb'⟩; have hb4 : Below w2.heap.size w2 w4 := bstep hb3 hb'))
      have HB4 := Lib.hid hb4
      clear hb4 hb3 hb hb'
      go_wp2_with fail
      go_roundw
      case rel => exact ⟨i + 1, by omega, rfl, HB4.out⟩
      case measure => simp [intOf]; omega
    · go_wp2_with fail
      go_ret
      exact ⟨rfl, bstep B2.out hW⟩

set_option maxRecDepth 100000 in
set_option maxHeartbeats 1000000 in
theorem ropeMeasures_big (a : Option Addr) (n cap : Nat) (w : World) (h : 80 < n) :
    Calls Try.prog 4 #[.slice a n cap] w fun e w' => e = .returned (.bool true) ∧ Below w.heap.size w w' := by
  have P := Lib.hid (measure_big n cap a w h)
  have Q := Lib.hid (played_big n cap a w h)
  go_enter Try.func4, Try.ntmps4
  go_wp2_with fail
  refine P.out.mono ?_
  rintro e w1 ⟨rfl, rfl⟩
  go_wp2_with fail
  refine Q.out.mono ?_
  rintro e w1 ⟨rfl, rfl⟩
  go_wp2_with fail
  go_loopw [9] (fun x wr => x = .int .i64 0 ∧ Below w.heap.size w wr) (fun _ _ => 0)
  case atStart => exact ⟨rfl, Below.refl _ _⟩
  case round =>
    obtain ⟨rfl, hW⟩ := hrel
    go_wp2_with fail
    go_ret
    exact ⟨rfl, hW⟩

theorem ropeMeasures (a : Option Addr) (cap : Nat) (l : List OpM) (w : World) (hl : OpsAt w a l) :
    Calls Try.prog 4 #[.slice a l.length cap] w fun e w' => e = .returned (.bool true) ∧ Below w.heap.size w w' := by
  by_cases h : l.length ≤ 80
  · exact ropeMeasures_ok a cap l w hl h
  · exact ropeMeasures_big a _ cap w (by omega)

end Go.Proofs.Yteahnhemcceebaa.RopeL
