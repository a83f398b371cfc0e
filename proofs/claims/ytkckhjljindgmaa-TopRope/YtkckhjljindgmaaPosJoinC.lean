/-
  Package pos: what Join answers, in the code and in the document's answer.
-/
import Derived.Test.YtkckhjljindgmaaPosMayC
import Derived.Test.YtkckhjljindgmaaKit
namespace Go.Proofs.Ytkckhjljindgmaa.PosC
open Go.ChangeShapes Go.WideShapes Go.ChangeAt Go.RowKit PosM Kit

def colJ (ac bl bc : Int) : Int := if bl = 0 then bc + ac else bc
def okJ (ab al ac bb bl bc : Int) : Bool := mayB ab al ac && mayB bb bl bc && mayB (ab + bb) (al + bl) (colJ ac bl bc)
def joinV (ab al ac bb bl bc : Int) : Value :=
  if okJ ab al ac bb bl bc then .tuple #[.agg #[.int .i64 (ab + bb), .int .i64 (al + bl), .int .i64 (colJ ac bl bc)], .int .i64 0]
  else .tuple #[.agg #[.int .i64 0, .int .i64 0, .int .i64 0], .int .i64 4]

theorem mayB_bd {b l c : Int} (h : mayB b l c = true) : 0 ≤ b ∧ b ≤ 1099511627776 ∧ 0 ≤ l ∧ l ≤ 1099511627776 ∧ 0 ≤ c ∧ c ≤ 1099511627776 := by
  simp only [mayB, Bool.and_eq_true, fitsB_iff] at h
  omega
theorem mayB_zero {b c : Int} (h : mayB b 0 c = true) : c = b := by
  simp only [mayB, Bool.and_eq_true, if_true, beq_iff_eq] at h
  exact h.2
theorem not_true {b : Bool} (h : ¬ b = true) : b = false := by simpa using h
set_option maxHeartbeats 1000000 in
theorem join_ok0 (ab al ac bb bc : Int) (w : World) (h1 : mayB ab al ac = true) (h2 : mayB bb 0 bc = true) (h3 : mayB (ab + bb) al (bc + ac) = true) :
    Calls Try.prog 56 #[.agg #[.int .i64 ab, .int .i64 al, .int .i64 ac], .agg #[.int .i64 bb, .int .i64 0, .int .i64 bc]] w fun e w' => e = .returned (.tuple #[.agg #[.int .i64 (ab + bb), .int .i64 al, .int .i64 (bc + ac)], .int .i64 0]) ∧ Below w.heap.size w w' := by
  obtain ⟨p1, p2, p3, p4, p5, p6⟩ := mayB_bd h1
  obtain ⟨q1, q2, q3, q4, q5, q6⟩ := mayB_bd h2
  go_enter Try.func56, Try.ntmps56
  go_wp2_with (go_at_call 73; refine (may _ _ _ _).mono ?_; rintro e w' ⟨rfl, hb⟩; obtain ⟨hc, hf, _⟩ := bfacts hb; have zz := hb.size; (try simp at zz); have z2 : w.heap.size + 1 + 1 < w'.heap.size := (by omega); have z1 : w.heap.size + 1 < w'.heap.size := (by omega); have z0 : w.heap.size < w'.heap.size := (by omega); clear zz)
  refine bodyPost_ret (v := .tuple #[.agg #[.int .i64 (ab + bb), .int .i64 al, .int .i64 (bc + ac)], .int .i64 0]) (by simp [results, Try.results56, go_sem, *]) rfl ⟨rfl, ?_⟩
  repeat (first | exact Below.refl _ _ | refine balloc ?_ _ | refine Below.setCell ?_ (by simp; omega) _ | refine bstep ?_ (by assumption) | refine Below.drew ?_)
set_option maxHeartbeats 1000000 in
theorem join_no0 (ab al ac bb bc : Int) (w : World) (h1 : mayB ab al ac = true) (h2 : mayB bb 0 bc = true) (h3 : mayB (ab + bb) al (bc + ac) = false) :
    Calls Try.prog 56 #[.agg #[.int .i64 ab, .int .i64 al, .int .i64 ac], .agg #[.int .i64 bb, .int .i64 0, .int .i64 bc]] w fun e w' => e = .returned (.tuple #[.agg #[.int .i64 0, .int .i64 0, .int .i64 0], .int .i64 4]) ∧ Below w.heap.size w w' := by
  obtain ⟨p1, p2, p3, p4, p5, p6⟩ := mayB_bd h1
  obtain ⟨q1, q2, q3, q4, q5, q6⟩ := mayB_bd h2
  go_enter Try.func56, Try.ntmps56
  go_wp2_with (go_at_call 73; refine (may _ _ _ _).mono ?_; rintro e w' ⟨rfl, hb⟩; obtain ⟨hc, hf, _⟩ := bfacts hb; have zz := hb.size; (try simp at zz); have z2 : w.heap.size + 1 + 1 < w'.heap.size := (by omega); have z1 : w.heap.size + 1 < w'.heap.size := (by omega); have z0 : w.heap.size < w'.heap.size := (by omega); clear zz)
  refine bodyPost_ret (v := .tuple #[.agg #[.int .i64 0, .int .i64 0, .int .i64 0], .int .i64 4]) (by simp [results, Try.results56, go_sem, *]) rfl ⟨rfl, ?_⟩
  repeat (first | exact Below.refl _ _ | refine balloc ?_ _ | refine Below.setCell ?_ (by simp; omega) _ | refine bstep ?_ (by assumption) | refine Below.drew ?_)
set_option maxHeartbeats 1000000 in
theorem join_okN (ab al ac bb bl bc : Int) (w : World) (hn : (bl == 0) = false) (h1 : mayB ab al ac = true) (h2 : mayB bb bl bc = true) (h3 : mayB (ab + bb) (al + bl) bc = true) :
    Calls Try.prog 56 #[.agg #[.int .i64 ab, .int .i64 al, .int .i64 ac], .agg #[.int .i64 bb, .int .i64 bl, .int .i64 bc]] w fun e w' => e = .returned (.tuple #[.agg #[.int .i64 (ab + bb), .int .i64 (al + bl), .int .i64 bc], .int .i64 0]) ∧ Below w.heap.size w w' := by
  obtain ⟨p1, p2, p3, p4, p5, p6⟩ := mayB_bd h1
  obtain ⟨q1, q2, q3, q4, q5, q6⟩ := mayB_bd h2
  go_enter Try.func56, Try.ntmps56
  go_wp2_with (go_at_call 73; refine (may _ _ _ _).mono ?_; rintro e w' ⟨rfl, hb⟩; obtain ⟨hc, hf, _⟩ := bfacts hb; have zz := hb.size; (try simp at zz); have z2 : w.heap.size + 1 + 1 < w'.heap.size := (by omega); have z1 : w.heap.size + 1 < w'.heap.size := (by omega); have z0 : w.heap.size < w'.heap.size := (by omega); clear zz)
  refine bodyPost_ret (v := .tuple #[.agg #[.int .i64 (ab + bb), .int .i64 (al + bl), .int .i64 bc], .int .i64 0]) (by simp [results, Try.results56, go_sem, *]) rfl ⟨rfl, ?_⟩
  repeat (first | exact Below.refl _ _ | refine balloc ?_ _ | refine Below.setCell ?_ (by simp; omega) _ | refine bstep ?_ (by assumption) | refine Below.drew ?_)
set_option maxHeartbeats 1000000 in
theorem join_noN (ab al ac bb bl bc : Int) (w : World) (hn : (bl == 0) = false) (h1 : mayB ab al ac = true) (h2 : mayB bb bl bc = true) (h3 : mayB (ab + bb) (al + bl) bc = false) :
    Calls Try.prog 56 #[.agg #[.int .i64 ab, .int .i64 al, .int .i64 ac], .agg #[.int .i64 bb, .int .i64 bl, .int .i64 bc]] w fun e w' => e = .returned (.tuple #[.agg #[.int .i64 0, .int .i64 0, .int .i64 0], .int .i64 4]) ∧ Below w.heap.size w w' := by
  obtain ⟨p1, p2, p3, p4, p5, p6⟩ := mayB_bd h1
  obtain ⟨q1, q2, q3, q4, q5, q6⟩ := mayB_bd h2
  go_enter Try.func56, Try.ntmps56
  go_wp2_with (go_at_call 73; refine (may _ _ _ _).mono ?_; rintro e w' ⟨rfl, hb⟩; obtain ⟨hc, hf, _⟩ := bfacts hb; have zz := hb.size; (try simp at zz); have z2 : w.heap.size + 1 + 1 < w'.heap.size := (by omega); have z1 : w.heap.size + 1 < w'.heap.size := (by omega); have z0 : w.heap.size < w'.heap.size := (by omega); clear zz)
  refine bodyPost_ret (v := .tuple #[.agg #[.int .i64 0, .int .i64 0, .int .i64 0], .int .i64 4]) (by simp [results, Try.results56, go_sem, *]) rfl ⟨rfl, ?_⟩
  repeat (first | exact Below.refl _ _ | refine balloc ?_ _ | refine Below.setCell ?_ (by simp; omega) _ | refine bstep ?_ (by assumption) | refine Below.drew ?_)
set_option maxHeartbeats 1000000 in
theorem join_noA (ab al ac bb bl bc : Int) (w : World) (h1 : mayB ab al ac = false) :
    Calls Try.prog 56 #[.agg #[.int .i64 ab, .int .i64 al, .int .i64 ac], .agg #[.int .i64 bb, .int .i64 bl, .int .i64 bc]] w fun e w' => e = .returned (.tuple #[.agg #[.int .i64 0, .int .i64 0, .int .i64 0], .int .i64 4]) ∧ Below w.heap.size w w' := by
  go_enter Try.func56, Try.ntmps56
  go_wp2_with (go_at_call 73; refine (may _ _ _ _).mono ?_; rintro e w' ⟨rfl, hb⟩; obtain ⟨hc, hf, _⟩ := bfacts hb; have zz := hb.size; (try simp at zz); have z2 : w.heap.size + 1 + 1 < w'.heap.size := (by omega); have z1 : w.heap.size + 1 < w'.heap.size := (by omega); have z0 : w.heap.size < w'.heap.size := (by omega); clear zz)
  refine bodyPost_ret (v := .tuple #[.agg #[.int .i64 0, .int .i64 0, .int .i64 0], .int .i64 4]) (by simp [results, Try.results56, go_sem, *]) rfl ⟨rfl, ?_⟩
  repeat (first | exact Below.refl _ _ | refine balloc ?_ _ | refine Below.setCell ?_ (by simp; omega) _ | refine bstep ?_ (by assumption) | refine Below.drew ?_)
set_option maxHeartbeats 1000000 in
theorem join_noB (ab al ac bb bl bc : Int) (w : World) (h1 : mayB ab al ac = true) (h2 : mayB bb bl bc = false) :
    Calls Try.prog 56 #[.agg #[.int .i64 ab, .int .i64 al, .int .i64 ac], .agg #[.int .i64 bb, .int .i64 bl, .int .i64 bc]] w fun e w' => e = .returned (.tuple #[.agg #[.int .i64 0, .int .i64 0, .int .i64 0], .int .i64 4]) ∧ Below w.heap.size w w' := by
  go_enter Try.func56, Try.ntmps56
  go_wp2_with (go_at_call 73; refine (may _ _ _ _).mono ?_; rintro e w' ⟨rfl, hb⟩; obtain ⟨hc, hf, _⟩ := bfacts hb; have zz := hb.size; (try simp at zz); have z2 : w.heap.size + 1 + 1 < w'.heap.size := (by omega); have z1 : w.heap.size + 1 < w'.heap.size := (by omega); have z0 : w.heap.size < w'.heap.size := (by omega); clear zz)
  refine bodyPost_ret (v := .tuple #[.agg #[.int .i64 0, .int .i64 0, .int .i64 0], .int .i64 4]) (by simp [results, Try.results56, go_sem, *]) rfl ⟨rfl, ?_⟩
  repeat (first | exact Below.refl _ _ | refine balloc ?_ _ | refine Below.setCell ?_ (by simp; omega) _ | refine bstep ?_ (by assumption) | refine Below.drew ?_)
set_option maxHeartbeats 1000000 in
theorem join (ab al ac bb bl bc : Int) (w : World)  :
    Calls Try.prog 56 #[.agg #[.int .i64 ab, .int .i64 al, .int .i64 ac], .agg #[.int .i64 bb, .int .i64 bl, .int .i64 bc]] w fun e w' => e = .returned (joinV ab al ac bb bl bc) ∧ Below w.heap.size w w' := by
  by_cases h1 : mayB ab al ac = true
  · by_cases h2 : mayB bb bl bc = true
    · by_cases h0 : bl = 0
      · subst h0
        have e1 : joinV ab al ac bb 0 bc = (if mayB (ab + bb) al (bc + ac) then .tuple #[.agg #[.int .i64 (ab + bb), .int .i64 al, .int .i64 (bc + ac)], .int .i64 0] else .tuple #[.agg #[.int .i64 0, .int .i64 0, .int .i64 0], .int .i64 4]) := by
          simp only [joinV, okJ, h1, h2, colJ, if_true, Bool.true_and, Int.add_zero]
        rw [e1]
        by_cases h3 : mayB (ab + bb) al (bc + ac) = true
        · rw [if_pos h3]; exact join_ok0 ab al ac bb bc w h1 h2 h3
        · rw [if_neg h3]; exact join_no0 ab al ac bb bc w h1 h2 (not_true h3)
      · have hn : (bl == 0) = false := by simpa using h0
        have e1 : joinV ab al ac bb bl bc = (if mayB (ab + bb) (al + bl) bc then .tuple #[.agg #[.int .i64 (ab + bb), .int .i64 (al + bl), .int .i64 bc], .int .i64 0] else .tuple #[.agg #[.int .i64 0, .int .i64 0, .int .i64 0], .int .i64 4]) := by
          simp only [joinV, okJ, h1, h2, colJ, h0, if_false, Bool.true_and]
        rw [e1]
        by_cases h3 : mayB (ab + bb) (al + bl) bc = true
        · rw [if_pos h3]; exact join_okN ab al ac bb bl bc w hn h1 h2 h3
        · rw [if_neg h3]; exact join_noN ab al ac bb bl bc w hn h1 h2 (not_true h3)
    · have h2 := not_true h2
      have e1 : joinV ab al ac bb bl bc = .tuple #[.agg #[.int .i64 0, .int .i64 0, .int .i64 0], .int .i64 4] := by simp [joinV, okJ, h2]
      rw [e1]; exact join_noB ab al ac bb bl bc w h1 h2
  · have h1 := not_true h1
    have e1 : joinV ab al ac bb bl bc = .tuple #[.agg #[.int .i64 0, .int .i64 0, .int .i64 0], .int .i64 4] := by simp [joinV, okJ, h1]
    rw [e1]; exact join_noA ab al ac bb bl bc w h1

theorem join_ok {ab al ac bb bl bc : Int} {w : World} (h : okJ ab al ac bb bl bc = true) :
    Calls Try.prog 56 #[.agg #[.int .i64 ab, .int .i64 al, .int .i64 ac], .agg #[.int .i64 bb, .int .i64 bl, .int .i64 bc]] w fun e w' => e = .returned (.tuple #[.agg #[.int .i64 (ab + bb), .int .i64 (al + bl), .int .i64 (colJ ac bl bc)], .int .i64 0]) ∧ Below w.heap.size w w' := by
  have := join ab al ac bb bl bc w
  rw [joinV, if_pos h] at this
  exact this
theorem join_no {ab al ac bb bl bc : Int} {w : World} (h : okJ ab al ac bb bl bc = false) :
    Calls Try.prog 56 #[.agg #[.int .i64 ab, .int .i64 al, .int .i64 ac], .agg #[.int .i64 bb, .int .i64 bl, .int .i64 bc]] w fun e w' => e = .returned (.tuple #[.agg #[.int .i64 0, .int .i64 0, .int .i64 0], .int .i64 4]) ∧ Below w.heap.size w w' := by
  have := join ab al ac bb bl bc w
  rw [joinV, if_neg (by simp [h])] at this
  exact this
end Go.Proofs.Ytkckhjljindgmaa.PosC
