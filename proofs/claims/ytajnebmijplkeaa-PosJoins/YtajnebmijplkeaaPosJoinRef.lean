/-
  Package pos: the document's Join, and the law that both answer alike.
-/
import Derived.Test.YtajnebmijplkeaaPosJoin
namespace Go.Proofs.Ytajnebmijplkeaa.PosC
open Go.ChangeShapes Go.WideShapes Go.ChangeAt Go.RowKit PosM Kit
set_option maxHeartbeats 1000000 in
theorem refJoin_ok0 (ab al ac bb bc : Int) (w : World) (h1 : mayB ab al ac = true) (h2 : mayB bb 0 bc = true) (h3 : mayB (bb + ab) al (ac + bb) = true) :
    Calls Try.prog 16 #[.agg #[.int .i64 ab, .int .i64 al, .int .i64 ac], .agg #[.int .i64 bb, .int .i64 0, .int .i64 bc]] w fun e w' => e = .returned (.tuple #[.agg #[.int .i64 (bb + ab), .int .i64 al, .int .i64 (ac + bb)], .int .i64 0]) ∧ Below w.heap.size w w' := by
  obtain ⟨p1, p2, p3, p4, p5, p6⟩ := mayB_bd h1
  obtain ⟨q1, q2, q3, q4, q5, q6⟩ := mayB_bd h2
  go_enter Try.func16, Try.ntmps16
  go_wp2_with (go_at_call 14; refine (refMay _ _ _ _).mono ?_; rintro e w' ⟨rfl, hb⟩; obtain ⟨hc, hf, _⟩ := bfacts hb; have zz := hb.size; (try simp at zz); have z2 : w.heap.size + 1 + 1 < w'.heap.size := (by omega); have z1 : w.heap.size + 1 < w'.heap.size := (by omega); have z0 : w.heap.size < w'.heap.size := (by omega); clear zz)
  refine bodyPost_ret (v := .tuple #[.agg #[.int .i64 (bb + ab), .int .i64 al, .int .i64 (ac + bb)], .int .i64 0]) (by simp [results, Try.results16, go_sem, *]) rfl ⟨rfl, ?_⟩
  repeat (first | exact Below.refl _ _ | refine balloc ?_ _ | refine Below.setCell ?_ (by simp; omega) _ | refine bstep ?_ (by assumption) | refine Below.drew ?_)
set_option maxHeartbeats 1000000 in
theorem refJoin_no0 (ab al ac bb bc : Int) (w : World) (h1 : mayB ab al ac = true) (h2 : mayB bb 0 bc = true) (h3 : mayB (bb + ab) al (ac + bb) = false) :
    Calls Try.prog 16 #[.agg #[.int .i64 ab, .int .i64 al, .int .i64 ac], .agg #[.int .i64 bb, .int .i64 0, .int .i64 bc]] w fun e w' => e = .returned (.tuple #[.agg #[.int .i64 0, .int .i64 0, .int .i64 0], .int .i64 4]) ∧ Below w.heap.size w w' := by
  obtain ⟨p1, p2, p3, p4, p5, p6⟩ := mayB_bd h1
  obtain ⟨q1, q2, q3, q4, q5, q6⟩ := mayB_bd h2
  go_enter Try.func16, Try.ntmps16
  go_wp2_with (go_at_call 14; refine (refMay _ _ _ _).mono ?_; rintro e w' ⟨rfl, hb⟩; obtain ⟨hc, hf, _⟩ := bfacts hb; have zz := hb.size; (try simp at zz); have z2 : w.heap.size + 1 + 1 < w'.heap.size := (by omega); have z1 : w.heap.size + 1 < w'.heap.size := (by omega); have z0 : w.heap.size < w'.heap.size := (by omega); clear zz)
  refine bodyPost_ret (v := .tuple #[.agg #[.int .i64 0, .int .i64 0, .int .i64 0], .int .i64 4]) (by simp [results, Try.results16, go_sem, *]) rfl ⟨rfl, ?_⟩
  repeat (first | exact Below.refl _ _ | refine balloc ?_ _ | refine Below.setCell ?_ (by simp; omega) _ | refine bstep ?_ (by assumption) | refine Below.drew ?_)
set_option maxHeartbeats 1000000 in
theorem refJoin_okN (ab al ac bb bl bc : Int) (w : World) (hn : (bl == 0) = false) (h1 : mayB ab al ac = true) (h2 : mayB bb bl bc = true) (h3 : mayB (bb + ab) (bl + al) bc = true) :
    Calls Try.prog 16 #[.agg #[.int .i64 ab, .int .i64 al, .int .i64 ac], .agg #[.int .i64 bb, .int .i64 bl, .int .i64 bc]] w fun e w' => e = .returned (.tuple #[.agg #[.int .i64 (bb + ab), .int .i64 (bl + al), .int .i64 bc], .int .i64 0]) ∧ Below w.heap.size w w' := by
  obtain ⟨p1, p2, p3, p4, p5, p6⟩ := mayB_bd h1
  obtain ⟨q1, q2, q3, q4, q5, q6⟩ := mayB_bd h2
  go_enter Try.func16, Try.ntmps16
  go_wp2_with (go_at_call 14; refine (refMay _ _ _ _).mono ?_; rintro e w' ⟨rfl, hb⟩; obtain ⟨hc, hf, _⟩ := bfacts hb; have zz := hb.size; (try simp at zz); have z2 : w.heap.size + 1 + 1 < w'.heap.size := (by omega); have z1 : w.heap.size + 1 < w'.heap.size := (by omega); have z0 : w.heap.size < w'.heap.size := (by omega); clear zz)
  refine bodyPost_ret (v := .tuple #[.agg #[.int .i64 (bb + ab), .int .i64 (bl + al), .int .i64 bc], .int .i64 0]) (by simp [results, Try.results16, go_sem, *]) rfl ⟨rfl, ?_⟩
  repeat (first | exact Below.refl _ _ | refine balloc ?_ _ | refine Below.setCell ?_ (by simp; omega) _ | refine bstep ?_ (by assumption) | refine Below.drew ?_)
set_option maxHeartbeats 1000000 in
theorem refJoin_noN (ab al ac bb bl bc : Int) (w : World) (hn : (bl == 0) = false) (h1 : mayB ab al ac = true) (h2 : mayB bb bl bc = true) (h3 : mayB (bb + ab) (bl + al) bc = false) :
    Calls Try.prog 16 #[.agg #[.int .i64 ab, .int .i64 al, .int .i64 ac], .agg #[.int .i64 bb, .int .i64 bl, .int .i64 bc]] w fun e w' => e = .returned (.tuple #[.agg #[.int .i64 0, .int .i64 0, .int .i64 0], .int .i64 4]) ∧ Below w.heap.size w w' := by
  obtain ⟨p1, p2, p3, p4, p5, p6⟩ := mayB_bd h1
  obtain ⟨q1, q2, q3, q4, q5, q6⟩ := mayB_bd h2
  go_enter Try.func16, Try.ntmps16
  go_wp2_with (go_at_call 14; refine (refMay _ _ _ _).mono ?_; rintro e w' ⟨rfl, hb⟩; obtain ⟨hc, hf, _⟩ := bfacts hb; have zz := hb.size; (try simp at zz); have z2 : w.heap.size + 1 + 1 < w'.heap.size := (by omega); have z1 : w.heap.size + 1 < w'.heap.size := (by omega); have z0 : w.heap.size < w'.heap.size := (by omega); clear zz)
  refine bodyPost_ret (v := .tuple #[.agg #[.int .i64 0, .int .i64 0, .int .i64 0], .int .i64 4]) (by simp [results, Try.results16, go_sem, *]) rfl ⟨rfl, ?_⟩
  repeat (first | exact Below.refl _ _ | refine balloc ?_ _ | refine Below.setCell ?_ (by simp; omega) _ | refine bstep ?_ (by assumption) | refine Below.drew ?_)
set_option maxHeartbeats 1000000 in
theorem refJoin_noA (ab al ac bb bl bc : Int) (w : World) (h1 : mayB ab al ac = false) :
    Calls Try.prog 16 #[.agg #[.int .i64 ab, .int .i64 al, .int .i64 ac], .agg #[.int .i64 bb, .int .i64 bl, .int .i64 bc]] w fun e w' => e = .returned (.tuple #[.agg #[.int .i64 0, .int .i64 0, .int .i64 0], .int .i64 4]) ∧ Below w.heap.size w w' := by
  go_enter Try.func16, Try.ntmps16
  go_wp2_with (go_at_call 14; refine (refMay _ _ _ _).mono ?_; rintro e w' ⟨rfl, hb⟩; obtain ⟨hc, hf, _⟩ := bfacts hb; have zz := hb.size; (try simp at zz); have z2 : w.heap.size + 1 + 1 < w'.heap.size := (by omega); have z1 : w.heap.size + 1 < w'.heap.size := (by omega); have z0 : w.heap.size < w'.heap.size := (by omega); clear zz)
  refine bodyPost_ret (v := .tuple #[.agg #[.int .i64 0, .int .i64 0, .int .i64 0], .int .i64 4]) (by simp [results, Try.results16, go_sem, *]) rfl ⟨rfl, ?_⟩
  repeat (first | exact Below.refl _ _ | refine balloc ?_ _ | refine Below.setCell ?_ (by simp; omega) _ | refine bstep ?_ (by assumption) | refine Below.drew ?_)
set_option maxHeartbeats 1000000 in
theorem refJoin_noB (ab al ac bb bl bc : Int) (w : World) (h1 : mayB ab al ac = true) (h2 : mayB bb bl bc = false) :
    Calls Try.prog 16 #[.agg #[.int .i64 ab, .int .i64 al, .int .i64 ac], .agg #[.int .i64 bb, .int .i64 bl, .int .i64 bc]] w fun e w' => e = .returned (.tuple #[.agg #[.int .i64 0, .int .i64 0, .int .i64 0], .int .i64 4]) ∧ Below w.heap.size w w' := by
  go_enter Try.func16, Try.ntmps16
  go_wp2_with (go_at_call 14; refine (refMay _ _ _ _).mono ?_; rintro e w' ⟨rfl, hb⟩; obtain ⟨hc, hf, _⟩ := bfacts hb; have zz := hb.size; (try simp at zz); have z2 : w.heap.size + 1 + 1 < w'.heap.size := (by omega); have z1 : w.heap.size + 1 < w'.heap.size := (by omega); have z0 : w.heap.size < w'.heap.size := (by omega); clear zz)
  refine bodyPost_ret (v := .tuple #[.agg #[.int .i64 0, .int .i64 0, .int .i64 0], .int .i64 4]) (by simp [results, Try.results16, go_sem, *]) rfl ⟨rfl, ?_⟩
  repeat (first | exact Below.refl _ _ | refine balloc ?_ _ | refine Below.setCell ?_ (by simp; omega) _ | refine bstep ?_ (by assumption) | refine Below.drew ?_)
set_option maxHeartbeats 1000000 in
theorem refJoin (ab al ac bb bl bc : Int) (w : World)  :
    Calls Try.prog 16 #[.agg #[.int .i64 ab, .int .i64 al, .int .i64 ac], .agg #[.int .i64 bb, .int .i64 bl, .int .i64 bc]] w fun e w' => e = .returned (joinV ab al ac bb bl bc) ∧ Below w.heap.size w w' := by
  by_cases h1 : mayB ab al ac = true
  · by_cases h2 : mayB bb bl bc = true
    · by_cases h0 : bl = 0
      · subst h0
        have e := mayB_zero h2
        subst e
        have e1 : joinV ab al ac bc 0 bc = (if mayB (bc + ab) al (ac + bc) then .tuple #[.agg #[.int .i64 (bc + ab), .int .i64 al, .int .i64 (ac + bc)], .int .i64 0] else .tuple #[.agg #[.int .i64 0, .int .i64 0, .int .i64 0], .int .i64 4]) := by
          simp only [joinV, okJ, h1, h2, colJ, if_true, Bool.true_and, Int.add_zero, Int.add_comm ab bc, Int.add_comm ac bc]
        rw [e1]
        by_cases h3 : mayB (bc + ab) al (ac + bc) = true
        · rw [if_pos h3]; exact refJoin_ok0 ab al ac bc bc w h1 h2 h3
        · rw [if_neg h3]; exact refJoin_no0 ab al ac bc bc w h1 h2 (not_true h3)
      · have hn : (bl == 0) = false := by simpa using h0
        have e1 : joinV ab al ac bb bl bc = (if mayB (bb + ab) (bl + al) bc then .tuple #[.agg #[.int .i64 (bb + ab), .int .i64 (bl + al), .int .i64 bc], .int .i64 0] else .tuple #[.agg #[.int .i64 0, .int .i64 0, .int .i64 0], .int .i64 4]) := by
          simp only [joinV, okJ, h1, h2, colJ, h0, if_false, Bool.true_and, Int.add_comm ab bb, Int.add_comm al bl]
        rw [e1]
        by_cases h3 : mayB (bb + ab) (bl + al) bc = true
        · rw [if_pos h3]; exact refJoin_okN ab al ac bb bl bc w hn h1 h2 h3
        · rw [if_neg h3]; exact refJoin_noN ab al ac bb bl bc w hn h1 h2 (not_true h3)
    · have h2 := not_true h2
      have e1 : joinV ab al ac bb bl bc = .tuple #[.agg #[.int .i64 0, .int .i64 0, .int .i64 0], .int .i64 4] := by simp [joinV, okJ, h2]
      rw [e1]; exact refJoin_noB ab al ac bb bl bc w h1 h2
  · have h1 := not_true h1
    have e1 : joinV ab al ac bb bl bc = .tuple #[.agg #[.int .i64 0, .int .i64 0, .int .i64 0], .int .i64 4] := by simp [joinV, okJ, h1]
    rw [e1]; exact refJoin_noA ab al ac bb bl bc w h1

set_option maxHeartbeats 1000000 in
theorem posJoins (ab al ac bb bl bc : Int) (w : World) : Calls Try.prog 5 #[.agg #[.int .i64 ab, .int .i64 al, .int .i64 ac], .agg #[.int .i64 bb, .int .i64 bl, .int .i64 bc]] w fun e w' => e = .returned (.bool true) ∧ Below w.heap.size w w' := by
  by_cases h : okJ ab al ac bb bl bc = true
  · have hr : ∀ W, Calls Try.prog 16 #[.agg #[.int .i64 ab, .int .i64 al, .int .i64 ac], .agg #[.int .i64 bb, .int .i64 bl, .int .i64 bc]] W fun e w' => e = .returned (.tuple #[.agg #[.int .i64 (ab + bb), .int .i64 (al + bl), .int .i64 (colJ ac bl bc)], .int .i64 0]) ∧ Below W.heap.size W w' := by
      intro W
      have := refJoin ab al ac bb bl bc W
      rw [joinV, if_pos h] at this
      exact this
    have HR := Lib.hid hr
    have HH := Lib.hid h
    clear hr h
    go_enter Try.func5, Try.ntmps5
    go_wp2_with fail
    refine (join_ok HH.out).mono ?_
    rintro e w' ⟨rfl, hb⟩; obtain ⟨hc, hf, _⟩ := bfacts hb; have zz := hb.size; simp at zz
    have z1 : w.heap.size + 1 < w'.heap.size := by omega
    have z0 : w.heap.size < w'.heap.size := by omega
    clear zz
    go_wp2_with fail
    refine (HR.out _).mono ?_
    rintro e w2 ⟨rfl, hb2⟩; obtain ⟨hc2, hf2, _⟩ := bfacts hb2; have zz := hb2.size; simp at zz
    have z3 : w'.heap.size < w2.heap.size := by omega
    go_wp2_with fail
    go_ret
    refine ⟨rfl, ?_⟩
    repeat (first | exact Below.refl _ _ | refine balloc ?_ _ | refine Below.setCell ?_ (by simp; omega) _ | refine bstep ?_ (by assumption) | refine Below.drew ?_)
  · have h := not_true h
    have hr : ∀ W, Calls Try.prog 16 #[.agg #[.int .i64 ab, .int .i64 al, .int .i64 ac], .agg #[.int .i64 bb, .int .i64 bl, .int .i64 bc]] W fun e w' => e = .returned (.tuple #[.agg #[.int .i64 0, .int .i64 0, .int .i64 0], .int .i64 4]) ∧ Below W.heap.size W w' := by
      intro W
      have := refJoin ab al ac bb bl bc W
      rw [joinV, if_neg (by simp [h])] at this
      exact this
    have HR := Lib.hid hr
    have HH := Lib.hid h
    clear hr h
    go_enter Try.func5, Try.ntmps5
    go_wp2_with fail
    refine (join_no HH.out).mono ?_
    rintro e w' ⟨rfl, hb⟩; obtain ⟨hc, hf, _⟩ := bfacts hb; have zz := hb.size; simp at zz
    have z1 : w.heap.size + 1 < w'.heap.size := by omega
    have z0 : w.heap.size < w'.heap.size := by omega
    clear zz
    go_wp2_with fail
    refine (HR.out _).mono ?_
    rintro e w2 ⟨rfl, hb2⟩; obtain ⟨hc2, hf2, _⟩ := bfacts hb2; have zz := hb2.size; simp at zz
    have z3 : w'.heap.size < w2.heap.size := by omega
    go_wp2_with fail
    go_ret
    refine ⟨rfl, ?_⟩
    repeat (first | exact Below.refl _ _ | refine balloc ?_ _ | refine Below.setCell ?_ (by simp; omega) _ | refine bstep ?_ (by assumption) | refine Below.drew ?_)

end Go.Proofs.Ytajnebmijplkeaa.PosC
