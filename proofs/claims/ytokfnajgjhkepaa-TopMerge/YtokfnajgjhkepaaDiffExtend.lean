/-
  Package diff: extend (one more operation of a kind).
-/
import Derived.Test.YtokfnajgjhkepaaBnd3
import Derived.Test.YtokfnajgjhkepaaRefSteps
import Derived.BigQuiet
namespace Go.Proofs.Ytokfnajgjhkepaa.DiffP
open Go.RowKit Kit LineM StrM DiffM DiffA DiffR HistM

/-- steps of the call's own: made above w0 -/
def XtPost (w0 : World) (l : List (Nat × Nat)) (e : Ending) (w' : World) : Prop := ∃ v, e = .returned v ∧ RO 2 pc w0 l v w'
set_option maxRecDepth 100000 in
set_option maxHeartbeats 4000000 in
theorem extend_nil (w0 w : World) (k : Nat) (h : RO 2 pc w0 [] (.slice none 0 0) w) :
    Calls Try.prog 41 #[.slice none 0 0, .int .i64 (k : Int)] w (XtPost w0 (push [] k)) := by
  obtain ⟨j0, hj, hy0, hy1, hy2⟩ := info_parts infoStep
  have HJ := Lib.hid (And.intro hj (And.intro hy0 (And.intro hy1 hy2)))
  clear hj hy0 hy1 hy2
  have HR := Lib.hid h
  clear h
  have HNEW := Lib.hid (cells_two w (.int .i64 (k : Int)) (.int .i64 1) 76)
  have HRO4 : Hid (RO 2 pc w0 [] (.slice none 0 0) (w.alloc (.cells #[.int .i64 (k : Int), .int .i64 1] 76))) := Lib.hid (HR.out.next (balloc (Below.refl _ _) _))
  clear HR
  go_enter Try.func41, Try.ntmps41
  go_wp2_with (at_builtin; refine wpList_append_rx _ rfl _ _ 49 rfl 76 j0 _ 2 16 Try.underlying49 HJ.out.1 HJ.out.2.1 HJ.out.2.2.1 HJ.out.2.2.2 rfl (by decide) _ _ _ rfl HRO4.out.row ⟨w.heap.size, 0, none⟩ 1 [.int .i64 (k : Int), .int .i64 1] rfl rfl HNEW.out (by simp [Value.oneCell']) (by unfold maxLen; simp) (by simp) ?_; intro a4 cap4 w4 hown4 hgrow4 hat4; have HRN := Lib.hid (RO.push HRO4.out (o := (k, 1)) hown4 hgrow4 hat4); clear hown4 hgrow4 hat4)
  go_ret
  exact ⟨_, rfl, HRN.out⟩
set_option maxRecDepth 100000 in
set_option maxHeartbeats 4000000 in
theorem extend_more (w0 w : World) (l : List (Nat × Nat)) (k' c k : Nat) (v : Value) (h : RO 2 pc w0 (l ++ [(k', c)]) v w) (hl : l.length ≤ 400) (hc : c ≤ 400) :
    Calls Try.prog 41 #[v, .int .i64 (k : Int)] w (XtPost w0 (push (l ++ [(k', c)]) k)) := by
  obtain ⟨j0, hj, hy0, hy1, hy2⟩ := info_parts infoStep
  have HJ := Lib.hid (And.intro hj (And.intro hy0 (And.intro hy1 hy2)))
  clear hj hy0 hy1 hy2
  have HR := Lib.hid h
  clear h
  obtain ⟨p, hp⟩ : ∃ p, l.length = p := ⟨_, rfl⟩
  have hll1 : (l ++ [(k', c)]).length = p + 1 := by simp [hp]
  obtain ⟨go, oo, co, rfl, hgo, _, hcell⟩ := RO.at_ pc_len HR.out (i := p) (o := (k', c)) (by rw [← hp]; simp)
  obtain ⟨d0, _⟩ := hcell 0 (.int .i64 (k' : Int)) (by omega) rfl
  have d0' : w.cell? ⟨go, oo + p * 2, none⟩ = some (.int .i64 (k' : Int)) := d0
  obtain ⟨d1, d2⟩ := hcell 1 (.int .i64 (c : Int)) (by omega) rfl
  have r3 : IntKind.i64.wrap ((p : Int) + 1 - 1) = (p : Int) := by rw [show (p : Int) + 1 - 1 = (p : Int) by omega]; exact IntWalk.i64_in _ (by omega)
  have r3' : IntKind.i64.wrap (p : Int) = (p : Int) := IntWalk.i64_in _ (by omega)
  have r4 : IntKind.i64.wrap ((c : Int) + 1) = ((c + 1 : Nat) : Int) := by rw [show (c : Int) + 1 = ((c + 1 : Nat) : Int) by omega]; exact IntWalk.i64_in _ (by omega)
  have x0 : (0 : Int) ≤ (p : Int) := by omega
  have x1 : (p : Int) < (p : Int) + 1 := by omega
  have q0 : decide ((p : Int) ≥ 0) = true := decide_eq_true x0
  rw [push_snoc]
  dsimp only
  by_cases hkk : k' = k
  · subst hkk
    rw [if_pos rfl]
    have HRN : Hid (RO 2 pc w0 (l ++ [(k', c + 1)]) (.slice (some ⟨go, oo, none⟩) (p + 1) co) (w.setCell ⟨go, oo + p * 2 + 1, none⟩ (.int .i64 ((c + 1 : Nat) : Int)))) := Lib.hid (by
      have h := HR.out
      rw [hll1] at h
      have := RO.put pc_len h hll1.symm (i := p) (j := 1) (o := (k', c)) (o' := (k', c + 1)) (u := .int .i64 ((c + 1 : Nat) : Int)) (by rw [← hp]; simp) (by omega) rfl
      have e : (l ++ [(k', c)]).set p (k', c + 1) = l ++ [(k', c + 1)] := by rw [← hp]; simp
      rwa [e] at this)
    rw [hll1]
    clear HR hcell hll1
    go_enter Try.func41, Try.ntmps41
    go_wp2_with fail
    go_ret
    exact ⟨_, rfl, HRN.out⟩
  · rw [if_neg hkk]
    have q2 : decide ((k' : Int) = (k : Int)) = false := decide_eq_false (by omega)
    have q3 : ¬ (k' : Int) = (k : Int) := by omega
    rw [hll1] at HR ⊢
    have HNEW := Lib.hid (cells_two w (.int .i64 (k : Int)) (.int .i64 1) 76)
    have HRO4 : Hid (RO 2 pc w0 (l ++ [(k', c)]) (.slice (some ⟨go, oo, none⟩) (p + 1) co) (w.alloc (.cells #[.int .i64 (k : Int), .int .i64 1] 76))) := Lib.hid (HR.out.next (balloc (Below.refl _ _) _))
    have HROW := Lib.hid HRO4.out.row
    rw [hll1] at HROW
    have hL4 : (l ++ [(k', c)]).length ≤ 1000 := by omega
    clear HR hcell
    generalize (l ++ [(k', c)]) = L at *
    subst hp
    go_enter Try.func41, Try.ntmps41
    go_wp2_with (at_builtin; refine wpList_append_rx _ rfl _ _ 49 rfl 76 j0 _ 2 16 Try.underlying49 HJ.out.1 HJ.out.2.1 HJ.out.2.2.1 HJ.out.2.2.2 rfl (by decide) _ (l.length + 1) _ rfl HROW.out ⟨w.heap.size, 0, none⟩ 1 [.int .i64 (k : Int), .int .i64 1] rfl rfl HNEW.out (by simp [Value.oneCell']) (by unfold maxLen; omega) (by omega) ?_; intro a4 cap4 w4 hown4 hgrow4 hat4; have HRN := Lib.hid (RO.push HRO4.out (o := (k, 1)) (by rw [hll1]; exact hown4) hgrow4 hat4); clear hown4 hgrow4 hat4)
    go_ret
    exact ⟨_, rfl, HRN.out⟩
end Go.Proofs.Ytokfnajgjhkepaa.DiffP
