/-
  What one round of the merging does, and that there is a first region: plain data. No function is named.
-/
import Derived.Test.YtokfnajgjhkepaaMergeRd
import Derived.Test.YtokfnajgjhkepaaMergeBound
namespace Go.Proofs.Ytokfnajgjhkepaa.MergeT
open Go.RowKit Kit LineM StrM DiffM DiffA DiffR DiffP DiffK HistM

theorem fst_ex {rs : Nat → List HV} (h : rs 0 ≠ [] ∨ rs 1 ≠ []) : ∃ i, Fst (hks rs) i := by
  have hk : ∀ j x r, hks rs j = x :: r → ∃ y q, rs j = y :: q ∧ y.1 = x := fun j x r hr => by
    unfold hks at hr
    cases hj : rs j with
    | nil => rw [hj] at hr; cases hr
    | cons y q => rw [hj] at hr; simp at hr; exact ⟨y, q, rfl, hr.1⟩
  have two : ∀ j, j < 2 → j = 0 ∨ j = 1 := fun j hj => by omega
  cases h0 : rs 0 with
  | nil =>
    cases h1 : rs 1 with
    | nil => rw [h0, h1] at h; simp at h
    | cons y q =>
      refine ⟨y.1.b, ⟨1, y.1, q.map Prod.fst, by omega, by unfold hks; rw [h1]; rfl, rfl⟩, fun j x r hj hr => ?_⟩
      obtain ⟨z, t, hz, hzx⟩ := hk j x r hr
      rcases two j hj with rfl | rfl
      · rw [h0] at hz; cases hz
      · rw [h1] at hz; cases hz; rw [hzx]; exact Nat.le_refl _
  | cons y q =>
    cases h1 : rs 1 with
    | nil =>
      refine ⟨y.1.b, ⟨0, y.1, q.map Prod.fst, by omega, by unfold hks; rw [h0]; rfl, rfl⟩, fun j x r hj hr => ?_⟩
      obtain ⟨z, t, hz, hzx⟩ := hk j x r hr
      rcases two j hj with rfl | rfl
      · rw [h0] at hz; cases hz; rw [hzx]; exact Nat.le_refl _
      · rw [h1] at hz; cases hz
    | cons y' q' =>
      by_cases hle : y.1.b ≤ y'.1.b
      · refine ⟨y.1.b, ⟨0, y.1, q.map Prod.fst, by omega, by unfold hks; rw [h0]; rfl, rfl⟩, fun j x r hj hr => ?_⟩
        obtain ⟨z, t, hz, hzx⟩ := hk j x r hr
        rcases two j hj with rfl | rfl
        · rw [h0] at hz; cases hz; rw [hzx]; exact Nat.le_refl _
        · rw [h1] at hz; cases hz; rw [← hzx]; exact hle
      · refine ⟨y'.1.b, ⟨1, y'.1, q'.map Prod.fst, by omega, by unfold hks; rw [h1]; rfl, rfl⟩, fun j x r hj hr => ?_⟩
        obtain ⟨z, t, hz, hzx⟩ := hk j x r hr
        rcases two j hj with rfl | rfl
        · rw [h0] at hz; cases hz; rw [← hzx]; omega
        · rw [h1] at hz; cases hz; rw [hzx]; exact Nat.le_refl _
/-- what one round is given and what it leaves -/
structure RdM (la lb lc : List ByteArray) (R : List ByteArray × Nat) (M : List (Hk ByteArray)) (cl i e : Nat) (ts rs' : Nat → List HV) (RG : List ByteArray × Nat) : Prop where
  mq : MQ mk1 mk2 mk3 la (marks la lb) (marks la lc) R (e + 1) (M ++ [⟨i, e, RG.1⟩]) (cl + RG.2) (hks rs')
  chn : ∀ j, j < 2 → Chn e i ((ts j).map Prod.fst)
  en : e ≤ la.length
  len : ∀ j, j < 2 → (repl la i e ((ts j).map Prod.fst)).length ≤ 1000
  q1 : ts 0 = [] → RG = (repl la i e ((ts 1).map Prod.fst), 0)
  q2 : ts 0 ≠ [] → ts 1 = [] ∨ repl la i e ((ts 0).map Prod.fst) = repl la i e ((ts 1).map Prod.fst) → RG = (repl la i e ((ts 0).map Prod.fst), 0)
  q3 : ts 0 ≠ [] → ts 1 ≠ [] → repl la i e ((ts 0).map Prod.fst) ≠ repl la i e ((ts 1).map Prod.fst) → RG = (mk1 :: repl la i e ((ts 0).map Prod.fst) ++ mk2 :: repl la i e ((ts 1).map Prod.fst) ++ [mk3], 1)
  one : RG.2 ≤ 1
  some_ : ts 0 ≠ [] ∨ ts 1 ≠ []
theorem map_nil {l : List HV} : l.map Prod.fst = [] ↔ l = [] := by simp
theorem round_math {la lb lc : List ByteArray} {R : List ByteArray × Nat} {M : List (Hk ByteArray)} {c cl i e : Nat} {ts rs rs' : Nat → List HV} (hlb : lb.length ≤ 80) (hlc : lc.length ≤ 80) (hq : MQ mk1 mk2 mk3 la (marks la lb) (marks la lc) R c M cl (hks rs)) (hf : Fst (hks rs) i) (hw : Grw i (hks rs) e (hks ts) (hks rs')) (hs : ∀ j h r, j < 2 → rs' j = h :: r → e < h.1.b) (hsp : ∀ j, j < 2 → rs j = ts j ++ rs' j) : ∃ RG, RdM la lb lc R M cl i e ts rs' RG := by
  have tA : ∃ m ks, TI la m ks (marks la lb) := ⟨_, _, marks_ti la lb⟩
  have tB : ∃ m ks, TI la m ks (marks la lc) := ⟨_, _, marks_ti la lc⟩
  have hA := (marks_at la lb).1
  have hB := (marks_at la lc).1
  have hs' : ∀ j h r, j < 2 → hks rs' j = h :: r → e < h.b := fun j h r hj hr => by
    unfold hks at hr
    cases hj2 : rs' j with
    | nil => rw [hj2] at hr; cases hr
    | cons y q => rw [hj2] at hr; simp at hr; rw [← hr.1]; exact hs j y q hj hj2
  obtain ⟨m1, m2, m3⟩ := MQ.step tA tB hA hB hq hf hw hs'
  obtain ⟨r1, r2, r3, r4⟩ := reg_is (m1 := mk1) (m2 := mk2) (m3 := mk3) tA tB hA hB m2 hf hw hs'
  have nil : ∀ j, hks ts j = [] ↔ ts j = [] := fun j => map_nil
  refine ⟨region mk1 mk2 mk3 la (marks la lb) (marks la lc) i e, ⟨m1, fun j hj => ?_, m3.en, fun j hj => ?_, fun h => r1 ((nil 0).2 h), fun h h2 => r2 (fun q => h ((nil 0).1 q)) (h2.imp (fun q => (nil 1).2 q) id), fun h h2 h3 => r3 (fun q => h ((nil 0).1 q)) (fun q => h2 ((nil 1).1 q)) h3, pick_one _ _ _ _, ?_⟩⟩
  · have h1 := m2 j hj
    rw [m3.split j hj] at h1
    exact chn_rest _ i i h1 (m3.in_ j hj) (Nat.le_refl _) m3.ie
  · have h1 := r4 j hj
    unfold hks at h1
    rw [h1]
    have hj2 : j = 0 ∨ j = 1 := by omega
    rcases hj2 with rfl | rfl
    · have := made_len (la := la) (b := lb) hlb m3.ie m3.en
      show (made la (marks la lb).gone (marks la lb).puts i e).length ≤ 1000
      omega
    · have := made_len (la := la) (b := lc) hlc m3.ie m3.en
      show (made la (marks la lc).gone (marks la lc).puts i e).length ≤ 1000
      omega
  · obtain ⟨j, h, r, hj, hr, hb⟩ := hf.at_
    by_cases h0 : ts 0 = []
    · refine .inr fun h1 => ?_
      have hj2 : j = 0 ∨ j = 1 := by omega
      have hts : ts j = [] := by
        rcases hj2 with rfl | rfl
        · exact h0
        · exact h1
      have he : hks rs' j = h :: r := by
        rw [← hr]
        unfold hks
        rw [hsp j hj, hts, List.nil_append]
      have := hs' j h r hj he
      have := m3.ie
      omega
    · exact .inl h0
/-- how many are left, and where they are -/
theorem rs_bounds {la lb lc : List ByteArray} {R : List ByteArray × Nat} {M : List (Hk ByteArray)} {c cl : Nat} {rs : Nat → List HV} (hla : la.length ≤ 80) (hq : MQ mk1 mk2 mk3 la (marks la lb) (marks la lc) R c M cl (hks rs)) : (∀ j, j < 2 → (rs j).length ≤ 1000) ∧ (∀ j, j < 2 → ∀ h ∈ rs j, h.1.b ≤ 1000) := by
  have hat : ∀ j, (side (marks la lb) (marks la lc) j).at_ = la.length := fun j => by unfold side; split <;> exact (marks_at la _).1
  refine ⟨fun j hj => ?_, fun j hj h hh => ?_⟩
  · have h1 := Rest.len (i := la.length) (by rw [hat j]; exact Nat.le_refl _) _ _ (hq.rest j hj) hq.cn
    unfold hks at h1
    rw [List.length_map] at h1
    omega
  · have h1 := (hq.rest j hj).is h.1 (List.mem_map.2 ⟨h, hh, rfl⟩)
    have h2 := h1.at_
    have h3 := h1.le
    rw [hat j] at h2
    omega
end Go.Proofs.Ytokfnajgjhkepaa.MergeT
