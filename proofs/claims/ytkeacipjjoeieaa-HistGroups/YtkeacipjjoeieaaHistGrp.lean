/-
  Package hist on plain data: edits in groups of equal length. No program is named.
-/
import Derived.Test.YtkeacipjjoeieaaHistLaws
namespace Go.Proofs.Ytkeacipjjoeieaa.HistM
open Go.RowKit Kit EditM EditK

def closeB (k n i : Nat) : Bool := i % k == k - 1 || i == n - 1
def gD (k n : Nat) (es : List EdM) : Nat → List DeedM
  | 0 => []
  | i + 1 => gD k n es i ++ [⟨1, es.getD i ⟨0, 0, ⟨#[]⟩⟩⟩] ++ (if closeB k n i = true then [cD] else [])
def gW (k n : Nat) (es : List EdM) (t : Bs) : Nat → List Bs
  | 0 => [t]
  | i + 1 => gW k n es t i ++ (if closeB k n i = true then [apT (es.take (i + 1)) t] else [])
theorem gD_len (k n : Nat) (es : List EdM) : ∀ i, (gD k n es i).length ≤ 2 * i
  | 0 => Nat.le_refl _
  | i + 1 => by
    have := gD_len k n es i
    simp only [gD, List.length_append]
    split <;> simp <;> omega
theorem gW_len (k n : Nat) (es : List EdM) (t : Bs) : ∀ i, (gW k n es t i).length ≤ i + 1 ∧ 0 < (gW k n es t i).length
  | 0 => ⟨Nat.le_refl _, by simp [gW]⟩
  | i + 1 => by
    have := gW_len k n es t i
    simp only [gW, List.length_append]
    split <;> simp <;> omega
theorem gD_ok {k n : Nat} {es : List EdM} (h : ∀ e ∈ es, e.ok) : ∀ i, i ≤ es.length → ∀ d ∈ gD k n es i, d.ed.ok
  | 0, _, d, hd => by simp [gD] at hd
  | i + 1, hi, d, hd => by
    simp only [gD] at hd
    rcases List.mem_append.1 hd with hd | hd
    · rcases List.mem_append.1 hd with hd | hd
      · exact gD_ok h i (by omega) d hd
      · simp at hd; rw [hd]
        show (es[i]?.getD _).ok
        rw [List.getElem?_eq_getElem (by omega)]
        exact h _ (List.getElem_mem _)
    · split at hd
      · simp at hd; rw [hd]; exact plain_ok 2
      · simp at hd
/-- the history behind i edits: closed, or open -/
def GSt (s : TL) (W : List Bs) (now : Bs) : Prop := (s = ⟨W, W.length - 1, false⟩ ∧ W[W.length - 1]? = some now) ∨ s = ⟨W ++ [now], W.length, true⟩
theorem GSt.now {s : TL} {W : List Bs} {now : Bs} (h : GSt s W now) : s.now = now := by
  rcases h with ⟨rfl, h⟩ | rfl
  · unfold TL.now; rw [List.getD_eq_getElem?_getD, h]; rfl
  · unfold TL.now
    rw [List.getD_eq_getElem?_getD, List.getElem?_append_right (Nat.le_refl _), Nat.sub_self]; rfl
theorem GSt.do_ {s : TL} {W : List Bs} {now : Bs} (h : GSt s W now) (h0 : 0 < W.length) (h20 : W.length ≤ 20) {e : EdM} (hf : e.fault now = 0) : (s.step ⟨1, e⟩).1 = ⟨W ++ [e.step now], W.length, true⟩ := by
  have hn := h.now
  unfold TL.step
  rw [if_pos rfl, hn, if_pos hf]
  show s.edit (e.step now) = _
  rcases h with ⟨rfl, h⟩ | rfl
  · unfold TL.edit
    rw [if_neg (by simp), if_pos (by show W.length - 1 < 20; omega)]
    show (⟨W.take (W.length - 1 + 1) ++ [e.step now], W.length - 1 + 1, true⟩ : TL) = _
    rw [show W.length - 1 + 1 = W.length by omega, List.take_length]
  · unfold TL.edit
    rw [if_pos rfl]
    show (⟨(W ++ [now]).take W.length ++ [e.step now], W.length, true⟩ : TL) = _
    rw [List.take_left' rfl]
theorem gRun {k n : Nat} {es : List EdM} {t : Bs} (hc : apC es t = 0) (hl : es.length ≤ 15) : ∀ i, i ≤ es.length → GSt ((TL.start t).run (gD k n es i)) (gW k n es t i) (apT (es.take i) t) ∧ ((i = 0 ∨ closeB k n (i - 1) = true) → (TL.start t).run (gD k n es i) = ⟨gW k n es t i, (gW k n es t i).length - 1, false⟩)
  | 0, _ => ⟨.inl ⟨rfl, rfl⟩, fun _ => rfl⟩
  | i + 1, hi => by
    obtain ⟨ih, _⟩ := gRun (k := k) (n := n) hc hl i (by omega)
    have hwl := gW_len k n es t i
    obtain ⟨e, he⟩ : ∃ e, es[i]? = some e := ⟨es[i], by simp⟩
    have hf : e.fault (apT (es.take i) t) = 0 := by
      have h1 : apC (es.take i ++ es.drop i) t = 0 := by rw [List.take_append_drop]; exact hc
      have h2 := apC_tail _ _ _ h1
      rw [drop_next he] at h2
      by_cases hf : e.fault (apT (es.take i) t) = 0
      · exact hf
      · simp only [apC, if_neg hf] at h2; exact absurd h2 hf
    have hg : es.getD i ⟨0, 0, ⟨#[]⟩⟩ = e := by rw [List.getD_eq_getElem?_getD, he]; rfl
    have st := ih.do_ (by omega) (by omega) hf
    have hn : apT (es.take (i + 1)) t = e.step (apT (es.take i) t) := apT_next he
    simp only [gD, gW, hg]
    rw [TL.run_append, TL.run_append]
    show GSt (((((TL.start t).run (gD k n es i)).step ⟨1, e⟩).1).run _) _ _ ∧ (_ → ((((TL.start t).run (gD k n es i)).step ⟨1, e⟩).1).run _ = _)
    rw [st, hn]
    by_cases hcl : closeB k n i = true
    · rw [if_pos hcl, if_pos hcl]
      show GSt ((⟨gW k n es t i ++ [e.step (apT (es.take i) t)], (gW k n es t i).length, true⟩ : TL).step cD).1 _ _ ∧ (_ → ((⟨gW k n es t i ++ [e.step (apT (es.take i) t)], (gW k n es t i).length, true⟩ : TL).step cD).1 = _)
      rw [step_c]
      have hl2 : (gW k n es t i ++ [e.step (apT (es.take i) t)]).length - 1 = (gW k n es t i).length := by simp
      refine ⟨.inl ⟨by rw [hl2], ?_⟩, fun _ => by rw [hl2]⟩
      rw [hl2, List.getElem?_append_right (Nat.le_refl _), Nat.sub_self]; rfl
    · rw [if_neg hcl, if_neg hcl, List.append_nil]
      refine ⟨.inr rfl, fun h => ?_⟩
      rcases h with h | h
      · omega
      · exact absurd h hcl
theorem gEnd {k : Nat} {es : List EdM} {t : Bs} (hc : apC es t = 0) (hl : es.length ≤ 15) : (TL.start t).run (gD k es.length es es.length) = ⟨gW k es.length es t es.length, (gW k es.length es t es.length).length - 1, false⟩ := by
  refine (gRun hc hl es.length (Nat.le_refl _)).2 ?_
  by_cases h : es.length = 0
  · exact .inl h
  · right; simp [closeB]
theorem run_backW {W : List Bs} {m : Nat} : ∀ i, i ≤ m → (⟨W, m, false⟩ : TL).run (List.replicate i uD) = ⟨W, m - i, false⟩ := by
  intro i hi
  by_cases h0 : i = 0
  · subst h0; rfl
  · exact run_back ⟨W, m, false⟩ i hi (by omega)
/-- each group is undone by one Undo -/
theorem gUndo {s : TL} {ds : List DeedM} {W : List Bs} {m : Nat} (hr : s.run ds = ⟨W, m, false⟩) {i : Nat} (hi : i < m) :
    (s.codes (ds ++ List.replicate m uD))[ds.length + i]? = some 0 ∧ (s.texts (ds ++ List.replicate m uD))[ds.length + i]? = some (W.getD (m - 1 - i) []) := by
  have hg : (ds ++ List.replicate m uD)[ds.length + i]? = some uD := by
    rw [List.getElem?_append_right (by omega), show ds.length + i - ds.length = i by omega, List.getElem?_replicate, if_pos hi]
  have ht : (ds ++ List.replicate m uD).take (ds.length + i) = ds ++ List.replicate i uD := by
    rw [List.take_append, List.take_of_length_le (by omega), show ds.length + i - ds.length = i by omega, take_rep (by omega)]
  rw [TL.codes_at s hg, TL.texts_at s hg, ht, TL.run_append, hr, run_backW i (by omega), step_u (by show m - i ≠ 0; omega)]
  refine ⟨rfl, ?_⟩
  show some (W.getD (m - i - 1) []) = _
  rw [show m - i - 1 = m - 1 - i by omega]

end Go.Proofs.Ytkeacipjjoeieaa.HistM
