/-
  Package hist on plain data: the texts between groups, what a deed does, what a group of changes leads from and to. No program is named.
-/
import Derived.Test.YtkeacipjjoeieaaEditBack
namespace Go.Proofs.Ytkeacipjjoeieaa.HistM
open Go.RowKit Kit EditM EditK

structure DeedM where
  kind : Int
  ed : EdM
/-- the texts between groups, which one is now, and whether a group is open -/
structure TL where
  ts : List Bs
  p : Nat
  op : Bool
def TL.now (s : TL) : Bs := s.ts.getD s.p []
def TL.edit (s : TL) (t : Bs) : TL :=
  if s.op = true then ⟨s.ts.take s.p ++ [t], s.p, true⟩
  else if s.p < 20 then ⟨s.ts.take (s.p + 1) ++ [t], s.p + 1, true⟩
  else ⟨(s.ts.take (s.p + 1) ++ [t]).drop 1, s.p, true⟩
/-- one deed -/
def TL.step (s : TL) (d : DeedM) : TL × Int :=
  if d.kind = 1 then (if d.ed.fault s.now = 0 then (s.edit (d.ed.step s.now), 0) else (s, d.ed.fault s.now))
  else if d.kind = 2 then (⟨s.ts, s.p, false⟩, 0)
  else if d.kind = 3 then (if s.p = 0 then (s, 7) else (⟨s.ts, s.p - 1, false⟩, 0))
  else if d.kind = 4 then (if s.p + 1 = s.ts.length then (s, 7) else (⟨s.ts, s.p + 1, false⟩, 0))
  else (s, 3)
/-- what holds of them -/
structure TL.ok (s : TL) : Prop where
  lt : s.p < s.ts.length
  le : s.ts.length ≤ 21
  op : s.op = true → 0 < s.p
  len : ∀ t ∈ s.ts, t.length ≤ 600
theorem TL.ok.now {s : TL} (h : s.ok) : s.ts[s.p]? = some s.now := by
  have := h.lt
  unfold TL.now
  rw [List.getD_eq_getElem?_getD, List.getElem?_eq_getElem this]; rfl
theorem TL.ok.now6 {s : TL} (h : s.ok) : s.now.length ≤ 600 := h.len _ (List.mem_of_getElem? h.now)
theorem TL.ok.edit {s : TL} (h : s.ok) {t : Bs} (ht : t.length ≤ 600) : (s.edit t).ok := by
  obtain ⟨h1, h2, h3, h4⟩ := h
  have hm : ∀ n, ∀ x ∈ s.ts.take n ++ [t], x.length ≤ 600 := by
    intro n x hx
    rcases List.mem_append.1 hx with hx | hx
    · exact h4 x (List.mem_of_mem_take hx)
    · simp at hx; rw [hx]; exact ht
  unfold TL.edit
  split
  · rename_i ho
    exact ⟨by simp; omega, by simp; omega, fun _ => h3 ho, hm _⟩
  · split
    · exact ⟨by simp; omega, by simp; omega, fun _ => by simp, hm _⟩
    · refine ⟨by simp; omega, by simp; omega, fun _ => by show 0 < s.p; omega, fun x hx => hm _ x (List.mem_of_mem_drop hx)⟩
theorem TL.ok.step {s : TL} (h : s.ok) (d : DeedM) : (s.step d).1.ok := by
  unfold TL.step
  obtain ⟨h1, h2, h3, h4⟩ := id h
  split
  · split
    · rename_i hf
      exact h.edit (EdM.fits_of hf).len6
    · exact h
  split
  · exact ⟨h1, h2, fun e => (by cases e), h4⟩
  split
  · split
    · exact h
    · exact ⟨by show s.p - 1 < s.ts.length; omega, h2, fun e => (by cases e), h4⟩
  split
  · split
    · exact h
    · exact ⟨by show s.p + 1 < s.ts.length; omega, h2, fun e => (by cases e), h4⟩
  · exact h
/-- behind some deeds -/
def TL.run (s : TL) (l : List DeedM) : TL := l.foldl (fun s d => (s.step d).1) s
theorem TL.ok.run {s : TL} (h : s.ok) (l : List DeedM) : (s.run l).ok := by
  induction l generalizing s with
  | nil => exact h
  | cons d l ih => exact ih (h.step d)
theorem TL.run_append (s : TL) (l m : List DeedM) : s.run (l ++ m) = (s.run l).run m := List.foldl_append
theorem TL.run_next (s : TL) {l : List DeedM} {i : Nat} {d : DeedM} (h : l[i]? = some d) : s.run (l.take (i + 1)) = ((s.run (l.take i)).step d).1 := by
  rw [take_next h, TL.run_append]; rfl
def TL.start (t : Bs) : TL := ⟨[t], 0, false⟩
theorem TL.start_ok {t : Bs} (h : t.length ≤ 600) : (TL.start t).ok := ⟨by simp [TL.start], by simp [TL.start], fun e => (by cases e), fun x hx => by simp [TL.start] at hx; rw [hx]; exact h⟩
/-- the texts and the codes behind each deed -/
def TL.texts (s : TL) : List DeedM → List Bs
  | [] => []
  | d :: l => (s.step d).1.now :: TL.texts (s.step d).1 l
def TL.codes (s : TL) : List DeedM → List Int
  | [] => []
  | d :: l => (s.step d).2 :: TL.codes (s.step d).1 l
theorem TL.texts_append (s : TL) (l m : List DeedM) : s.texts (l ++ m) = s.texts l ++ (s.run l).texts m := by
  induction l generalizing s with
  | nil => rfl
  | cons d l ih => simp only [List.cons_append, TL.texts, ih]; rfl
theorem TL.codes_append (s : TL) (l m : List DeedM) : s.codes (l ++ m) = s.codes l ++ (s.run l).codes m := by
  induction l generalizing s with
  | nil => rfl
  | cons d l ih => simp only [List.cons_append, TL.codes, ih]; rfl
theorem TL.texts_len (s : TL) (l : List DeedM) : (s.texts l).length = l.length := by
  induction l generalizing s with
  | nil => rfl
  | cons d l ih => simp [TL.texts, ih]
theorem TL.codes_len (s : TL) (l : List DeedM) : (s.codes l).length = l.length := by
  induction l generalizing s with
  | nil => rfl
  | cons d l ih => simp [TL.codes, ih]
theorem TL.texts_next (s : TL) {l : List DeedM} {i : Nat} {d : DeedM} (h : l[i]? = some d) : s.texts (l.take (i + 1)) = s.texts (l.take i) ++ [((s.run (l.take i)).step d).1.now] := by
  rw [take_next h, TL.texts_append]; rfl
theorem TL.codes_next (s : TL) {l : List DeedM} {i : Nat} {d : DeedM} (h : l[i]? = some d) : s.codes (l.take (i + 1)) = s.codes (l.take i) ++ [((s.run (l.take i)).step d).2] := by
  rw [take_next h, TL.codes_append]; rfl

/-- the changes g lead from the text a to the text b -/
def IsG (a b : Bs) (g : List (EdM × EdM)) : Prop := ∃ es : List EdM, g = es.zip (invs es a) ∧ apC es a = 0 ∧ apT es a = b ∧ ∀ e ∈ es, e.ok
theorem IsG.one {a : Bs} {e : EdM} (h : e.fault a = 0) (ho : e.ok) : IsG a (e.step a) [(e, e.inv a)] := ⟨[e], rfl, by simp only [apC, if_pos h], rfl, by simpa using ho⟩
theorem IsG.more {a b : Bs} {g : List (EdM × EdM)} (hg : IsG a b g) {e : EdM} (h : e.fault b = 0) (ho : e.ok) : IsG a (e.step b) (g ++ [(e, e.inv b)]) := by
  obtain ⟨es, rfl, h1, h2, h3⟩ := hg
  refine ⟨es ++ [e], ?_, ?_, ?_, ?_⟩
  · rw [invs_append, List.zip_append (by rw [invs_length]), h2]; rfl
  · rw [apC_append _ _ _ h1, h2]; simp only [apC, if_pos h]
  · rw [apT_append, h2]; rfl
  · intro x hx
    rcases List.mem_append.1 hx with hx | hx
    · exact h3 x hx
    · simp at hx; rw [hx]; exact ho
/-- the history's groups gs lead through the texts of s -/
structure Rel (s : TL) (gs : List (List (EdM × EdM))) : Prop where
  ok : s.ok
  len : s.ts.length = gs.length + 1
  g : ∀ (i : Nat) g a b, gs[i]? = some g → s.ts[i]? = some a → s.ts[i + 1]? = some b → IsG a b g
theorem Rel.start {t : Bs} (h : t.length ≤ 600) : Rel (TL.start t) [] := ⟨TL.start_ok h, rfl, fun i g a b hg => by simp at hg⟩
theorem Rel.mark {s : TL} {gs : List (List (EdM × EdM))} (h : Rel s gs) {q : Nat} (hq : q < s.ts.length) : Rel ⟨s.ts, q, false⟩ gs := ⟨⟨hq, h.ok.le, fun e => (by cases e), h.ok.len⟩, h.len, h.g⟩
theorem Rel.open_ {s : TL} {gs : List (List (EdM × EdM))} (h : Rel s gs) (ho : s.op = true) {n : Nat} (hn : s.p = n + 1) {gl : List (EdM × EdM)} (hgl : gs[n]? = some gl) {e : EdM} (hf : e.fault s.now = 0) (eo : e.ok) :
    Rel (s.edit (e.step s.now)) ((gs.take (n + 1)).set n (gl ++ [(e, e.inv s.now)])) := by
  have hle := h.ok.lt
  have hl := h.len
  have hnow := h.ok.now
  rw [hn] at hnow
  have hts : (s.edit (e.step s.now)).ts = s.ts.take (n + 1) ++ [e.step s.now] := by unfold TL.edit; rw [if_pos ho, hn]
  refine ⟨h.ok.edit (EdM.fits_of hf).len6, ?_, ?_⟩
  · rw [hts]; simp; omega
  · intro i g a b hg ha hb
    rw [hts] at ha hb
    have hi : i < n + 1 := by
      have := (List.getElem?_eq_some_iff.1 hg).1
      simp at this; omega
    rw [List.getElem?_append_left (by simp; omega), List.getElem?_take, if_pos hi] at ha
    by_cases e1 : i = n
    · subst e1
      rw [List.getElem?_set_self (by simp; omega)] at hg
      rw [List.getElem?_append_right (by simp; omega)] at hb
      have e2 : i + 1 - (s.ts.take (i + 1)).length = 0 := by simp; omega
      rw [e2] at hb
      cases hg; cases hb
      exact (h.g i gl a s.now hgl ha hnow).more hf eo
    · rw [List.getElem?_set_ne (by omega), List.getElem?_take, if_pos hi] at hg
      rw [List.getElem?_append_left (by simp; omega), List.getElem?_take, if_pos (by omega)] at hb
      exact h.g i g a b hg ha hb
theorem Rel.new_ {s : TL} {gs : List (List (EdM × EdM))} (h : Rel s gs) (ho : s.op = false) (hp : s.p < 20) {e : EdM} (hf : e.fault s.now = 0) (eo : e.ok) :
    Rel (s.edit (e.step s.now)) (gs.take s.p ++ [[(e, e.inv s.now)]]) := by
  have hle := h.ok.lt
  have hl := h.len
  have hnow := h.ok.now
  have hts : (s.edit (e.step s.now)).ts = s.ts.take (s.p + 1) ++ [e.step s.now] := by unfold TL.edit; rw [if_neg (by rw [ho]; simp), if_pos hp]
  refine ⟨h.ok.edit (EdM.fits_of hf).len6, ?_, ?_⟩
  · rw [hts]; simp; omega
  · intro i g a b hg ha hb
    rw [hts] at ha hb
    have hi : i < s.p + 1 := by
      have := (List.getElem?_eq_some_iff.1 hg).1
      simp at this; omega
    rw [List.getElem?_append_left (by simp; omega), List.getElem?_take, if_pos hi] at ha
    by_cases e1 : i = s.p
    · rw [e1] at hg ha hb
      rw [List.getElem?_append_right (by simp; omega)] at hg hb
      have e2 : s.p + 1 - (s.ts.take (s.p + 1)).length = 0 := by simp; omega
      have e3 : s.p - (gs.take s.p).length = 0 := by simp; omega
      rw [e2] at hb
      rw [e3] at hg
      rw [hnow] at ha
      cases hg; cases hb; cases ha
      exact IsG.one hf eo
    · rw [List.getElem?_append_left (by simp; omega), List.getElem?_take, if_pos (by omega)] at hg
      rw [List.getElem?_append_left (by simp; omega), List.getElem?_take, if_pos (by omega)] at hb
      exact h.g i g a b hg ha hb
theorem Rel.full_ {s : TL} {gs : List (List (EdM × EdM))} (h : Rel s gs) (ho : s.op = false) (hp : s.p = 20) {e : EdM} (hf : e.fault s.now = 0) (eo : e.ok) :
    Rel (s.edit (e.step s.now)) ((gs.take 20 ++ [[(e, e.inv s.now)]]).drop 1) := by
  have hle := h.ok.lt
  have hl := h.len
  have hnow := h.ok.now
  rw [hp] at hnow
  have hts : (s.edit (e.step s.now)).ts = (s.ts.take 21 ++ [e.step s.now]).drop 1 := by unfold TL.edit; rw [if_neg (by rw [ho]; simp), if_neg (by omega), hp]
  refine ⟨h.ok.edit (EdM.fits_of hf).len6, ?_, ?_⟩
  · rw [hts]; simp; omega
  · intro i g a b hg ha hb
    rw [hts, List.getElem?_drop] at ha hb
    rw [List.getElem?_drop] at hg
    have hi : 1 + i < 21 := by
      have := (List.getElem?_eq_some_iff.1 hg).1
      simp at this; omega
    rw [List.getElem?_append_left (by simp; omega), List.getElem?_take, if_pos hi] at ha
    by_cases e1 : 1 + i = 20
    · rw [e1] at hg ha
      rw [show 1 + (i + 1) = 21 by omega] at hb
      rw [List.getElem?_append_right (by simp; omega)] at hg hb
      have e2 : 21 - (s.ts.take 21).length = 0 := by simp; omega
      have e3 : 20 - (gs.take 20).length = 0 := by simp; omega
      rw [e2] at hb
      rw [e3] at hg
      rw [hnow] at ha
      cases hg; cases hb; cases ha
      exact IsG.one hf eo
    · rw [List.getElem?_append_left (by simp; omega), List.getElem?_take, if_pos (by omega)] at hg
      rw [List.getElem?_append_left (by simp; omega), List.getElem?_take, if_pos (by omega)] at hb
      exact h.g (1 + i) g a b hg ha (by rw [show 1 + i + 1 = 1 + (i + 1) by omega]; exact hb)

end Go.Proofs.Ytkeacipjjoeieaa.HistM
