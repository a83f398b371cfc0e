/-
  Plain mathematics: the lines of a list of bytes. No program is named.
-/
import Derived.Test.YtcknmaimkodaeaaPosMath
namespace Go.Proofs.Ytcknmaimkodaeaa.LinesM
open PosM

def put (c : UInt8) : List (List UInt8) → List (List UInt8)
  | [] => [[c]]
  | x :: r => (c :: x) :: r
/-- the lines of a text, without their line feeds: never none -/
def cut : List UInt8 → List (List UInt8)
  | [] => [[]]
  | c :: l => if c = 10 then [] :: cut l else put c (cut l)

theorem put_ne (c : UInt8) (r : List (List UInt8)) : put c r ≠ [] := by cases r <;> simp [put]
theorem cut_ne : ∀ l : List UInt8, cut l ≠ []
  | [] => by simp [cut]
  | c :: l => by
    unfold cut
    split
    · simp
    · exact put_ne _ _
theorem put_append (c : UInt8) {r : List (List UInt8)} (h : r ≠ []) (q : List (List UInt8)) : put c (r ++ q) = put c r ++ q := by
  cases r with
  | nil => exact absurd rfl h
  | cons x r => rfl
theorem cut_mid (a b : List UInt8) : cut (a ++ 10 :: b) = cut a ++ cut b := by
  induction a with
  | nil => simp [cut]
  | cons c a ih =>
    simp only [List.cons_append, cut]
    split
    · rw [ih]; rfl
    · rw [ih, put_append c (cut_ne a)]
theorem cut_clean {l : List UInt8} (h : lns l = 0) : cut l = [l] := by
  induction l with
  | nil => rfl
  | cons c l ih =>
    have h1 : c ≠ 10 := by
      intro e
      simp [lns, e] at h
    have h2 : lns l = 0 := by
      simp only [lns, List.count_cons] at h ⊢
      omega
    simp [cut, h1, ih h2, put]
theorem put_length (c : UInt8) {r : List (List UInt8)} (h : r ≠ []) : (put c r).length = r.length := by
  cases r with
  | nil => exact absurd rfl h
  | cons x r => rfl
theorem cut_length (l : List UInt8) : (cut l).length = lns l + 1 := by
  induction l with
  | nil => rfl
  | cons c l ih =>
    unfold cut
    split
    · rename_i h; simp [lns, h] at ih ⊢; omega
    · rename_i h
      rw [put_length c (cut_ne l), ih]
      have : (c == 10) = false := by simpa using h
      simp [lns, List.count_cons, this]
theorem cut_snoc_feed (l : List UInt8) : cut (l ++ [10]) = cut l ++ [[]] := cut_mid l []
theorem put_last (c : UInt8) {r : List (List UInt8)} {i : List (List UInt8)} {z : List UInt8} (h : r = i ++ [z]) : ∃ i' z', put c r = i' ++ [z'] ∧ ∀ d, put c (i ++ [z ++ d]) = i' ++ [z' ++ d] := by
  subst h
  cases i with
  | nil => exact ⟨[], c :: z, rfl, fun d => rfl⟩
  | cons x i => exact ⟨(c :: x) :: i, z, rfl, fun d => rfl⟩
/-- one more byte that is no line feed belongs to the last line -/
theorem cut_snoc_other (l : List UInt8) : ∃ i z, cut l = i ++ [z] ∧ ∀ c, c ≠ 10 → cut (l ++ [c]) = i ++ [z ++ [c]] := by
  induction l with
  | nil => exact ⟨[], [], rfl, fun c hc => by simp [cut, hc, put]⟩
  | cons d l ih =>
    obtain ⟨i, z, h1, h2⟩ := ih
    by_cases hd : d = 10
    · exact ⟨[] :: i, z, by simp [cut, hd, h1], fun c hc => by simp [cut, hd, h2 c hc]⟩
    · obtain ⟨i', z', h3, h4⟩ := put_last d h1
      exact ⟨i', z', by simp [cut, hd, h3], fun c hc => by simp [cut, hd, h2 c hc, h4]⟩

theorem cut_first {l : List UInt8} (h : first l < l.length) : cut l = l.take (first l) :: cut (l.drop (first l + 1)) := by
  have hf := first_feed l h
  have e : l = l.take (first l) ++ 10 :: l.drop (first l + 1) := by
    conv => lhs; rw [← List.take_append_drop (first l) l]
    rw [List.drop_eq_getElem_cons h, hf]
  conv => lhs; rw [e]
  rw [cut_mid, cut_clean (first_clean l (Nat.le_refl _))]
  rfl
theorem cut_only {l : List UInt8} (h : ¬ first l < l.length) : cut l = [l] := by
  apply cut_clean
  have := first_clean l (c := l.length) (by have := first_le l; omega)
  rwa [List.take_length] at this
theorem put_small (c : UInt8) {r : List (List UInt8)} {n : Nat} (h : ∀ x ∈ r, x.length ≤ n) : ∀ x ∈ put c r, x.length ≤ n + 1 := by
  cases r with
  | nil => simp [put]
  | cons y r =>
    intro x hx
    simp only [put, List.mem_cons] at hx
    rcases hx with rfl | hx
    · have := h y (by simp); simp; omega
    · have := h x (by simp [hx]); omega
theorem cut_small (l : List UInt8) : ∀ x ∈ cut l, x.length ≤ l.length := by
  induction l with
  | nil => simp [cut]
  | cons c l ih =>
    unfold cut
    split
    · intro x hx
      rcases List.mem_cons.1 hx with rfl | hx
      · simp
      · have := ih x hx; simp; omega
    · exact put_small c ih

end Go.Proofs.Ytcknmaimkodaeaa.LinesM
