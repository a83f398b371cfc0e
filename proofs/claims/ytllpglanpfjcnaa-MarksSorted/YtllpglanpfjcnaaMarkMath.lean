/-
  The place of each number in a sorted row is the number of those that stand ahead of it. No program is named.
-/
import Derived.Test.YtllpglanpfjcnaaSortMath
namespace Go.Proofs.Ytllpglanpfjcnaa.SortM

theorem pigeon : ∀ (l m : List Nat), l.Nodup → (∀ x ∈ l, x ∈ m) → m.length ≤ l.length → ∀ x ∈ m, x ∈ l
  | [], m, _, _, hl, x, hx => by
    have : m = [] := List.eq_nil_of_length_eq_zero (by simpa using hl)
    subst this; simp at hx
  | y :: l, m, hn, hs, hl, x, hx => by
    rw [List.nodup_cons] at hn
    have hy : y ∈ m := hs y (by simp)
    by_cases e : x = y
    · subst e; simp
    · have h1 := pigeon l (m.erase y) hn.2 (fun z hz => (List.mem_erase_of_ne (fun e => by subst e; exact hn.1 hz)).2 (hs z (by simp [hz]))) (by
        rw [List.length_erase_of_mem hy]; simp at hl; omega) x ((List.mem_erase_of_ne e).2 hx)
      simp [h1]
theorem nodup_map {f : Nat → Nat} (hf : ∀ i j, f i = f j → i = j) : ∀ {l : List Nat}, l.Nodup → (l.map f).Nodup
  | [], _ => by simp
  | x :: l, h => by
    rw [List.nodup_cons] at h
    rw [List.map_cons, List.nodup_cons]
    refine ⟨fun hx => ?_, nodup_map hf h.2⟩
    obtain ⟨y, hy, e⟩ := List.mem_map.1 hx
    have := hf _ _ e
    subst this
    exact h.1 hy
section
variable {n : Nat} {d : Nat → Nat} {lt : Nat → Nat → Prop}
theorem Moved.injd (h : Moved 0 n (fun i => i) d) : ∀ i j, d i = d j → i = j := h.inj fun _ _ e => e
theorem Moved.rng (h : Moved 0 n (fun i => i) d) : ∀ i, i < n → d i < n := fun i hi => h.all (p := fun x => x < n) (fun _ _ hj => hj) i (Nat.zero_le _) hi
theorem Moved.sur (h : Moved 0 n (fun i => i) d) : ∀ x, x < n → ∃ p, p < n ∧ d p = x := fun x hx => by
  have := pigeon ((List.range n).map d) (List.range n) (nodup_map h.injd List.nodup_range) (fun y hy => by
    obtain ⟨p, hp, rfl⟩ := List.mem_map.1 hy
    exact List.mem_range.2 (h.rng p (List.mem_range.1 hp))) (by simp) x (List.mem_range.2 hx)
  obtain ⟨p, hp, e⟩ := List.mem_map.1 this
  exact ⟨p, List.mem_range.1 hp, e⟩
theorem Moved.perm (h : Moved 0 n (fun i => i) d) : ((List.range n).map d).Perm (List.range n) := by
  rw [List.perm_iff_count]
  intro a
  rw [(nodup_map h.injd List.nodup_range).count, List.nodup_range.count]
  by_cases e : a < n
  · obtain ⟨p, hp, rfl⟩ := h.sur a e
    rw [if_pos (List.mem_map.2 ⟨p, List.mem_range.2 hp, rfl⟩), if_pos (List.mem_range.2 e)]
  · rw [if_neg, if_neg]
    · rw [List.mem_range]; exact e
    · intro hm
      obtain ⟨p, hp, e2⟩ := List.mem_map.1 hm
      have := h.rng p (List.mem_range.1 hp)
      omega
theorem countP_lt (p : Nat) : ∀ n, p ≤ n → (List.range n).countP (fun q => decide (q < p)) = p
  | 0, h => by simp; omega
  | n + 1, h => by
    rw [List.range_succ, List.countP_append]
    by_cases e : p ≤ n
    · rw [countP_lt p n e]; simp [e]
    · obtain rfl : p = n + 1 := by omega
      have : (List.range n).countP (fun q => decide (q < n + 1)) = n := by
        rw [List.countP_eq_length.2]
        · simp
        · intro x hx
          have := List.mem_range.1 hx
          simp; omega
      rw [this]; simp
/-- how many stand ahead of x -/
def cnt (b : Nat → Nat → Bool) (n x : Nat) : Nat := (List.range n).countP (fun j => b j x)
theorem cnt_at {b : Nat → Nat → Bool} (hb : ∀ x y, b x y = true ↔ lt x y) (ht : ∀ x y z, lt x y → lt y z → lt x z) (hi : ∀ x, ¬ lt x x) (hm : Moved 0 n (fun i => i) d) (hs : Srt lt 0 n d) {p : Nat} (hp : p < n) : cnt b n (d p) = p := by
  unfold cnt
  rw [← hm.perm.countP_eq, List.countP_map]
  have : (List.range n).countP ((fun j => b j (d p)) ∘ d) = (List.range n).countP (fun q => decide (q < p)) := by
    apply List.countP_congr
    intro q hq
    have hq := List.mem_range.1 hq
    simp only [Function.comp, hb, decide_eq_true_eq]
    constructor
    · intro h
      rcases Nat.lt_trichotomy q p with e | e | e
      · exact e
      · subst e; exact absurd h (hi _)
      · exact absurd (ht _ _ _ h (hs p q (Nat.zero_le _) e hq)) (hi _)
    · intro h; exact hs q p (Nat.zero_le _) h hp
  rw [this, countP_lt p n (by omega)]
theorem cnt_next (b : Nat → Nat → Bool) (k x : Nat) : cnt b (k + 1) x = cnt b k x + (if b k x then 1 else 0) := by
  unfold cnt; rw [List.range_succ, List.countP_append]; simp [List.countP_cons]
theorem cnt_le (b : Nat → Nat → Bool) (k x : Nat) : cnt b k x ≤ k := by
  unfold cnt; have := List.countP_le_length (l := List.range k) (p := fun j => b j x); simpa using this
end

end Go.Proofs.Ytllpglanpfjcnaa.SortM
