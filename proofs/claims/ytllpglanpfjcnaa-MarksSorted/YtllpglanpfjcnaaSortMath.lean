/-
  Sorting on plain rows: what exchanges, rotations and merges make. A row is a function from places to numbers. No program is named.
-/
import Derived.Test.YtllpglanpfjcnaaKit
namespace Go.Proofs.Ytllpglanpfjcnaa.SortM

/-- the places a .. b - 1 hold what they held, in another order; all others are as they were -/
def Moved (a b : Nat) (d d' : Nat → Nat) : Prop :=
  ∃ f : Nat → Nat, (∀ i, d' i = d (f i)) ∧ (∀ i j, f i = f j → i = j) ∧ (∀ i, ¬ (a ≤ i ∧ i < b) → f i = i) ∧ (∀ i, a ≤ i → i < b → a ≤ f i ∧ f i < b)
theorem Moved.refl (a b : Nat) (d : Nat → Nat) : Moved a b d d := ⟨fun i => i, fun _ => rfl, fun _ _ h => h, fun _ _ => rfl, fun _ h1 h2 => ⟨h1, h2⟩⟩
theorem Moved.trans {a b : Nat} {d d1 d2 : Nat → Nat} (h : Moved a b d d1) (h2 : Moved a b d1 d2) : Moved a b d d2 := by
  obtain ⟨f, f1, f2, f3, f4⟩ := h
  obtain ⟨g, g1, g2, g3, g4⟩ := h2
  refine ⟨fun i => f (g i), fun i => by rw [g1, f1], fun i j h => g2 _ _ (f2 _ _ h), fun i hi => ?_, fun i h1 h2 => ?_⟩
  · show f (g i) = i
    rw [g3 i hi, f3 i hi]
  · obtain ⟨q1, q2⟩ := g4 i h1 h2
    exact f4 _ q1 q2
theorem Moved.mono {a b a' b' : Nat} {d d1 : Nat → Nat} (h : Moved a b d d1) (ha : a' ≤ a) (hb : b ≤ b') : Moved a' b' d d1 := by
  obtain ⟨f, f1, f2, f3, f4⟩ := h
  refine ⟨f, f1, f2, fun i hi => f3 i (by omega), fun i h1 h2 => ?_⟩
  by_cases hi : a ≤ i ∧ i < b
  · have := f4 i hi.1 hi.2; omega
  · rw [f3 i hi]; omega
theorem Moved.out {a b : Nat} {d d1 : Nat → Nat} (h : Moved a b d d1) {i : Nat} (hi : ¬ (a ≤ i ∧ i < b)) : d1 i = d i := by
  obtain ⟨f, f1, _, f3, _⟩ := h
  rw [f1, f3 i hi]
theorem Moved.all {a b : Nat} {d d1 : Nat → Nat} (h : Moved a b d d1) {p : Nat → Prop} (hp : ∀ i, a ≤ i → i < b → p (d i)) : ∀ i, a ≤ i → i < b → p (d1 i) := by
  obtain ⟨f, f1, _, _, f4⟩ := h
  intro i h1 h2
  rw [f1]
  exact hp _ (f4 i h1 h2).1 (f4 i h1 h2).2
theorem Moved.inj {a b : Nat} {d d1 : Nat → Nat} (h : Moved a b d d1) (hd : ∀ i j, d i = d j → i = j) : ∀ i j, d1 i = d1 j → i = j := by
  obtain ⟨f, f1, f2, _, _⟩ := h
  intro i j e
  rw [f1, f1] at e
  exact f2 _ _ (hd _ _ e)

/-- two places exchanged -/
def swp (d : Nat → Nat) (i j : Nat) : Nat → Nat := fun k => if k = i then d j else if k = j then d i else d k
theorem swp_moved (d : Nat → Nat) {a b i j : Nat} (h1 : a ≤ i) (h2 : i < b) (h3 : a ≤ j) (h4 : j < b) : Moved a b d (swp d i j) := by
  refine ⟨fun k => if k = i then j else if k = j then i else k, fun k => ?_, fun k l h => ?_, fun k hk => ?_, fun k h5 h6 => ?_⟩
  · unfold swp; dsimp only; split
    · rfl
    · split <;> rfl
  · dsimp only at h
    split at h <;> split at h <;> (try split at h) <;> (try split at h) <;> omega
  · dsimp only; split
    · omega
    · split <;> omega
  · dsimp only; split
    · omega
    · split <;> omega

/-- so many places from a on and from b on exchanged -/
def swr (a b n : Nat) (d : Nat → Nat) : Nat → Nat := fun k => if a ≤ k ∧ k < a + n then d (k - a + b) else if b ≤ k ∧ k < b + n then d (k - b + a) else d k
theorem swr_zero (a b : Nat) (d : Nat → Nat) : swr a b 0 d = d := by
  funext k; unfold swr; rw [if_neg (by omega), if_neg (by omega)]
theorem swr_next (a b i : Nat) (d : Nat → Nat) (h : a + i < b) : swp (swr a b i d) (a + i) (b + i) = swr a b (i + 1) d := by
  funext k
  unfold swp swr
  by_cases e1 : k = a + i
  · subst e1
    rw [if_pos rfl, if_neg (by omega), if_neg (by omega), if_pos (by omega)]; congr 1; omega
  · by_cases e2 : k = b + i
    · subst e2
      rw [if_neg e1, if_pos rfl, if_neg (by omega), if_neg (by omega), if_neg (by omega), if_pos (by omega)]; congr 1; omega
    · rw [if_neg e1, if_neg e2]
      by_cases e3 : a ≤ k ∧ k < a + i
      · rw [if_pos e3, if_pos (by omega)]
      · rw [if_neg e3]
        by_cases e4 : b ≤ k ∧ k < b + i
        · rw [if_pos e4, if_neg (by omega), if_pos (by omega)]
        · rw [if_neg e4, if_neg (by omega), if_neg (by omega)]

/-- the places a .. m - 1 and m .. b - 1 in the other order -/
def rot (a m b : Nat) (d : Nat → Nat) : Nat → Nat := fun k => if a ≤ k ∧ k < a + (b - m) then d (k + (m - a)) else if a + (b - m) ≤ k ∧ k < b then d (k - (b - m)) else d k
theorem rot_moved (a m b : Nat) (d : Nat → Nat) (h1 : a ≤ m) (h2 : m ≤ b) : Moved a b d (rot a m b d) := by
  refine ⟨fun k => if a ≤ k ∧ k < a + (b - m) then k + (m - a) else if a + (b - m) ≤ k ∧ k < b then k - (b - m) else k, fun k => ?_, fun k l h => ?_, fun k hk => ?_, fun k h5 h6 => ?_⟩
  · unfold rot; dsimp only; split
    · rfl
    · split <;> rfl
  · dsimp only at h
    split at h <;> split at h <;> (try split at h) <;> (try split at h) <;> omega
  · dsimp only; split
    · omega
    · split <;> omega
  · dsimp only; split
    · omega
    · split <;> omega
theorem rot_none (a m b : Nat) (d : Nat → Nat) (h1 : a ≤ m) (h2 : m ≤ b) (h : ¬ (a < m ∧ m < b)) : rot a m b d = d := by
  funext k
  unfold rot
  split
  · congr 1; omega
  · split
    · congr 1; omega
    · rfl
theorem rot_left (m i j : Nat) (d : Nat → Nat) (h : i ≤ m) (hij : j < i) : rot (m - (i - j)) m (m + j) (swr (m - i) m j d) = rot (m - i) m (m + j) d := by
  funext k
  unfold rot swr
  by_cases c1 : m - i ≤ k ∧ k < m - i + (m + j - m)
  · rw [if_pos c1, if_neg (by omega), if_neg (by omega), if_pos (by omega)]; congr 1; omega
  · rw [if_neg c1]
    by_cases c2 : m - i + (m + j - m) ≤ k ∧ k < m + j
    · rw [if_pos c2]
      by_cases c3 : m - (i - j) ≤ k ∧ k < m - (i - j) + (m + j - m)
      · rw [if_pos c3]
        rw [if_neg (by omega), if_pos (by omega)]; congr 1; omega
      · rw [if_neg c3, if_pos (by omega), if_neg (by omega), if_neg (by omega)]
    · rw [if_neg c2, if_neg (by omega), if_neg (by omega), if_neg (by omega), if_neg (by omega)]
theorem rot_right (m i j : Nat) (d : Nat → Nat) (h : i ≤ m) (hij : i < j) : rot (m - i) m (m + (j - i)) (swr (m - i) (m + j - i) i d) = rot (m - i) m (m + j) d := by
  funext k
  unfold rot swr
  by_cases c1 : m - i ≤ k ∧ k < m - i + (m + j - m)
  · rw [if_pos c1]
    by_cases c3 : m - i ≤ k ∧ k < m - i + (m + (j - i) - m)
    · rw [if_pos c3]
      by_cases c4 : m - i ≤ k + (m - (m - i)) ∧ k + (m - (m - i)) < m - i + i
      · exfalso; omega
      · rw [if_neg c4]
        rw [if_neg (by omega)]
    · rw [if_neg c3]
      by_cases c5 : m - i + (m + (j - i) - m) ≤ k ∧ k < m + (j - i)
      · rw [if_pos c5, if_pos (by omega)]; congr 1; omega
      · exfalso; omega
  · rw [if_neg c1]
    by_cases c2 : m - i + (m + j - m) ≤ k ∧ k < m + j
    · rw [if_pos c2, if_neg (by omega), if_neg (by omega), if_neg (by omega), if_pos (by omega)]; congr 1; omega
    · rw [if_neg c2, if_neg (by omega), if_neg (by omega), if_neg (by omega), if_neg (by omega)]
theorem rot_same (m i : Nat) (d : Nat → Nat) (h : i ≤ m) : swr (m - i) m i d = rot (m - i) m (m + i) d := by
  funext k
  unfold rot swr
  by_cases c1 : m - i ≤ k ∧ k < m - i + (m + i - m)
  · rw [if_pos c1, if_pos (by omega)]; congr 1; omega
  · rw [if_neg c1, if_neg (by omega)]
    by_cases c2 : m - i + (m + i - m) ≤ k ∧ k < m + i
    · rw [if_pos c2, if_pos (by omega)]; congr 1; omega
    · rw [if_neg c2, if_neg (by omega)]

/-- an order in which a comparison tells of a greater number whether it stands ahead of a smaller one -/
structure Ord (cf : Nat → Nat → Int) (lt : Nat → Nat → Prop) : Prop where
  cmp : ∀ x y, y < x → (cf x y < 0 ↔ lt x y)
  tot : ∀ x y, x ≠ y → lt x y ∨ lt y x
  trans : ∀ x y z, lt x y → lt y z → lt x z
  irr : ∀ x, ¬ lt x x
def Srt (lt : Nat → Nat → Prop) (a b : Nat) (d : Nat → Nat) : Prop := ∀ i j, a ≤ i → i < j → j < b → lt (d i) (d j)
section
variable {cf : Nat → Nat → Int} {lt : Nat → Nat → Prop}
theorem Ord.no (O : Ord cf lt) {x y : Nat} (h : y < x) (hc : ¬ cf x y < 0) : lt y x := by
  rcases O.tot x y (by omega) with h1 | h1
  · exact absurd ((O.cmp x y h).2 h1) hc
  · exact h1
theorem Srt.sub {a b a' b' : Nat} {d : Nat → Nat} (h : Srt lt a b d) (ha : a ≤ a') (hb : b' ≤ b) : Srt lt a' b' d := fun i j h1 h2 h3 => h i j (by omega) h2 (by omega)
theorem Srt.eq {a b : Nat} {d d1 : Nat → Nat} (h : Srt lt a b d) (he : ∀ i, a ≤ i → i < b → d1 i = d i) : Srt lt a b d1 := fun i j h1 h2 h3 => by
  rw [he i h1 (by omega), he j (by omega) h3]; exact h i j h1 h2 h3
/-- all of the one part stand ahead of all of the other -/
def Ahead (lt : Nat → Nat → Prop) (a m b : Nat) (d : Nat → Nat) : Prop := ∀ i j, a ≤ i → i < m → m ≤ j → j < b → lt (d i) (d j)
theorem srt_join {a m b : Nat} {d : Nat → Nat} (h1 : Srt lt a m d) (h2 : Srt lt m b d) (h3 : Ahead lt a m b d) : Srt lt a b d := fun i j hi hij hj => by
  by_cases c : j < m
  · exact h1 i j hi hij c
  · by_cases c2 : m ≤ i
    · exact h2 i j c2 hij hj
    · exact h3 i j hi (by omega) (by omega) hj
theorem Ahead.left {a m b : Nat} {d d1 : Nat → Nat} (h : Ahead lt a m b d) (hm : Moved a m d d1) : Ahead lt a m b d1 := fun i j h1 h2 h3 h4 => by
  rw [hm.out (i := j) (by omega)]
  exact hm.all (p := fun x => lt x (d j)) (fun k h5 h6 => h k j h5 h6 h3 h4) i h1 h2
theorem Ahead.right {a m b : Nat} {d d1 : Nat → Nat} (h : Ahead lt a m b d) (hm : Moved m b d d1) : Ahead lt a m b d1 := fun i j h1 h2 h3 h4 => by
  rw [hm.out (i := i) (by omega)]
  exact hm.all (p := fun x => lt (d i) x) (fun k h5 h6 => h i k h1 h2 h5 h6) j h3 h4
/-- the numbers of the one part are below those of the other: what a merge asks -/
def Less (a m b : Nat) (d : Nat → Nat) : Prop := ∀ i j, a ≤ i → i < m → m ≤ j → j < b → d i < d j

/-- the middle step of a merge -/
theorem merge_split (O : Ord cf lt) {a m b s e q : Nat} {d : Nat → Nat} (h1 : Srt lt a m d) (h2 : Srt lt m b d) (hl : Less a m b d) (ha : a ≤ s) (hs : s ≤ m) (hm : m ≤ e) (he : e ≤ b) (hq : q + m = s + e)
    (g1 : a < s → e < b → ¬ cf (d e) (d (s - 1)) < 0) (g2 : s < m → m < e → cf (d (e - 1)) (d s) < 0) :
    (Srt lt a s (rot s m e d) ∧ Srt lt s q (rot s m e d) ∧ Less a s q (rot s m e d)) ∧ (Srt lt q e (rot s m e d) ∧ Srt lt e b (rot s m e d) ∧ Less q e b (rot s m e d)) ∧ Ahead lt a q b (rot s m e d) := by
  have r1 : ∀ k, k < s → rot s m e d k = d k := fun k hk => by unfold rot; rw [if_neg (by omega), if_neg (by omega)]
  have r2 : ∀ k, s ≤ k → k < q → rot s m e d k = d (k + (m - s)) := fun k hk hk2 => by unfold rot; rw [if_pos (by omega)]
  have r3 : ∀ k, q ≤ k → k < e → rot s m e d k = d (k - (e - m)) := fun k hk hk2 => by unfold rot; rw [if_neg (by omega), if_pos (by omega)]
  have r4 : ∀ k, e ≤ k → rot s m e d k = d k := fun k hk => by unfold rot; rw [if_neg (by omega), if_neg (by omega)]
  -- the four parts, as they lay
  have A1 : ∀ i j, a ≤ i → i < s → e ≤ j → j < b → lt (d i) (d j) := fun i j c1 c2 c3 c4 => by
    have k1 : lt (d (s - 1)) (d e) := O.no (hl (s - 1) e (by omega) (by omega) (by omega) (by omega)) (g1 (by omega) (by omega))
    have k2 : lt (d i) (d e) := by
      by_cases c : i = s - 1
      · rw [c]; exact k1
      · exact O.trans _ _ _ (h1 i (s - 1) c1 (by omega) (by omega)) k1
    by_cases c : j = e
    · rw [c]; exact k2
    · exact O.trans _ _ _ k2 (h2 e j (by omega) (by omega) c4)
  have A2 : ∀ i j, m ≤ i → i < e → s ≤ j → j < m → lt (d i) (d j) := fun i j c1 c2 c3 c4 => by
    have k1 : lt (d (e - 1)) (d s) := (O.cmp _ _ (hl s (e - 1) (by omega) (by omega) (by omega) (by omega))).1 (g2 (by omega) (by omega))
    have k2 : lt (d i) (d s) := by
      by_cases c : i = e - 1
      · rw [c]; exact k1
      · exact O.trans _ _ _ (h2 i (e - 1) c1 (by omega) (by omega)) k1
    by_cases c : j = s
    · rw [c]; exact k2
    · exact O.trans _ _ _ k2 (h1 s j (by omega) (by omega) c4)
  refine ⟨⟨?_, ?_, ?_⟩, ⟨?_, ?_, ?_⟩, ?_⟩
  · intro i j c1 c2 c3
    rw [r1 i (by omega), r1 j c3]; exact h1 i j c1 c2 (by omega)
  · intro i j c1 c2 c3
    rw [r2 i c1 (by omega), r2 j (by omega) c3]; exact h2 _ _ (by omega) (by omega) (by omega)
  · intro i j c1 c2 c3 c4
    rw [r1 i c2, r2 j c3 c4]; exact hl _ _ c1 (by omega) (by omega) (by omega)
  · intro i j c1 c2 c3
    rw [r3 i c1 (by omega), r3 j (by omega) c3]; exact h1 _ _ (by omega) (by omega) (by omega)
  · intro i j c1 c2 c3
    rw [r4 i c1, r4 j (by omega)]; exact h2 _ _ (by omega) c2 c3
  · intro i j c1 c2 c3 c4
    rw [r3 i c1 c2, r4 j c3]; exact hl _ _ (by omega) (by omega) (by omega) c4
  · intro i j c1 c2 c3 c4
    by_cases x1 : i < s
    · rw [r1 i x1]
      by_cases x2 : j < e
      · rw [r3 j c3 x2]; exact h1 _ _ c1 (by omega) (by omega)
      · rw [r4 j (by omega)]; exact A1 i j c1 x1 (by omega) c4
    · rw [r2 i (by omega) c2]
      by_cases x2 : j < e
      · rw [r3 j c3 x2]; exact A2 _ _ (by omega) (by omega) (by omega) (by omega)
      · rw [r4 j (by omega)]; exact h2 _ _ (by omega) (by omega) c4

/-- both parts of a merge are merged -/
theorem merge_fin {a q b : Nat} {d d1 d2 d3 : Nat → Nat} (hq : a ≤ q) (hb : q ≤ b) (A : Ahead lt a q b d1) (m0 : Moved a b d d1) (m1 : Moved a q d1 d2) (s1 : Srt lt a q d2) (m2 : Moved q b d2 d3) (s2 : Srt lt q b d3) : Moved a b d d3 ∧ Srt lt a b d3 :=
  ⟨m0.trans ((m1.mono (Nat.le_refl _) hb).trans (m2.mono hq (Nat.le_refl _))), srt_join (s1.eq fun i _ h => m2.out (by omega)) s2 ((A.left m1).right m2)⟩
theorem Less.eq {a m b : Nat} {d d1 : Nat → Nat} (h : Less a m b d) (he : ∀ i, a ≤ i → i < b → d1 i = d i) : Less a m b d1 := fun i j h1 h2 h3 h4 => by
  rw [he i h1 (by omega), he j (by omega) h4]; exact h i j h1 h2 h3 h4

/-- the first of all is put behind those that stand ahead of it -/
theorem merge_first (O : Ord cf lt) {a b i : Nat} {d : Nat → Nat} (h2 : Srt lt (a + 1) b d) (hl : Less a (a + 1) b d) (hi : a + 1 ≤ i) (hb : i ≤ b)
    (g1 : a + 1 < i → cf (d (i - 1)) (d a) < 0) (g2 : i < b → ¬ cf (d i) (d a) < 0) : Srt lt a b (rot a (a + 1) i d) := by
  have k1 : ∀ j, a + 1 ≤ j → j < i → lt (d j) (d a) := fun j c1 c2 => by
    have k : lt (d (i - 1)) (d a) := (O.cmp _ _ (hl a (i - 1) (by omega) (by omega) (by omega) (by omega))).1 (g1 (by omega))
    by_cases c : j = i - 1
    · rw [c]; exact k
    · exact O.trans _ _ _ (h2 j (i - 1) c1 (by omega) (by omega)) k
  have k2 : ∀ j, i ≤ j → j < b → lt (d a) (d j) := fun j c1 c2 => by
    have k : lt (d a) (d i) := O.no (hl a i (by omega) (by omega) (by omega) (by omega)) (g2 (by omega))
    by_cases c : j = i
    · rw [c]; exact k
    · exact O.trans _ _ _ k (h2 i j (by omega) (by omega) c2)
  have r2 : ∀ k, a ≤ k → k < i - 1 → rot a (a + 1) i d k = d (k + 1) := fun k hk hk2 => by unfold rot; rw [if_pos (by omega)]; congr 1; omega
  have r3 : rot a (a + 1) i d (i - 1) = d a := by unfold rot; rw [if_neg (by omega), if_pos (by omega)]; congr 1; omega
  have r4 : ∀ k, i ≤ k → rot a (a + 1) i d k = d k := fun k hk => by unfold rot; rw [if_neg (by omega), if_neg (by omega)]
  intro x y c1 c2 c3
  by_cases x1 : x < i - 1
  · rw [r2 x c1 x1]
    by_cases y1 : y < i - 1
    · rw [r2 y (by omega) y1]; exact h2 _ _ (by omega) (by omega) (by omega)
    · by_cases y2 : y = i - 1
      · rw [y2, r3]; exact k1 _ (by omega) (by omega)
      · rw [r4 y (by omega)]; exact h2 _ _ (by omega) (by omega) c3
  · by_cases x2 : x = i - 1
    · rw [x2, r3, r4 y (by omega)]; exact k2 y (by omega) c3
    · rw [r4 x (by omega), r4 y (by omega)]; exact h2 _ _ (by omega) c2 c3

/-- the last of all is put ahead of those that it stands ahead of -/
theorem merge_last (O : Ord cf lt) {a m i : Nat} {d : Nat → Nat} (h1 : Srt lt a m d) (hl : Less a m (m + 1) d) (hi : a ≤ i) (hm : i ≤ m)
    (g1 : a < i → ¬ cf (d m) (d (i - 1)) < 0) (g2 : i < m → cf (d m) (d i) < 0) : Srt lt a (m + 1) (rot i m (m + 1) d) := by
  have k1 : ∀ j, a ≤ j → j < i → lt (d j) (d m) := fun j c1 c2 => by
    have k : lt (d (i - 1)) (d m) := O.no (hl (i - 1) m (by omega) (by omega) (by omega) (by omega)) (g1 (by omega))
    by_cases c : j = i - 1
    · rw [c]; exact k
    · exact O.trans _ _ _ (h1 j (i - 1) c1 (by omega) (by omega)) k
  have k2 : ∀ j, i ≤ j → j < m → lt (d m) (d j) := fun j c1 c2 => by
    have k : lt (d m) (d i) := (O.cmp _ _ (hl i m (by omega) (by omega) (by omega) (by omega))).1 (g2 (by omega))
    by_cases c : j = i
    · rw [c]; exact k
    · exact O.trans _ _ _ k (h1 i j (by omega) (by omega) c2)
  have r1 : ∀ k, k < i → rot i m (m + 1) d k = d k := fun k hk => by unfold rot; rw [if_neg (by omega), if_neg (by omega)]
  have r2 : rot i m (m + 1) d i = d m := by unfold rot; rw [if_pos (by omega)]; congr 1; omega
  have r3 : ∀ k, i < k → k ≤ m → rot i m (m + 1) d k = d (k - 1) := fun k hk hk2 => by unfold rot; rw [if_neg (by omega), if_pos (by omega)]; congr 1; omega
  intro x y c1 c2 c3
  by_cases y1 : y < i
  · rw [r1 y y1, r1 x (by omega)]; exact h1 _ _ c1 c2 (by omega)
  · by_cases y2 : y = i
    · rw [y2, r2, r1 x (by omega)]; exact k1 x c1 (by omega)
    · rw [r3 y (by omega) (by omega)]
      by_cases x1 : x < i
      · rw [r1 x x1]; exact h1 _ _ c1 (by omega) (by omega)
      · by_cases x2 : x = i
        · rw [x2, r2]; exact k2 _ (by omega) (by omega)
        · rw [r3 x (by omega) (by omega)]; exact h1 _ _ (by omega) (by omega) (by omega)

/-- an exchange of neighbours carries the first one on -/
theorem rot_up {a k : Nat} (d : Nat → Nat) (h : a ≤ k) : swp (rot a (a + 1) (k + 1) d) k (k + 1) = rot a (a + 1) (k + 2) d := by
  funext x
  unfold swp rot
  by_cases e1 : x = k
  · subst e1
    rw [if_pos rfl, if_neg (by omega), if_neg (by omega), if_pos (by omega)]; congr 1; omega
  · by_cases e2 : x = k + 1
    · subst e2
      rw [if_neg (by omega), if_pos rfl, if_neg (by omega), if_pos (by omega), if_neg (by omega), if_pos (by omega)]; congr 1; omega
    · rw [if_neg e1, if_neg e2]
      by_cases e3 : a ≤ x ∧ x < a + (k + 1 - (a + 1))
      · rw [if_pos e3, if_pos (by omega)]
      · rw [if_neg e3, if_neg (by omega), if_neg (by omega), if_neg (by omega)]
theorem rot_down {m k : Nat} (d : Nat → Nat) (h : k < m) : swp (rot (k + 1) m (m + 1) d) (k + 1) k = rot k m (m + 1) d := by
  funext x
  unfold swp rot
  by_cases e1 : x = k + 1
  · subst e1
    rw [if_pos rfl, if_neg (by omega), if_neg (by omega), if_neg (by omega), if_pos (by omega)]; congr 1; omega
  · by_cases e2 : x = k
    · subst e2
      rw [if_neg e1, if_pos rfl, if_pos (by omega), if_pos (by omega)]; congr 1; omega
    · rw [if_neg e1, if_neg e2]
      by_cases e3 : k + 1 + (m + 1 - m) ≤ x ∧ x < m + 1
      · rw [if_neg (by omega), if_pos e3, if_neg (by omega), if_pos (by omega)]
      · rw [if_neg (by omega), if_neg e3, if_neg (by omega), if_neg (by omega)]

/-- what the inner loop of an insertion keeps: all stand in order but for what stands at j -/
def Ins (lt : Nat → Nat → Prop) (a i j : Nat) (d : Nat → Nat) : Prop := ∀ k l, a ≤ k → k < l → l ≤ i → l ≠ j → lt (d k) (d l)
theorem Ins.start {a i : Nat} {d : Nat → Nat} (h : Srt lt a i d) : Ins lt a i i d := fun k l h1 h2 h3 h4 => h k l h1 h2 (by omega)
theorem Ins.stop (O : Ord cf lt) {a i j : Nat} {d : Nat → Nat} (h : Ins lt a i j d) (hj : j ≤ i) (hs : j = a ∨ lt (d (j - 1)) (d j)) : Srt lt a (i + 1) d := fun k l h1 h2 h3 => by
  by_cases e : l = j
  · subst e
    rcases hs with hs | hs
    · omega
    · by_cases e2 : k = l - 1
      · rw [e2]; exact hs
      · exact O.trans _ _ _ (h k (l - 1) h1 (by omega) (by omega) (by omega)) hs
  · exact h k l h1 h2 (by omega) e
theorem Ins.go {a i j : Nat} {d : Nat → Nat} (h : Ins lt a i (j + 1) d) (ha : a ≤ j) (hj : j + 1 ≤ i) (hlt : lt (d (j + 1)) (d j)) : Ins lt a i j (swp d (j + 1) j) := fun k l h1 h2 h3 h4 => by
  unfold swp
  by_cases e1 : l = j + 1
  · subst e1
    rw [if_pos (by rfl : j + 1 = j + 1)]
    by_cases e2 : k = j
    · rw [if_neg (by omega), if_pos e2]; exact hlt
    · rw [if_neg (by omega), if_neg e2]; exact h k j h1 (by omega) (by omega) (by omega)
  · rw [if_neg e1, if_neg h4]
    by_cases e2 : k = j + 1
    · rw [if_pos e2]; exact h j l (by omega) (by omega) h3 (by omega)
    · rw [if_neg e2]
      by_cases e3 : k = j
      · rw [if_pos e3]; exact h (j + 1) l (by omega) (by omega) h3 (by omega)
      · rw [if_neg e3]; exact h k l h1 h2 h3 e1
/-- the same, and what it is that stands at j -/
structure InsI (lt : Nat → Nat → Prop) (a i j : Nat) (d dj : Nat → Nat) : Prop where
  mv : Moved a (i + 1) d dj
  ins : Ins lt a i j dj
  here : dj j = d i
  lo : ∀ k, a ≤ k → k ≤ i → k ≠ j → dj k < d i
theorem InsI.start {a b i : Nat} {d dk : Nat → Nat} (hinc : ∀ i j, a ≤ i → i < j → j < b → d i < d j) (hi : i < b) (h : Moved a i d dk) (hs : Srt lt a i dk) : InsI lt a i i d dk :=
  ⟨h.mono (Nat.le_refl _) (by omega), Ins.start hs, h.out (by omega), fun k h1 h2 h3 => h.all (p := fun x => x < d i) (fun l h4 h5 => hinc l i h4 h5 hi) k h1 (by omega)⟩
theorem InsI.go (O : Ord cf lt) {a i j : Nat} {d dj : Nat → Nat} (h : InsI lt a i (j + 1) d dj) (ha : a ≤ j) (hj : j + 1 ≤ i) (hc : cf (dj (j + 1)) (dj j) < 0) : InsI lt a i j d (swp dj (j + 1) j) := by
  have l1 : dj j < dj (j + 1) := by rw [h.here]; exact h.lo j ha (by omega) (by omega)
  refine ⟨h.mv.trans (swp_moved _ (by omega) (by omega) (by omega) (by omega)), h.ins.go ha hj ((O.cmp _ _ l1).1 hc), ?_, fun k h1 h2 h3 => ?_⟩
  · unfold swp; rw [if_neg (by omega), if_pos rfl]; exact h.here
  · unfold swp
    by_cases e : k = j + 1
    · rw [if_pos e]; exact h.lo j ha (by omega) (by omega)
    · rw [if_neg e, if_neg h3]; exact h.lo k h1 h2 e
theorem InsI.stop (O : Ord cf lt) {a i j : Nat} {d dj : Nat → Nat} (h : InsI lt a i j d dj) (ha : a ≤ j) (hj : j ≤ i) (hs : j = a ∨ ¬ cf (dj j) (dj (j - 1)) < 0) : Srt lt a (i + 1) dj := by
  refine h.ins.stop O hj ?_
  by_cases e : j = a
  · exact .inl e
  · refine .inr (O.no ?_ (hs.resolve_left e))
    rw [h.here]; exact h.lo (j - 1) (by omega) (by omega) (by omega)
end

end Go.Proofs.Ytllpglanpfjcnaa.SortM
