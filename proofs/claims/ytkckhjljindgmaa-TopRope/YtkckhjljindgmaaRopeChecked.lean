/-
  Package rope: what check answers, whole.
-/
import Derived.Test.YtkckhjljindgmaaRopeCheck
namespace Go.Proofs.Ytkckhjljindgmaa.RopeC
open Go.RowKit Kit RopeM

/-- an operation without an error has what it uses -/
theorem code_zero {o : OpM} {ts : Tx} (h : code o ts = 0) : (o.kind = 2 ∨ o.kind = 3 ∨ o.kind = 4 ∨ o.kind = 5 → has o.a ts.length = true) ∧ (o.kind = 2 → has o.b ts.length = true) ∧ inR o ts = true := by
  unfold code at h
  split at h
  · omega
  · split at h
    · omega
    · split at h
      · omega
      · split at h
        · omega
        · rename_i h1 h2 h3 h4
          refine ⟨fun hk => ?_, fun hk => ?_, by simpa using h4⟩
          · cases hh : has o.a ts.length
            · exact absurd ⟨by omega, hh⟩ h2
            · rfl
          · cases hh : has o.b ts.length
            · exact absurd ⟨hk, hh⟩ h3
            · rfl

theorem check (o : OpM) (p : Option Addr) (cap : Nat) (ts : List RT) (w : World) (hts : Ropes w p ts) (hf : Fine (txts ts)) :
    Calls Try.prog 51 #[o.val, .slice p ts.length cap] w fun e w' => e = .returned (.int .i64 (code o (txts ts))) ∧ Below w.heap.size w w' := by
  have R : (o.kind = 3 ∨ o.kind = 4 → has o.a ts.length = true) → ∀ W : World, Below w.heap.size w W → Calls Try.prog 64 #[o.val, .slice p ts.length cap] W fun e w' => e = .returned (.bool (inR o (txts ts))) ∧ Below W.heap.size W w' :=
    fun h W hW => inRange o p cap ts W (hts.next hW) h
  have N : (o.kind = 2 ∨ o.kind = 3 ∨ o.kind = 4 ∨ o.kind = 5 → has o.a ts.length = true) → (o.kind = 2 → has o.b ts.length = true) → inR o (txts ts) = true → ∀ W : World, Below w.heap.size w W → Calls Try.prog 65 #[o.val, .slice p ts.length cap] W fun e w' => e = .returned (.int .i64 ((newT o (txts ts)).length : Int)) ∧ Below W.heap.size W w' :=
    fun h1 h2 h3 W hW => newLength o p cap ts W (hts.next hW) hf h1 h2 h3
  unfold code
  rw [txts_length]
  generalize inR o (txts ts) = r at *
  generalize (newT o (txts ts)).length = m at *
  obtain ⟨k, s, a, b, at_, cnt⟩ := o
  unfold OpM.val OpM.cells at *
  simp only at R N ⊢
  by_cases hk : k < 1 ∨ 5 < k
  · rw [if_pos hk]
    rcases hk with hk | hk
    · exact check_low k s a b at_ cnt p _ cap w hk
    · exact check_high k s a b at_ cnt p _ cap w hk
  · rw [if_neg hk]
    by_cases hA : k ≠ 1 ∧ has a ts.length = false
    · rw [if_pos hA]
      exact check_noA k s a b at_ cnt p _ cap w (by omega) (by omega) hA.2
    · rw [if_neg hA]
      have ha : k = 2 ∨ k = 3 ∨ k = 4 ∨ k = 5 → has a ts.length = true := by
        intro hk2
        cases hh : has a ts.length
        · exact absurd ⟨by omega, hh⟩ hA
        · rfl
      by_cases hB : k = 2 ∧ has b ts.length = false
      · rw [if_pos hB]
        obtain ⟨rfl, hB⟩ := hB
        exact check_noB s a b at_ cnt p _ cap w (ha (by omega)) hB
      · rw [if_neg hB]
        have hb : k = 2 → has b ts.length = true := by
          intro hk2
          cases hh : has b ts.length
          · exact absurd ⟨hk2, hh⟩ hB
          · rfl
        have R' := R (fun h => ha (by omega))
        have N' := N ha hb
        clear R N
        cases r with
        | false =>
          rw [if_pos rfl]
          by_cases h1 : k = 1
          · subst h1; exact check_text_range s a b at_ cnt p _ cap w (Lib.hid R')
          · by_cases h2 : k = 2
            · subst h2; exact check_cat_range s a b at_ cnt p _ cap w (ha (by omega)) (hb rfl) (Lib.hid R')
            · exact check_more_range k s a b at_ cnt p _ cap w (by omega) (by omega) (ha (by omega)) (Lib.hid R')
        | true =>
          have N2 := N' rfl
          rw [if_neg (by simp)]
          by_cases h60 : 60 ≤ ts.length
          · rw [if_pos h60]
            by_cases h1 : k = 1
            · subst h1; exact check_text_full s a b at_ cnt p _ cap w h60 (Lib.hid R')
            · by_cases h2 : k = 2
              · subst h2; exact check_cat_full s a b at_ cnt p _ cap w (ha (by omega)) (hb rfl) h60 (Lib.hid R')
              · exact check_more_full k s a b at_ cnt p _ cap w (by omega) (by omega) (ha (by omega)) h60 (Lib.hid R')
          · rw [if_neg h60]
            by_cases h600 : 600 < m
            · rw [if_pos h600]
              by_cases h1 : k = 1
              · subst h1; exact check_text_size s a b at_ cnt p _ cap w (by omega) m h600 (Lib.hid R') (Lib.hid N2)
              · by_cases h2 : k = 2
                · subst h2; exact check_cat_size s a b at_ cnt p _ cap w (ha (by omega)) (hb rfl) (by omega) m h600 (Lib.hid R') (Lib.hid N2)
                · exact check_more_size k s a b at_ cnt p _ cap w (by omega) (by omega) (ha (by omega)) (by omega) m h600 (Lib.hid R') (Lib.hid N2)
            · rw [if_neg h600]
              by_cases h1 : k = 1
              · subst h1; exact check_text_ok s a b at_ cnt p _ cap w (by omega) m (by omega) (Lib.hid R') (Lib.hid N2)
              · by_cases h2 : k = 2
                · subst h2; exact check_cat_ok s a b at_ cnt p _ cap w (ha (by omega)) (hb rfl) (by omega) m (by omega) (Lib.hid R') (Lib.hid N2)
                · exact check_more_ok k s a b at_ cnt p _ cap w (by omega) (by omega) (ha (by omega)) (by omega) m (by omega) (Lib.hid R') (Lib.hid N2)

end Go.Proofs.Ytkckhjljindgmaa.RopeC
