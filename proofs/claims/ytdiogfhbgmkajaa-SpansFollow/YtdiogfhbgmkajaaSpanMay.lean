/-
  Package spans: what May answers.
-/
import Derived.Test.YtdiogfhbgmkajaaSpanSmall
namespace Go.Proofs.Ytdiogfhbgmkajaa.SpanM
/-- a first part p of a set has been looked at; what comes behind begins no earlier than b -/
structure Scan (n : Int) (p : List SpM) (b : Int) : Prop where
  rng : ∀ s ∈ p, 0 ≤ s.lo ∧ s.lo < s.hi ∧ s.hi ≤ n
  gap : p.Pairwise fun a b => a.hi < b.lo
  hi : ∀ s ∈ p, s.hi < b
  lo : 0 ≤ b
  le : b ≤ n + 1
  or_ : (p = [] ∧ b = 0) ∨ ∃ q x, p = q ++ [x] ∧ b = x.hi + 1
theorem Scan.nil {n : Int} (h : 0 ≤ n) : Scan n [] 0 := ⟨by simp, .nil, by simp, by omega, by omega, .inl ⟨rfl, rfl⟩⟩
theorem Scan.next {n b : Int} {p : List SpM} {s : SpM} (h : Scan n p b) (h1 : b ≤ s.lo) (h2 : s.lo < s.hi) (h3 : s.hi ≤ n) : Scan n (p ++ [s]) (s.hi + 1) := by
  have h0 := h.lo
  refine ⟨fun x hx => ?_, ?_, fun x hx => ?_, by omega, by omega, .inr ⟨p, s, rfl, rfl⟩⟩
  · rcases List.mem_append.1 hx with q | q
    · exact h.rng x q
    · simp at q; subst q; omega
  · rw [List.pairwise_append]
    exact ⟨h.gap, by simp, fun x hx y hy => by simp at hy; subst hy; have := h.hi x hx; omega⟩
  · rcases List.mem_append.1 hx with q | q
    · have := h.hi x q; omega
    · simp at q; subst q; omega
theorem Scan.bad {n b : Int} {p : List SpM} {s : SpM} {l : List SpM} (h : Scan n p b) (hp : ∀ x ∈ p ++ [s], x ∈ l) (hg : l.Pairwise (fun a b => a.hi < b.lo) → ∀ x ∈ p, x.hi < s.lo) (hb : s.lo < b ∨ s.hi ≤ s.lo ∨ n < s.hi) : ¬ Valid n l := by
  intro hv
  have hs := hv.rng s (hp s (by simp))
  rcases hb with hb | hb | hb
  · rcases h.or_ with ⟨_, rfl⟩ | ⟨q, x, rfl, rfl⟩
    · omega
    · have := hg hv.gap x (by simp); omega
  · omega
  · omega
theorem gap_at {l : List SpM} {k : Nat} {s : SpM} (h : l[k]? = some s) (hg : l.Pairwise (fun a b => a.hi < b.lo)) : ∀ x ∈ l.take k, x.hi < s.lo := by
  intro x hx
  obtain ⟨i, hi, rfl⟩ := List.getElem_of_mem hx
  have hk := (List.getElem?_eq_some_iff.1 h).1
  have e := (List.getElem?_eq_some_iff.1 h).2
  simp only [List.length_take] at hi
  have := List.pairwise_iff_getElem.1 hg i k (by omega) hk (by omega)
  rw [e] at this
  simpa using this
theorem Scan.badAt {n b : Int} {k : Nat} {s : SpM} {l : List SpM} (h : Scan n (l.take k) b) (hk : l[k]? = some s) (hb : s.lo < b ∨ s.hi ≤ s.lo ∨ n < s.hi) : ¬ Valid n l := by
  refine h.bad (s := s) (fun x hx => ?_) (gap_at hk) hb
  rcases List.mem_append.1 hx with q | q
  · exact List.mem_of_mem_take q
  · simp at q; subst q; exact List.mem_of_getElem? hk
theorem Scan.all {n b : Int} {l : List SpM} (h : Scan n l b) (h0 : 0 ≤ n) (h1 : n ≤ 600) (h2 : l.length ≤ 40) : Valid n l := ⟨h0, h1, h2, h.rng, h.gap⟩
open Classical in
noncomputable def mayB (n : Int) (l : List SpM) : Bool := decide (Valid n l)
theorem mayB_yes {n : Int} {l : List SpM} (h : Valid n l) : mayB n l = true := by unfold mayB; exact @decide_eq_true _ (_) h
theorem mayB_no {n : Int} {l : List SpM} (h : ¬ Valid n l) : mayB n l = false := by unfold mayB; exact @decide_eq_false _ (_) h
end Go.Proofs.Ytdiogfhbgmkajaa.SpanM
namespace Go.Proofs.Ytdiogfhbgmkajaa.SpanC
open Go.RowKit Kit SpanM

set_option maxRecDepth 100000 in
set_option maxHeartbeats 2000000 in
theorem may (n : Int) (l : List SpM) (al : Option Addr) (cap : Nat) (w : World) (hl : SpsAt w al l) (hmx : l.length ≤ 9223372036854775807) :
    Calls Try.prog 15 #[.int .i64 n, .slice al l.length cap] w fun e w' => e = .returned (.bool (mayB n l)) ∧ Below w.heap.size w w' := by
  by_cases h1 : n < 0
  · have E : Hid (mayB n l = false) := Lib.hid (mayB_no fun h => by have := h.n0; omega)
    rw [E.out]
    clear hl
    generalize l.length = N at *
    go_enter Try.func15, Try.ntmps15
    go_wp2
    go_ret
    exact ⟨rfl, Below.refl _ _⟩
  by_cases h2 : 600 < n
  · have E : Hid (mayB n l = false) := Lib.hid (mayB_no fun h => by have := h.n1; omega)
    rw [E.out]
    clear hl
    generalize l.length = N at *
    go_enter Try.func15, Try.ntmps15
    go_wp2
    go_ret
    exact ⟨rfl, Below.refl _ _⟩
  by_cases h3 : 40 < l.length
  · have E : Hid (mayB n l = false) := Lib.hid (mayB_no fun h => by have := h.len; omega)
    rw [E.out]
    clear hl
    generalize l.length = N at *
    have g : (40 : Int) < (N : Int) := by omega
    go_enter Try.func15, Try.ntmps15
    go_wp2
    go_ret
    exact ⟨rfl, Below.refl _ _⟩
  have HL := Lib.hid hl
  obtain ⟨N, hN⟩ : ∃ N, N = l.length := ⟨_, rfl⟩
  have HN := Lib.hid hN
  rw [← hN] at h3 ⊢
  have g : ¬ (40 : Int) < (N : Int) := by omega
  clear hl hN hmx
  go_enter Try.func15, Try.ntmps15
  go_wp2_with fail
  go_loopw [5, 21] (fun vb vi wr => ∃ (k : Nat) (b : Int), k ≤ N ∧ vi = .int .i64 (k : Int) ∧ vb = .int .i64 b ∧ Hid (Scan n (l.take k) b ∧ Below w.heap.size w wr)) (fun _ vi _ => N - (intOf vi).toNat)
  case atStart => exact ⟨0, 0, by omega, rfl, rfl, Lib.hid ⟨Scan.nil (by omega), Below.refl _ _⟩⟩
  case round =>
    obtain ⟨k, b, hk, rfl, rfl, HK⟩ := hrel
    by_cases hlt : k < N
    · obtain ⟨s, hs⟩ : ∃ s, l[k]? = some s := ⟨l[k]'(by have := HN.out; omega), by simp [← HN.out, hlt]⟩
      obtain ⟨g', off, rfl, hg', c0, c1⟩ := SpsAt.get (HL.out.next HK.out.2) hs
      have i1 : (k : Int) < (N : Int) := by omega
      have i2 : (0 : Int) ≤ (k : Int) := by omega
      have hb0 := HK.out.1.lo
      have NX := Lib.hid (fun h1 h2 h3 => by have := HK.out.1.next (s := s) h1 h2 h3; rw [← take_next hs] at this; exact this)
      have BD := Lib.hid (fun h => mayB_no (HK.out.1.badAt hs h))
      have BW := Lib.hid (balloc HK.out.2 (.cells #[.int .i64 s.lo, .int .i64 s.hi] 25))
      clear HK hs
      obtain ⟨lo, hi⟩ := s
      dsimp only at *
      by_cases q1 : lo < b
      · have E := Lib.hid (BD.out (.inl q1))
        go_wp2_with fail
        go_ret
        exact ⟨ret_bool E.out.symm, BW.out⟩
      by_cases q2 : hi ≤ lo
      · have E := Lib.hid (BD.out (.inr (.inl q2)))
        go_wp2_with fail
        go_ret
        exact ⟨ret_bool E.out.symm, BW.out⟩
      by_cases q3 : n < hi
      · have E := Lib.hid (BD.out (.inr (.inr q3)))
        go_wp2_with fail
        go_ret
        exact ⟨ret_bool E.out.symm, BW.out⟩
      have E := Lib.hid (NX.out (by omega) (by omega) (by omega))
      clear NX BD
      go_wp2_with fail
      go_roundw
      case rel => exact ⟨k + 1, hi + 1, by omega, by go_num, by first | rfl | go_num, Lib.hid ⟨E.out, BW.out⟩⟩
      case measure => simp [intOf]; omega
    · obtain rfl : k = N := by omega
      have E : Hid (mayB n l = true) := Lib.hid (mayB_yes (by
        have := HK.out.1
        rw [HN.out, List.take_length] at this
        exact this.all (by omega) (by omega) (by have := HN.out; omega)))
      go_wp2_with fail
      go_ret
      exact ⟨ret_bool E.out.symm, HK.out.2⟩
end Go.Proofs.Ytdiogfhbgmkajaa.SpanC
