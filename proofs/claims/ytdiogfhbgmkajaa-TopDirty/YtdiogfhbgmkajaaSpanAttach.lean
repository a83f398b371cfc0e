/-
  Package spans: what attach answers, and what stays as it was.
-/
import Derived.Test.YtdiogfhbgmkajaaSpanSmall
import Derived.Deep.AppendLies
import Derived.Maps.AppendAt
namespace Go.Proofs.Ytdiogfhbgmkajaa.SpanM
open Go.RowKit Kit
/-- a block that is not the row's -/
def Far (v : Value) (W : World) (k : Nat) : Prop := k < W.heap.size ∧ v.ownBlock ≠ some k
/-- all blocks but the row's are as they were -/
def Keeps (v : Value) (w : World) (v' : Value) (w' : World) : Prop := ∀ k, Far v w k → Far v' w' k ∧ w'.heap[k]? = w.heap[k]?
theorem Keeps.trans {v v1 v2 : Value} {w w1 w2 : World} (h : Keeps v w v1 w1) (h' : Keeps v1 w1 v2 w2) : Keeps v w v2 w2 := fun k hk => ⟨(h' k (h k hk).1).1, (h' k (h k hk).1).2.trans (h k hk).2⟩
theorem Keeps.below {v : Value} {w w1 : World} (h : Below w.heap.size w w1) : Keeps v w v w1 := fun k hk => ⟨⟨Nat.lt_of_lt_of_le hk.1 h.size, hk.2⟩, h.block k hk.1⟩
theorem Keeps.refl (v : Value) (w : World) : Keeps v w v w := fun _ hk => ⟨hk, rfl⟩
theorem Keeps.b2 {v v1 : Value} {w w1 : World} {k : Nat} {a b : Value} (h : Keeps v w v1 w1) (hk : Far v w k) (hb : B2 k a b w) : B2 k a b w1 := by
  obtain ⟨h1, h2⟩ := h k hk
  obtain ⟨_, c0, c1, f0, f1⟩ := hb
  exact ⟨h1.1, (World.cell?_of_block (a := ⟨k, 0, none⟩) h2).trans c0, (World.cell?_of_block (a := ⟨k, 1, none⟩) h2).trans c1, (World.frozen?_of_block (a := ⟨k, 0, none⟩) h2).trans f0, (World.frozen?_of_block (a := ⟨k, 1, none⟩) h2).trans f1⟩
theorem Keeps.grown {v : Value} {w w1 : World} {g n cap : Nat} (h : w.grownBy w1 v.ownBlock) (hg : v.ownBlock = some g ∨ g = w.heap.size) (_hl : g < w1.heap.size) : Keeps v w (.slice (some ⟨g, 0, none⟩) n cap) w1 := fun k hk => by
  refine ⟨⟨Nat.lt_of_lt_of_le hk.1 h.size, fun e => ?_⟩, h.block k hk.1 (Ne.symm hk.2)⟩
  injection e with e
  subst e
  rcases hg with hg | hg
  · exact hk.2 hg
  · have := hk.1
    have e2 : (⟨g, 0, none⟩ : Addr).block = g := rfl
    rw [e2] at this; omega
end Go.Proofs.Ytdiogfhbgmkajaa.SpanM
namespace Go.Proofs.Ytdiogfhbgmkajaa.SpanC
open Go.RowKit Kit SpanM

def AttPost (w0 : World) (es : List SpM) (v : Value) (w : World) (e : Ending) (w' : World) : Prop := ∃ v', e = .returned v' ∧ SpK w0 es v' w' ∧ Keeps v w v' w'
set_option maxRecDepth 100000 in
set_option maxHeartbeats 4000000 in
theorem attach (w0 : World) (es : List SpM) (v : Value) (s : SpM) (w : World) (h : SpK w0 es v w) (hlen : es.length ≤ 1000) :
    Calls Try.prog 44 #[v, .agg #[.int .i64 s.lo, .int .i64 s.hi]] w (AttPost w0 (att es s) v w) := by
  have EM := Lib.hid (fun W => empty s W)
  by_cases he : Emp s
  · rw [decide_eq_true he] at EM
    have E : Hid (SpK w0 (att es s) v w) := Lib.hid (by rw [att_emp he]; exact h)
    clear he h
    go_enter Try.func44, Try.ntmps44
    go_wp2_with fail
    refine (EM.out _).mono ?_
    rintro e w1 ⟨rfl, hb1⟩
    have B := Lib.hid (bstep (balloc (Below.refl _ _) _) hb1)
    clear hb1
    go_wp2_with fail
    go_ret
    exact ⟨v, rfl, E.out.next B.out, Keeps.below B.out⟩
  rw [decide_eq_false he] at EM
  obtain ⟨i0, hi, hz0, hz1, hz2⟩ := info_parts infoSpan
  have HI := Lib.hid (And.intro hi (And.intro hz0 (And.intro hz1 hz2)))
  clear hi hz0 hz1 hz2
  obtain ⟨N, hN⟩ : ∃ N, N = es.length := ⟨_, rfl⟩
  rw [← hN] at hlen
  have hzw0 := h.bel.size
  rcases snoc_cases es with rfl | ⟨ini, x, rfl⟩
  · have E : Hid (att [] s = [s]) := Lib.hid (att_nil he)
    obtain ⟨a, cap, rfl⟩ := h.slice
    simp at hN; subst hN
    have HK := Lib.hid h
    clear he h
    obtain ⟨lo, hi⟩ := s
    dsimp only at *
    go_enter Try.func44, Try.ntmps44
    go_wp2_with fail
    refine (EM.out _).mono ?_
    rintro e w1 ⟨rfl, hb1⟩
    obtain ⟨bl, b0, b1, _, _⟩ := (B2.new w (.int .i64 lo) (.int .i64 hi) 25).next hb1
    have BB := Lib.hid (bstep (balloc (Below.refl _ _) _) hb1)
    have LN : Hid (([] : List SpM).length = 0) := Lib.hid rfl
    clear hb1 EM
    go_wp2_with fail
    go_quiet (fail)
    obtain ⟨w2, hw2⟩ : ∃ w2, w2 = w1.drewN nq := ⟨_, rfl⟩
    have BW := Lib.hid (bdrewN BB.out nq)
    have c0 : (w1.drewN nq).cell? ⟨w.heap.size, 0, none⟩ = some (.int .i64 lo) := b0
    have c1 : (w1.drewN nq).cell? ⟨w.heap.size, 1, none⟩ = some (.int .i64 hi) := b1
    have bl2 : w.heap.size < (w1.drewN nq).heap.size := bl
    rw [← hw2] at BW c0 c1 bl2 ⊢
    have K2 : Hid (SpK w0 ([]) (.slice a 0 cap) w2) := Lib.hid (HK.out.next BW.out)
    clear hw2 b0 b1 BB bl HK
    have E2 := Lib.hid (K2.out.next (balloc (Below.refl _ _) (.cells #[.int .i64 lo, .int .i64 hi] 25)))
    have KK := Lib.hid (Keeps.below (v := .slice a 0 cap) (balloc BW.out (.cells #[.int .i64 lo, .int .i64 hi] 25)))
    have HNEW := Lib.hid (cell_two_new w2 (.int .i64 lo) (.int .i64 hi) 25)
    have hzz : w0.heap.size ≤ w2.heap.size := K2.out.bel.size
    have HROW : Hid ((w2.alloc (.cells #[.int .i64 lo, .int .i64 hi] 25)).ownsRow w0.heap.size 25 2 (.slice a 0 cap) 0 (flatC SpM.cs ([]))) := Lib.hid (by have := E2.out.row; rw [LN.out] at this; exact this)
    clear K2
    go_wp2_with (at_builtin; refine wpList_append_lies _ rfl _ _ 22 rfl w0.heap.size 25 i0 _ 2 16 Try.underlying22 HI.out.1 HI.out.2.1 HI.out.2.2.1 HI.out.2.2.2 rfl (by decide) (.slice a 0 cap) 0 (flatC SpM.cs ([])) rfl HROW.out ⟨w2.heap.size, 0, none⟩ 1 1 [.int .i64 lo, .int .i64 hi] rfl rfl HNEW.out (by simp [Value.oneCell']) (by omega) (by unfold maxLen; omega) (by omega) (by simp; omega) _ rfl ?_; intro g4 cap4 w4 hown4 hgrow4 hat4 hlt4; have FIN : Hid (SpK w0 (([]) ++ [⟨lo, hi⟩]) (.slice (some ⟨g4, 0, none⟩) (0 + 1) cap4) w4 ∧ Keeps (.slice a 0 cap) w (.slice (some ⟨g4, 0, none⟩) (0 + 1) cap4) w4) := Lib.hid ⟨⟨by rw [flatC_append, flatC_one, List.length_append, LN.out]; exact hown4, bgrow E2.out.bel HROW.out hgrow4⟩, KK.out.trans (Keeps.grown hgrow4 hat4 hlt4)⟩; clear hown4 hgrow4 hat4 hlt4)
    go_ret
    exact ⟨_, rfl, by rw [E.out]; exact FIN.out.1, FIN.out.2⟩
  · obtain ⟨g, cap, rfl, hg0, hg1⟩ := h.form (by simp)
    have HK := Lib.hid h
    have LN0 : Hid ((ini ++ [x]).length = N) := Lib.hid hN.symm
    have hx : (ini ++ [x])[ini.length]? = some x := by simp
    obtain ⟨M, rfl⟩ : ∃ M, N = M + 1 := ⟨ini.length, by rw [hN]; simp⟩
    have hM : ini.length = M := by simp at hN; omega
    rw [hM] at hx
    rw [← hN] at HK ⊢
    have HX := Lib.hid hx
    have LN := LN0
    have SL : Hid (∀ y, (ini ++ [x]).set M y = ini ++ [y]) := Lib.hid (by intro y; rw [← hM]; exact set_last)
    have AJ := Lib.hid (fun q => att_join (l := ini) (x := x) he q)
    have AM := Lib.hid (fun q => att_more (l := ini) (x := x) he q)
    clear he h hN hx hM LN0
    obtain ⟨lo, hi⟩ := s
    dsimp only at *
    go_enter Try.func44, Try.ntmps44
    go_wp2_with fail
    refine (EM.out _).mono ?_
    rintro e w1 ⟨rfl, hb1⟩
    obtain ⟨bl, b0, b1, _, _⟩ := (B2.new w (.int .i64 lo) (.int .i64 hi) 25).next hb1
    have BB := Lib.hid (bstep (balloc (Below.refl _ _) _) hb1)
    clear hb1 EM
    have gl : w.heap.size ≠ g := by omega
    obtain ⟨k0, k1, kf⟩ := (HK.out.next BB.out).cell HX.out
    have j1 : (M : Int) < ((M + 1 : Nat) : Int) := by omega
    have j2 : (0 : Int) ≤ (M : Int) := by omega
    have g2 : decide ((0 : Int) ≤ (M : Int)) = true := decide_eq_true j2
    obtain ⟨xl, xh⟩ := x
    dsimp only at *
    by_cases q : lo ≤ xh
    · have E := Lib.hid (AJ.out q)
      have g3 : decide (lo ≤ xh) = true := decide_eq_true q
      clear AJ AM
      by_cases q2 : xh < hi
      all_goals
        obtain ⟨y, hy, hy2⟩ : ∃ y, y = max xh hi ∧ (y = hi ∨ y = xh) := ⟨_, rfl, by omega⟩
        rw [← hy] at E
        have mixed : Try.prog.follows .mixedOrders = true := by kernel_rfl
        go_wp2_with fail
        go_quiet (fail)
        obtain ⟨w2, hw2⟩ : ∃ w2, w2 = w1.drewN nq := ⟨_, rfl⟩
        have BW := Lib.hid (bdrewN BB.out nq)
        have c0 : (w1.drewN nq).cell? ⟨w.heap.size, 0, none⟩ = some (.int .i64 lo) := b0
        have c1 : (w1.drewN nq).cell? ⟨w.heap.size, 1, none⟩ = some (.int .i64 hi) := b1
        rw [← hw2] at BW c0 c1 ⊢
        obtain ⟨k0, k1, kf⟩ := (HK.out.next BW.out).cell HX.out
        have ST := Lib.hid ((HK.out.next BW.out).store HX.out y)
        have DR := fun (W : World) => Below.drew (Below.refl W.heap.size W)
        have FIN : Hid (SpK w0 (ini ++ [⟨xl, y⟩]) (.slice (some ⟨g, 0, none⟩) (M + 1) cap) (w2.setCell ⟨g, M * 2 + 1, none⟩ (.int .i64 y)).drew ∧ Keeps (.slice (some ⟨g, 0, none⟩) (M + 1) cap) w (.slice (some ⟨g, 0, none⟩) (M + 1) cap) (w2.setCell ⟨g, M * 2 + 1, none⟩ (.int .i64 y)).drew) :=
          Lib.hid ⟨by rw [← SL.out]; exact ST.out.1.next (DR _), (Keeps.below BW.out).trans ((Keeps.grown (v := .slice (some ⟨g, 0, none⟩) (M + 1) cap) ST.out.2 (.inl rfl) (by rw [setZ]; exact Nat.lt_of_lt_of_le hg1 BW.out.size)).trans (Keeps.below (DR _)))⟩
        first
          | (have hyy : y = hi := by omega
             clear hy hy2
             subst hyy)
          | (have hyy : y = xh := by omega
             clear hy hy2
             subst hyy)
        clear hw2 b0 b1 BB ST DR HK BW SL HX
        go_wp2_with fail
        go_region
        go_wp2_with fail
        go_ret
        exact ⟨_, rfl, by rw [E.out]; exact FIN.out.1, FIN.out.2⟩
    · have E := Lib.hid (AM.out (by omega))
      have g3 : decide (lo ≤ xh) = false := decide_eq_false q
      clear AJ AM SL k0 kf HX
      go_wp2_with fail
      go_quiet (fail)
      obtain ⟨w2, hw2⟩ : ∃ w2, w2 = w1.drewN nq := ⟨_, rfl⟩
      have BW := Lib.hid (bdrewN BB.out nq)
      have c0 : (w1.drewN nq).cell? ⟨w.heap.size, 0, none⟩ = some (.int .i64 lo) := b0
      have c1 : (w1.drewN nq).cell? ⟨w.heap.size, 1, none⟩ = some (.int .i64 hi) := b1
      have bl2 : w.heap.size < (w1.drewN nq).heap.size := bl
      rw [← hw2] at BW c0 c1 bl2 ⊢
      have K2 : Hid (SpK w0 (ini ++ [⟨xl, xh⟩]) (.slice (some ⟨g, 0, none⟩) (M + 1) cap) w2) := Lib.hid (HK.out.next BW.out)
      clear hw2 b0 b1 BB bl HK
      have E2 := Lib.hid (K2.out.next (balloc (Below.refl _ _) (.cells #[.int .i64 lo, .int .i64 hi] 25)))
      have KK := Lib.hid (Keeps.below (v := .slice (some ⟨g, 0, none⟩) (M + 1) cap) (balloc BW.out (.cells #[.int .i64 lo, .int .i64 hi] 25)))
      have HNEW := Lib.hid (cell_two_new w2 (.int .i64 lo) (.int .i64 hi) 25)
      have hzz : w0.heap.size ≤ w2.heap.size := K2.out.bel.size
      have HROW : Hid ((w2.alloc (.cells #[.int .i64 lo, .int .i64 hi] 25)).ownsRow w0.heap.size 25 2 (.slice (some ⟨g, 0, none⟩) (M + 1) cap) (M + 1) (flatC SpM.cs (ini ++ [⟨xl, xh⟩]))) := Lib.hid (by have := E2.out.row; rw [LN.out] at this; exact this)
      clear K2
      go_wp2_with (at_builtin; refine wpList_append_lies _ rfl _ _ 22 rfl w0.heap.size 25 i0 _ 2 16 Try.underlying22 HI.out.1 HI.out.2.1 HI.out.2.2.1 HI.out.2.2.2 rfl (by decide) (.slice (some ⟨g, 0, none⟩) (M + 1) cap) (M + 1) (flatC SpM.cs (ini ++ [⟨xl, xh⟩])) rfl HROW.out ⟨w2.heap.size, 0, none⟩ 1 1 [.int .i64 lo, .int .i64 hi] rfl rfl HNEW.out (by simp [Value.oneCell']) (by omega) (by unfold maxLen; omega) (by omega) (by simp; omega) _ rfl ?_; intro g4 cap4 w4 hown4 hgrow4 hat4 hlt4; have FIN : Hid (SpK w0 ((ini ++ [⟨xl, xh⟩]) ++ [⟨lo, hi⟩]) (.slice (some ⟨g4, 0, none⟩) ((M + 1) + 1) cap4) w4 ∧ Keeps (.slice (some ⟨g, 0, none⟩) (M + 1) cap) w (.slice (some ⟨g4, 0, none⟩) ((M + 1) + 1) cap4) w4) := Lib.hid ⟨⟨by rw [flatC_append, flatC_one, List.length_append, LN.out]; exact hown4, bgrow E2.out.bel HROW.out hgrow4⟩, KK.out.trans (Keeps.grown hgrow4 hat4 hlt4)⟩; clear hown4 hgrow4 hat4 hlt4)
      go_ret
      exact ⟨_, rfl, by rw [E.out]; exact FIN.out.1, FIN.out.2⟩
end Go.Proofs.Ytdiogfhbgmkajaa.SpanC
