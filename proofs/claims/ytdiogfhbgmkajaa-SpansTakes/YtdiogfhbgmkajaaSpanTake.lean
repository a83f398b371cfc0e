/-
  Package spans: what Take answers.
-/
import Derived.Test.YtdiogfhbgmkajaaSpanAdd
namespace Go.Proofs.Ytdiogfhbgmkajaa.SpanC
open Go.RowKit Kit SpanM

/-- what Take and its like answer -/
def TakePost (c : Int) (t : SpM) (es : List SpM) (w : World) (e : Ending) (w' : World) : Prop := ∃ v, e = .returned (.tuple #[.agg #[.int .i64 t.lo, .int .i64 t.hi], v, .int .i64 c]) ∧ SpsV w' v es ∧ Below w.heap.size w w'
noncomputable def tkC (n : Int) (l : List SpM) (m : Int) : Int := if mayB n l = true then (if m < 1 then 2 else if l = [] then 7 else 0) else 4
/-- what is taken of the first span -/
def tkS (l : List SpM) (m : Int) : SpM := match l with | [] => ⟨0, 0⟩ | x :: _ => ⟨x.lo, if m < x.hi - x.lo then x.lo + m else x.hi⟩
theorem SpK.put2 {w W : World} {es : List SpM} {v : Value} (h : SpK w es v W) {k : Nat} (hk : k < w.heap.size) (u0 u1 : Value) : SpsV ((W.setCell ⟨k, 0, none⟩ u0).setCell ⟨k, 1, none⟩ u1) v es := by
  have hg : ∀ (W : World) o u, W.grownBy (W.setCell ⟨k, o, none⟩ u) (some k) := fun W o u => ⟨rfl, rfl, rfl, by simp, fun j _ hj => heap_setCell_other W ⟨k, o, none⟩ j u (fun e => hj (by simp [e]))⟩
  have hn : v.ownBlock = none ∨ v.ownBlock ≠ some k := by
    cases hv : v.ownBlock with
    | none => exact .inl rfl
    | some b =>
      right
      intro e
      have := (h.row.lt b hv).1
      injection e with e
      omega
  exact SlV.of_owns SpM.cs_len ((h.row.kept (hg W 0 u0) hn).kept (hg _ 1 u1) hn)
theorem valid_of {n : Int} {l : List SpM} (h : mayB n l = true) : Valid n l := Classical.byContradiction fun q => by rw [mayB_no q] at h; cases h
theorem bset2 {w W : World} (h : Below w.heap.size w W) (u v : Value) : Below w.heap.size w ((W.setCell ⟨w.heap.size, 0, none⟩ u).setCell ⟨w.heap.size, 1, none⟩ v) := (h.setCell (p := ⟨w.heap.size, 0, none⟩) (Nat.le_refl _) _).setCell (p := ⟨w.heap.size, 1, none⟩) (Nat.le_refl _) _
theorem b2x {k : Nat} {a b : Value} {W : World} (h : B2 k a b W) (a' b' c' : Value) : B2 k a' c' (((W.setCell ⟨k, 0, none⟩ a').setCell ⟨k, 1, none⟩ b').setCell ⟨k, 1, none⟩ c') := by
  obtain ⟨h0, h1, h2, h3, h4⟩ := h.set a' b'
  exact ⟨by rw [setZ]; exact h0, (setO (.inr (by omega)) _).trans h1, setS h2 _, by rw [World.frozen?_setCell]; exact h3, by rw [World.frozen?_setCell]; exact h4⟩
set_option maxHeartbeats 1000000 in
theorem take_no (n : Int) (l : List SpM) (al : Option Addr) (cap : Nat) (m : Int) (w : World) (hl : SpsAt w al l) (hmx : l.length ≤ 9223372036854775807) (hc : tkC n l m ≠ 0) :
    Calls Try.prog 23 #[.int .i64 n, .slice al l.length cap, .int .i64 m] w (TakePost (tkC n l m) ⟨0, 0⟩ [] w) := by
  have A0 := Lib.hid (balloc (Below.refl w.heap.size w) (.cells #[.int .i64 0, .int .i64 0] 25))
  have M := Lib.hid (may n l al cap _ (hl.next A0.out) hmx)
  have BX := Lib.hid (B2.new w (.int .i64 0) (.int .i64 0) 25)
  clear hl
  cases hm : mayB n l
  · rw [show tkC n l m = 4 by unfold tkC; rw [hm]; rfl]
    rw [hm] at M
    clear hm hc
    generalize l.length = N at *
    go_enter Try.func23, Try.ntmps23
    go_wp2_with fail
    refine M.out.mono ?_
    rintro e w1 ⟨rfl, hb1⟩
    have B := Lib.hid (bstep A0.out hb1)
    obtain ⟨bl, b0, b1, f0, f1⟩ := BX.out.next hb1
    clear hb1 M
    go_wp2_with fail
    refine bodyPost_ret (v := .tuple #[.agg #[.int .i64 0, .int .i64 0], .slice none 0 0, .int .i64 4]) (by simp [results, Try.results23, go_sem, *]) rfl ⟨_, rfl, SlV.nil _, bset2 B.out _ _⟩
  · rw [hm] at M
    by_cases h1 : m < 1
    · rw [show tkC n l m = 2 by unfold tkC; rw [hm, if_pos rfl, if_pos h1]]
      clear hm hc
      generalize l.length = N at *
      go_enter Try.func23, Try.ntmps23
      go_wp2_with fail
      refine M.out.mono ?_
      rintro e w1 ⟨rfl, hb1⟩
      have B := Lib.hid (bstep A0.out hb1)
      obtain ⟨bl, b0, b1, f0, f1⟩ := BX.out.next hb1
      clear hb1 M
      go_wp2_with fail
      refine bodyPost_ret (v := .tuple #[.agg #[.int .i64 0, .int .i64 0], .slice none 0 0, .int .i64 2]) (by simp [results, Try.results23, go_sem, *]) rfl ⟨_, rfl, SlV.nil _, bset2 B.out _ _⟩
    · by_cases h2 : l = []
      · rw [show tkC n l m = 7 by unfold tkC; rw [hm, if_pos rfl, if_neg h1, if_pos h2]]
        subst h2
        rw [show ([] : List SpM).length = 0 from rfl] at M ⊢
        clear hm hc hmx
        go_enter Try.func23, Try.ntmps23
        go_wp2_with fail
        refine M.out.mono ?_
        rintro e w1 ⟨rfl, hb1⟩
        have B := Lib.hid (bstep A0.out hb1)
        obtain ⟨bl, b0, b1, f0, f1⟩ := BX.out.next hb1
        clear hb1 M
        go_wp2_with fail
        refine bodyPost_ret (v := .tuple #[.agg #[.int .i64 0, .int .i64 0], .slice none 0 0, .int .i64 7]) (by simp [results, Try.results23, go_sem, *]) rfl ⟨_, rfl, SlV.nil _, bset2 B.out _ _⟩
      · exact absurd (by unfold tkC; rw [hm, if_pos rfl, if_neg h1, if_neg h2]) hc
set_option maxRecDepth 100000 in
set_option maxHeartbeats 2000000 in
theorem take_ok (n : Int) (l : List SpM) (al : Option Addr) (cap : Nat) (m : Int) (w : World) (hl : SpsAt w al l) (hc : tkC n l m = 0) (hm1 : m ≤ 9223372036854775807) :
    Calls Try.prog 23 #[.int .i64 n, .slice al l.length cap, .int .i64 m] w (TakePost 0 (tkS l m) (atts [] (woS l (tkS l m))) w) := by
  have hm : mayB n l = true := by
    cases h : mayB n l
    · unfold tkC at hc; rw [h] at hc; cases hc
    · rfl
  have hv := valid_of hm
  have h1 : ¬ m < 1 := by intro q; unfold tkC at hc; rw [hm, if_pos rfl, if_pos q] at hc; cases hc
  have hne : l ≠ [] := by intro q; unfold tkC at hc; rw [hm, if_pos rfl, if_neg h1, if_pos q] at hc; cases hc
  have h40 := hv.len
  have A0 := Lib.hid (balloc (Below.refl w.heap.size w) (.cells #[.int .i64 0, .int .i64 0] 25))
  have M := Lib.hid (may n l al cap _ (hl.next A0.out) (by omega))
  rw [hm] at M
  have BX := Lib.hid (B2.new w (.int .i64 0) (.int .i64 0) 25)
  have HL := Lib.hid hl
  obtain ⟨x, r, rfl⟩ : ∃ x r, l = x :: r := by
    cases l with
    | nil => exact absurd rfl hne
    | cons x r => exact ⟨x, r, rfl⟩
  obtain ⟨x0, x1, x2⟩ := hv.rng x (by simp)
  have n1 := hv.n1
  have WT := Lib.hid (fun W (hW : Below w.heap.size w W) => without (x :: r) al cap (tkS (x :: r) m) W (hl.next hW) h40)
  obtain ⟨tk, htk⟩ : ∃ tk, tk = tkS (x :: r) m := ⟨_, rfl⟩
  rw [← htk] at WT ⊢
  generalize atts [] (woS (x :: r) tk) = es at *
  clear hl hm hv hc hne
  obtain ⟨N, hN⟩ : ∃ N, N = (x :: r).length := ⟨_, rfl⟩
  have hNp : 0 < N := by rw [hN]; simp
  have HG : Hid ((x :: r)[0]? = some x) := Lib.hid rfl
  rw [← hN] at M WT h40 ⊢
  clear hN
  have k0 : ((N : Int) == 0) = false := by simp; omega
  have k1 : (0 : Int) < (N : Int) := by omega
  go_enter Try.func23, Try.ntmps23
  go_wp2_with fail
  refine M.out.mono ?_
  rintro e w1 ⟨rfl, hb1⟩
  have B := Lib.hid (bstep A0.out hb1)
  obtain ⟨bl, b0, b1, f0, f1⟩ := BX.out.next hb1
  obtain ⟨g, off, rfl, hg, _⟩ := SpsAt.get HL.out HG.out
  obtain ⟨g2, off2, e2, _, c0, c1⟩ := SpsAt.get (HL.out.next B.out) HG.out
  simp only [Option.some.injEq, Addr.mk.injEq, and_true] at e2
  obtain ⟨rfl, rfl⟩ := e2
  have c0' : w1.cell? ⟨g, off, none⟩ = some (.int .i64 x.lo) := by simpa using c0
  have c1' : w1.cell? ⟨g, off + 1, none⟩ = some (.int .i64 x.hi) := by simpa using c1
  clear hb1 M c0 c1
  by_cases q : m < x.hi - x.lo
  · have E : tk = ⟨x.lo, x.lo + m⟩ := by rw [htk]; show (⟨x.lo, if _ then _ else _⟩ : SpM) = _; rw [if_pos q]
    subst E
    clear htk
    obtain ⟨lo, hi⟩ := x
    dsimp only at *
    have BY : Hid (B2 w.heap.size (.int .i64 lo) (.int .i64 (lo + m)) (((w1.setCell ⟨w.heap.size, 0, none⟩ (.int .i64 lo)).setCell ⟨w.heap.size, 1, none⟩ (.int .i64 hi)).setCell ⟨w.heap.size, 1, none⟩ (.int .i64 (lo + m))) ∧ Below w.heap.size w (((w1.setCell ⟨w.heap.size, 0, none⟩ (.int .i64 lo)).setCell ⟨w.heap.size, 1, none⟩ (.int .i64 hi)).setCell ⟨w.heap.size, 1, none⟩ (.int .i64 (lo + m)))) := Lib.hid ⟨b2x ⟨bl, b0, b1, f0, f1⟩ _ _ _, (bset2 B.out _ _).setCell (p := ⟨w.heap.size, 1, none⟩) (Nat.le_refl _) _⟩
    have gne : g ≠ w.heap.size := by omega
    go_wp2_with fail
    generalize ((w1.setCell ⟨w.heap.size, 0, none⟩ (.int .i64 lo)).setCell ⟨w.heap.size, 1, none⟩ (.int .i64 hi)).setCell ⟨w.heap.size, 1, none⟩ (.int .i64 (lo + m)) = w2 at *
    obtain ⟨bl2, d0, d1, e0, e1⟩ := BY.out.1
    have B2' := Lib.hid BY.out.2
    have BZ := Lib.hid BY.out.1
    have BZD := Lib.hid (BY.out.1.next (Below.drew (Below.refl _ _)))
    clear BY b0 b1 f0 f1 c0' c1'
    have mixed : Try.prog.follows .mixedOrders = true := by kernel_rfl
    go_region_with (first | (refine (WT.out _ (Below.drew B2'.out)).mono ?_; rintro e w3 ⟨v, rfl, hk3⟩; have HK := Lib.hid hk3; obtain ⟨bl3, d03, d13, e03, e13⟩ := BZD.out.next hk3.bel; clear hk3) | (refine (WT.out _ B2'.out).mono ?_; rintro e w3 ⟨v, rfl, hk3⟩; have HK := Lib.hid hk3; obtain ⟨bl3, d03, d13, e03, e13⟩ := BZ.out.next hk3.bel; clear hk3))
    all_goals
      have FB : Hid (Below w.heap.size w w3) := Lib.hid (by first | exact bstep B2'.out HK.out.bel | exact bstep (Below.drew B2'.out) HK.out.bel)
      have FV := Lib.hid (SpK.put2 HK.out (k := w.heap.size) bl2 (.int .i64 lo) (.int .i64 (lo + m)))
      clear HK
      go_wp2_with fail
      refine bodyPost_ret (v := .tuple #[.agg #[.int .i64 lo, .int .i64 (lo + m)], v, .int .i64 0]) (by simp [results, Try.results23, go_sem, *]) rfl ⟨v, rfl, ?_, ?_⟩
      · first | exact FV.out | exact FV.out.next (Below.drew (Below.refl _ _))
      · first | exact bset2 FB.out _ _ | exact Below.drew (bset2 FB.out _ _)
  · have E : tk = ⟨x.lo, x.hi⟩ := by rw [htk]; show (⟨x.lo, if _ then _ else _⟩ : SpM) = _; rw [if_neg q]
    subst E
    clear htk
    obtain ⟨lo, hi⟩ := x
    dsimp only at *
    have BY : Hid (B2 w.heap.size (.int .i64 lo) (.int .i64 (hi)) ((w1.setCell ⟨w.heap.size, 0, none⟩ (.int .i64 lo)).setCell ⟨w.heap.size, 1, none⟩ (.int .i64 hi)) ∧ Below w.heap.size w ((w1.setCell ⟨w.heap.size, 0, none⟩ (.int .i64 lo)).setCell ⟨w.heap.size, 1, none⟩ (.int .i64 hi))) := Lib.hid ⟨B2.set ⟨bl, b0, b1, f0, f1⟩ _ _, bset2 B.out _ _⟩
    have gne : g ≠ w.heap.size := by omega
    go_wp2_with fail
    generalize (w1.setCell ⟨w.heap.size, 0, none⟩ (.int .i64 lo)).setCell ⟨w.heap.size, 1, none⟩ (.int .i64 hi) = w2 at *
    obtain ⟨bl2, d0, d1, e0, e1⟩ := BY.out.1
    have B2' := Lib.hid BY.out.2
    have BZ := Lib.hid BY.out.1
    have BZD := Lib.hid (BY.out.1.next (Below.drew (Below.refl _ _)))
    clear BY b0 b1 f0 f1 c0' c1'
    have mixed : Try.prog.follows .mixedOrders = true := by kernel_rfl
    go_region_with (first | (refine (WT.out _ (Below.drew B2'.out)).mono ?_; rintro e w3 ⟨v, rfl, hk3⟩; have HK := Lib.hid hk3; obtain ⟨bl3, d03, d13, e03, e13⟩ := BZD.out.next hk3.bel; clear hk3) | (refine (WT.out _ B2'.out).mono ?_; rintro e w3 ⟨v, rfl, hk3⟩; have HK := Lib.hid hk3; obtain ⟨bl3, d03, d13, e03, e13⟩ := BZ.out.next hk3.bel; clear hk3))
    all_goals
      have FB : Hid (Below w.heap.size w w3) := Lib.hid (by first | exact bstep B2'.out HK.out.bel | exact bstep (Below.drew B2'.out) HK.out.bel)
      have FV := Lib.hid (SpK.put2 HK.out (k := w.heap.size) bl2 (.int .i64 lo) (.int .i64 (hi)))
      clear HK
      go_wp2_with fail
      refine bodyPost_ret (v := .tuple #[.agg #[.int .i64 lo, .int .i64 (hi)], v, .int .i64 0]) (by simp [results, Try.results23, go_sem, *]) rfl ⟨v, rfl, ?_, ?_⟩
      · first | exact FV.out | exact FV.out.next (Below.drew (Below.refl _ _))
      · first | exact bset2 FB.out _ _ | exact Below.drew (bset2 FB.out _ _)
end Go.Proofs.Ytdiogfhbgmkajaa.SpanC
