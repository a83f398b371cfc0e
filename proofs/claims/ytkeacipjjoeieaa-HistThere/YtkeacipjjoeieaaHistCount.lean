/-
  Package hist: Counts.
-/
import Derived.Test.YtkeacipjjoeieaaHistPlay
namespace Go.Proofs.Ytkeacipjjoeieaa.HistC
open Go.RowKit Kit EditM EditC EditK HistM

structure CtR (k : Nat) (s : TL) (N : Nat) (w : World) (F : Nat → Prop) (wr : World) : Prop where
  h : HOk s k F N wr
  low : ∀ b, F b → w.heap.size ≤ b
  bel : Below w.heap.size w wr
theorem CtR.next {k : Nat} {s : TL} {N : Nat} {w : World} {F : Nat → Prop} {wr w' : World} (h : CtR k s N w F wr) (hb : Below wr.heap.size wr w') : CtR k s N w F w' :=
  ⟨h.h.kept hb.size fun b q => hb.block b (h.h.lt q), h.low, bstep h.bel hb⟩
theorem CtR.exec {k : Nat} {s : TL} {N : Nat} {w : World} {F : Nat → Prop} {wr : World} (h : CtR k s N w F wr) {s' : TL} {c : Int} {M : Nat} {x : Ending} {w' : World} (hb : ExPost s' c k F M wr x w') : CtR k s' M w (grow F wr w') w' := by
  obtain ⟨_, h2, h3⟩ := hb
  refine ⟨h2, fun b q => ?_, h.bel.trans (h3.below h.bel.size h.low)⟩
  have := h.bel.size
  rcases q with q | q
  · exact h.low b q
  · omega
def CtA (k : Nat) (s : TL) (N : Nat) (w wr : World) : Prop := ∃ F, CtR k s N w F wr
def CtPost (t : Bs) (l : List DeedM) (w : World) (x : Ending) (w' : World) : Prop := x = .returned (.tuple #[.int .i64 (((TL.start t).run l).p : Int), .int .i64 ((((TL.start t).run l).ts.length : Int) - 1 - ((TL.start t).run l).p), .int .i64 0]) ∧ Below w.heap.size w w'
theorem ret_three {a b c d e : Int} (h : a = b) (h2 : c = d) : Ending.returned (.tuple #[.int .i64 a, .int .i64 c, .int .i64 e]) = .returned (.tuple #[.int .i64 b, .int .i64 d, .int .i64 e]) := by rw [h, h2]
theorem HOk.stacks {s : TL} {k : Nat} {F : Nat → Prop} {N : Nat} {w : World} (h : HOk s k F N w) : ∃ au cu ar cr r, w.cell? ⟨k, 1, none⟩ = some (.slice au s.p cu) ∧ w.cell? ⟨k, 2, none⟩ = some (.slice ar r cr) ∧ (r : Int) = (s.ts.length : Int) - 1 - s.p ∧ r ≤ 20 ∧ s.p ≤ 20 := by
  obtain ⟨gs, vu, vr, vs, h1, h2, h3⟩ := h
  obtain ⟨au, cu, rfl⟩ := h3.u.form
  obtain ⟨ar, cr, rfl⟩ := h3.r.form
  have hl := h1.len
  have hlt := h1.ok.lt
  have hle := h1.ok.le
  exact ⟨au, cu, ar, cr, _, h3.box.c1, h3.box.c2, by omega, by omega, by omega⟩
set_option maxRecDepth 100000 in
set_option maxHeartbeats 2000000 in
theorem counts (t : Bs) (l : List DeedM) (a : Option Addr) (cap : Nat) (w : World) (hl : DdsAt w a l) (hok : ∀ d ∈ l, d.ed.ok) (ht : t.length ≤ 600) (h80 : l.length ≤ 80) :
    Calls Try.prog 13 #[.string (str t), .slice a l.length cap] w (CtPost t l w) := by
  have HL := Lib.hid hl
  have TLG := Lib.hid (tooLong (str t) a l.length cap w (by rw [size_str]; exact ht) h80)
  have ST := Lib.hid (PlR.start (w := w) ht 54)
  obtain ⟨n, hn⟩ : ∃ n, n = l.length := ⟨_, rfl⟩
  rw [← hn] at TLG h80 ⊢
  have HN := Lib.hid hn
  obtain ⟨T, hT⟩ : ∃ T, T = str t := ⟨_, rfl⟩
  rw [← hT] at TLG ST ⊢
  clear hl hn ht hT
  go_enter Try.func13, Try.ntmps13
  go_wp2_with fail
  refine TLG.out.mono ?_
  rintro e w1 ⟨rfl, rfl⟩
  clear TLG
  go_wp2_with fail
  go_loopw [17] (fun i wr => ∃ k : Nat, k ≤ n ∧ i = .int .i64 (k : Int) ∧ CtA w.heap.size ((TL.start t).run (l.take k)) k w wr) (fun i _ => n - (intOf i).toNat)
  case atStart => exact ⟨0, by omega, rfl, _, ST.out.h, ST.out.low, ST.out.bel⟩
  case round =>
    obtain ⟨k, hk, rfl, hpl⟩ := hrel
    have HPL := Lib.hid hpl
    clear hpl
    by_cases hlt : k < n
    · obtain ⟨d, hd⟩ : ∃ d, l[k]? = some d := ⟨l[k]'(by rw [← HN.out]; exact hlt), by simp⟩
      have eok := hok d (List.mem_of_getElem? hd)
      obtain ⟨F, hF⟩ := HPL.out
      obtain ⟨g, off, rfl, hg, c0, c1, c2, c3⟩ := DdsAt.get (HL.out.next hF.bel) hd
      have NR := Lib.hid (TL.run_next (TL.start t) hd)
      have P1 := Lib.hid (hF.next (balloc (Below.refl _ _) (.cells d.cs.toArray 45)))
      have EX := Lib.hid (execute _ _ _ _ d _ P1.out.h (by omega) eok)
      simp only [DeedM.cs] at P1 EX
      clear hd eok hF HPL
      generalize ((TL.start t).run (l.take k)).step d = sd at *
      obtain ⟨s', c'⟩ := sd
      dsimp only at *
      generalize (TL.start t).run (l.take k) = s at *
      obtain ⟨knd, ae, ce, pe⟩ := d
      dsimp only at *
      go_wp2_with fail
      refine EX.out.mono ?_
      rintro x w1 ⟨rfl, h1, h2⟩
      have P2 := Lib.hid (P1.out.exec (x := .returned (.int .i64 c')) ⟨rfl, h1, h2⟩)
      clear h1 h2 EX P1 c0 c1 c2 c3
      go_wp2_with fail
      go_roundw
      case rel => exact ⟨k + 1, by omega, by go_num, _, by
        rw [NR.out]
        exact P2.out⟩
      case measure => simp [intOf]; omega
    · obtain rfl : k = n := by omega
      obtain ⟨F, hF⟩ := HPL.out
      have e1 : l.take k = l := by rw [HN.out]; exact List.take_length
      rw [e1] at hF
      obtain ⟨au, cu, ar, cr, r, q1, q2, hr, hr20, hp20⟩ := hF.h.stacks
      have HR := Lib.hid hr
      have HB := Lib.hid hF.bel
      obtain ⟨kl, _⟩ := hF.h.box
      clear hF HPL e1 hr
      obtain ⟨q, hq⟩ : ∃ q, q = ((TL.start t).run l).p := ⟨_, rfl⟩
      rw [← hq] at q1 hp20 HR
      have HQ := Lib.hid hq
      clear hq
      go_wp2_with fail
      go_quiet (fail)
      go_wp2_with fail
      refine bodyPost_ret (v := .tuple #[.int .i64 (q : Int), .int .i64 (r : Int), .int .i64 0]) (by simp [results, Try.results13, go_sem]) rfl ⟨?_, bdrewN HB.out _⟩
      rw [HR.out, HQ.out]

end Go.Proofs.Ytkeacipjjoeieaa.HistC
