/-
  Package spans: what with and without answer.
-/
import Derived.Test.YtdiogfhbgmkajaaSpanAttach
import Derived.Test.YtdiogfhbgmkajaaSpanMay
namespace Go.Proofs.Ytdiogfhbgmkajaa.SpanC
open Go.RowKit Kit SpanM

/-- spans that were made -/
def SpsPost (es : List SpM) (w : World) (e : Ending) (w' : World) : Prop := ∃ v, e = .returned v ∧ SpK w es v w'
theorem SpK.rebase {w w0 wr : World} {es : List SpM} {v : Value} (h : SpK w0 es v wr) (hb : Below w.heap.size w w0) : SpK w es v wr := ⟨h.row.mono hb.size, hb.trans (h.bel.mono hb.size)⟩
theorem far_new {w0 wr : World} {es : List SpM} {v : Value} (h : SpK w0 es v wr) (o : Obj) : Far v (wr.alloc o) wr.heap.size := ⟨by simp, fun e => by have := (h.lt _ e).2; omega⟩
def fLe (l : List SpM) (s : SpM) : List SpM := l.filter (fun o => decide (o.lo ≤ s.lo))
def fGt (l : List SpM) (s : SpM) : List SpM := l.filter (fun o => decide (s.lo < o.lo))
theorem fLe_in {l : List SpM} {s o : SpM} {k : Nat} (h : l[k]? = some o) (q : o.lo ≤ s.lo) : fLe (l.take (k + 1)) s = fLe (l.take k) s ++ [o] := by unfold fLe; rw [take_next h, List.filter_append]; simp [q]
theorem fLe_out {l : List SpM} {s o : SpM} {k : Nat} (h : l[k]? = some o) (q : ¬ o.lo ≤ s.lo) : fLe (l.take (k + 1)) s = fLe (l.take k) s := by unfold fLe; rw [take_next h, List.filter_append]; simp; omega
theorem fGt_in {l : List SpM} {s o : SpM} {k : Nat} (h : l[k]? = some o) (q : s.lo < o.lo) : fGt (l.take (k + 1)) s = fGt (l.take k) s ++ [o] := by unfold fGt; rw [take_next h, List.filter_append]; simp [q]
theorem fGt_out {l : List SpM} {s o : SpM} {k : Nat} (h : l[k]? = some o) (q : ¬ s.lo < o.lo) : fGt (l.take (k + 1)) s = fGt (l.take k) s := by unfold fGt; rw [take_next h, List.filter_append]; simp; omega
theorem fLe_len (l : List SpM) (s : SpM) : (fLe l s).length ≤ l.length := List.length_filter_le _ _
theorem fGt_len (l : List SpM) (s : SpM) : (fGt l s).length ≤ l.length := List.length_filter_le _ _

set_option maxRecDepth 100000 in
set_option maxHeartbeats 4000000 in
theorem with_ (l : List SpM) (al : Option Addr) (cap : Nat) (s : SpM) (w : World) (hl : SpsAt w al l) (h40 : l.length ≤ 40) :
    Calls Try.prog 38 #[.slice al l.length cap, .agg #[.int .i64 s.lo, .int .i64 s.hi]] w (SpsPost (atts [] (withS l s)) w) := by
  obtain ⟨w0, hw0⟩ : ∃ w0, w0 = w.alloc (.cells #[.int .i64 s.lo, .int .i64 s.hi] 25) := ⟨_, rfl⟩
  have HL : Hid (SpsAt w0 al l) := Lib.hid (by rw [hw0]; exact hl.next (balloc (Below.refl _ _) _))
  have HB : Hid (B2 w.heap.size (.int .i64 s.lo) (.int .i64 s.hi) w0) := Lib.hid (by rw [hw0]; exact B2.new _ _ _ _)
  have HW : Hid (Below w.heap.size w w0) := Lib.hid (by rw [hw0]; exact balloc (Below.refl _ _) _)
  have hws : w.heap.size < w0.heap.size := HB.out.lt
  obtain ⟨N, hN⟩ : ∃ N, N = l.length := ⟨_, rfl⟩
  have HN := Lib.hid hN
  rw [← hN] at h40 ⊢
  have EF : Hid (atts [] (withS l s) = atts (att (atts [] (fLe l s)) s) (fGt l s)) := Lib.hid (by unfold withS; rw [atts_app, atts_snoc]; rfl)
  have L1 : Hid (∀ k, (atts [] (fLe (l.take k) s)).length ≤ 40) := Lib.hid fun k => by
    have h1 := atts_len [] (fLe (l.take k) s); have h2 := fLe_len (l.take k) s; have := HN.out
    simp only [List.length_take, List.length_nil] at h1 h2; omega
  have L2 : Hid (∀ k, (atts (att (atts [] (fLe l s)) s) (fGt (l.take k) s)).length ≤ 90) := Lib.hid fun k => by
    have h1 := atts_len (att (atts [] (fLe l s)) s) (fGt (l.take k) s); have h2 := fGt_len (l.take k) s; have := HN.out
    have h3 := att_len (atts [] (fLe l s)) s; have h4 := atts_len [] (fLe l s); have h5 := fLe_len l s
    simp only [List.length_take, List.length_nil] at h1 h2 h4; omega
  clear hl hN
  go_enter Try.func38, Try.ntmps38
  go_wp2_with fail
  rw [← hw0]
  clear hw0
  go_loopw [5, 12] (fun v vi wr => ∃ k : Nat, k ≤ N ∧ vi = .int .i64 (k : Int) ∧ Hid (SpK w0 (atts [] (fLe (l.take k) s)) v wr)) (fun _ vi _ => N - (intOf vi).toNat)
  case atStart => exact ⟨0, by omega, rfl, Lib.hid (SpK.nil (Below.refl _ _))⟩
  case round =>
    obtain ⟨k, hk, rfl, HK⟩ := hrel
    obtain ⟨bl, b0, b1, _, _⟩ : B2 w.heap.size (.int .i64 s.lo) (.int .i64 s.hi) wr := ⟨Nat.lt_of_lt_of_le hws HK.out.bel.size, (HK.out.bel.cell (p := ⟨w.heap.size, 0, none⟩) hws).trans HB.out.c0, (HK.out.bel.cell (p := ⟨w.heap.size, 1, none⟩) hws).trans HB.out.c1, (HK.out.bel.frozen (p := ⟨w.heap.size, 0, none⟩) hws).trans HB.out.f0, (HK.out.bel.frozen (p := ⟨w.heap.size, 1, none⟩) hws).trans HB.out.f1⟩
    by_cases hlt : k < N
    · obtain ⟨o, ho⟩ : ∃ o, l[k]? = some o := ⟨l[k]'(by have := HN.out; omega), by simp [← HN.out, hlt]⟩
      obtain ⟨g, off, rfl, hg, c0, c1⟩ := SpsAt.get (HL.out.next HK.out.bel) ho
      have i1 : (k : Int) < (N : Int) := by omega
      have i2 : (0 : Int) ≤ (k : Int) := by omega
      have K1 := Lib.hid (HK.out.next (balloc (Below.refl _ _) (.cells #[.int .i64 o.lo, .int .i64 o.hi] 25)))
      have AT := Lib.hid (attach w0 _ _ o _ K1.out (by have := L1.out k; omega))
      have FI := Lib.hid (fun q => fLe_in (s := s) ho q)
      have FO := Lib.hid (fun q => fLe_out (s := s) ho q)
      clear HK ho
      obtain ⟨lo, hi⟩ := o
      obtain ⟨slo, shi⟩ := s
      dsimp only at *
      by_cases q : lo ≤ slo
      · have F := Lib.hid (FI.out q)
        clear FI FO K1
        go_wp2_with fail
        refine AT.out.mono ?_
        rintro e w1 ⟨v1, rfl, hk1, _⟩
        have K2 := Lib.hid hk1
        clear hk1 AT
        go_wp2_with fail
        go_roundw
        case rel => exact ⟨k + 1, by omega, by go_num, Lib.hid (by rw [F.out, atts_snoc]; exact K2.out)⟩
        case measure => simp [intOf]; omega
      · have F := Lib.hid (FO.out (by omega))
        clear FI FO AT
        go_wp2_with fail
        go_roundw
        case rel => exact ⟨k + 1, by omega, by go_num, Lib.hid (by rw [F.out]; exact K1.out)⟩
        case measure => simp [intOf]; omega
    · obtain rfl : k = N := by omega
      have TK : Hid (l.take k = l) := Lib.hid (by rw [HN.out, List.take_length])
      rw [TK.out] at HK
      have AT := Lib.hid (attach w0 _ _ s _ HK.out (by have := L1.out k; rw [TK.out] at this; omega))
      clear HK
      go_wp2_with fail
      refine AT.out.mono ?_
      rintro e w1 ⟨v1, rfl, hk1, _⟩
      have K2 := Lib.hid hk1
      clear hk1 AT b0 b1 bl
      go_wp2_with fail
      go_loopw [5, 30] (fun v vi wr => ∃ j : Nat, j ≤ k ∧ vi = .int .i64 (j : Int) ∧ Hid (SpK w0 (atts (att (atts [] (fLe l s)) s) (fGt (l.take j) s)) v wr)) (fun _ vi _ => k - (intOf vi).toNat)
      case atStart => exact ⟨0, by omega, rfl, K2⟩
      case round =>
        obtain ⟨j, hj, rfl, HK⟩ := hrel
        clear K2
        obtain ⟨bl, b0, b1, _, _⟩ : B2 w.heap.size (.int .i64 s.lo) (.int .i64 s.hi) wr := ⟨Nat.lt_of_lt_of_le hws HK.out.bel.size, (HK.out.bel.cell (p := ⟨w.heap.size, 0, none⟩) hws).trans HB.out.c0, (HK.out.bel.cell (p := ⟨w.heap.size, 1, none⟩) hws).trans HB.out.c1, (HK.out.bel.frozen (p := ⟨w.heap.size, 0, none⟩) hws).trans HB.out.f0, (HK.out.bel.frozen (p := ⟨w.heap.size, 1, none⟩) hws).trans HB.out.f1⟩
        by_cases hlt : j < k
        · obtain ⟨o, ho⟩ : ∃ o, l[j]? = some o := ⟨l[j]'(by have := HN.out; omega), by simp [← HN.out, hlt]⟩
          obtain ⟨g, off, rfl, hg, c0, c1⟩ := SpsAt.get (HL.out.next HK.out.bel) ho
          have i1 : (j : Int) < (k : Int) := by omega
          have i2 : (0 : Int) ≤ (j : Int) := by omega
          have K1 := Lib.hid (HK.out.next (balloc (Below.refl _ _) (.cells #[.int .i64 o.lo, .int .i64 o.hi] 25)))
          have AT := Lib.hid (attach w0 _ _ o _ K1.out (by have := L2.out j; omega))
          have FI := Lib.hid (fun q => fGt_in (s := s) ho q)
          have FO := Lib.hid (fun q => fGt_out (s := s) ho q)
          clear HK ho
          obtain ⟨lo, hi⟩ := o
          obtain ⟨slo, shi⟩ := s
          dsimp only at *
          by_cases q : slo < lo
          · have F := Lib.hid (FI.out q)
            clear FI FO K1
            go_wp2_with fail
            refine AT.out.mono ?_
            rintro e w1 ⟨v1, rfl, hk1, _⟩
            have K2 := Lib.hid hk1
            clear hk1 AT
            go_wp2_with fail
            go_roundw
            case rel => exact ⟨j + 1, by omega, by go_num, Lib.hid (by rw [F.out, atts_snoc]; exact K2.out)⟩
            case measure => simp [intOf]; omega
          · have F := Lib.hid (FO.out (by omega))
            clear FI FO AT
            go_wp2_with fail
            go_roundw
            case rel => exact ⟨j + 1, by omega, by go_num, Lib.hid (by rw [F.out]; exact K1.out)⟩
            case measure => simp [intOf]; omega
        · obtain rfl : j = k := by omega
          rw [TK.out, ← EF.out] at HK
          go_wp2_with fail
          go_ret
          exact ⟨_, rfl, SpK.rebase HK.out HW.out⟩

theorem wo_next {l : List SpM} {s o : SpM} {k : Nat} (h : l[k]? = some o) : woS (l.take (k + 1)) s = woS (l.take k) s ++ [befS o s.lo] ++ [froS o s.hi] := by unfold woS; rw [take_next h, List.flatMap_append]; simp
theorem wo_len : ∀ (l : List SpM) (s : SpM), (woS l s).length = 2 * l.length
  | [], s => rfl
  | o :: l, s => by
    have := wo_len l s
    simp only [woS, List.flatMap_cons, List.length_append, List.length_cons, List.length_nil] at this ⊢
    omega
set_option maxRecDepth 100000 in
set_option maxHeartbeats 4000000 in
theorem without (l : List SpM) (al : Option Addr) (cap : Nat) (s : SpM) (w : World) (hl : SpsAt w al l) (h40 : l.length ≤ 40) :
    Calls Try.prog 42 #[.slice al l.length cap, .agg #[.int .i64 s.lo, .int .i64 s.hi]] w (SpsPost (atts [] (woS l s)) w) := by
  obtain ⟨w0, hw0⟩ : ∃ w0, w0 = w.alloc (.cells #[.int .i64 s.lo, .int .i64 s.hi] 25) := ⟨_, rfl⟩
  have HL : Hid (SpsAt w0 al l) := Lib.hid (by rw [hw0]; exact hl.next (balloc (Below.refl _ _) _))
  have HB : Hid (B2 w.heap.size (.int .i64 s.lo) (.int .i64 s.hi) w0) := Lib.hid (by rw [hw0]; exact B2.new _ _ _ _)
  have HW : Hid (Below w.heap.size w w0) := Lib.hid (by rw [hw0]; exact balloc (Below.refl _ _) _)
  have hws : w.heap.size < w0.heap.size := HB.out.lt
  obtain ⟨N, hN⟩ : ∃ N, N = l.length := ⟨_, rfl⟩
  have HN := Lib.hid hN
  rw [← hN] at h40 ⊢
  have L1 : Hid (∀ k, (atts [] (woS (l.take k) s)).length ≤ 80) := Lib.hid fun k => by
    have h1 := atts_len [] (woS (l.take k) s); have h2 := wo_len (l.take k) s; have := HN.out
    simp only [List.length_take, List.length_nil] at h1 h2; omega
  clear hl hN
  go_enter Try.func42, Try.ntmps42
  go_wp2_with fail
  rw [← hw0]
  clear hw0
  go_loopw [5, 10] (fun v vi wr => ∃ k : Nat, k ≤ N ∧ vi = .int .i64 (k : Int) ∧ Hid (SpK w0 (atts [] (woS (l.take k) s)) v wr)) (fun _ vi _ => N - (intOf vi).toNat)
  case atStart => exact ⟨0, by omega, rfl, Lib.hid (SpK.nil (Below.refl _ _))⟩
  case round =>
    obtain ⟨k, hk, rfl, HK⟩ := hrel
    have SB : Hid (∀ W, Below w0.heap.size w0 W → B2 w.heap.size (.int .i64 s.lo) (.int .i64 s.hi) W) := Lib.hid fun W hW => ⟨Nat.lt_of_lt_of_le hws hW.size, (hW.cell (p := ⟨w.heap.size, 0, none⟩) hws).trans HB.out.c0, (hW.cell (p := ⟨w.heap.size, 1, none⟩) hws).trans HB.out.c1, (hW.frozen (p := ⟨w.heap.size, 0, none⟩) hws).trans HB.out.f0, (hW.frozen (p := ⟨w.heap.size, 1, none⟩) hws).trans HB.out.f1⟩
    by_cases hlt : k < N
    · obtain ⟨bl, b0, b1, _, _⟩ := SB.out wr HK.out.bel
      obtain ⟨o, ho⟩ : ∃ o, l[k]? = some o := ⟨l[k]'(by have := HN.out; omega), by simp [← HN.out, hlt]⟩
      obtain ⟨g, off, rfl, hg, c0, c1⟩ := SpsAt.get (HL.out.next HK.out.bel) ho
      have i1 : (k : Int) < (N : Int) := by omega
      have i2 : (0 : Int) ≤ (k : Int) := by omega
      have K1 := Lib.hid (HK.out.next (balloc (Below.refl _ _) (.cells #[.int .i64 o.lo, .int .i64 o.hi] 25)))
      have FA := Lib.hid (far_new HK.out (.cells #[.int .i64 o.lo, .int .i64 o.hi] 25))
      have OB := Lib.hid (B2.new wr (.int .i64 o.lo) (.int .i64 o.hi) 25)
      have NX := Lib.hid (wo_next (s := s) ho)
      have BE := Lib.hid (fun W => before o s.lo W)
      have FR := Lib.hid (fun W => from_ o s.hi W)
      have L3 := Lib.hid (L1.out k)
      clear HK ho
      have AT := Lib.hid (fun W v es' (hK : SpK w0 es' v W) (hL : es'.length ≤ 90) => attach w0 es' v (befS o s.lo) W hK (by omega))
      have AT2 := Lib.hid (fun W v es' (hK : SpK w0 es' v W) (hL : es'.length ≤ 90) => attach w0 es' v (froS o s.hi) W hK (by omega))
      have NX2 : Hid (atts [] (woS (l.take (k + 1)) s) = att (att (atts [] (woS (l.take k) s)) (befS o s.lo)) (froS o s.hi)) := Lib.hid (by rw [NX.out, atts_snoc, atts_snoc])
      clear NX
      generalize atts [] (woS (l.take k) s) = es at *
      have L4 : Hid ((att es (befS o s.lo)).length ≤ 81) := Lib.hid (by have := att_len es (befS o s.lo); have := L3.out; omega)
      generalize befS o s.lo = x1 at *
      generalize froS o s.hi = x2 at *
      obtain ⟨lo, hi⟩ := o
      obtain ⟨slo, shi⟩ := s
      dsimp only at *
      go_wp2_with fail
      refine (BE.out _).mono ?_
      rintro e w1 ⟨rfl, hb1⟩
      have K2 := Lib.hid (K1.out.next hb1)
      have OB1 := Lib.hid (OB.out.next hb1)
      have FA1 := Lib.hid ((Keeps.below hb1) _ FA.out).1
      have A1 := Lib.hid (AT.out _ _ _ K2.out (by have := L3.out; omega))
      clear hb1 K1 OB FA BE AT b0 b1 c0 c1
      go_wp2_with fail
      refine A1.out.mono ?_
      rintro e w2 ⟨v2, rfl, hk2, hkp2⟩
      have K3 := Lib.hid hk2
      have OB2 := Lib.hid (hkp2.b2 FA1.out OB1.out)
      obtain ⟨d, d0, d1, _, _⟩ := OB2.out
      obtain ⟨_, b0, b1, _, _⟩ := SB.out w2 hk2.bel
      clear hk2 hkp2 A1 K2 OB1 FA1
      go_wp2_with fail
      refine (FR.out _).mono ?_
      rintro e w3 ⟨rfl, hb3⟩
      have A2 := Lib.hid (AT2.out _ _ _ (K3.out.next hb3) (by have := L4.out; omega))
      clear hb3 K3 FR AT2 b0 b1 d d0 d1 OB2
      go_wp2_with fail
      refine A2.out.mono ?_
      rintro e w4 ⟨v4, rfl, hk4, _⟩
      have K5 := Lib.hid hk4
      clear hk4 A2
      go_wp2_with fail
      go_roundw
      case rel => exact ⟨k + 1, by omega, by go_num, Lib.hid (by rw [NX2.out]; exact K5.out)⟩
      case measure => simp [intOf]; omega
    · obtain rfl : k = N := by omega
      have TK : Hid (l.take k = l) := Lib.hid (by rw [HN.out, List.take_length])
      rw [TK.out] at HK
      go_wp2_with fail
      go_ret
      exact ⟨_, rfl, SpK.rebase HK.out HW.out⟩
end Go.Proofs.Ytdiogfhbgmkajaa.SpanC
