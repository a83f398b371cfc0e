/-
  The document's answer: SpansWiden; the law SpansWidens, walked.
-/
import Derived.Test.YtdiogfhbgmkajaaSpanWiden
import Derived.Test.YtdiogfhbgmkajaaSpanEq
namespace Go.Proofs.Ytdiogfhbgmkajaa.SpanM
open Go.RowKit Kit
/-- the number that a cell holds -/
def cellN (w : World) (p : Addr) : Nat := match w.cell? p with | some (.int _ z) => z.toNat | _ => 0
theorem cellN_of {w : World} {p : Addr} {n : Nat} (h : w.cell? p = some (.int .i64 (n : Int))) : cellN w p = n := by unfold cellN; rw [h]; simp
theorem B2.set1 {k : Nat} {a b : Value} {W : World} (h : B2 k a b W) (b' : Value) : B2 k a b' (W.setCell ⟨k, 1, none⟩ b') := by
  obtain ⟨h0, h1, h2, h4, h5⟩ := h
  exact ⟨by rw [setZ]; exact h0, (setO (.inr (by omega)) _).trans h1, setS h2 _, by rw [World.frozen?_setCell]; exact h4, by rw [World.frozen?_setCell]; exact h5⟩
theorem B2.set0 {k : Nat} {a b : Value} {W : World} (h : B2 k a b W) (a' : Value) : B2 k a' b (W.setCell ⟨k, 0, none⟩ a') := by
  obtain ⟨h0, h1, h2, h4, h5⟩ := h
  exact ⟨by rw [setZ]; exact h0, setS h1 _, (setO (.inr (by omega)) _).trans h2, by rw [World.frozen?_setCell]; exact h4, by rw [World.frozen?_setCell]; exact h5⟩
theorem byte_at (t : ByteArray) (i : Nat) (h : i < t.size) : t.data.toList[i]? = some t[i] := by
  rw [List.getElem?_eq_getElem (by simpa using h)]; rfl
end Go.Proofs.Ytdiogfhbgmkajaa.SpanM
namespace Go.Proofs.Ytdiogfhbgmkajaa.SpanR
open Go.RowKit Kit SpanM SpanC WideM PosM StrB

set_option maxHeartbeats 1000000 in
theorem widen_no_ref (t : ByteArray) (s : SpM) (w : World) (hc : widC t s ≠ 0) (hsz : t.size ≤ 140737488351232) :
    Calls Try.prog 26 #[.string t, .agg #[.int .i64 s.lo, .int .i64 s.hi]] w (WidPost (widC t s) ⟨0, 0⟩ w) := by
  have A0 := Lib.hid (balloc (balloc (Below.refl w.heap.size w) (.cells #[.int .i64 s.lo, .int .i64 s.hi] 25)) (.cells #[.int .i64 0, .int .i64 0] 25))
  by_cases h : 600 < t.size
  · rw [show widC t s = 1 by unfold widC; rw [if_pos h]]
    have g : (600 : Int) < (t.size : Int) := by omega
    clear hc
    go_enter Try.func26, Try.ntmps26
    go_wp2_with fail
    refine bodyPost_ret (v := .tuple #[.agg #[.int .i64 0, .int .i64 0], .int .i64 1]) (by simp [results, Try.results26, go_sem]) rfl ⟨rfl, A0.out⟩
  · have g : ¬ (600 : Int) < (t.size : Int) := by omega
    have hw : ¬ WithinP t.size s := fun q => hc (by unfold widC; rw [if_neg h, if_pos q])
    rw [show widC t s = 2 by unfold widC; rw [if_neg h, if_neg hw]]
    have hw' : s.lo < 0 ∨ s.hi < s.lo ∨ (t.size : Int) < s.hi := by unfold WithinP at hw; omega
    clear hc hw
    by_cases q1 : s.lo < 0
    · clear hw'
      go_enter Try.func26, Try.ntmps26
      go_wp2_with fail
      refine bodyPost_ret (v := .tuple #[.agg #[.int .i64 0, .int .i64 0], .int .i64 2]) (by simp [results, Try.results26, go_sem]) rfl ⟨rfl, A0.out⟩
    by_cases q2 : s.hi < s.lo
    · clear hw'
      go_enter Try.func26, Try.ntmps26
      go_wp2_with fail
      refine bodyPost_ret (v := .tuple #[.agg #[.int .i64 0, .int .i64 0], .int .i64 2]) (by simp [results, Try.results26, go_sem]) rfl ⟨rfl, A0.out⟩
    have q3 : (t.size : Int) < s.hi := by omega
    clear hw'
    go_enter Try.func26, Try.ntmps26
    go_wp2_with fail
    refine bodyPost_ret (v := .tuple #[.agg #[.int .i64 0, .int .i64 0], .int .i64 2]) (by simp [results, Try.results26, go_sem]) rfl ⟨rfl, A0.out⟩
set_option maxRecDepth 100000 in
set_option maxHeartbeats 4000000 in
theorem widen_ok_ref (t : ByteArray) (lo hi : Nat) (w : World) (h : t.size ≤ 600) (h1 : lo ≤ hi) (h2 : hi ≤ t.size) :
    Calls Try.prog 26 #[.string t, .agg #[.int .i64 (lo : Int), .int .i64 (hi : Int)]] w (WidPost 0 ⟨wl t.data.toList lo, wh t.data.toList hi⟩ w) := by
  have hll : t.data.toList.length = t.size := by simp
  have LSS := Lib.hid (wl_ls t.data.toList (lo := lo) (by omega))
  have LEE := Lib.hid (wh_le t.data.toList (hi := hi) (by omega))
  generalize wl t.data.toList lo = v at *
  generalize wh t.data.toList hi = y at *
  have hv := LSS.out.le
  have A0 := Lib.hid (balloc (balloc (Below.refl w.heap.size w) (.cells #[.int .i64 (lo : Int), .int .i64 (hi : Int)] 25)) (.cells #[.int .i64 0, .int .i64 0] 25))
  have X1 := Lib.hid ((B2.new w (.int .i64 (lo : Int)) (.int .i64 (hi : Int)) 25).alloc (.cells #[.int .i64 0, .int .i64 0] 25))
  have X2 := Lib.hid (B2.new (w.alloc (.cells #[.int .i64 (lo : Int), .int .i64 (hi : Int)] 25)) (.int .i64 0) (.int .i64 0) 25)
  rw [show (w.alloc (.cells #[.int .i64 (lo : Int), .int .i64 (hi : Int)] 25)).heap.size = w.heap.size + 1 by simp] at X2
  have g : ¬ (600 : Int) < (t.size : Int) := by omega
  have g1 : ¬ (t.size : Int) < (hi : Int) := by omega
  have g2 : ¬ (hi : Int) < (lo : Int) := by omega
  clear hll
  go_enter Try.func26, Try.ntmps26
  go_wp2_with fail
  go_loopw [38] (fun _ wr => ∃ x : Nat, v ≤ x ∧ x ≤ lo ∧ Hid (B2 w.heap.size (.int .i64 (x : Int)) (.int .i64 (hi : Int)) wr ∧ B2 (w.heap.size + 1) (.int .i64 0) (.int .i64 0) wr ∧ Below w.heap.size w wr)) (fun _ wr => cellN wr ⟨w.heap.size, 0, none⟩)
  case atStart => exact ⟨lo, by omega, by omega, Lib.hid ⟨X1.out, X2.out, A0.out⟩⟩
  case round =>
    obtain ⟨x, hx1, hx2, HK⟩ := hrel
    clear X1 X2 A0
    obtain ⟨bl, u0, u1, u2, u3⟩ := HK.out.1
    obtain ⟨cl, d0, d1, d2, d3⟩ := HK.out.2.1
    by_cases hxv : v < x
    · obtain ⟨z, rfl⟩ : ∃ z, x = z + 1 := ⟨x - 1, by omega⟩
      have hzt : z < t.size := by omega
      have hbz := byte_at t z hzt
      have hne : t[z] ≠ 10 := fun e => LSS.out.clean z (by omega) (by omega) (by rw [hbz, e])
      have hb : ((t[z].toNat : Int) != 10) = true := by
        have := byte_ne hne
        simpa using this
      have j1 : (0 : Int) < (z : Int) + 1 := by omega
      have j2 : (z : Int) < (t.size : Int) := by omega
      have j3 : (0 : Int) ≤ (z : Int) := by omega
      have r1 : IntKind.i64.wrap (z : Int) = (z : Int) := IntWalk.i64_in _ (by omega)
      have S1 : Hid (B2 w.heap.size (.int .i64 (z : Int)) (.int .i64 (hi : Int)) (wr.setCell ⟨w.heap.size, 0, none⟩ (.int .i64 (z : Int))) ∧ B2 (w.heap.size + 1) (.int .i64 0) (.int .i64 0) (wr.setCell ⟨w.heap.size, 0, none⟩ (.int .i64 (z : Int))) ∧ Below w.heap.size w (wr.setCell ⟨w.heap.size, 0, none⟩ (.int .i64 (z : Int)))) := Lib.hid ⟨B2.set0 HK.out.1 _, HK.out.2.1.other (by omega) _, HK.out.2.2.setCell (p := ⟨w.heap.size, 0, none⟩) (Nat.le_refl _) _⟩
      have CN : Hid (cellN wr ⟨w.heap.size, 0, none⟩ = z + 1) := Lib.hid (cellN_of u0)
      have CM : Hid (cellN (wr.setCell ⟨w.heap.size, 0, none⟩ (.int .i64 (z : Int))) ⟨w.heap.size, 0, none⟩ = z) := Lib.hid (cellN_of S1.out.1.c0)
      clear HK hbz hne
      go_wp2_with fail
      go_roundw
      case rel => exact ⟨z, by omega, by omega, S1⟩
      case measure => rw [CN.out, CM.out]; omega
    · obtain rfl : v = x := by omega
      have OR := LSS.out.at_
      clear LSS
      rcases OR with h0 | ⟨z, hz, h10⟩
      · have j1 : ¬ (0 : Int) < (v : Int) := by omega
        clear h0
        go_wp2_with fail
        go_loopw [47] (fun _ wr => ∃ z : Nat, hi ≤ z ∧ z ≤ t.size ∧ Hid ((∀ i, hi ≤ i → i < z → t.data.toList[i]? ≠ some 10) ∧ B2 w.heap.size (.int .i64 (v : Int)) (.int .i64 (z : Int)) wr ∧ B2 (w.heap.size + 1) (.int .i64 0) (.int .i64 0) wr ∧ Below w.heap.size w wr)) (fun _ wr => t.size - cellN wr ⟨w.heap.size, 1, none⟩)
        case atStart => exact ⟨hi, by omega, by omega, Lib.hid ⟨fun i h1 h2 => by omega, HK.out⟩⟩
        case round =>
          obtain ⟨z, hz1, hz2, HZ⟩ := hrel
          clear HK u0 u1 u2 u3
          obtain ⟨bl, u0, u1, u2, u3⟩ := HZ.out.2.1
          obtain ⟨cl, d0, d1, d2, d3⟩ := HZ.out.2.2.1
          have CN : Hid (cellN wr ⟨w.heap.size, 1, none⟩ = z) := Lib.hid (cellN_of u1)
          by_cases hzl : z < t.size
          · have hbz := byte_at t z hzl
            have j0 : (z : Int) < (t.size : Int) := by omega
            have j1 : (0 : Int) ≤ (z : Int) := by omega
            have S1 : Hid (B2 w.heap.size (.int .i64 (v : Int)) (.int .i64 ((z : Int) + 1)) (wr.setCell ⟨w.heap.size, 1, none⟩ (.int .i64 ((z : Int) + 1))) ∧ B2 (w.heap.size + 1) (.int .i64 0) (.int .i64 0) (wr.setCell ⟨w.heap.size, 1, none⟩ (.int .i64 ((z : Int) + 1))) ∧ Below w.heap.size w (wr.setCell ⟨w.heap.size, 1, none⟩ (.int .i64 ((z : Int) + 1)))) := Lib.hid ⟨B2.set1 HZ.out.2.1 _, HZ.out.2.2.1.other (by omega) _, HZ.out.2.2.2.setCell (p := ⟨w.heap.size, 1, none⟩) (Nat.le_refl _) _⟩
            have CM : Hid (cellN (wr.setCell ⟨w.heap.size, 1, none⟩ (.int .i64 ((z : Int) + 1))) ⟨w.heap.size, 1, none⟩ = z + 1) := Lib.hid (cellN_of (S1.out.1.c1.trans (by rfl)))
            by_cases h10 : t[z] = 10
            · have HY : y = z + 1 := by
                rcases LEE.out.or_ with ⟨q, e1, e2, e3, e4⟩ | ⟨e1, e2⟩
                · rcases Nat.lt_trichotomy z q with c | c | c
                  · exact absurd (by rw [hbz, h10]) (e4 z hz1 c)
                  · omega
                  · exact absurd e3 (HZ.out.1 q e2 c)
                · exact absurd (by rw [hbz, h10]) (e2 z hz1 (by simpa using hzl))
              have hb : ((t[z].toNat : Int) == 10) = true := by rw [h10]; rfl
              have FB := (bput2 S1.out.2.2 (k := w.heap.size + 1) (by omega) (.int .i64 (v : Int)) (.int .i64 ((z : Int) + 1)))
              have YV : (y : Int) = (z : Int) + 1 := by omega
              have HI := Lib.hid YV
              clear h10 HZ S1 CM CN hbz HY YV LEE
              go_wp2_with fail
              refine bodyPost_ret (v := .tuple #[.agg #[.int .i64 (v : Int), .int .i64 ((z : Int) + 1)], .int .i64 0]) (by simp [results, Try.results26, go_sem, *]) rfl ⟨by rw [HI.out]; first | done | rfl, FB⟩
            · have hb := byte_ne h10
              have CL : Hid (∀ i, hi ≤ i → i < z + 1 → t.data.toList[i]? ≠ some 10) := Lib.hid fun i h1 h2 => by
                by_cases e : i = z
                · subst e; rw [hbz]; intro q; injection q with q; exact h10 q
                · exact HZ.out.1 i h1 (by omega)
              clear h10 HZ hbz
              go_wp2_with fail
              go_roundw
              case rel => exact ⟨z + 1, by omega, by omega, Lib.hid ⟨CL.out, S1.out⟩⟩
              case measure => rw [CN.out, CM.out]; omega
          · have HY : y = z := by
              rcases LEE.out.or_ with ⟨q, e1, e2, e3, e4⟩ | ⟨e1, e2⟩
              · have hq : q < t.data.toList.length := (List.getElem?_eq_some_iff.1 e3).1
                exact absurd e3 (HZ.out.1 q e2 (by simp at hq; omega))
              · have hll : t.data.toList.length = t.size := by simp
                omega
            have j0 : ¬ (z : Int) < (t.size : Int) := by omega
            have FB := (bput2 HZ.out.2.2.2 (k := w.heap.size + 1) (by omega) (.int .i64 (v : Int)) (.int .i64 (z : Int)))
            subst HY
            clear HZ CN LEE
            go_wp2_with fail
            refine bodyPost_ret (v := .tuple #[.agg #[.int .i64 (v : Int), .int .i64 (y : Int)], .int .i64 0]) (by simp [results, Try.results26, go_sem, *]) rfl ⟨rfl, FB⟩
      · have hzt : z < t.size := by omega
        have hbz := byte_at t z hzt
        have e10 : t[z] = 10 := by rw [hbz] at h10; injection h10
        have hbb : ((t[z].toNat : Int) != 10) = false := by rw [e10]; rfl
        have j2 : (z : Int) < (t.size : Int) := by omega
        have j3 : (0 : Int) ≤ (z : Int) := by omega
        have r1 : IntKind.i64.wrap (z : Int) = (z : Int) := IntWalk.i64_in _ (by omega)
        clear h10 e10 hbz
        subst hz
        have j1 : (0 : Int) < (z : Int) + 1 := by omega
        go_wp2_with fail
        go_loopw [47] (fun _ wr => ∃ q : Nat, hi ≤ q ∧ q ≤ t.size ∧ Hid ((∀ i, hi ≤ i → i < q → t.data.toList[i]? ≠ some 10) ∧ B2 w.heap.size (.int .i64 ((z : Int) + 1)) (.int .i64 (q : Int)) wr ∧ B2 (w.heap.size + 1) (.int .i64 0) (.int .i64 0) wr ∧ Below w.heap.size w wr)) (fun _ wr => t.size - cellN wr ⟨w.heap.size, 1, none⟩)
        case atStart => exact ⟨hi, by omega, by omega, Lib.hid ⟨fun i h1 h2 => by omega, HK.out⟩⟩
        case round =>
          obtain ⟨q, hz1, hz2, HZ⟩ := hrel
          clear HK u0 u1 u2 u3
          obtain ⟨bl, u0, u1, u2, u3⟩ := HZ.out.2.1
          obtain ⟨cl, d0, d1, d2, d3⟩ := HZ.out.2.2.1
          have CN : Hid (cellN wr ⟨w.heap.size, 1, none⟩ = q) := Lib.hid (cellN_of u1)
          by_cases hzl : q < t.size
          · have hbz := byte_at t q hzl
            have j0 : (q : Int) < (t.size : Int) := by omega
            have j1 : (0 : Int) ≤ (q : Int) := by omega
            have S1 : Hid (B2 w.heap.size (.int .i64 ((z : Int) + 1)) (.int .i64 ((q : Int) + 1)) (wr.setCell ⟨w.heap.size, 1, none⟩ (.int .i64 ((q : Int) + 1))) ∧ B2 (w.heap.size + 1) (.int .i64 0) (.int .i64 0) (wr.setCell ⟨w.heap.size, 1, none⟩ (.int .i64 ((q : Int) + 1))) ∧ Below w.heap.size w (wr.setCell ⟨w.heap.size, 1, none⟩ (.int .i64 ((q : Int) + 1)))) := Lib.hid ⟨B2.set1 HZ.out.2.1 _, HZ.out.2.2.1.other (by omega) _, HZ.out.2.2.2.setCell (p := ⟨w.heap.size, 1, none⟩) (Nat.le_refl _) _⟩
            have CM : Hid (cellN (wr.setCell ⟨w.heap.size, 1, none⟩ (.int .i64 ((q : Int) + 1))) ⟨w.heap.size, 1, none⟩ = q + 1) := Lib.hid (cellN_of (S1.out.1.c1.trans (by rfl)))
            by_cases h10 : t[q] = 10
            · have HY : y = q + 1 := by
                rcases LEE.out.or_ with ⟨m, e1, e2, e3, e4⟩ | ⟨e1, e2⟩
                · rcases Nat.lt_trichotomy q m with c | c | c
                  · exact absurd (by rw [hbz, h10]) (e4 q hz1 c)
                  · omega
                  · exact absurd e3 (HZ.out.1 m e2 c)
                · exact absurd (by rw [hbz, h10]) (e2 q hz1 (by simpa using hzl))
              have hb : ((t[q].toNat : Int) == 10) = true := by rw [h10]; rfl
              have FB := (bput2 S1.out.2.2 (k := w.heap.size + 1) (by omega) (.int .i64 ((z : Int) + 1)) (.int .i64 ((q : Int) + 1)))
              have YV : (y : Int) = (q : Int) + 1 := by omega
              have HI := Lib.hid YV
              clear h10 HZ S1 CM CN hbz HY YV LEE
              go_wp2_with fail
              refine bodyPost_ret (v := .tuple #[.agg #[.int .i64 ((z : Int) + 1), .int .i64 ((q : Int) + 1)], .int .i64 0]) (by simp [results, Try.results26, go_sem, *]) rfl ⟨by rw [HI.out]; first | done | rfl, FB⟩
            · have hb := byte_ne h10
              have CL : Hid (∀ i, hi ≤ i → i < q + 1 → t.data.toList[i]? ≠ some 10) := Lib.hid fun i h1 h2 => by
                by_cases e : i = q
                · subst e; rw [hbz]; intro q; injection q with q; exact h10 q
                · exact HZ.out.1 i h1 (by omega)
              clear h10 HZ hbz
              go_wp2_with fail
              go_roundw
              case rel => exact ⟨q + 1, by omega, by omega, Lib.hid ⟨CL.out, S1.out⟩⟩
              case measure => rw [CN.out, CM.out]; omega
          · have HY : y = q := by
              rcases LEE.out.or_ with ⟨m, e1, e2, e3, e4⟩ | ⟨e1, e2⟩
              · have hq : m < t.data.toList.length := (List.getElem?_eq_some_iff.1 e3).1
                exact absurd e3 (HZ.out.1 m e2 (by simp at hq; omega))
              · have hll : t.data.toList.length = t.size := by simp
                omega
            have j0 : ¬ (q : Int) < (t.size : Int) := by omega
            have FB := (bput2 HZ.out.2.2.2 (k := w.heap.size + 1) (by omega) (.int .i64 ((z : Int) + 1)) (.int .i64 (q : Int)))
            subst HY
            clear HZ CN LEE
            go_wp2_with fail
            refine bodyPost_ret (v := .tuple #[.agg #[.int .i64 ((z : Int) + 1), .int .i64 (y : Int)], .int .i64 0]) (by simp [results, Try.results26, go_sem, *]) rfl ⟨rfl, FB⟩
theorem widen_ref (t : ByteArray) (s : SpM) (w : World) (hsz : t.size ≤ 140737488351232) :
    Calls Try.prog 26 #[.string t, .agg #[.int .i64 s.lo, .int .i64 s.hi]] w (WidPost (widC t s) (widS t s) w) := by
  by_cases hc : widC t s = 0
  · rw [show widS t s = ⟨wl t.data.toList s.lo.toNat, wh t.data.toList s.hi.toNat⟩ by unfold widS; rw [hc]; rfl, hc]
    have h : ¬ 600 < t.size := fun q => by unfold widC at hc; rw [if_pos q] at hc; cases hc
    have hw : WithinP t.size s := Classical.byContradiction fun q => by unfold widC at hc; rw [if_neg h, if_neg q] at hc; cases hc
    obtain ⟨h1, h2, h3⟩ := hw
    obtain ⟨lo, hi⟩ := s
    dsimp only at *
    obtain ⟨lo, rfl⟩ := Int.eq_ofNat_of_zero_le h1
    obtain ⟨hi, rfl⟩ := Int.eq_ofNat_of_zero_le (show 0 ≤ hi by omega)
    exact widen_ok_ref t lo hi w (by omega) (by omega) (by omega)
  · rw [show widS t s = ⟨0, 0⟩ by unfold widS; rw [if_neg hc]]
    exact widen_no_ref t s w hc hsz
end Go.Proofs.Ytdiogfhbgmkajaa.SpanR
