/-
  Package words: equal words: slices.Equal, equal, slices.EqualFunc.
-/
import Derived.Test.YtedlgobpoifnfaaWordWeak
import Derived.BigQuiet
namespace Go.Proofs.Ytedlgobpoifnfaa.WordC
open Go.RowKit Kit WordM LineM

theorem eq_wd {v x : List UInt8} : ((bs v).toList == (bs x).toList) = decide (v = x) := by
  rw [Lib.toList_data, Lib.toList_data, Bool.eq_iff_iff]
  simp
theorem take_eq_succ {α : Type} {xs ys : List α} {k : Nat} {x y : α} (h : xs.take k = ys.take k) (hx : xs[k]? = some x) (hy : ys[k]? = some y) (e : x = y) : xs.take (k + 1) = ys.take (k + 1) := by
  rw [List.take_add_one, List.take_add_one, h, hx, hy, e]
theorem ne_of_get {α : Type} {xs ys : List α} {k : Nat} {x y : α} (hx : xs[k]? = some x) (hy : ys[k]? = some y) (e : x ≠ y) : xs ≠ ys := by
  intro h
  rw [h, hy] at hx
  exact e (by injection hx with hx; exact hx.symm)
set_option maxRecDepth 100000 in
set_option maxHeartbeats 2000000 in
theorem equalInts (v1 v2 : Value) (xs ys : List Int) (w : World) (h1 : IsW w v1 xs) (h2 : IsW w v2 ys) (hl : xs.length ≤ maxLen) :
    Calls Try.prog 51 #[v1, v2] w fun e w' => e = .returned (.bool (decide (xs = ys))) ∧ Below w.heap.size w w' := by
  obtain ⟨a1, c1, rfl, ha1⟩ := h1
  obtain ⟨a2, c2, rfl, ha2⟩ := h2
  unfold maxLen at hl
  by_cases hn : xs.length = ys.length
  · have A1 := Lib.hid ha1
    have A2 := Lib.hid ha2
    have HNE : Hid (xs.length = ys.length) := Lib.hid hn
    rw [← hn]
    clear ha1 ha2 hn
    go_enter Try.func51, Try.ntmps51
    go_wp2_with fail
    go_loopw [13] (fun vi wr => ∃ k : Nat, k ≤ xs.length ∧ vi = .int .i64 (k : Int) ∧ Hid (xs.take k = ys.take k ∧ Below w.heap.size w wr)) (fun vi _ => xs.length - (intOf vi).toNat)
    case atStart => exact ⟨0, by omega, rfl, Lib.hid ⟨by simp, Below.refl _ _⟩⟩
    case round =>
      obtain ⟨k, hk, rfl, HK⟩ := hrel
      by_cases hlt : k < xs.length
      · have hx : xs[k]? = some xs[k] := by simp [hlt]
        have hlt2 : k < ys.length := by rw [← HNE.out]; exact hlt
        have hy : ys[k]? = some ys[k] := by simp [hlt2]
        obtain ⟨g1, o1, rfl, hg1, cx0⟩ := IsAt.get A1.out hx
        obtain ⟨g2, o2, rfl, hg2, cy0⟩ := IsAt.get A2.out hy
        have cx := keep HK.out.2 hg1 cx0
        have cy := keep HK.out.2 hg2 cy0
        have r1 : IntKind.i64.wrap ((k : Int) + 1) = (k : Int) + 1 := IntWalk.i64_in _ (by omega)
        have p1 : (0 : Int) ≤ (k : Int) := by omega
        have p2 : (k : Int) < (xs.length : Int) := by omega
        by_cases e : xs[k] = ys[k]
        · have HT := Lib.hid (take_eq_succ HK.out.1 hx hy e)
          rw [← e] at cy
          clear hx hy cx0 cy0 e hlt2
          generalize xs[k] = z at *
          go_wp2_with fail
          go_quiet (fail)
          go_wp2_with fail
          go_roundw
          case rel => exact ⟨k + 1, by omega, by go_num, Lib.hid ⟨HT.out, bdrewN HK.out.2 _⟩⟩
          case measure => simp [intOf]; omega
        · have HD := Lib.hid (ne_of_get hx hy e)
          have hb : (xs[k] == ys[k]) = false := by simpa using e
          clear hx hy cx0 cy0 e
          generalize xs[k] = z at *
          generalize ys[k] = z2 at *
          go_wp2_with fail
          go_quiet (fail)
          go_wp2_with fail
          go_ret
          exact ⟨by rw [decide_eq_false HD.out]; rfl, bdrewN HK.out.2 _⟩
      · have HE : Hid (xs = ys) := Lib.hid (by
          have := HK.out.1
          rw [List.take_of_length_le (by omega), List.take_of_length_le (by rw [← HNE.out]; omega)] at this
          exact this)
        go_wp2_with fail
        go_ret
        exact ⟨by rw [decide_eq_true HE.out]; rfl, HK.out.2⟩
  · have HD : Hid (xs ≠ ys) := Lib.hid (fun e => hn (by rw [e]))
    have hb : ((xs.length : Int) == (ys.length : Int)) = false := by simp; omega
    go_enter Try.func51, Try.ntmps51
    go_wp2_with fail
    go_ret
    exact ⟨by rw [decide_eq_false HD.out]; rfl, Below.refl _ _⟩
set_option maxRecDepth 100000 in
set_option maxHeartbeats 2000000 in
theorem equal (p q : List UInt8 × List Int) (u1 u2 : Value) (w : World) (h1 : IsW w u1 p.2) (h2 : IsW w u2 q.2) (hl : p.2.length ≤ maxLen) :
    Calls Try.prog 33 #[.agg #[.string (bs p.1), u1], .agg #[.string (bs q.1), u2]] w fun e w' => e = .returned (.bool (decide (p = q))) ∧ Below w.heap.size w w' := by
  obtain ⟨a1, n1, c1, e1⟩ := h1.form
  obtain ⟨a2, n2, c2, e2⟩ := h2.form
  have B : Below w.heap.size w ((w.alloc (.cells #[.string (bs p.1), u1] 46)).alloc (.cells #[.string (bs q.1), u2] 46)) := balloc (balloc (Below.refl _ _) _) _
  have E := Lib.hid (equalInts u1 u2 p.2 q.2 _ (h1.next B) (h2.next B) hl)
  have hq : ((bs p.1).toList == (bs q.1).toList) = decide (p.1 = q.1) := by rw [eq_wd]
  have D : Hid (decide (p = q) = (decide (p.1 = q.1) && decide (p.2 = q.2))) := Lib.hid (by
    rw [Bool.eq_iff_iff]
    simp [Prod.ext_iff])
  generalize decide (p.1 = q.1) = b1 at *
  generalize decide (p.2 = q.2) = b2 at *
  generalize decide (p = q) = b3 at *
  have BB := Lib.hid B
  clear B h1 h2
  subst e1 e2
  generalize bs p.1 = x at *
  generalize bs q.1 = y at *
  cases b1
  · go_enter Try.func33, Try.ntmps33
    go_wp2_with fail
    go_ret
    exact ⟨by rw [D.out]; rfl, BB.out⟩
  · go_enter Try.func33, Try.ntmps33
    go_wp2_with (go_at_call 51; refine E.out.mono ?_; rintro e w1 ⟨rfl, hb1⟩)
    go_ret
    exact ⟨by rw [D.out]; cases b2 <;> rfl, bstep BB.out hb1⟩
set_option maxRecDepth 100000 in
set_option maxHeartbeats 2000000 in
theorem equalFunc (va vb : Value) (m l : List (List UInt8 × List Int)) (w : World) (h1 : WsW w va m) (h2 : WsW w vb l) (hl : l.length ≤ 600) (hm : ∀ p ∈ m, p.2.length ≤ maxLen) :
    Calls Try.prog 32 #[va, vb, .func (.func 33) #[] #[]] w fun e w' => e = .returned (.bool (decide (m = l))) ∧ Below w.heap.size w w' := by
  obtain ⟨a1, c1, rfl⟩ := h1.form
  obtain ⟨a2, c2, rfl⟩ := h2.form
  by_cases hn : m.length = l.length
  · have A1 := Lib.hid h1
    have A2 := Lib.hid h2
    have HNE : Hid (m.length = l.length) := Lib.hid hn
    have HM := Lib.hid hm
    rw [hn] at A1 ⊢
    clear h1 h2 hn hm
    generalize hN : l.length = N at *
    have HN := Lib.hid hN
    clear hN
    go_enter Try.func32, Try.ntmps32
    go_wp2_with fail
    go_loopw [17] (fun vi wr => ∃ k : Nat, k ≤ N ∧ vi = .int .i64 (k : Int) ∧ Hid (m.take k = l.take k ∧ Below w.heap.size w wr)) (fun vi _ => N - (intOf vi).toNat)
    case atStart => exact ⟨0, by omega, rfl, Lib.hid ⟨by simp, Below.refl _ _⟩⟩
    case round =>
      obtain ⟨k, hk, rfl, HK⟩ := hrel
      by_cases hlt : k < N
      · have hltm : k < m.length := by rw [HNE.out]; exact hlt
        have hltl : k < l.length := by rw [HN.out]; exact hlt
        obtain ⟨p, hpx⟩ : ∃ p, m[k]? = some p := ⟨m[k], by simp [hltm]⟩
        obtain ⟨q, hqx⟩ : ∃ q, l[k]? = some q := ⟨l[k], by simp [hltl]⟩
        obtain ⟨g1, o1, u1, rfl, hg1, cx0, cx1, hu1⟩ := A1.out.get hpx
        obtain ⟨g2, o2, u2, rfl, hg2, cy0, cy1, hu2⟩ := A2.out.get hqx
        obtain ⟨b1, n1, d1, e1⟩ := hu1.form
        obtain ⟨b2, n2, d2, e2⟩ := hu2.form
        have B0 : Below w.heap.size w ((wr.alloc (.cells #[.string (bs p.1), u1] 46)).alloc (.cells #[.string (bs q.1), u2] 46)) := balloc (balloc HK.out.2 _) _
        have E := Lib.hid (equal p q u1 u2 _ (hu1.next B0) (hu2.next B0) (HM.out p (List.mem_of_getElem? hpx)))
        have x0 := keep HK.out.2 hg1 cx0
        have x1 := keep HK.out.2 hg1 cx1
        have y0 := keep HK.out.2 hg2 cy0
        have y1 := keep HK.out.2 hg2 cy1
        have lx := block_lt x0
        have ly := block_lt y0
        have r1 : IntKind.i64.wrap ((k : Int) + 1) = (k : Int) + 1 := IntWalk.i64_in _ (by omega)
        have p1 : (0 : Int) ≤ (k : Int) := by omega
        have p2 : (k : Int) < (N : Int) := by omega
        have BB := Lib.hid B0
        by_cases e : p = q
        · have HT := Lib.hid (take_eq_succ HK.out.1 hpx hqx e)
          rw [decide_eq_true e] at E
          clear hpx hqx cx0 cx1 cy0 cy1 hu1 hu2 e B0 hltm hltl
          generalize bs p.1 = x at *
          generalize bs q.1 = y at *
          subst e1 e2
          go_wp2_with (go_at_call 33; refine E.out.mono ?_; rintro e w1 ⟨rfl, hb1⟩)
          go_roundw
          case rel => exact ⟨k + 1, by omega, by go_num, Lib.hid ⟨HT.out, bstep BB.out hb1⟩⟩
          case measure => simp [intOf]; omega
        · have HD := Lib.hid (ne_of_get hpx hqx e)
          rw [decide_eq_false e] at E
          clear hpx hqx cx0 cx1 cy0 cy1 hu1 hu2 e B0 hltm hltl
          generalize bs p.1 = x at *
          generalize bs q.1 = y at *
          subst e1 e2
          go_wp2_with (go_at_call 33; refine E.out.mono ?_; rintro e w1 ⟨rfl, hb1⟩)
          go_ret
          exact ⟨by rw [decide_eq_false HD.out]; rfl, bstep BB.out hb1⟩
      · have HE : Hid (m = l) := Lib.hid (by
          have := HK.out.1
          rw [List.take_of_length_le (by rw [HNE.out]; omega), List.take_of_length_le (by rw [HN.out]; omega)] at this
          exact this)
        go_wp2_with fail
        go_ret
        exact ⟨by rw [decide_eq_true HE.out]; rfl, HK.out.2⟩
  · have HD : Hid (m ≠ l) := Lib.hid (fun e => hn (by rw [e]))
    have hb : ((m.length : Int) == (l.length : Int)) = false := by simp; omega
    clear h1 h2
    go_enter Try.func32, Try.ntmps32
    go_wp2_with fail
    go_ret
    exact ⟨by rw [decide_eq_false HD.out]; rfl, Below.refl _ _⟩
end Go.Proofs.Ytedlgobpoifnfaa.WordC
