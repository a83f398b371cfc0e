/-
  The document: SameWords.
-/
import Derived.Test.YtedlgobpoifnfaaWordSame
namespace Go.Proofs.Ytedlgobpoifnfaa.WordR
open Go.RowKit Kit WordM LineM WordC

set_option maxRecDepth 100000 in
set_option maxHeartbeats 4000000 in
theorem sameWords (va vb : Value) (l m : List (List UInt8 × List Int)) (w : World) (h1 : WsW w va l) (h2 : WsW w vb m) (hl : l.length ≤ 600) (hp : ∀ p ∈ l, p.2.length ≤ 600) :
    Calls Try.prog 11 #[va, vb] w fun e w' => e = .returned (.bool (decide (l = m))) ∧ Below w.heap.size w w' := by
  have mixed : Try.prog.follows .mixedOrders = true := by kernel_rfl
  obtain ⟨a1, c1, rfl⟩ := h1.form
  obtain ⟨a2, c2, rfl⟩ := h2.form
  by_cases hn : m.length = l.length
  · have A1 := Lib.hid h1
    have A2 := Lib.hid h2
    have HNE : Hid (m.length = l.length) := Lib.hid hn
    have HP := Lib.hid hp
    rw [hn] at A2 ⊢
    clear h1 h2 hn hp
    generalize hN : l.length = N at *
    have HN := Lib.hid hN
    clear hN
    go_enter Try.func11, Try.ntmps11
    go_wp2_with fail
    go_loopw [14] (fun vi wr => ∃ k : Nat, k ≤ N ∧ vi = .int .i64 (k : Int) ∧ Hid (l.take k = m.take k ∧ Below w.heap.size w wr)) (fun vi _ => N - (intOf vi).toNat)
    case atStart => exact ⟨0, by omega, rfl, Lib.hid ⟨by simp, Below.refl _ _⟩⟩
    case round =>
      obtain ⟨k, hk, rfl, HK⟩ := hrel
      by_cases hlt : k < N
      · have hltm : k < m.length := by rw [HNE.out]; exact hlt
        have hltl : k < l.length := by rw [HN.out]; exact hlt
        obtain ⟨p, hpx⟩ : ∃ p, l[k]? = some p := ⟨l[k], by simp [hltl]⟩
        obtain ⟨q, hqx⟩ : ∃ q, m[k]? = some q := ⟨m[k], by simp [hltm]⟩
        obtain ⟨g1, o1, u1, rfl, hg1, cx0, cx1, hu1⟩ := A1.out.get hpx
        obtain ⟨g2, o2, u2, rfl, hg2, cy0, cy1, hu2⟩ := A2.out.get hqx
        obtain ⟨b1, d1, rfl, ha1⟩ := hu1
        obtain ⟨b2, d2, rfl, ha2⟩ := hu2
        have x0 := keep HK.out.2 hg1 cx0
        have x1 := keep HK.out.2 hg1 cx1
        have y0 := keep HK.out.2 hg2 cy0
        have y1 := keep HK.out.2 hg2 cy1
        have r1 : IntKind.i64.wrap ((k : Int) + 1) = (k : Int) + 1 := IntWalk.i64_in _ (by omega)
        have p1 : (0 : Int) ≤ (k : Int) := by omega
        have p2 : (k : Int) < (N : Int) := by omega
        have hp6 : p.2.length ≤ 600 := HP.out p (List.mem_of_getElem? hpx)
        clear hltm hltl
        by_cases et : p.1 = q.1
        · have hb : ((bs p.1).toList == (bs q.1).toList) = true := by rw [eq_wd]; exact decide_eq_true et
          by_cases el : p.2.length = q.2.length
          · have HEL : Hid (p.2.length = q.2.length) := Lib.hid el
            rw [← el] at y1
            have HA1 := Lib.hid ha1
            have HA2 := Lib.hid ha2
            have HX := Lib.hid (And.intro hpx hqx)
            have HET := Lib.hid et
            clear cx0 cx1 cy0 cy1 ha1 ha2 hpx hqx et el
            generalize bs p.1 = x at *
            generalize bs q.1 = y at *
            generalize hn1 : p.2.length = n at *
            have HN1 := Lib.hid hn1
            clear hn1
            go_wp2_with fail
            go_quiet (fail)
            have BQ : Hid (Below w.heap.size w (wr.drewN nq)) := Lib.hid (bdrewN HK.out.2 _)
            have BQ1 : Hid (∀ W, Below (wr.drewN nq).heap.size (wr.drewN nq) W → W.cell? ⟨g1, o1 + k * 2, none⟩ = some (.string x) ∧ W.cell? ⟨g1, o1 + k * 2 + 1, none⟩ = some (.slice b1 n d1) ∧ W.cell? ⟨g2, o2 + k * 2, none⟩ = some (.string y) ∧ W.cell? ⟨g2, o2 + k * 2 + 1, none⟩ = some (.slice b2 n d2)) := Lib.hid (fun W hW => ⟨keep hW (block_lt x0) x0, keep hW (block_lt x1) x1, keep hW (block_lt y0) y0, keep hW (block_lt y1) y1⟩)
            obtain ⟨wq, hwq⟩ : ∃ wq, wq = wr.drewN nq := ⟨_, rfl⟩
            rw [← hwq] at BQ BQ1 ⊢
            obtain ⟨z0, z1, z2, z3⟩ := BQ1.out wq (Below.refl _ _)
            clear x0 x1 y0 y1 hwq
            go_wp2_with fail
            go_loopw [49] (fun vj wj => ∃ j : Nat, j ≤ n ∧ vj = .int .i64 (j : Int) ∧ Hid (p.2.take j = q.2.take j ∧ Below wq.heap.size wq wj)) (fun vj _ => n - (intOf vj).toNat)
            case atStart => exact ⟨0, by omega, rfl, Lib.hid ⟨by simp, Below.refl _ _⟩⟩
            case round =>
              obtain ⟨j, hj, rfl, HJ⟩ := hrel
              obtain ⟨x0, x1, y0, y1⟩ := BQ1.out wr HJ.out.2
              clear z0 z1 z2 z3
              by_cases hjn : j < n
              · have hj1 : j < p.2.length := by rw [HN1.out]; exact hjn
                have hj2 : j < q.2.length := by rw [← HEL.out]; exact hjn
                have hx : p.2[j]? = some p.2[j] := by simp [hj1]
                have hy : q.2[j]? = some q.2[j] := by simp [hj2]
                obtain ⟨g3, o3, rfl, hg3, cx⟩ := IsAt.get HA1.out hx
                obtain ⟨g4, o4, rfl, hg4, cy⟩ := IsAt.get HA2.out hy
                have BW := bstep BQ.out HJ.out.2
                have cx' := keep BW hg3 cx
                have cy' := keep BW hg4 cy
                have r2 : IntKind.i64.wrap ((j : Int) + 1) = (j : Int) + 1 := IntWalk.i64_in _ (by omega)
                have p3 : (0 : Int) ≤ (j : Int) := by omega
                have p4 : (j : Int) < (n : Int) := by omega
                by_cases e : p.2[j] = q.2[j]
                · have HT := Lib.hid (take_eq_succ HJ.out.1 hx hy e)
                  rw [← e] at cy'
                  clear hx hy cx cy e hj2
                  generalize p.2[j] = z at *
                  have HBW := Lib.hid BW
                  clear BW
                  go_wp2_with fail
                  go_quiet (fail)
                  go_wp2_with fail
                  go_roundw
                  case rel => exact ⟨j + 1, by omega, by go_num, Lib.hid ⟨HT.out, bdrewN HJ.out.2 _⟩⟩
                  case measure => simp [intOf]; omega
                · have HD : Hid (l ≠ m) := Lib.hid (fun e' => ne_of_get hx hy e (by
                    have := HX.out.1
                    rw [e', HX.out.2] at this
                    injection this with this
                    rw [this]))
                  have hb2 : (p.2[j] == q.2[j]) = false := by simpa using e
                  clear hx hy cx cy e
                  generalize p.2[j] = z at *
                  generalize q.2[j] = z2 at *
                  have HBW := Lib.hid BW
                  clear BW
                  go_wp2_with fail
                  go_quiet (fail)
                  go_wp2_with fail
                  go_ret
                  exact ⟨by rw [decide_eq_false HD.out]; rfl, bdrewN HBW.out _⟩
              · have HE : Hid (l.take (k + 1) = m.take (k + 1)) := Lib.hid (by
                  have := HJ.out.1
                  rw [List.take_of_length_le (by rw [HN1.out]; omega), List.take_of_length_le (by rw [← HEL.out]; omega)] at this
                  exact take_eq_succ HK.out.1 HX.out.1 HX.out.2 (Prod.ext HET.out this))
                go_wp2_with fail
                go_roundw
                case rel => exact ⟨k + 1, by omega, by go_num, Lib.hid ⟨HE.out, bstep BQ.out HJ.out.2⟩⟩
                case measure => simp [intOf]; omega
          · have HD : Hid (l ≠ m) := Lib.hid (ne_of_get hpx hqx (fun e => el (by rw [e])))
            have hb2 : ((p.2.length : Int) == (q.2.length : Int)) = false := by simp; omega
            clear cx0 cx1 cy0 cy1 ha1 ha2 hpx hqx et
            generalize bs p.1 = x at *
            generalize bs q.1 = y at *
            go_wp2_with fail
            go_quiet (fail)
            go_wp2_with fail
            go_ret
            exact ⟨by rw [decide_eq_false HD.out]; rfl, bdrewN HK.out.2 _⟩
        · have HD : Hid (l ≠ m) := Lib.hid (ne_of_get hpx hqx (fun e => et (by rw [e])))
          have hb : ((bs p.1).toList == (bs q.1).toList) = false := by rw [eq_wd]; exact decide_eq_false et
          clear cx0 cx1 cy0 cy1 ha1 ha2 hpx hqx et
          generalize bs p.1 = x at *
          generalize bs q.1 = y at *
          go_wp2_with fail
          go_quiet (fail)
          go_wp2_with fail
          go_ret
          exact ⟨by rw [decide_eq_false HD.out]; rfl, bdrewN HK.out.2 _⟩
      · have HE : Hid (l = m) := Lib.hid (by
          have := HK.out.1
          rw [List.take_of_length_le (by rw [HN.out]; omega), List.take_of_length_le (by rw [HNE.out]; omega)] at this
          exact this)
        go_wp2_with fail
        go_ret
        exact ⟨by rw [decide_eq_true HE.out]; rfl, HK.out.2⟩
  · have HD : Hid (l ≠ m) := Lib.hid (fun e => hn (by rw [e]))
    have hb : ((l.length : Int) == (m.length : Int)) = false := by simp; omega
    clear h1 h2 hp
    go_enter Try.func11, Try.ntmps11
    go_wp2_with fail
    go_ret
    exact ⟨by rw [decide_eq_false HD.out]; rfl, Below.refl _ _⟩
end Go.Proofs.Ytedlgobpoifnfaa.WordR
