/-
  The document: DiffPatch.
-/
import Derived.Test.YtcknmaimkodaeaaRefSteps
import Derived.Test.YtcknmaimkodaeaaStepIn
namespace Go.Proofs.Ytcknmaimkodaeaa.DiffR
open Go.RowKit Kit LineM StrM DiffM DiffA NumR HistM

theorem infoStr : (Try.prog.info? 9).map (fun i => (i.zero, i.size, i.bytes)) = some (some (.string ⟨#[]⟩), 1, 16) := by kernel_rfl
/-- lines of the call's own, and a code -/
def PtPost (R : List ByteArray × Int) (w : World) (e : Ending) (w' : World) : Prop := ∃ v, e = .returned (.tuple #[v, .int .i64 R.2]) ∧ SK w R.1 v w'
section
variable {α : Type}
theorem pstep_kind {a n : List α} {s : Nat × Nat × List α} {p : Int × Int} (h1 : p.1 ≠ 1) (h2 : p.1 ≠ 2) (h3 : p.1 ≠ 3) : pstep a n s p = .error 3 := if_pos ⟨h1, h2, h3⟩
theorem pstep_range {a n : List α} {s : Nat × Nat × List α} {p : Int × Int} (h1 : p.1 = 1 ∨ p.1 = 2 ∨ p.1 = 3) (h2 : p.2 < 1 ∨ 200 < p.2) : pstep a n s p = .error 2 := by
  unfold pstep; rw [if_neg (by omega), if_pos h2]
theorem pstep_1 {a n : List α} {i k c : Nat} {out : List α} (h1 : 1 ≤ c) (h2 : c ≤ 200) : pstep a n (i, k, out) (1, (c : Int)) = if a.length < i + c then .error 5 else .ok (i + c, k, out ++ (a.drop i).take c) := by
  unfold pstep; dsimp only
  rw [if_neg (by omega), if_neg (by omega), if_neg (by omega), if_pos rfl, Int.toNat_natCast]
theorem pstep_2 {a n : List α} {i k c : Nat} {out : List α} (h1 : 1 ≤ c) (h2 : c ≤ 200) : pstep a n (i, k, out) (2, (c : Int)) = if a.length < i + c then .error 5 else .ok (i + c, k, out) := by
  unfold pstep; dsimp only
  rw [if_neg (by omega), if_neg (by omega), if_neg (by omega), if_neg (show ¬ (2 : Int) = 1 by decide), Int.toNat_natCast]
theorem pstep_3 {a n : List α} {i k c : Nat} {out : List α} (h1 : 1 ≤ c) (h2 : c ≤ 200) : pstep a n (i, k, out) (3, (c : Int)) = if n.length < k + c then .error 5 else .ok (i, k + c, out ++ (n.drop k).take c) := by
  unfold pstep; dsimp only
  rw [if_neg (by omega), if_neg (by omega), if_pos rfl, Int.toNat_natCast]
theorem part_next {a : List α} {i q : Nat} {x : α} (h : a[i + q]? = some x) : (a.drop i).take (q + 1) = (a.drop i).take q ++ [x] := by
  rw [List.take_add_one, List.getElem?_drop, h]; rfl
end
/-- lines that are made, beside a box of two numbers -/
structure BxR (w : World) (bk : Nat) (a b : Int) (L : List ByteArray) (vo : Value) (W : World) : Prop where
  own : SK w L vo W
  lt : bk < W.heap.size
  far : vo.ownBlock ≠ some bk
  c0 : W.cell? ⟨bk, 0, none⟩ = some (.int .i64 a)
  c1 : W.cell? ⟨bk, 1, none⟩ = some (.int .i64 b)
theorem BxR.made {w W : World} {a b : Int} {L : List ByteArray} {vo : Value} {t : TypeId} (h : SK w L vo W) : BxR w W.heap.size a b L vo (W.alloc (.cells #[.int .i64 a, .int .i64 b] t)) := by
  have hs : W.heap.size < (W.alloc (.cells #[.int .i64 a, .int .i64 b] t)).heap.size := (Array.getElem?_eq_some_iff.1 (MapKept.heap_alloc W _).1).1
  refine ⟨h.next (balloc (Below.refl _ _) _), hs, fun e => ?_, by rw [cells_new]; rfl, by rw [cells_new]; rfl⟩
  have := (h.row.lt _ e).2
  omega
theorem BxR.push {w wr w1 : World} {bk g1 n cap : Nat} {a b : Int} {L : List ByteArray} {y : ByteArray} {vo : Value} {o : Obj} (h : BxR w bk a b L vo wr) (hown : w1.ownsRow w.heap.size 9 1 (.slice (some ⟨g1, 0, none⟩) n cap) (L.length + 1) (flatC sc L ++ [.string y])) (hgrow : (wr.alloc o).grownBy w1 vo.ownBlock) (hfar : vo.ownBlock = some g1 ∨ g1 = (wr.alloc o).heap.size) : BxR w bk a b (L ++ [y]) (.slice (some ⟨g1, 0, none⟩) n cap) w1 := by
  have hs : wr.heap.size < (wr.alloc o).heap.size := (Array.getElem?_eq_some_iff.1 (MapKept.heap_alloc wr o).1).1
  have hd : w1.heap[bk]? = (wr.alloc o).heap[bk]? := hgrow.block bk (by have := h.lt; omega) (fun e => h.far e.symm)
  have hs2 : (wr.alloc o).heap.size ≤ w1.heap.size := hgrow.size
  have hb := balloc (Below.refl wr.heap.size wr) o
  refine ⟨⟨by rw [List.length_append, flatC_append]; exact hown, bgrow (balloc h.own.bel _) (h.own.row.alloc _) hgrow⟩, by have := h.lt; omega, fun e => ?_, ?_, ?_⟩
  · have e1 : g1 = bk := by simpa [Value.ownBlock] using e
    rcases hfar with hf | hf
    · rw [e1] at hf; exact h.far hf
    · have := h.lt; omega
  · rw [World.cell?_of_block (a := ⟨bk, 0, none⟩) hd]
    exact keep hb h.lt h.c0
  · rw [World.cell?_of_block (a := ⟨bk, 1, none⟩) hd]
    exact keep hb h.lt h.c1
theorem box_two {w W : World} {a b : Value} {t : TypeId} (h : Below (w.alloc (.cells #[a, b] t)).heap.size (w.alloc (.cells #[a, b] t)) W) : W.cell? ⟨w.heap.size, 0, none⟩ = some a ∧ W.cell? ⟨w.heap.size, 1, none⟩ = some b ∧ w.heap.size < W.heap.size := by
  have hs : w.heap.size < (w.alloc (.cells #[a, b] t)).heap.size := (Array.getElem?_eq_some_iff.1 (MapKept.heap_alloc w _).1).1
  have h0 : (w.alloc (.cells #[a, b] t)).cell? ⟨w.heap.size, 0, none⟩ = some a := by rw [cells_new]; rfl
  have h1 : (w.alloc (.cells #[a, b] t)).cell? ⟨w.heap.size, 1, none⟩ = some b := by rw [cells_new]; rfl
  exact ⟨keep h hs h0, keep h hs h1, by have := h.size; omega⟩
theorem patch_big (x : Sv) (al : Option Addr) (cl : Nat) (l : List (Int × Int)) (z : Sv) (w : World) (h : 200 < l.length ∨ 80 < x.l.length ∨ 80 < z.l.length) : Calls Try.prog 15 #[.slice x.a x.l.length x.cap, .slice al l.length cl, .slice z.a z.l.length z.cap] w (PtPost ([], 1) w) := by
  generalize l.length = L at *
  generalize x.l.length = n at *
  generalize z.l.length = m at *
  by_cases h1 : 200 < L
  · clear h
    go_enter Try.func15, Try.ntmps15
    go_wp2_with fail
    go_ret2
    exact ⟨_, rfl, SK.nil (Below.refl _ _)⟩
  · by_cases h2 : 80 < n
    · clear h
      go_enter Try.func15, Try.ntmps15
      go_wp2_with fail
      go_ret2
      exact ⟨_, rfl, SK.nil (Below.refl _ _)⟩
    · have h3 : 80 < m := by omega
      clear h
      go_enter Try.func15, Try.ntmps15
      go_wp2_with fail
      go_ret2
      exact ⟨_, rfl, SK.nil (Below.refl _ _)⟩
set_option maxRecDepth 100000 in
set_option maxHeartbeats 8000000 in
theorem diffPatch (x : Sv) (al : Option Addr) (cl : Nat) (l : List (Int × Int)) (z : Sv) (w : World) (hx : x.has w) (hl : SlAt 2 sci w al l) (hz : z.has w) (h200 : l.length ≤ 200) (hn8 : x.l.length ≤ 80) (hm8 : z.l.length ≤ 80) : Calls Try.prog 15 #[.slice x.a x.l.length x.cap, .slice al l.length cl, .slice z.a z.l.length z.cap] w (PtPost (pfin x.l z.l (prun x.l z.l l (0, 0, []))) w) := by
  obtain ⟨i0, hi, hz0, hz1, hz2⟩ := info_parts infoStr
  have HI := Lib.hid (And.intro hi (And.intro hz0 (And.intro hz1 hz2)))
  clear hi hz0 hz1 hz2
  have HA : Hid (StAt w x.a x.l) := Lib.hid hx
  have HB : Hid (StAt w z.a z.l) := Lib.hid hz
  have HL := Lib.hid hl
  clear hx hl hz
  generalize x.l = la at *
  generalize z.l = lb at *
  generalize x.a = aa at *
  generalize z.a = ab at *
  generalize x.cap = ca at *
  generalize z.cap = cb at *
  have STOP : Hid (∀ t c, prun la lb (l.take t) (0, 0, []) = .error c → ∀ W, Below w.heap.size w W → PtPost (pfin la lb (prun la lb l (0, 0, []))) w (.returned (.tuple #[.slice none 0 0, .int .i64 c])) W) := Lib.hid (fun t c h W hW => by
    rw [prun_stop h]
    exact ⟨_, rfl, SK.nil hW⟩)
  obtain ⟨RES, hRES⟩ : ∃ RES, pfin la lb (prun la lb l (0, 0, [])) = RES := ⟨_, rfl⟩
  have HRES := Lib.hid hRES
  rw [hRES] at STOP ⊢
  clear hRES
  obtain ⟨N, hN⟩ : ∃ N, l.length = N := ⟨_, rfl⟩
  obtain ⟨n, hn⟩ : ∃ n, la.length = n := ⟨_, rfl⟩
  obtain ⟨m, hm⟩ : ∃ m, lb.length = m := ⟨_, rfl⟩
  have HN := Lib.hid hN
  have HNa := Lib.hid hn
  have HMb := Lib.hid hm
  rw [hN] at h200 ⊢
  rw [hn] at hn8 ⊢
  rw [hm] at hm8 ⊢
  clear hN hn hm
  go_enter Try.func15, Try.ntmps15
  go_wp2_with fail
  go_loopw [8, 9, 10, 29] (fun vi vk vo vt wr => ∃ (t i k : Nat) (out : List ByteArray), t ≤ N ∧ i ≤ n ∧ k ≤ m ∧ vt = .int .i64 (t : Int) ∧ vi = .int .i64 (i : Int) ∧ vk = .int .i64 (k : Int) ∧ Hid (prun la lb (l.take t) (0, 0, []) = .ok (i, k, out)) ∧ Hid (SK w out vo wr)) (fun _ _ _ vt _ => N - (intOf vt).toNat)
  case atStart => exact ⟨0, 0, 0, [], by omega, by omega, by omega, rfl, rfl, rfl, Lib.hid rfl, Lib.hid (SK.nil (Below.refl _ _))⟩
  case round =>
    obtain ⟨t, i, k, out, htN, hin, hkm, rfl, rfl, rfl, HP, HO⟩ := hrel
    by_cases hlt : t < N
    · obtain ⟨p, hp⟩ : ∃ p, l[t]? = some p := ⟨l[t]'(by have := HN.out; omega), List.getElem?_eq_getElem _⟩
      obtain ⟨g, off, rfl, hg, c0, c1⟩ := sci_get (HL.out.next HO.out.bel) hp
      have u0 : (0 : Int) ≤ (t : Int) := by omega
      have u1 : (t : Int) < (N : Int) := by omega
      have rt : IntKind.i64.wrap ((t : Int) + 1) = (t : Int) + 1 := IntWalk.i64_in _ (by omega)
      have HNX := Lib.hid (prun_next HP.out hp)
      have hpin := prun_in (pin_start la lb) HP.out
      have hol : out.length ≤ 160 := by have := hpin.out; dsimp only at this; omega
      obtain ⟨kd, ct⟩ := p
      dsimp only at c0 c1
      clear hp hpin HP
      have BO := Lib.hid HO.out.bel
      have BA := Lib.hid (balloc BO.out (.cells #[.int .i64 kd, .int .i64 ct] 28))
      by_cases hk3 : kd ≠ 1 ∧ kd ≠ 2 ∧ kd ≠ 3
      · obtain ⟨k1, k2, k3⟩ := hk3
        have FIN := Lib.hid (STOP.out (t + 1) 3 (HNX.out.trans (pstep_kind k1 k2 k3)) _ BA.out)
        have q1 : (kd != 1) = true := by rw [bne_iff_ne]; exact k1
        have q2 : (kd != 2) = true := by rw [bne_iff_ne]; exact k2
        have q3 : (kd != 3) = true := by rw [bne_iff_ne]; exact k3
        clear STOP HNX
        go_wp2_with fail
        go_ret2
        exact FIN.out
      · by_cases hcr : ct < 1 ∨ 200 < ct
        · have FIN := Lib.hid (STOP.out (t + 1) 2 (HNX.out.trans (pstep_range (by dsimp only; omega) hcr)) _ BA.out)
          have hk4 : kd = 1 ∨ kd = 2 ∨ kd = 3 := by omega
          clear STOP HNX hk3
          have hcr2 : (ct < 1) ∨ (¬ ct < 1 ∧ ct > 200) := by omega
          clear hcr
          rcases hk4 with rfl | rfl | rfl <;> rcases hcr2 with q1 | ⟨q1, q2⟩
          all_goals
            go_wp2_with fail
            go_ret2
            exact FIN.out
        · obtain ⟨c, rfl⟩ : ∃ c : Nat, ct = (c : Int) := ⟨ct.toNat, by omega⟩
          have hc1 : 1 ≤ c := by omega
          have hc2 : c ≤ 200 := by omega
          have q1 : ¬ (c : Int) < 1 := by omega
          have q2 : ¬ (c : Int) > 200 := by omega
          have hk4 : kd = 1 ∨ kd = 2 ∨ kd = 3 := by omega
          clear hcr hk3
          rcases hk4 with rfl | rfl | rfl
          · obtain ⟨wq, rfl⟩ : ∃ wq, wq = wr := ⟨_, rfl⟩
            have S0 := Lib.hid (BxR.made (a := 1) (b := (c : Int)) (t := 28) HO.out)
            have e0 := S0.out.c0
            have e1 := S0.out.c1
            have e2 := S0.out.lt
            go_wp2_with fail
            clear e0 e1 e2
            go_loopw [8, 9, 10, 13] (fun vi vk vo vq wx => ∃ q : Nat, q ≤ c ∧ i + q ≤ n ∧ vq = .int .i64 (q : Int) ∧ vi = .int .i64 ((i : Int) + (q : Int)) ∧ vk = .int .i64 (k : Int) ∧ Hid (BxR w wq.heap.size 1 (c : Int) (out ++ (la.drop i).take q) vo wx)) (fun _ _ _ vq _ => c - (intOf vq).toNat)
            case atStart => exact ⟨0, by omega, by omega, rfl, by simp, rfl, Lib.hid (by rw [List.take_zero, List.append_nil]; exact S0.out)⟩
            case round =>
              obtain ⟨q, hq, hiq, rfl, rfl, rfl, HS⟩ := hrel
              clear S0
              have d0 := HS.out.c0
              have d1 := HS.out.c1
              have d2 := HS.out.lt
              by_cases hqc : q < c
              · have v1 : (q : Int) < (c : Int) := by omega
                have rq : IntKind.i64.wrap ((q : Int) + 1) = (q : Int) + 1 := IntWalk.i64_in _ (by omega)
                have ri : IntKind.i64.wrap ((i : Int) + (q : Int) + 1) = (i : Int) + (q : Int) + 1 := IntWalk.i64_in _ (by omega)
                by_cases hend : i + q = n
                · have v2 : (i : Int) + (q : Int) = (n : Int) := by omega
                  have v3 : decide ((i : Int) + (q : Int) = (n : Int)) = true := decide_eq_true v2
                  have FIN := Lib.hid (STOP.out (t + 1) 5 (HNX.out.trans ((pstep_1 hc1 hc2).trans (if_pos (by have := HNa.out; omega)))) _ HS.out.own.bel)
                  clear STOP HNX
                  go_wp2_with fail
                  go_ret2
                  exact FIN.out
                · have v2 : ¬ (i : Int) + (q : Int) = (n : Int) := by omega
                  have v3 : decide ((i : Int) + (q : Int) = (n : Int)) = false := decide_eq_false v2
                  obtain ⟨y, hy⟩ : ∃ y, la[i + q]? = some y := ⟨la[i + q]'(by have := HNa.out; omega), List.getElem?_eq_getElem _⟩
                  obtain ⟨ga, oa, rfl, hga, c3⟩ := StAt.get (HA.out.next HS.out.own.bel) hy
                  have v4 : (0 : Int) ≤ (i : Int) + (q : Int) := by omega
                  have v5 : (i : Int) + (q : Int) < (n : Int) := by omega
                  have v6 : ((i : Int) + (q : Int)).toNat = i + q := by omega
                  have HPN := Lib.hid (part_next hy)
                  have hlen : (out ++ (la.drop i).take q).length ≤ 400 := by rw [List.length_append, List.length_take]; omega
                  have HXL : Hid (out ++ (la.drop i).take (q + 1) = (out ++ (la.drop i).take q) ++ [y]) := Lib.hid (by rw [HPN.out, List.append_assoc])
                  clear HPN hy
                  generalize out ++ (la.drop i).take q = L at *
                  have hbz := HS.out.own.bel.size
                  have HROW := Lib.hid HS.out.own.row
                  go_wp2_with (at_builtin; refine wpList_append_lies _ rfl _ _ 22 rfl w.heap.size 9 i0 _ 1 16 Try.underlying22 HI.out.1 HI.out.2.1 HI.out.2.2.1 HI.out.2.2.2 rfl (by decide) _ L.length (flatC sc L) rfl (HROW.out.alloc _) ⟨wr.heap.size, 0, none⟩ 1 1 [.string y] rfl rfl (cell_one_new _ _ _) (by simp [Value.oneCell']) (by omega) (by unfold maxLen; omega) (by omega) (by simp; omega) _ rfl ?_; intro g1 cap1 w4 hown1 hgrow1 hx1 _; have HSN := Lib.hid (HS.out.push hown1 hgrow1 hx1); clear hown1 hgrow1 hx1; have b0 := HSN.out.c0; have b1 := HSN.out.c1; have b2 := HSN.out.lt)
                  go_roundw
                  case rel => exact ⟨q + 1, by omega, by omega, by go_num, by go_num, rfl, Lib.hid (by rw [HXL.out]; exact HSN.out)⟩
                  case measure => simp [intOf]; omega
              · have v1 : ¬ (q : Int) < (c : Int) := by omega
                have eq1 : q = c := by omega
                subst eq1
                have HPX : Hid (prun la lb (l.take (t + 1)) (0, 0, []) = .ok (i + q, k, out ++ (la.drop i).take q)) := Lib.hid (HNX.out.trans ((pstep_1 hc1 hc2).trans (if_neg (by have := HNa.out; omega))))
                have HSO := Lib.hid HS.out.own
                clear STOP HNX HO
                go_wp2_with fail
                go_roundw
                case rel => exact ⟨t + 1, i + q, k, _, by omega, by omega, hkm, by go_num, by go_num, rfl, HPX, HSO⟩
                case measure => simp [intOf]; omega
          · obtain ⟨wq, rfl⟩ : ∃ wq, wq = wr := ⟨_, rfl⟩
            have S0 := Lib.hid (BxR.made (a := 2) (b := (c : Int)) (t := 28) HO.out)
            have e0 := S0.out.c0
            have e1 := S0.out.c1
            have e2 := S0.out.lt
            go_wp2_with fail
            clear e0 e1 e2
            go_loopw [8, 9, 10, 13] (fun vi vk vo vq wx => ∃ q : Nat, q ≤ c ∧ i + q ≤ n ∧ vq = .int .i64 (q : Int) ∧ vi = .int .i64 ((i : Int) + (q : Int)) ∧ vk = .int .i64 (k : Int) ∧ Hid (BxR w wq.heap.size 2 (c : Int) out vo wx)) (fun _ _ _ vq _ => c - (intOf vq).toNat)
            case atStart => exact ⟨0, by omega, by omega, rfl, by simp, rfl, Lib.hid (by exact S0.out)⟩
            case round =>
              obtain ⟨q, hq, hiq, rfl, rfl, rfl, HS⟩ := hrel
              clear S0
              have d0 := HS.out.c0
              have d1 := HS.out.c1
              have d2 := HS.out.lt
              by_cases hqc : q < c
              · have v1 : (q : Int) < (c : Int) := by omega
                have rq : IntKind.i64.wrap ((q : Int) + 1) = (q : Int) + 1 := IntWalk.i64_in _ (by omega)
                have ri : IntKind.i64.wrap ((i : Int) + (q : Int) + 1) = (i : Int) + (q : Int) + 1 := IntWalk.i64_in _ (by omega)
                by_cases hend : i + q = n
                · have v2 : (i : Int) + (q : Int) = (n : Int) := by omega
                  have v3 : decide ((i : Int) + (q : Int) = (n : Int)) = true := decide_eq_true v2
                  have FIN := Lib.hid (STOP.out (t + 1) 5 (HNX.out.trans ((pstep_2 hc1 hc2).trans (if_pos (by have := HNa.out; omega)))) _ HS.out.own.bel)
                  clear STOP HNX
                  go_wp2_with fail
                  go_ret2
                  exact FIN.out
                · have v2 : ¬ (i : Int) + (q : Int) = (n : Int) := by omega
                  have v3 : decide ((i : Int) + (q : Int) = (n : Int)) = false := decide_eq_false v2
                  go_wp2_with fail
                  go_roundw
                  case rel => exact ⟨q + 1, by omega, by omega, by go_num, by go_num, rfl, HS⟩
                  case measure => simp [intOf]; omega
              · have v1 : ¬ (q : Int) < (c : Int) := by omega
                have eq1 : q = c := by omega
                subst eq1
                have HPX : Hid (prun la lb (l.take (t + 1)) (0, 0, []) = .ok (i + q, k, out)) := Lib.hid (HNX.out.trans ((pstep_2 hc1 hc2).trans (if_neg (by have := HNa.out; omega))))
                have HSO := Lib.hid HS.out.own
                clear STOP HNX HO
                go_wp2_with fail
                go_roundw
                case rel => exact ⟨t + 1, i + q, k, _, by omega, by omega, hkm, by go_num, by go_num, rfl, HPX, HSO⟩
                case measure => simp [intOf]; omega
          · obtain ⟨wq, rfl⟩ : ∃ wq, wq = wr := ⟨_, rfl⟩
            have S0 := Lib.hid (BxR.made (a := 3) (b := (c : Int)) (t := 28) HO.out)
            have e0 := S0.out.c0
            have e1 := S0.out.c1
            have e2 := S0.out.lt
            go_wp2_with fail
            clear e0 e1 e2
            go_loopw [8, 9, 10, 13] (fun vi vk vo vq wx => ∃ q : Nat, q ≤ c ∧ k + q ≤ m ∧ vq = .int .i64 (q : Int) ∧ vk = .int .i64 ((k : Int) + (q : Int)) ∧ vi = .int .i64 (i : Int) ∧ Hid (BxR w wq.heap.size 3 (c : Int) (out ++ (lb.drop k).take q) vo wx)) (fun _ _ _ vq _ => c - (intOf vq).toNat)
            case atStart => exact ⟨0, by omega, by omega, rfl, by simp, rfl, Lib.hid (by rw [List.take_zero, List.append_nil]; exact S0.out)⟩
            case round =>
              obtain ⟨q, hq, hiq, rfl, rfl, rfl, HS⟩ := hrel
              clear S0
              have d0 := HS.out.c0
              have d1 := HS.out.c1
              have d2 := HS.out.lt
              by_cases hqc : q < c
              · have v1 : (q : Int) < (c : Int) := by omega
                have rq : IntKind.i64.wrap ((q : Int) + 1) = (q : Int) + 1 := IntWalk.i64_in _ (by omega)
                have ri : IntKind.i64.wrap ((k : Int) + (q : Int) + 1) = (k : Int) + (q : Int) + 1 := IntWalk.i64_in _ (by omega)
                by_cases hend : k + q = m
                · have v2 : (k : Int) + (q : Int) = (m : Int) := by omega
                  have v3 : decide ((k : Int) + (q : Int) = (m : Int)) = true := decide_eq_true v2
                  have FIN := Lib.hid (STOP.out (t + 1) 5 (HNX.out.trans ((pstep_3 hc1 hc2).trans (if_pos (by have := HMb.out; omega)))) _ HS.out.own.bel)
                  clear STOP HNX
                  go_wp2_with fail
                  go_ret2
                  exact FIN.out
                · have v2 : ¬ (k : Int) + (q : Int) = (m : Int) := by omega
                  have v3 : decide ((k : Int) + (q : Int) = (m : Int)) = false := decide_eq_false v2
                  obtain ⟨y, hy⟩ : ∃ y, lb[k + q]? = some y := ⟨lb[k + q]'(by have := HMb.out; omega), List.getElem?_eq_getElem _⟩
                  obtain ⟨ga, oa, rfl, hga, c3⟩ := StAt.get (HB.out.next HS.out.own.bel) hy
                  have v4 : (0 : Int) ≤ (k : Int) + (q : Int) := by omega
                  have v5 : (k : Int) + (q : Int) < (m : Int) := by omega
                  have v6 : ((k : Int) + (q : Int)).toNat = k + q := by omega
                  have HPN := Lib.hid (part_next hy)
                  have hlen : (out ++ (lb.drop k).take q).length ≤ 400 := by rw [List.length_append, List.length_take]; omega
                  have HXL : Hid (out ++ (lb.drop k).take (q + 1) = (out ++ (lb.drop k).take q) ++ [y]) := Lib.hid (by rw [HPN.out, List.append_assoc])
                  clear HPN hy
                  generalize out ++ (lb.drop k).take q = L at *
                  have hbz := HS.out.own.bel.size
                  have HROW := Lib.hid HS.out.own.row
                  go_wp2_with (at_builtin; refine wpList_append_lies _ rfl _ _ 22 rfl w.heap.size 9 i0 _ 1 16 Try.underlying22 HI.out.1 HI.out.2.1 HI.out.2.2.1 HI.out.2.2.2 rfl (by decide) _ L.length (flatC sc L) rfl (HROW.out.alloc _) ⟨wr.heap.size, 0, none⟩ 1 1 [.string y] rfl rfl (cell_one_new _ _ _) (by simp [Value.oneCell']) (by omega) (by unfold maxLen; omega) (by omega) (by simp; omega) _ rfl ?_; intro g1 cap1 w4 hown1 hgrow1 hx1 _; have HSN := Lib.hid (HS.out.push hown1 hgrow1 hx1); clear hown1 hgrow1 hx1; have b0 := HSN.out.c0; have b1 := HSN.out.c1; have b2 := HSN.out.lt)
                  go_roundw
                  case rel => exact ⟨q + 1, by omega, by omega, by go_num, by go_num, rfl, Lib.hid (by rw [HXL.out]; exact HSN.out)⟩
                  case measure => simp [intOf]; omega
              · have v1 : ¬ (q : Int) < (c : Int) := by omega
                have eq1 : q = c := by omega
                subst eq1
                have HPX : Hid (prun la lb (l.take (t + 1)) (0, 0, []) = .ok (i, k + q, out ++ (lb.drop k).take q)) := Lib.hid (HNX.out.trans ((pstep_3 hc1 hc2).trans (if_neg (by have := HMb.out; omega))))
                have HSO := Lib.hid HS.out.own
                clear STOP HNX HO
                go_wp2_with fail
                go_roundw
                case rel => exact ⟨t + 1, i, k + q, _, by omega, hin, by omega, by go_num, rfl, by go_num, HPX, HSO⟩
                case measure => simp [intOf]; omega
    · have u1 : ¬ (t : Int) < (N : Int) := by omega
      have hfin : RES = if i < n ∨ k < m then ([], 4) else (out, 0) := by
        have h := HP.out
        rw [List.take_of_length_le (by have := HN.out; omega)] at h
        rw [← HRES.out, h, ← HNa.out, ← HMb.out]
        rfl
      by_cases hleft : i < n ∨ k < m
      · rw [if_pos hleft] at hfin
        have FIN : Hid (PtPost RES w (.returned (.tuple #[.slice none 0 0, .int .i64 4])) wr) := Lib.hid (by rw [hfin]; exact ⟨_, rfl, SK.nil HO.out.bel⟩)
        have hl2 : ((i : Int) < (n : Int)) ∨ (¬ (i : Int) < (n : Int) ∧ (k : Int) < (m : Int)) := by omega
        clear STOP HP HO hfin hleft
        rcases hl2 with q1 | ⟨q1, q2⟩
        all_goals
          go_wp2_with fail
          go_ret2
          exact FIN.out
      · rw [if_neg hleft] at hfin
        have q1 : ¬ (i : Int) < (n : Int) := by omega
        have q2 : ¬ (k : Int) < (m : Int) := by omega
        have h := HO.out
        have FIN := Lib.hid (show ∀ v, SK w out v wr → PtPost RES w (.returned (.tuple #[v, .int .i64 0])) wr from fun v hv => by rw [hfin]; exact ⟨v, rfl, hv⟩)
        have FN2 := Lib.hid (FIN.out _ h)
        clear STOP HP HO hfin hleft h FIN
        go_wp2_with fail
        go_ret2
        exact FN2.out
end Go.Proofs.Ytcknmaimkodaeaa.DiffR
