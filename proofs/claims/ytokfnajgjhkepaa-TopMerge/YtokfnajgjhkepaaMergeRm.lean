/-
  Package merge: a region becomes a hunk.
-/
import Derived.Test.YtokfnajgjhkepaaMergeRepl
import Derived.Test.YtokfnajgjhkepaaSameStr
namespace Go.Proofs.Ytokfnajgjhkepaa.MergeT
open Go.RowKit Kit LineM StrM DiffM DiffA DiffR DiffP DiffK HistM

/-- lines of the call's own, above some boxes -/
structure QK (w : World) (d : Nat) (L : List ByteArray) (v : Value) (W : World) : Prop where
  row : W.ownsRow (w.heap.size + d) 9 1 v L.length (flatC sc L)
  bel : Below w.heap.size w W
section
variable {w W W' : World} {d : Nat} {L : List ByteArray} {v : Value}
theorem QK.next (h : QK w d L v W) (hb : Below W.heap.size W W') : QK w d L v W' := ⟨row_next h.row hb, bstep h.bel hb⟩
theorem QK.set (h : QK w d L v W) {k o : Nat} (h1 : w.heap.size ≤ k) (h2 : k < w.heap.size + d) (u : Value) : QK w d L v (W.setCell ⟨k, o, none⟩ u) := ⟨ownsRow_setCell_below h.row h2 _, h.bel.setCell (p := ⟨k, o, none⟩) h1 _⟩
theorem QK.sk (h : QK w d L v W) : SK w L v W := ⟨h.row.mono (Nat.le_add_right _ _), h.bel⟩
theorem QK.val (h : QK w d L v W) : SlV 1 sc W v L := SlV.of_owns sc_len h.row
theorem QK.of_sk (hb : Below w.heap.size w W) (hd : w.heap.size + d ≤ W.heap.size) (h : SK W L v W') : QK w d L v W' := ⟨h.row.mono hd, bstep hb h.bel⟩
end
/-- what is known while the versions of a region are made -/
structure RS (w : World) (i e : Nat) (u0 u1 : Value) (L0 L1 : List ByteArray) (k : Nat) (W : World) : Prop where
  bel : Below w.heap.size w W
  rb : B4 w.heap.size (.int .i64 (i : Int)) (.int .i64 (e : Int)) u0 u1 W
  hb : B3 (w.heap.size + 1) (.int .i64 0) (.int .i64 0) (.slice none 0 0) W
  vb : ∃ v0 v1, B2 (w.heap.size + 1 + 1) v0 v1 W ∧ (0 < k → QK w 3 L0 v0 W) ∧ (1 < k → QK w 3 L1 v1 W)
theorem B2.p0 {k : Nat} {a b : Value} {W : World} (h : B2 k a b W) (v : Value) : B2 k v b (W.setCell ⟨k, 0, none⟩ v) :=
  ⟨by rw [setZ]; exact h.lt, setS h.c0 _, (setO (.inr (by omega)) _).trans h.c1, by rw [World.frozen?_setCell]; exact h.f0, by rw [World.frozen?_setCell]; exact h.f1⟩
theorem B2.p1 {k : Nat} {a b : Value} {W : World} (h : B2 k a b W) (v : Value) : B2 k a v (W.setCell ⟨k, 1, none⟩ v) :=
  ⟨by rw [setZ]; exact h.lt, (setO (.inr (by omega)) _).trans h.c0, setS h.c1 _, by rw [World.frozen?_setCell]; exact h.f0, by rw [World.frozen?_setCell]; exact h.f1⟩
theorem B4.other {k : Nat} {a b c d : Value} {W : World} (h : B4 k a b c d W) {j o : Nat} (hj : k ≠ j) (v : Value) : B4 k a b c d (W.setCell ⟨j, o, none⟩ v) :=
  ⟨by rw [setZ]; exact h.lt, (setO (.inl hj) _).trans h.c0, (setO (.inl hj) _).trans h.c1, (setO (.inl hj) _).trans h.c2, (setO (.inl hj) _).trans h.c3, fun j => by rw [World.frozen?_setCell]; exact h.fr j⟩
section
variable {w W W' : World} {i e k : Nat} {u0 u1 v : Value} {L0 L1 : List ByteArray}
theorem RS.next (h : RS w i e u0 u1 L0 L1 k W) (hb : Below W.heap.size W W') : RS w i e u0 u1 L0 L1 k W' := by
  obtain ⟨v0, v1, h1, h2, h3⟩ := h.vb
  exact ⟨bstep h.bel hb, h.rb.next hb, h.hb.next hb, v0, v1, h1.next hb, fun q => (h2 q).next hb, fun q => (h3 q).next hb⟩
theorem RS.put0 (h : RS w i e u0 u1 L0 L1 0 W) (hv : QK w 3 L0 v W) : RS w i e u0 u1 L0 L1 1 (W.setCell ⟨w.heap.size + 1 + 1, 0, none⟩ v) := by
  obtain ⟨v0, v1, h1, h2, h3⟩ := h.vb
  exact ⟨h.bel.setCell (p := ⟨w.heap.size + 1 + 1, 0, none⟩) (by show w.heap.size ≤ w.heap.size + 1 + 1; omega) _, B4.other h.rb (by omega) _, h.hb.other (by omega) _, v, v1, B2.p0 h1 v, fun _ => hv.set (by omega) (by omega) _, fun q => by omega⟩
theorem RS.put1 (h : RS w i e u0 u1 L0 L1 1 W) (hv : QK w 3 L1 v W) : RS w i e u0 u1 L0 L1 2 (W.setCell ⟨w.heap.size + 1 + 1, 1, none⟩ v) := by
  obtain ⟨v0, v1, h1, h2, h3⟩ := h.vb
  exact ⟨h.bel.setCell (p := ⟨w.heap.size + 1 + 1, 1, none⟩) (by show w.heap.size ≤ w.heap.size + 1 + 1; omega) _, B4.other h.rb (by omega) _, h.hb.other (by omega) _, v0, v, B2.p1 h1 v, fun _ => (h2 (by omega)).set (by omega) (by omega) _, fun _ => hv.set (by omega) (by omega) _⟩
theorem RS.new (w : World) (t1 t2 t3 : TypeId) : RS w i e u0 u1 L0 L1 0 (((w.alloc (.cells #[.int .i64 (i : Int), .int .i64 (e : Int), u0, u1] t1)).alloc (.cells #[.int .i64 0, .int .i64 0, .slice none 0 0] t2)).alloc (.cells #[.slice none 0 0, .slice none 0 0] t3)) := by
  have b1 := balloc (Below.refl w.heap.size w) (.cells #[.int .i64 (i : Int), .int .i64 (e : Int), u0, u1] t1)
  have s1 : (w.alloc (.cells #[.int .i64 (i : Int), .int .i64 (e : Int), u0, u1] t1)).heap.size = w.heap.size + 1 := by simp
  have r1 : B4 w.heap.size (.int .i64 (i : Int)) (.int .i64 (e : Int)) u0 u1 (w.alloc (.cells #[.int .i64 (i : Int), .int .i64 (e : Int), u0, u1] t1)) := ⟨by omega, by rw [cells_new]; rfl, by rw [cells_new]; rfl, by rw [cells_new]; rfl, by rw [cells_new]; rfl, fun j => by simp⟩
  generalize w.alloc (.cells #[.int .i64 (i : Int), .int .i64 (e : Int), u0, u1] t1) = w1 at *
  have r2 := B3.new w1 (.int .i64 0) (.int .i64 0) (.slice none 0 0) t2
  have r1' := r1.next (balloc (Below.refl w1.heap.size w1) (.cells #[.int .i64 0, .int .i64 0, .slice none 0 0] t2))
  have b2 := balloc b1 (.cells #[.int .i64 0, .int .i64 0, .slice none 0 0] t2)
  have s2 : (w1.alloc (.cells #[.int .i64 0, .int .i64 0, .slice none 0 0] t2)).heap.size = w1.heap.size + 1 := by simp
  generalize w1.alloc (.cells #[.int .i64 0, .int .i64 0, .slice none 0 0] t2) = w2 at *
  have r3 := B2.new w2 (.slice none 0 0) (.slice none 0 0) t3
  rw [s2, s1] at r3
  rw [s1] at r2
  exact ⟨balloc b2 _, r1'.next (balloc (Below.refl _ _) _), r2.alloc _, _, _, r3, fun q => by omega, fun q => by omega⟩
end
theorem index0 (a b : Value) (w : World) : (Instr.index 47 (.agg #[a, b]) (.int .i64 0)).run Try.prog w = .ok a w := by kernel_rfl
theorem index1 (a b : Value) (w : World) : (Instr.index 47 (.agg #[a, b]) (.int .i64 1)).run Try.prog w = .ok b w := by kernel_rfl
/-- a hunk, and whether there is a conflict -/
def RmPost (i e : Nat) (R : List ByteArray × Nat) (w : World) (x : Ending) (w' : World) : Prop := ∃ v, x = .returned (.tuple #[.agg #[.int .i64 (i : Int), .int .i64 (e : Int), v], .bool (decide (R.2 = 1))]) ∧ SK w R.1 v w'
set_option maxRecDepth 100000 in
set_option maxHeartbeats 1000000 in
theorem rm_ret (w W : World) (i e : Nat) (R : List ByteArray × Nat) (L : List ByteArray) (c : Bool) (tm : Array Value) (h : Nat) (a : Option Addr) (n cp : Nat) (h4 : tm[4]?.getD undef = .pointer (some ⟨h, 0, none⟩)) (h5 : tm[5]?.getD undef = .bool c) (hB : B3 h (.int .i64 (i : Int)) (.int .i64 (e : Int)) (.slice a n cp) W) (hs : SK w L (.slice a n cp) W) (hR : R = (L, if c = true then 1 else 0)) :
    bodyPost Try.prog Try.f24 (RmPost i e R w) Exit.ret { tmps := tm, defers := [] } W := by
  have d0 := hB.c0
  have d1 := hB.c1
  have d2 := hB.c2
  have FIN : RmPost i e R w (.returned (.tuple #[.agg #[.int .i64 (i : Int), .int .i64 (e : Int), .slice a n cp], .bool c])) W := by
    subst hR
    refine ⟨_, ?_, hs⟩
    cases c <;> rfl
  clear hB hs hR
  refine bodyPost_ret (v := .tuple #[.agg #[.int .i64 (i : Int), .int .i64 (e : Int), .slice a n cp], .bool c]) ?_ rfl FIN
  simp [results, Try.results24, go_sem, *]
set_option maxRecDepth 100000 in
set_option maxHeartbeats 1000000 in
theorem mergeR (w : World) (base : List ByteArray) (aa : Option Addr) (cap : Nat) (hb : StAt w aa base) (hn : base.length ≤ 80) (hcap : base.length ≤ cap) (i e : Nat) (u0 u1 : Value) (T0 T1 : List HV)
    (hr0 : SlV 3 hkc w u0 T0) (hr1 : SlV 3 hkc w u1 T1) (hl0 : ∀ h ∈ T0, SlV 1 sc w h.2 h.1.l) (hl1 : ∀ h ∈ T1, SlV 1 sc w h.2 h.1.l) (hn0 : T0.length ≤ 1000) (hn1 : T1.length ≤ 1000) (hc0 : Chn e i (T0.map Prod.fst)) (hc1 : Chn e i (T1.map Prod.fst)) (hq : e ≤ base.length)
    (b0 : (repl base i e (T0.map Prod.fst)).length ≤ 1000) (b1 : (repl base i e (T1.map Prod.fst)).length ≤ 1000) (R : List ByteArray × Nat)
    (q1 : T0 = [] → R = (repl base i e (T1.map Prod.fst), 0)) (q2 : T0 ≠ [] → T1 = [] ∨ repl base i e (T0.map Prod.fst) = repl base i e (T1.map Prod.fst) → R = (repl base i e (T0.map Prod.fst), 0))
    (q3 : T0 ≠ [] → T1 ≠ [] → repl base i e (T0.map Prod.fst) ≠ repl base i e (T1.map Prod.fst) → R = (mk1 :: repl base i e (T0.map Prod.fst) ++ mk2 :: repl base i e (T1.map Prod.fst) ++ [mk3], 1)) :
    Calls Try.prog 24 #[.agg #[.int .i64 (i : Int), .int .i64 (e : Int), u0, u1], .slice aa base.length cap] w (RmPost i e R w) := by
  have RP0 := Lib.hid (fun W (hW : Below w.heap.size w W) => replaceF W base aa cap (SlAt.next hb hW) hn hcap i e u0 T0 (SlV.next hr0 hW) (fun h hh => SlV.next (hl0 h hh) hW) hn0 hc0 hq (by omega))
  have RP1 := Lib.hid (fun W (hW : Below w.heap.size w W) => replaceF W base aa cap (SlAt.next hb hW) hn hcap i e u1 T1 (SlV.next hr1 hW) (fun h hh => SlV.next (hl1 h hh) hW) hn1 hc1 hq (by omega))
  generalize repl base i e (T0.map Prod.fst) = L0 at *
  generalize repl base i e (T1.map Prod.fst) = L1 at *
  obtain ⟨a0, c0, rfl, _⟩ := hr0
  obtain ⟨a1, c1, rfl, _⟩ := hr1
  have S0 := Lib.hid (RS.new (i := i) (e := e) (u0 := .slice a0 T0.length c0) (u1 := .slice a1 T1.length c1) (L0 := L0) (L1 := L1) w 57 54 48)
  have Q1 := Lib.hid q1
  have Q2 := Lib.hid q2
  have Q3 := Lib.hid q3
  have N0 : Hid (T0.length = 0 ↔ T0 = []) := Lib.hid List.length_eq_zero_iff
  have N1 : Hid (T1.length = 0 ↔ T1 = []) := Lib.hid List.length_eq_zero_iff
  clear q1 q2 q3 hb hl0 hl1 hc0 hc1
  generalize T0.length = n0 at *
  generalize T1.length = n1 at *
  generalize base.length = n at *
  go_enter Try.func24, Try.ntmps24
  go_wp2_with fail
  generalize (((w.alloc (.cells #[.int .i64 (i : Int), .int .i64 (e : Int), .slice a0 n0 c0, .slice a1 n1 c1] 57)).alloc (.cells #[.int .i64 0, .int .i64 0, .slice none 0 0] 54)).alloc (.cells #[.slice none 0 0, .slice none 0 0] 48)) = w3 at *
  go_loopw [11] (fun vk wr => ∃ k : Nat, k ≤ 2 ∧ vk = .int .i64 (k : Int) ∧ Hid (RS w i e (.slice a0 n0 c0) (.slice a1 n1 c1) L0 L1 k wr)) (fun vk _ => 2 - (intOf vk).toNat)
  case atStart => exact ⟨0, by omega, rfl, S0⟩
  case round =>
    obtain ⟨k, hk, rfl, HS⟩ := hrel
    clear S0
    have ix0 := index0
    have ix1 := index1
    have d0 := HS.out.rb.c0
    have d1 := HS.out.rb.c1
    have d2 := HS.out.rb.lt
    have d3 := HS.out.hb.lt
    have d4 : w.heap.size + 3 ≤ wr.heap.size := by obtain ⟨_, _, hv, _⟩ := HS.out.vb; exact hv.lt
    have BS := Lib.hid HS.out.bel
    have hk3 : k = 0 ∨ k = 1 ∨ k = 2 := by omega
    clear hk
    rcases hk3 with rfl | rfl | rfl
    · have CA := Lib.hid (RP0.out wr BS.out)
      have ST := Lib.hid (fun W v (h : SK wr L0 v W) => And.intro (HS.out.next h.bel) (QK.of_sk (d := 3) BS.out d4 h))
      clear RP0 HS
      go_wp2_with fail
      refine CA.out.mono ?_
      rintro x w4 ⟨v, rfl, hv⟩
      have HST := Lib.hid (ST.out _ _ hv)
      obtain ⟨av, cv, rfl, _⟩ := hv.val
      have HNX := Lib.hid (HST.out.1.put0 HST.out.2)
      obtain ⟨v0, v1, hvb, _⟩ := HST.out.1.vb
      have f0 := hvb.c0
      have f1 := hvb.f0
      have f2 := hvb.lt
      clear hv CA hvb ST
      go_wp2_with fail
      go_roundw
      case rel => exact ⟨1, by omega, by first | rfl | go_num, HNX⟩
      case measure => simp only [intOf]; omega
    · have CA := Lib.hid (RP1.out wr BS.out)
      have ST := Lib.hid (fun W v (h : SK wr L1 v W) => And.intro (HS.out.next h.bel) (QK.of_sk (d := 3) BS.out d4 h))
      clear RP1 HS
      go_wp2_with fail
      refine CA.out.mono ?_
      rintro x w4 ⟨v, rfl, hv⟩
      have HST := Lib.hid (ST.out _ _ hv)
      obtain ⟨av, cv, rfl, _⟩ := hv.val
      have HNX := Lib.hid (HST.out.1.put1 HST.out.2)
      obtain ⟨v0, v1, hvb, _⟩ := HST.out.1.vb
      have f0 := hvb.c1
      have f1 := hvb.f1
      have f2 := hvb.lt
      clear hv CA hvb ST
      go_wp2_with fail
      go_roundw
      case rel => exact ⟨2, by omega, by first | rfl | go_num, HNX⟩
      case measure => simp only [intOf]; omega
    · have HB := HS.out.hb
      have e0 := HS.out.rb.c2
      have e1 := HS.out.rb.c3
      have g0 := HS.out.hb.c0
      have g1 := HS.out.hb.c1
      have g2 := HS.out.hb.c2
      have g3 := HS.out.hb.f0
      have g4 := HS.out.hb.f1
      have g5 := HS.out.hb.f2
      obtain ⟨v0, v1, hvb, hv0, hv1⟩ := HS.out.vb
      have H0 := Lib.hid (hv0 (by omega))
      have H1 := Lib.hid (hv1 (by omega))
      obtain ⟨x0, y0, rfl, _⟩ := (hv0 (by omega)).val
      obtain ⟨x1, y1, rfl, _⟩ := (hv1 (by omega)).val
      have m0 := hvb.c0
      have m1 := hvb.c1
      have m2 := hvb.lt
      have EQ := Lib.hid (fun W (h0 : SlV 1 sc W (.slice x0 L0.length y0) L0) (h1 : SlV 1 sc W (.slice x1 L1.length y1) L1) => equalStrs _ _ L0 L1 W h0 h1 (by omega))
      have CF := Lib.hid (fun W (h0 : SlV 1 sc W (.slice x0 L0.length y0) L0) (h1 : SlV 1 sc W (.slice x1 L1.length y1) L1) => conflictF _ _ L0 L1 W h0 h1 b0 b1)
      have hx : ∀ u, ((((wr.setCell ⟨w.heap.size + 1, 0, none⟩ (.int .i64 (i : Int))).setCell ⟨w.heap.size + 1, 1, none⟩ (.int .i64 (e : Int))).setCell ⟨w.heap.size + 1, 2, none⟩ (.slice none 0 0)).setCell ⟨w.heap.size + 1, 2, none⟩ u).cell? ⟨w.heap.size + 1, 2, none⟩ = some u := fun u => setS (setS ((setO (.inr (by omega)) _).trans ((setO (.inr (by omega)) _).trans g2)) _) _
      have HVB := Lib.hid hvb
      clear RP0 RP1 hv0 hv1 hvb HS
      have HB7 := Lib.hid (fun u => B3.set (B3.put2 (B3.set HB (.int .i64 (i : Int)) (.int .i64 (e : Int)) (.slice none 0 0)) u) (.int .i64 (i : Int)) (.int .i64 (e : Int)) u)
      have HQ7 := Lib.hid (fun (L : List ByteArray) u (W : World) (h : QK w 3 L u W) (v1 v2 v3 v4 v5 v6 v7 : Value) => ((((((((h.set (k := w.heap.size + 1) (o := 0) (by omega) (by omega) v1).set (k := w.heap.size + 1) (o := 1) (by omega) (by omega) v2).set (k := w.heap.size + 1) (o := 2) (by omega) (by omega) v3).set (k := w.heap.size + 1) (o := 2) (by omega) (by omega) v4).set (k := w.heap.size + 1) (o := 0) (by omega) (by omega) v5).set (k := w.heap.size + 1) (o := 1) (by omega) (by omega) v6).set (k := w.heap.size + 1) (o := 2) (by omega) (by omega) v7)).sk)
      have HB3 := Lib.hid (B3.set HB (.int .i64 (i : Int)) (.int .i64 (e : Int)) (.slice none 0 0))
      have HV3 := Lib.hid (fun v1 v2 v3 => ((HVB.out.other (j := w.heap.size + 1) (o := 0) (by omega) v1).other (j := w.heap.size + 1) (o := 1) (by omega) v2).other (j := w.heap.size + 1) (o := 2) (by omega) v3)
      have HQ3 := Lib.hid (fun (L : List ByteArray) u (W : World) (h : QK w 3 L u W) (v1 v2 v3 : Value) => (((h.set (k := w.heap.size + 1) (o := 0) (by omega) (by omega) v1).set (k := w.heap.size + 1) (o := 1) (by omega) (by omega) v2).set (k := w.heap.size + 1) (o := 2) (by omega) (by omega) v3))
      have HQ1 := Lib.hid (fun (L : List ByteArray) u (W : World) (h : QK w 3 L u W) (v1 : Value) => h.set (k := w.heap.size + 1) (o := 2) (by omega) (by omega) v1)
      clear HB
      generalize L0.length = z0 at *
      generalize L1.length = z1 at *
      by_cases hn0z : n0 = 0
      · have HR := Lib.hid (Q1.out (N0.out.1 hn0z))
        subst hn0z
        clear Q1 Q2 Q3
        go_wp2_with fail
        exact rm_ret w _ i e R L1 false _ (w.heap.size + 1) x1 z1 y1 rfl rfl (HB7.out _) (HQ7.out L1 _ _ H1.out _ _ _ _ _ _ _) HR.out
      · have hne : ¬ (n0 : Int) = 0 := by omega
        have hT0 : T0 ≠ [] := fun h => hn0z (N0.out.2 h)
        by_cases hn1z : n1 = 0
        · have HR := Lib.hid (Q2.out hT0 (.inl (N1.out.1 hn1z)))
          subst hn1z
          clear Q1 Q2 Q3 hT0
          go_wp2_with fail
          exact rm_ret w _ i e R L0 false _ (w.heap.size + 1) x0 z0 y0 rfl rfl (HB7.out _) (HQ7.out L0 _ _ H0.out _ _ _ _ _ _ _) HR.out
        · have hne1 : ¬ (n1 : Int) = 0 := by omega
          have hT1 : T1 ≠ [] := fun h => hn1z (N1.out.2 h)
          have R2 := Lib.hid (Q2.out hT0)
          have R3 := Lib.hid (Q3.out hT0 hT1)
          clear Q1 Q2 Q3 hT0 hT1
          go_wp2_with fail
          have K0 := Lib.hid (HQ3.out L0 _ _ H0.out (.int .i64 (i : Int)) (.int .i64 (e : Int)) (.slice none 0 0))
          have K1 := Lib.hid (HQ3.out L1 _ _ H1.out (.int .i64 (i : Int)) (.int .i64 (e : Int)) (.slice none 0 0))
          have KV := Lib.hid (HV3.out (.int .i64 (i : Int)) (.int .i64 (e : Int)) (.slice none 0 0))
          clear HB7 HQ7 hx HV3 H0 H1 HVB g0 g1 g2 g3 g4 g5 m0 m1 m2
          generalize ((wr.setCell ⟨w.heap.size + 1, 0, none⟩ (.int .i64 (i : Int))).setCell ⟨w.heap.size + 1, 1, none⟩ (.int .i64 (e : Int))).setCell ⟨w.heap.size + 1, 2, none⟩ (.slice none 0 0) = w4 at *
          have CE := Lib.hid (EQ.out w4 K0.out.val K1.out.val)
          refine CE.out.mono ?_
          rintro x w5 ⟨b, rfl, hb, hbel⟩
          have J0 := Lib.hid (K0.out.next hbel)
          have J1 := Lib.hid (K1.out.next hbel)
          have JV := KV.out.next hbel
          have JB := HB3.out.next hbel
          have g0 := JB.c0
          have g1 := JB.c1
          have g2 := JB.c2
          have g3 := JB.f0
          have g4 := JB.f1
          have g5 := JB.f2
          have g6 := JB.lt
          have m0 := JV.c0
          have m1 := JV.c1
          have m2 := JV.lt
          have HJB := Lib.hid JB
          clear K0 K1 KV JV JB hbel HB3 CE EQ
          cases b with
          | true =>
            have HR := Lib.hid (R2.out (.inr (hb.1 rfl)))
            clear hb R2 R3 CF
            have FB := Lib.hid (B3.set (B3.put2 HJB.out (.slice x0 z0 y0)) (.int .i64 (i : Int)) (.int .i64 (e : Int)) (.slice x0 z0 y0))
            have FQ := Lib.hid (HQ3.out L0 _ _ (HQ1.out L0 _ _ J0.out (.slice x0 z0 y0)) (.int .i64 (i : Int)) (.int .i64 (e : Int)) (.slice x0 z0 y0)).sk
            go_wp2_with fail
            exact rm_ret w _ i e R L0 false _ (w.heap.size + 1) x0 z0 y0 rfl rfl FB.out FQ.out HR.out
          | false =>
            have HR := Lib.hid (R3.out (fun h => by have := hb.2 h; cases this))
            have C5 := Lib.hid (CF.out w5 J0.out.val J1.out.val)
            have B5 := Lib.hid J0.out.bel
            have s5 : w.heap.size + 3 ≤ w5.heap.size := by omega
            clear hb R2 R3 CF J0 J1
            go_wp2_with fail
            refine C5.out.mono ?_
            rintro x w6 ⟨v, rfl, hv⟩
            have HV := Lib.hid (QK.of_sk (d := 3) B5.out s5 hv)
            have HB6 := Lib.hid (HJB.out.next hv.bel)
            obtain ⟨av, cv, rfl, _⟩ := hv.val
            generalize (([mk1] ++ L0 ++ [mk2] ++ L1 ++ [mk3] : List ByteArray)).length = zv at *
            have k0 := HB6.out.c0
            have k1 := HB6.out.c1
            have k2 := HB6.out.c2
            have k3 := HB6.out.f0
            have k4 := HB6.out.f1
            have k5 := HB6.out.f2
            have k6 := HB6.out.lt
            have FB := Lib.hid (B3.set (B3.put2 HB6.out (.slice av zv cv)) (.int .i64 (i : Int)) (.int .i64 (e : Int)) (.slice av zv cv))
            have FQ := Lib.hid (HQ3.out _ _ _ (HQ1.out _ _ _ HV.out (.slice av zv cv)) (.int .i64 (i : Int)) (.int .i64 (e : Int)) (.slice av zv cv)).sk
            clear hv C5 HV HB6 g0 g1 g2 g3 g4 g5 g6
            go_wp2_with fail
            exact rm_ret w _ i e R _ true _ (w.heap.size + 1) av zv cv rfl rfl FB.out FQ.out (by rw [HR.out]; simp)
end Go.Proofs.Ytokfnajgjhkepaa.MergeT
