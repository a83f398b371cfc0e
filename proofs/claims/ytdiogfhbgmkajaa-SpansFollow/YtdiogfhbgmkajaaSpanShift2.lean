/-
  Package spans: what Shift answers.
-/
import Derived.Test.YtdiogfhbgmkajaaSpanShift
namespace Go.Proofs.Ytdiogfhbgmkajaa.SpanC
open Go.RowKit Kit SpanM EditM

noncomputable def shC (n : Int) (l : List SpM) (a c : Int) (k m : Nat) : Int := if mayB n l = true then (if fault n a c k = 0 then (if 40 < m then 8 else 0) else fault n a c k) else 4
theorem s5 {eb ob : Nat} {a c p lo hi : Value} {W W' : World} (h : (eb < W.heap.size ∧ W.cell? ⟨eb, 0, none⟩ = some a ∧ W.cell? ⟨eb, 1, none⟩ = some c ∧ W.cell? ⟨eb, 2, none⟩ = some p) ∧ (ob < W.heap.size ∧ W.cell? ⟨ob, 0, none⟩ = some lo ∧ W.cell? ⟨ob, 1, none⟩ = some hi)) (hb : Below W.heap.size W W') :
    (eb < W'.heap.size ∧ W'.cell? ⟨eb, 0, none⟩ = some a ∧ W'.cell? ⟨eb, 1, none⟩ = some c ∧ W'.cell? ⟨eb, 2, none⟩ = some p) ∧ (ob < W'.heap.size ∧ W'.cell? ⟨ob, 0, none⟩ = some lo ∧ W'.cell? ⟨ob, 1, none⟩ = some hi) := by
  obtain ⟨⟨h1, h2, h3, h4⟩, h5, h6, h7⟩ := h
  exact ⟨⟨Nat.lt_of_lt_of_le h1 hb.size, keep hb h1 h2, keep hb h1 h3, keep hb h1 h4⟩, Nat.lt_of_lt_of_le h5 hb.size, keep hb h5 h6, keep hb h5 h7⟩
theorem s5k {v v' : Value} {eb ob : Nat} {a c p lo hi : Value} {W W' : World} (h : (eb < W.heap.size ∧ W.cell? ⟨eb, 0, none⟩ = some a ∧ W.cell? ⟨eb, 1, none⟩ = some c ∧ W.cell? ⟨eb, 2, none⟩ = some p) ∧ (ob < W.heap.size ∧ W.cell? ⟨ob, 0, none⟩ = some lo ∧ W.cell? ⟨ob, 1, none⟩ = some hi)) (hk : Keeps v W v' W') (he : Far v W eb) (ho : Far v W ob) :
    (eb < W'.heap.size ∧ W'.cell? ⟨eb, 0, none⟩ = some a ∧ W'.cell? ⟨eb, 1, none⟩ = some c ∧ W'.cell? ⟨eb, 2, none⟩ = some p) ∧ (ob < W'.heap.size ∧ W'.cell? ⟨ob, 0, none⟩ = some lo ∧ W'.cell? ⟨ob, 1, none⟩ = some hi) := by
  obtain ⟨⟨h1, h2, h3, h4⟩, h5, h6, h7⟩ := h
  obtain ⟨e1, e2⟩ := hk eb he
  obtain ⟨o1, o2⟩ := hk ob ho
  exact ⟨⟨e1.1, (World.cell?_of_block (a := ⟨eb, 0, none⟩) e2).trans h2, (World.cell?_of_block (a := ⟨eb, 1, none⟩) e2).trans h3, (World.cell?_of_block (a := ⟨eb, 2, none⟩) e2).trans h4⟩, o1.1, (World.cell?_of_block (a := ⟨ob, 0, none⟩) o2).trans h6, (World.cell?_of_block (a := ⟨ob, 1, none⟩) o2).trans h7⟩
theorem shi_parts (l : List SpM) (a c k : Int) : atts [] (shiS l a c k) = atts (att (atts [] (l.map fun o => befS o a)) ⟨a, a + k⟩) (l.map fun o => movS o a c k) := by unfold shiS; rw [atts_app, atts_snoc]
theorem map_next {f : SpM → SpM} {l : List SpM} {o : SpM} {k : Nat} (h : l[k]? = some o) : (l.take (k + 1)).map f = (l.take k).map f ++ [f o] := by rw [SpanM.take_next h, List.map_append]; rfl

set_option maxRecDepth 100000 in
set_option maxHeartbeats 4000000 in
theorem shift_ok (n : Int) (l : List SpM) (al : Option Addr) (cap : Nat) (a c : Int) (p : ByteArray) (w : World) (hl : SpsAt w al l) (hv : Valid n l) (hf : fault n a c p.size = 0) (hp : p.size ≤ 140737488351232) (ha : a ≤ 9223372036854775807) (es : List SpM) (hes : es = atts [] (shiS l a c p.size)) (cd : Int) (hcd : cd = if 40 < es.length then 8 else 0) :
    Calls Try.prog 21 #[.int .i64 n, .slice al l.length cap, .agg #[.int .i64 a, .int .i64 c, .string p]] w (SetPost cd es w) := by
  obtain ⟨w0, hw0⟩ : ∃ w0, w0 = w.alloc (.cells #[.int .i64 a, .int .i64 c, .string p] 33) := ⟨_, rfl⟩
  have HL : Hid (SpsAt w0 al l) := Lib.hid (by rw [hw0]; exact hl.next (balloc (Below.refl _ _) _))
  have HB : Hid (B3 w.heap.size (.int .i64 a) (.int .i64 c) (.string p) w0) := Lib.hid (by rw [hw0]; exact B3.new _ _ _ _ _)
  have HW : Hid (Below w.heap.size w w0) := Lib.hid (by rw [hw0]; exact balloc (Below.refl _ _) _)
  have hws : w.heap.size < w0.heap.size := HB.out.lt
  have h40 := hv.len
  have HR := Lib.hid hv.rng
  have MY := Lib.hid (may n l al cap w0 HL.out (by omega))
  rw [mayB_yes hv] at MY
  have CK := Lib.hid (fun W => EditC.check n a c p W ha hp)
  rw [hf] at CK
  obtain ⟨f1, f2, f3, f4, f5, f6⟩ := fault_zero.1 hf
  rw [shi_parts] at hes
  obtain ⟨N, hN⟩ : ∃ N, N = l.length := ⟨_, rfl⟩
  have HN := Lib.hid hN
  rw [← hN] at h40 MY ⊢
  have HE := Lib.hid hes
  have HC := Lib.hid hcd
  have L1 : Hid (∀ k, (atts [] ((l.take k).map fun o => befS o a)).length ≤ 40) := Lib.hid fun k => by
    have h1 := atts_len [] ((l.take k).map fun o => befS o a); have := HN.out
    simp only [List.length_take, List.length_nil, List.length_map] at h1; omega
  have L2 : Hid (∀ k, (atts (att (atts [] (l.map fun o => befS o a)) ⟨a, a + p.size⟩) ((l.take k).map fun o => movS o a c p.size)).length ≤ 90) := Lib.hid fun k => by
    have h1 := atts_len (att (atts [] (l.map fun o => befS o a)) ⟨a, a + p.size⟩) ((l.take k).map fun o => movS o a c p.size); have := HN.out
    have h3 := att_len (atts [] (l.map fun o => befS o a)) ⟨a, a + p.size⟩; have h4 := atts_len [] (l.map fun o => befS o a)
    simp only [List.length_take, List.length_nil, List.length_map] at h1 h4; omega
  have EB : Hid (∀ W, Below w0.heap.size w0 W → B3 w.heap.size (.int .i64 a) (.int .i64 c) (.string p) W) := Lib.hid fun W hW => HB.out.next hW
  clear hl hN hv hf hes hcd HB
  go_enter Try.func21, Try.ntmps21
  go_wp2_with fail
  rw [← hw0]
  clear hw0
  refine MY.out.mono ?_
  rintro e w1 ⟨rfl, hb1⟩
  obtain ⟨_, d0, d1, d2, _, _, _⟩ := EB.out _ hb1
  have B1 := Lib.hid hb1
  clear hb1 MY
  go_wp2_with fail
  refine (CK.out _).mono ?_
  rintro e w2 ⟨rfl, hb2⟩
  have B2' := Lib.hid (bstep B1.out hb2)
  clear hb2 CK d0 d1 d2
  go_wp2_with fail
  go_loopw [9, 26] (fun v vi wr => ∃ k : Nat, k ≤ N ∧ vi = .int .i64 (k : Int) ∧ Hid (SpK w0 (atts [] ((l.take k).map fun o => befS o a)) v wr)) (fun _ vi _ => N - (intOf vi).toNat)
  case atStart => exact ⟨0, by omega, rfl, Lib.hid (SpK.nil B2'.out)⟩
  case round =>
    obtain ⟨k, hk, rfl, HK⟩ := hrel
    clear B2'
    obtain ⟨bl, d0, d1, d2, _, _, _⟩ := EB.out _ HK.out.bel
    by_cases hlt : k < N
    · obtain ⟨o, ho⟩ : ∃ o, l[k]? = some o := ⟨l[k]'(by have := HN.out; omega), by simp [← HN.out, hlt]⟩
      obtain ⟨g, off, rfl, hg, c0, c1⟩ := SpsAt.get (HL.out.next HK.out.bel) ho
      have i1 : (k : Int) < (N : Int) := by omega
      have i2 : (0 : Int) ≤ (k : Int) := by omega
      have K1 := Lib.hid (HK.out.next (balloc (Below.refl _ _) (.cells #[.int .i64 o.lo, .int .i64 o.hi] 25)))
      have BE := Lib.hid (fun W => before o a W)
      have AT := Lib.hid (fun W (hK : SpK w0 (atts [] ((l.take k).map fun o => befS o a)) u9 W) => attach w0 _ u9 (befS o a) W hK (by have := L1.out k; omega))
      have NX : Hid (atts [] ((l.take (k + 1)).map fun o => befS o a) = att (atts [] ((l.take k).map fun o => befS o a)) (befS o a)) := Lib.hid (by rw [map_next ho, atts_snoc])
      clear HK ho
      generalize befS o a = x1 at *
      generalize atts [] ((l.take k).map fun o => befS o a) = es1 at *
      obtain ⟨lo, hi⟩ := o
      dsimp only at *
      go_wp2_with fail
      refine (BE.out _).mono ?_
      rintro e w3 ⟨rfl, hb3⟩
      have A1 := Lib.hid (AT.out _ (K1.out.next hb3))
      clear hb3 K1 AT BE d0 d1 d2 c0 c1
      go_wp2_with fail
      refine A1.out.mono ?_
      rintro e w4 ⟨v4, rfl, hk4, _⟩
      have K5 := Lib.hid hk4
      clear hk4 A1
      go_wp2_with fail
      go_roundw
      case rel => exact ⟨k + 1, by omega, by go_num, Lib.hid (by rw [NX.out]; exact K5.out)⟩
      case measure => simp [intOf]; omega
    · obtain rfl : k = N := by omega
      have TK : Hid (l.take k = l) := Lib.hid (by rw [HN.out, List.take_length])
      rw [TK.out] at HK
      have AT := Lib.hid (attach w0 _ _ ⟨a, a + p.size⟩ _ HK.out (by have := L1.out k; rw [TK.out] at this; omega))
      clear HK
      go_wp2_with fail
      refine AT.out.mono ?_
      rintro e w3 ⟨v3, rfl, hk3, _⟩
      have K3 := Lib.hid hk3
      clear hk3 AT d0 d1 d2 bl
      go_wp2_with fail
      go_loopw [9, 50] (fun v vi wr => ∃ j : Nat, j ≤ k ∧ vi = .int .i64 (j : Int) ∧ Hid (SpK w0 (atts (att (atts [] (l.map fun o => befS o a)) ⟨a, a + p.size⟩) ((l.take j).map fun o => movS o a c p.size)) v wr)) (fun _ vi _ => k - (intOf vi).toNat)
      case atStart => exact ⟨0, by omega, rfl, K3⟩
      case round =>
        obtain ⟨j, hj, rfl, HK⟩ := hrel
        clear K3
        by_cases hlt : j < k
        · obtain ⟨o, ho⟩ : ∃ o, l[j]? = some o := ⟨l[j]'(by have := HN.out; omega), by simp [← HN.out, hlt]⟩
          obtain ⟨g, off, rfl, hg, c0, c1⟩ := SpsAt.get (HL.out.next HK.out.bel) ho
          obtain ⟨o0, o1, o2⟩ := HR.out o (List.mem_of_getElem? ho)
          have i1 : (j : Int) < (k : Int) := by omega
          have i2 : (0 : Int) ≤ (j : Int) := by omega
          have r1 : IntKind.i64.wrap (a + c) = a + c := IntWalk.i64_in _ (by omega)
          have FR := Lib.hid (fun W => from_ o (a + c) W)
          have MV := Lib.hid (fun W => moved (froS o (a + c)) a c p W f3 f4 (by unfold froS; dsimp only; omega) (by unfold froS; dsimp only; omega) (by omega))
          rw [mvS_from] at MV
          have AT := Lib.hid (fun W (hK : SpK w0 (atts (att (atts [] (l.map fun o => befS o a)) ⟨a, a + p.size⟩) ((l.take j).map fun o => movS o a c p.size)) u9 W) => attach w0 _ u9 (movS o a c p.size) W hK (by have := L2.out j; omega))
          have NX : Hid (atts (att (atts [] (l.map fun o => befS o a)) ⟨a, a + p.size⟩) ((l.take (j + 1)).map fun o => movS o a c p.size) = att (atts (att (atts [] (l.map fun o => befS o a)) ⟨a, a + p.size⟩) ((l.take j).map fun o => movS o a c p.size)) (movS o a c p.size)) := Lib.hid (by rw [map_next ho, atts_snoc])
          have K1 : Hid (SpK w0 (atts (att (atts [] (l.map fun o => befS o a)) ⟨a, a + p.size⟩) ((l.take j).map fun o => movS o a c p.size)) u9 (wr.alloc (.cells #[.int .i64 o.lo, .int .i64 o.hi] 25)).drew) := Lib.hid (HK.out.next (balloc (Below.refl _ _) _).drew)
          have FO1 : Hid (Far u9 (wr.alloc (.cells #[.int .i64 o.lo, .int .i64 o.hi] 25)).drew wr.heap.size ∧ Far u9 (wr.alloc (.cells #[.int .i64 o.lo, .int .i64 o.hi] 25)).drew w.heap.size) := Lib.hid ⟨far_new HK.out _, ⟨Nat.lt_of_lt_of_le hws K1.out.bel.size, fun e => by have := (HK.out.lt _ e).1; omega⟩⟩
          have S1 : Hid ((w.heap.size < (wr.alloc (.cells #[.int .i64 o.lo, .int .i64 o.hi] 25)).drew.heap.size ∧ (wr.alloc (.cells #[.int .i64 o.lo, .int .i64 o.hi] 25)).drew.cell? ⟨w.heap.size, 0, none⟩ = some (.int .i64 a) ∧ (wr.alloc (.cells #[.int .i64 o.lo, .int .i64 o.hi] 25)).drew.cell? ⟨w.heap.size, 1, none⟩ = some (.int .i64 c) ∧ (wr.alloc (.cells #[.int .i64 o.lo, .int .i64 o.hi] 25)).drew.cell? ⟨w.heap.size, 2, none⟩ = some (.string p)) ∧ (wr.heap.size < (wr.alloc (.cells #[.int .i64 o.lo, .int .i64 o.hi] 25)).drew.heap.size ∧ (wr.alloc (.cells #[.int .i64 o.lo, .int .i64 o.hi] 25)).drew.cell? ⟨wr.heap.size, 0, none⟩ = some (.int .i64 o.lo) ∧ (wr.alloc (.cells #[.int .i64 o.lo, .int .i64 o.hi] 25)).drew.cell? ⟨wr.heap.size, 1, none⟩ = some (.int .i64 o.hi))) := Lib.hid (by
            have x := EB.out _ K1.out.bel
            have y := B2.new wr (.int .i64 o.lo) (.int .i64 o.hi) 25
            exact ⟨⟨x.lt, x.c0, x.c1, x.c2⟩, y.lt, y.c0, y.c1⟩)
          clear HK ho
          generalize movS o a c p.size = x2 at *
          generalize froS o (a + c) = x1 at *
          generalize atts (att (atts [] (l.map fun o => befS o a)) ⟨a, a + p.size⟩) ((l.take j).map fun o => movS o a c p.size) = es1 at *
          obtain ⟨lo, hi⟩ := o
          dsimp only at *
          go_wp2_with fail
          go_region_held3 (fun W => (w.heap.size < W.heap.size ∧ W.cell? ⟨w.heap.size, 0, none⟩ = some (.int .i64 a) ∧ W.cell? ⟨w.heap.size, 1, none⟩ = some (.int .i64 c) ∧ W.cell? ⟨w.heap.size, 2, none⟩ = some (.string p)) ∧ (wr.heap.size < W.heap.size ∧ W.cell? ⟨wr.heap.size, 0, none⟩ = some (.int .i64 lo) ∧ W.cell? ⟨wr.heap.size, 1, none⟩ = some (.int .i64 hi)))
            (first | exact S1.out | exact S2.out | exact S3.out | exact S4.out)
            (first
              | (go_at_call 47; refine (FR.out _).mono ?_; rintro e w5 ⟨rfl, hb5⟩; have K2 := Lib.hid (K1.out.next hb5); have FO2 := Lib.hid (And.intro ((Keeps.below hb5) _ FO1.out.1).1 ((Keeps.below hb5) _ FO1.out.2).1); have S2 := Lib.hid (s5 S1.out hb5); clear hb5)
              | (go_at_call 46; refine (MV.out _).mono ?_; rintro e w6 ⟨rfl, hb6⟩; have K3 := Lib.hid (K2.out.next hb6); have FO3 := Lib.hid (And.intro ((Keeps.below hb6) _ FO2.out.1).1 ((Keeps.below hb6) _ FO2.out.2).1); have S3 := Lib.hid (s5 S2.out hb6); clear hb6)
              | (go_at_call 44; refine (AT.out _ K3.out).mono ?_; rintro e w7 ⟨v7, rfl, hk7, hkp7⟩; have K4 := Lib.hid hk7; have S4 := Lib.hid (s5k S3.out hkp7 FO3.out.2 FO3.out.1); clear hk7 hkp7))
          go_wp2_with fail
          go_roundw
          case rel => exact ⟨j + 1, by omega, by go_num, Lib.hid (by rw [NX.out]; exact K4.out)⟩
          case measure => simp [intOf]; omega
        · obtain rfl : j = k := by omega
          rw [TK.out, ← HE.out] at HK
          have HV := Lib.hid (SpK.rebase HK.out HW.out)
          obtain ⟨a', c', rfl⟩ := HK.out.slice
          clear HK
          by_cases q : 40 < es.length
          · have C8 : cd = 8 := by rw [HC.out, if_pos q]
            subst C8
            have BO := Lib.hid (fun W => bounded_full a' es.length c' W q)
            clear HC q
            obtain ⟨M, hM⟩ : ∃ M, M = es.length := ⟨_, rfl⟩
            rw [← hM] at BO HV ⊢
            clear hM
            go_wp2_with fail
            refine (BO.out _).mono ?_
            rintro e w3 ⟨rfl, rfl⟩
            go_wp2_with fail
            go_ret2
            exact ⟨_, rfl, by rw [outL_no _ (by decide)]; exact SpK.nil HV.out.bel⟩
          · have C8 : cd = 0 := by rw [HC.out, if_neg q]
            subst C8
            have BO := Lib.hid (fun W => bounded_ok a' es.length c' W (by omega))
            clear HC q
            obtain ⟨M, hM⟩ : ∃ M, M = es.length := ⟨_, rfl⟩
            rw [← hM] at BO HV ⊢
            clear hM
            go_wp2_with fail
            refine (BO.out _).mono ?_
            rintro e w3 ⟨rfl, rfl⟩
            go_wp2_with fail
            go_ret2
            exact ⟨_, rfl, HV.out⟩
end Go.Proofs.Ytdiogfhbgmkajaa.SpanC
