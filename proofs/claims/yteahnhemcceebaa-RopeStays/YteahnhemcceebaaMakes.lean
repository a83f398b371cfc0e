/-
  fustiankeep.Makes: operations out of raw data.
-/
import Derived.Test.YteahnhemcceebaaRopeKeep
import Derived.Test.YteahnhemcceebaaOpenOps
import Derived.Test.YteahnhemcceebaaTexts
import Derived.StillTailTactics
import Derived.OneCell
namespace Go.Proofs.Yteahnhemcceebaa.KeepC
open Go.RowKit Kit RopeM RopeC Txt Lift

structure MakeM where
  kind : Int
  ta : Option Addr
  tlen : Nat
  tcap : Nat
  zs : List Int
  a : Int
  b : Int
  at_ : Int
theorem isRow_next {w w' : World} {a : Option Addr} {len cap : Nat} {zs : List Int} (h : IsRow .i64 w a len cap zs) (hb : Below w.heap.size w w') : IsRow .i64 w' a len cap zs := by
  rcases h with h | ⟨x, e, h1, h2, h3, h4, h5⟩
  · exact .inl h
  · exact .inr ⟨x, e, h1, h2, h3, fun i hi => (hb.cell (block_lt (h4 i hi))).trans (h4 i hi), h5⟩
/-- a slice of raw data -/
structure MksAt (w : World) (a : Option Addr) (l : List MakeM) : Prop where
  cell : ∀ (i : Nat) m, l[i]? = some m → (∃ g off, a = some ⟨g, off, none⟩ ∧ g < w.heap.size ∧ w.cell? ⟨g, off + i * 5, none⟩ = some (.int .i64 m.kind) ∧ w.cell? ⟨g, off + i * 5 + 1, none⟩ = some (.slice m.ta m.tlen m.tcap) ∧ w.cell? ⟨g, off + i * 5 + 2, none⟩ = some (.int .i64 m.a) ∧
    w.cell? ⟨g, off + i * 5 + 3, none⟩ = some (.int .i64 m.b) ∧ w.cell? ⟨g, off + i * 5 + 4, none⟩ = some (.int .i64 m.at_)) ∧ IsRow .i64 w m.ta m.tlen m.tcap m.zs
theorem MksAt.next {w w' : World} {a : Option Addr} {l : List MakeM} (h : MksAt w a l) (hb : Below w.heap.size w w') : MksAt w' a l where
  cell i m hi := by
    obtain ⟨⟨g, off, h0, h1, h2, h3, h4, h5, h6⟩, h7⟩ := h.cell i m hi
    exact ⟨⟨g, off, h0, Nat.lt_of_lt_of_le h1 hb.size, keep hb h1 h2, keep hb h1 h3, keep hb h1 h4, keep hb h1 h5, keep hb h1 h6⟩, isRow_next h7 hb⟩

/-- the box of an operation -/
structure OpBox (k : Nat) (o : OpM) (W : World) : Prop where
  lt : k < W.heap.size
  c0 : W.cell? ⟨k, 0, none⟩ = some (.int .i64 o.kind)
  c1 : W.cell? ⟨k, 1, none⟩ = some (.string o.text)
  c2 : W.cell? ⟨k, 2, none⟩ = some (.int .i64 o.a)
  c3 : W.cell? ⟨k, 3, none⟩ = some (.int .i64 o.b)
  c4 : W.cell? ⟨k, 4, none⟩ = some (.int .i64 o.at_)
  c5 : W.cell? ⟨k, 5, none⟩ = some (.int .i64 o.cnt)
/-- what the loop keeps -/
structure MkA (w : World) (ops : List OpM) (szs : List Nat) (ov sv : Value) (wr : World) : Prop where
  orow : wr.ownsRow w.heap.size 50 6 ov ops.length (opCells ops)
  srow : wr.ownsRow w.heap.size 3 1 sv szs.length (szs.map fun s : Nat => .int .i64 (s : Int))
  few : szs.length ≤ 60
  small : ∀ s ∈ szs, s ≤ 600
  bel : Below w.heap.size w wr
theorem MkA.next {w : World} {ops : List OpM} {szs : List Nat} {ov sv : Value} {w1 w2 : World} (h : MkA w ops szs ov sv w1) (hb : Below w1.heap.size w1 w2) : MkA w ops szs ov sv w2 :=
  ⟨row_next h.orow hb, row_next h.srow hb, h.few, h.small, bstep h.bel hb⟩
/-- a store into a block that is no row -/
theorem MkA.set {w : World} {ops : List OpM} {szs : List Nat} {ov sv : Value} {w1 : World} (h : MkA w ops szs ov sv w1) {k o : Nat} (hk : w.heap.size ≤ k) (h1 : ov.ownBlock ≠ some k) (h2 : sv.ownBlock ≠ some k) (v : Value) : MkA w ops szs ov sv (w1.setCell ⟨k, o, none⟩ v) :=
  ⟨ownsRow_setCell_other h.orow h1 v, ownsRow_setCell_other h.srow h2 v, h.few, h.small, h.bel.setCell (p := ⟨k, o, none⟩) hk v⟩
theorem MkA.sizes {w : World} {ops : List OpM} {szs : List Nat} {ov sv : Value} {w1 : World} (h : MkA w ops szs ov sv w1) : ∃ p cap, sv = .slice p szs.length cap ∧ ∀ (i : Nat) s, szs[i]? = some s → ∃ g, p = some ⟨g, 0, none⟩ ∧ g < w1.heap.size ∧ w1.cell? ⟨g, i, none⟩ = some (.int .i64 (s : Int)) := by
  rcases h.srow.2 with ⟨e, h0⟩ | ⟨g, cap, cur, e, hb, hg, _⟩
  · refine ⟨none, 0, by rw [e, h0], fun i t hi => ?_⟩
    rw [List.eq_nil_of_length_eq_zero h0] at hi; simp at hi
  · refine ⟨some ⟨g, 0, none⟩, cap, e, fun i s hi => ⟨g, rfl, (h.srow.lt g (by rw [e]; rfl)).2, ?_⟩⟩
    have hlt := (List.getElem?_eq_some_iff.1 hi).1
    have := h.srow
    rw [e] at this
    rw [this.cellAt i (by omega)]
    simp [hi]
theorem own_ne {W : World} {base : Nat} {e : TypeId} {size n : Nat} {v : Value} {xs : List Value} (h : W.ownsRow base e size v n xs) {k : Nat} (hk : W.heap.size ≤ k) : v.ownBlock ≠ some k := by
  intro e
  have := (h.lt k e).2
  omega
theorem MkA.fresh {w : World} {ops : List OpM} {szs : List Nat} {ov sv : Value} {w1 : World} (h : MkA w ops szs ov sv w1) {k : Nat} (hk : w1.heap.size ≤ k) : ov.ownBlock ≠ some k ∧ sv.ownBlock ≠ some k := ⟨own_ne h.orow hk, own_ne h.srow hk⟩

/-- behind the append of an operation -/
theorem MkA.op {w : World} {ops : List OpM} {szs : List Nat} {ov sv ov' : Value} {w1 w2 : World} {o : OpM} (h : MkA w ops szs ov sv w1) (hrow : w2.ownsRow w.heap.size 50 6 ov' (ops.length + 1) (opCells ops ++ o.cells.toList)) (hg : w1.grownBy w2 ov.ownBlock) : MkA w (ops ++ [o]) szs ov' sv w2 := by
  refine ⟨?_, h.srow.kept hg (apart h.srow h.orow (by decide)), h.few, h.small, bgrow h.bel h.orow hg⟩
  rw [opCells_append, List.length_append, List.length_singleton]
  simpa [opCells] using hrow
/-- behind the append of a size -/
theorem MkA.size {w : World} {ops : List OpM} {szs : List Nat} {ov sv sv' : Value} {w1 w2 : World} {s : Nat} (h : MkA w ops szs ov sv w1) (hs : s ≤ 600) (hf : szs.length < 60) (hrow : w2.ownsRow w.heap.size 3 1 sv' (szs.length + 1) ((szs.map fun s : Nat => .int .i64 (s : Int)) ++ [.int .i64 (s : Int)])) (hg : w1.grownBy w2 sv.ownBlock) : MkA w ops (szs ++ [s]) ov sv' w2 := by
  refine ⟨h.orow.kept hg (apart h.orow h.srow (by decide)), ?_, by rw [List.length_append, List.length_singleton]; omega, ?_, bgrow h.bel h.srow hg⟩
  · rw [List.length_append, List.length_singleton]; simpa using hrow
  · intro x hx
    rw [List.mem_append, List.mem_singleton] at hx
    rcases hx with hx | rfl
    · exact h.small x hx
    · exact hs

theorem cells_new (w : World) (cs : Array Value) (t : TypeId) (j : Nat) : (w.alloc (.cells cs t)).cell? ⟨w.heap.size, j, none⟩ = cs[j]? := by
  have : (w.alloc (.cells cs t)).heap[w.heap.size]? = some (.cells cs t (0, 0)) := World.alloc_heap_new w _
  unfold World.cell?
  simp only [this]
  rfl
theorem cell_six_new (w : World) (x0 x1 x2 x3 x4 x5 : Value) (t : TypeId) : ∀ j u, [x0, x1, x2, x3, x4, x5][j]? = some u → (w.alloc (.cells #[x0, x1, x2, x3, x4, x5] t)).cell? ((⟨w.heap.size, 0, none⟩ : Addr).add j) = some u := by
  intro j u hj
  have e : (⟨w.heap.size, 0, none⟩ : Addr).add j = ⟨w.heap.size, j, none⟩ := by rw [add_of rfl]; simp
  rw [e, cells_new]
  simpa using hj

set_option maxRecDepth 100000 in
set_option maxHeartbeats 40000000 in
theorem makes (l : List MakeM) (al : Option Addr) (cap : Nat) (w : World) (hl : MksAt w al l) (hlen : l.length ≤ 9223372036854775807) :
    Calls Try.prog 19 #[.slice al l.length cap, .int .i64 40] w fun e w' => ∃ v ops, e = .returned v ∧ ops.length ≤ 40 ∧ OpsV w' v ops ∧ Below w.heap.size w w' := by
  obtain ⟨i0, hi, hz0, hz1, hz2⟩ := info_parts infoOp
  have HI := Lib.hid (And.intro hi (And.intro hz0 (And.intro hz1 hz2)))
  clear hi hz0 hz1 hz2
  obtain ⟨i1, hi, hz0, hz1, hz2⟩ := info_parts infoInt
  have HJ := Lib.hid (And.intro hi (And.intro hz0 (And.intro hz1 hz2)))
  clear hi hz0 hz1 hz2
  have HL := Lib.hid hl
  clear hl
  obtain ⟨n, hn⟩ : ∃ n, l.length = n := ⟨_, rfl⟩
  rw [hn] at hlen ⊢
  go_enter Try.func19, Try.ntmps19
  go_wp2_with fail
  go_loopw [5, 6, 7] (fun ov sv x wr => ∃ (i : Nat) (ops : List OpM) (szs : List Nat), i ≤ n ∧ i ≤ 40 ∧ ops.length = i ∧ x = .int .i64 (i : Int) ∧ MkA w ops szs ov sv wr) (fun _ _ x _ => 40 - (intOf x).toNat)
  case atStart => exact ⟨0, [], [], by omega, by omega, rfl, rfl, World.ownsRow_nil _ _ _ _, World.ownsRow_nil _ _ _ _, by simp, fun s hs => by simp at hs, Below.refl _ _⟩
  case round =>
    obtain ⟨i, ops, szs, hin, hi40, hopl, rfl, hmk⟩ := hrel
    by_cases hlt : i < n
    · by_cases hlt4 : i < 40
      · obtain ⟨m, hm⟩ : ∃ m, l[i]? = some m := ⟨l[i]'(by omega), by simp [hn, hlt]⟩
        obtain ⟨⟨g, off, rfl, hg, c0, c1, c2, c3, c4⟩, hrow⟩ := (HL.out.next hmk.bel).cell i m hm
        obtain ⟨p, capS, rfl, hszs⟩ := hmk.sizes
        obtain ⟨kind, ta, tlen, tcap, zs, a, b, at_⟩ := m
        simp only at c0 c1 c2 c3 c4 hrow
        have hfew := hmk.few
        have TO : Hid (∀ W : World, Below wr.heap.size wr W → Calls Try.prog 25 #[.slice ta tlen tcap, .int .i64 30] W fun e w' => ∃ s : ByteArray, e = .returned (.string s) ∧ s.size ≤ 30 ∧ W = w') := Lib.hid fun W hW => by
          refine (textOf ta tlen tcap zs 30 W (isRow_next hrow hW) (by omega)).mono ?_
          rintro e w' ⟨rfl, rfl⟩
          exact ⟨_, rfl, by rw [textS_size]; simp only [List.length_take]; omega, rfl⟩
        have HM := Lib.hid hmk
        have HS := Lib.hid hszs
        have hsz := hmk.bel.size
        clear hmk hszs hrow hm
        go_wp2_with fail
        refine (TO.out _ (balloc (Below.refl _ _) _)).mono ?_
        rintro e w1 ⟨s, rfl, hs30, rfl⟩
        clear TO c0 c1 c2 c3 c4
        have HM2 := Lib.hid ((HM.out.next (balloc (Below.refl _ _) (.cells #[.int .i64 kind, .slice ta tlen tcap, .int .i64 a, .int .i64 b, .int .i64 at_] 67))).next (balloc (Below.refl _ _) (.cells #[.int .i64 1, .string s, .int .i64 0, .int .i64 0, .int .i64 0, .int .i64 0] 50)))
        have ENDS : Hid (∀ (o : OpM) (W1 : World), Below ((wr.alloc (.cells #[.int .i64 kind, .slice ta tlen tcap, .int .i64 a, .int .i64 b, .int .i64 at_] 67)).alloc (.cells o.cells 50)).heap.size ((wr.alloc (.cells #[.int .i64 kind, .slice ta tlen tcap, .int .i64 a, .int .i64 b, .int .i64 at_] 67)).alloc (.cells o.cells 50)) W1 → OpBox (wr.heap.size + 1) o W1 ∧ MkA w ops szs u5 (.slice p szs.length capS) W1) := Lib.hid (by
          intro o W1 hW1
          have hlt : wr.heap.size + 1 < ((wr.alloc (.cells #[.int .i64 kind, .slice ta tlen tcap, .int .i64 a, .int .i64 b, .int .i64 at_] 67)).alloc (.cells o.cells 50)).heap.size := by simp
          have hc : ∀ j v, o.cells[j]? = some v → W1.cell? ⟨wr.heap.size + 1, j, none⟩ = some v := by
            intro j v hj
            refine keep hW1 hlt ?_
            have := cells_new (wr.alloc (.cells #[.int .i64 kind, .slice ta tlen tcap, .int .i64 a, .int .i64 b, .int .i64 at_] 67)) o.cells 50 j
            rw [World.size_alloc] at this
            exact this.trans hj
          exact ⟨⟨Nat.lt_of_lt_of_le hlt hW1.size, hc 0 _ rfl, hc 1 _ rfl, hc 2 _ rfl, hc 3 _ rfl, hc 4 _ rfl, hc 5 _ rfl⟩, ((HM.out.next (balloc (Below.refl _ _) _)).next (balloc (Below.refl _ _) _)).next hW1⟩)
        by_cases hk : 0 < szs.length
        · have P6 := Lib.hid (fun W => picked kind 6 W (by omega) (by omega))
          have r0 := Int.emod_nonneg kind (show (6 : Int) ≠ 0 by omega)
          have r1 := Int.emod_lt_of_pos kind (show (0 : Int) < 6 by omega)
          by_cases hp : 0 < kind % 6
          · generalize kind % 6 = p6 at *
            go_upto_if 43 with (go_at_call 21; refine (P6.out _).mono ?_; rintro e wz ⟨rfl, rfl⟩)
            clear P6
            go_cut [10] (fun s10 wx => ∃ (o : OpM) (sz : Nat), s10 = .int .i64 (sz : Int) ∧ sz ≤ 3000 ∧ OpBox (wr.heap.size + 1) o wx ∧ MkA w ops szs u5 (.slice p szs.length capS) wx)
            case first =>
              go_upto_region 11 with fail
              have P5 := Lib.hid (fun W => picked kind 5 W (by omega) (by omega))
              have PA := Lib.hid (fun W => picked a szs.length W (by omega) (by omega))
              have PB := Lib.hid (fun W => picked b szs.length W (by omega) (by omega))
              have PC := Lib.hid (fun W => picked at_ 3 W (by omega) (by omega))
              obtain ⟨k5, hk5⟩ := Int.eq_ofNat_of_zero_le (Int.emod_nonneg kind (show (5 : Int) ≠ 0 by omega))
              obtain ⟨ia, hia⟩ := Int.eq_ofNat_of_zero_le (Int.emod_nonneg a (show (szs.length : Int) ≠ 0 by omega))
              obtain ⟨ib, hib⟩ := Int.eq_ofNat_of_zero_le (Int.emod_nonneg b (show (szs.length : Int) ≠ 0 by omega))
              obtain ⟨ct, hct⟩ := Int.eq_ofNat_of_zero_le (Int.emod_nonneg at_ (show (3 : Int) ≠ 0 by omega))
              have l5 := Int.emod_lt_of_pos kind (show (0 : Int) < 5 by omega)
              have la := Int.emod_lt_of_pos a (show (0 : Int) < (szs.length : Int) by omega)
              have lb := Int.emod_lt_of_pos b (show (0 : Int) < (szs.length : Int) by omega)
              have lc := Int.emod_lt_of_pos at_ (show (0 : Int) < 3 by omega)
              rw [hk5] at P5 l5
              rw [hia] at PA la
              rw [hib] at PB lb
              rw [hct] at PC lc
              clear hk5 hia hib hct
              obtain ⟨sa, hsa⟩ : ∃ sa, szs[ia]? = some sa := ⟨szs[ia]'(by omega), by simp [show ia < szs.length by omega]⟩
              obtain ⟨gs, rfl, hgs, ca⟩ := HS.out ia sa hsa
              have hsmall := Lib.hid HM.out.small
              have hsa6 := hsmall.out sa (List.mem_of_getElem? hsa)
              have hgne := Nat.ne_of_lt hgs
              have PD := Lib.hid (fun W => picked at_ ((sa : Int) + 1) W (by omega) (by omega))
              obtain ⟨q, hq⟩ := Int.eq_ofNat_of_zero_le (Int.emod_nonneg at_ (show ((sa : Int) + 1) ≠ 0 by omega))
              have lq := Int.emod_lt_of_pos at_ (show (0 : Int) < (sa : Int) + 1 by omega)
              rw [hq] at PD lq
              clear hq
              obtain ⟨kk, hkk⟩ : ∃ kk, 1 + (k5 : Int) = kk := ⟨_, rfl⟩
              have ew : IntKind.i64.wrap (1 + (k5 : Int)) = kk := (IntWalk.i64_in _ (by omega)).trans hkk
              go_region_held3 (fun W => (W.cell? ⟨wr.heap.size, 0, none⟩ = some (.int .i64 kind) ∧ W.cell? ⟨wr.heap.size, 2, none⟩ = some (.int .i64 a) ∧ W.cell? ⟨wr.heap.size, 3, none⟩ = some (.int .i64 b) ∧ W.cell? ⟨wr.heap.size, 4, none⟩ = some (.int .i64 at_)) ∧ W.cell? ⟨wr.heap.size + 1, 1, none⟩ = some (.string s))
                ((refine ⟨⟨?_, ?_, ?_, ?_⟩, ?_⟩ <;> simp))
                (first | (go_at_call_of 21 (Value.int IntKind.i64 kind); refine (P5.out _).mono ?_; rintro e wz ⟨rfl, rfl⟩) | (go_at_call_of 21 (Value.int IntKind.i64 a); refine (PA.out _).mono ?_; rintro e wz ⟨rfl, rfl⟩) | (go_at_call_of 21 (Value.int IntKind.i64 b); refine (PB.out _).mono ?_; rintro e wz ⟨rfl, rfl⟩) | (go_at_call_of 21 (Value.int IntKind.i64 at_); refine (PC.out _).mono ?_; rintro e wz ⟨rfl, rfl⟩))
              clear ew P5 PA PB PC
              have KS : Hid (∀ W : World, Below wr.heap.size wr W → W.cell? ⟨gs, ia, none⟩ = some (.int .i64 (sa : Int))) := Lib.hid fun W hW => keep hW hgs ca
              have ew1 : IntKind.i64.wrap ((sa : Int) + 1) = (sa : Int) + 1 := IntWalk.i64_in _ (by omega)
              go_upto_region 12 with fail
              go_region_held3 (fun W => W.cell? ⟨wr.heap.size, 4, none⟩ = some (.int .i64 at_) ∧ W.cell? ⟨wr.heap.size + 1, 2, none⟩ = some (.int .i64 (ia : Int)) ∧ W.cell? ⟨gs, ia, none⟩ = some (.int .i64 (sa : Int)))
                (first | exact ⟨by simp, by simp, KS.out _ ((balloc (balloc (Below.refl _ _) _) _).drew.drew)⟩ | exact ⟨by simp, by simp, KS.out _ ((balloc (balloc (Below.refl _ _) _) _).drew)⟩)
                ((go_at_call 21; refine (PD.out _).mono ?_; rintro e wz ⟨rfl, rfl⟩))
              clear ew1 PD KS
              have h5 : kk = 1 ∨ kk = 2 ∨ kk = 3 ∨ kk = 4 ∨ kk = 5 := by omega
              clear hkk l5
              rcases h5 with rfl | rfl | rfl | rfl | rfl
              · go_wp2_with fail
                go_meet
                exact ⟨⟨1, s, (ia : Int), (ib : Int), (q : Int), (ct : Int)⟩, s.size, rfl, by omega, ENDS.out ⟨1, s, (ia : Int), (ib : Int), (q : Int), (ct : Int)⟩ _ ((Below.refl _ _).drew.drew)⟩
              · obtain ⟨sb, hsb⟩ : ∃ sb, szs[ib]? = some sb := ⟨szs[ib]'(by omega), by simp [show ib < szs.length by omega]⟩
                obtain ⟨gs2, hg2, _, cb⟩ := HS.out ib sb hsb
                cases hg2
                have hsb6 := hsmall.out sb (List.mem_of_getElem? hsb)
                have ew2 : IntKind.i64.wrap ((sa : Int) + (sb : Int)) = (sa : Int) + (sb : Int) := IntWalk.i64_in _ (by omega)
                go_upto_region 15 with fail
                go_quiet (fail)
                go_wp2_with fail
                go_meet
                exact ⟨⟨2, s, (ia : Int), (ib : Int), (q : Int), (ct : Int)⟩, sa + sb, by simp, by omega, ENDS.out ⟨2, s, (ia : Int), (ib : Int), (q : Int), (ct : Int)⟩ _ (bdrewN ((Below.refl _ _).drew.drew) _)⟩
              · go_wp2_with fail
                go_meet
                exact ⟨⟨3, s, (ia : Int), (ib : Int), (q : Int), (ct : Int)⟩, q, rfl, by omega, ENDS.out ⟨3, s, (ia : Int), (ib : Int), (q : Int), (ct : Int)⟩ _ ((Below.refl _ _).drew.drew)⟩
              · have ew2 : IntKind.i64.wrap ((sa : Int) - (q : Int)) = (sa : Int) - (q : Int) := IntWalk.i64_in _ (by omega)
                have HEQ := Lib.hid (show ((sa - q : Nat) : Int) = (sa : Int) - (q : Int) by omega)
                go_upto_region 19 with fail
                go_quiet (fail)
                go_wp2_with fail
                go_meet
                exact ⟨⟨4, s, (ia : Int), (ib : Int), (q : Int), (ct : Int)⟩, sa - q, by rw [HEQ.out], by omega, ENDS.out ⟨4, s, (ia : Int), (ib : Int), (q : Int), (ct : Int)⟩ _ (bdrewN ((Below.refl _ _).drew.drew) _)⟩
              · have hmul : ct * sa ≤ 3 * 600 := Nat.mul_le_mul (by omega) hsa6
                have HEQ := Lib.hid (show ((ct * sa : Nat) : Int) = (ct : Int) * (sa : Int) from Int.natCast_mul _ _)
                have ew2 : IntKind.i64.wrap ((ct : Int) * (sa : Int)) = (ct : Int) * (sa : Int) := IntWalk.i64_in _ (by rw [← HEQ.out]; omega)
                have HMUL := Lib.hid hmul
                clear hmul
                go_upto_region 21 with fail
                go_quiet (fail)
                go_wp2_with fail
                go_meet
                exact ⟨⟨5, s, (ia : Int), (ib : Int), (q : Int), (ct : Int)⟩, ct * sa, by rw [HEQ.out], by have := HMUL.out; omega, ENDS.out ⟨5, s, (ia : Int), (ib : Int), (q : Int), (ct : Int)⟩ _ (bdrewN ((Below.refl _ _).drew.drew) _)⟩
            case rest =>
              obtain ⟨o, sz, rfl, hsz30, hob, hmc⟩ := hcut
              have HOB := Lib.hid hob
              have HMC := Lib.hid hmc
              clear hob hmc ENDS
              obtain ⟨xl, x0, x1, x2, x3, x4, x5⟩ := HOB.out
              obtain ⟨o0, o1, o2, o3, o4, o5⟩ := o
              simp only at x0 x1 x2 x3 x4 x5
              have HMA := Lib.hid (HMC.out.next (balloc (Below.refl _ _) (.cells #[.int .i64 o0, .string o1, .int .i64 o2, .int .i64 o3, .int .i64 o4, .int .i64 o5] 50)))
              have hszc := HMC.out.bel.size
              clear HM2 HM HS
              by_cases hs6 : sz ≤ 600
              · by_cases hf6 : szs.length < 60
                · have hd1 : decide ((sz : Int) ≤ 600) = true := by simp; omega
                  have hd2 : decide ((szs.length : Int) < 60) = true := by simp; omega
                  go_wp2_with (first
                    | (at_builtin; refine wpList_append_lies _ rfl _ _ 22 rfl w.heap.size 50 i0 _ 6 56 Try.underlying22 HI.out.1 HI.out.2.1 HI.out.2.2.1 HI.out.2.2.2 rfl (by decide) _ ops.length (opCells ops) rfl HMA.out.orow ⟨wc.heap.size, 0, none⟩ 1 1 [.int .i64 o0, .string o1, .int .i64 o2, .int .i64 o3, .int .i64 o4, .int .i64 o5] rfl rfl (cell_six_new _ _ _ _ _ _ _ _) (by simp [Value.oneCell']) (by omega) (by unfold maxLen; omega) (by omega) (by simp; omega) _ rfl ?_; intro g3 cap3 w3 hown3 hgrow3 _ _; have M3 := Lib.hid (HMA.out.op (o := ⟨o0, o1, o2, o3, o4, o5⟩) hown3 hgrow3); have hsz3 := M3.out.bel.size; clear hown3 hgrow3)
                    | (at_builtin; refine wpList_append_lies _ rfl _ _ 41 rfl w.heap.size 3 i1 _ 1 8 Try.underlying41 HJ.out.1 HJ.out.2.1 HJ.out.2.2.1 HJ.out.2.2.2 rfl (by decide) _ szs.length (szs.map fun s : Nat => .int .i64 (s : Int)) rfl (M3.out.srow.alloc _) ⟨w3.heap.size, 0, none⟩ 1 1 [.int .i64 (sz : Int)] rfl rfl (cell_one_new _ _ _) (by simp [Value.oneCell']) (by omega) (by unfold maxLen; omega) (by omega) (by simp; omega) _ rfl ?_; intro g4 cap4 w4 hown4 hgrow4 _ _; have FIN := Lib.hid ((M3.out.next (balloc (Below.refl _ _) (.cells #[.int .i64 (sz : Int)] 3))).size hs6 hf6 hown4 hgrow4); clear hown4 hgrow4))
                  go_roundw
                  case rel => exact ⟨i + 1, ops ++ [⟨o0, o1, o2, o3, o4, o5⟩], szs ++ [sz], by omega, by omega, by simp [hopl], rfl, by have h := FIN.out; rw [hopl] at h; exact h⟩
                  case measure => simp [intOf]; omega
                · have hf7 : 60 ≤ szs.length := by omega
                  have hd1 : decide ((sz : Int) ≤ 600) = true := by simp; omega
                  have hd2 : decide ((szs.length : Int) < 60) = false := by rw [decide_eq_false_iff_not]; omega
                  go_wp2_with (at_builtin; refine wpList_append_lies _ rfl _ _ 22 rfl w.heap.size 50 i0 _ 6 56 Try.underlying22 HI.out.1 HI.out.2.1 HI.out.2.2.1 HI.out.2.2.2 rfl (by decide) _ ops.length (opCells ops) rfl HMA.out.orow ⟨wc.heap.size, 0, none⟩ 1 1 [.int .i64 o0, .string o1, .int .i64 o2, .int .i64 o3, .int .i64 o4, .int .i64 o5] rfl rfl (cell_six_new _ _ _ _ _ _ _ _) (by simp [Value.oneCell']) (by omega) (by unfold maxLen; omega) (by omega) (by simp; omega) _ rfl ?_; intro g3 cap3 w3 hown3 hgrow3 _ _; have M3 := Lib.hid (HMA.out.op (o := ⟨o0, o1, o2, o3, o4, o5⟩) hown3 hgrow3); have hsz3 := M3.out.bel.size; clear hown3 hgrow3)
                  go_roundw
                  case rel => exact ⟨i + 1, ops ++ [⟨o0, o1, o2, o3, o4, o5⟩], szs, by omega, by omega, by simp [hopl], rfl, by have h := M3.out; rw [hopl] at h; exact h⟩
                  case measure => simp [intOf]; omega
              · have hs7 : 600 < sz := by omega
                have hd1 : decide ((sz : Int) ≤ 600) = false := by rw [decide_eq_false_iff_not]; omega
                go_wp2_with (at_builtin; refine wpList_append_lies _ rfl _ _ 22 rfl w.heap.size 50 i0 _ 6 56 Try.underlying22 HI.out.1 HI.out.2.1 HI.out.2.2.1 HI.out.2.2.2 rfl (by decide) _ ops.length (opCells ops) rfl HMA.out.orow ⟨wc.heap.size, 0, none⟩ 1 1 [.int .i64 o0, .string o1, .int .i64 o2, .int .i64 o3, .int .i64 o4, .int .i64 o5] rfl rfl (cell_six_new _ _ _ _ _ _ _ _) (by simp [Value.oneCell']) (by omega) (by unfold maxLen; omega) (by omega) (by simp; omega) _ rfl ?_; intro g3 cap3 w3 hown3 hgrow3 _ _; have M3 := Lib.hid (HMA.out.op (o := ⟨o0, o1, o2, o3, o4, o5⟩) hown3 hgrow3); have hsz3 := M3.out.bel.size; clear hown3 hgrow3)
                go_roundw
                case rel => exact ⟨i + 1, ops ++ [⟨o0, o1, o2, o3, o4, o5⟩], szs, by omega, by omega, by simp [hopl], rfl, by have h := M3.out; rw [hopl] at h; exact h⟩
                case measure => simp [intOf]; omega
          · have hp0 : kind % 6 = 0 := by omega
            rw [hp0] at P6
            clear r0 r1 hp hp0
            go_upto_region 22 with (go_at_call 21; refine (P6.out _).mono ?_; rintro e wz ⟨rfl, rfl⟩)
            have HOB := Lib.hid (show OpBox (wr.heap.size + 1) ⟨1, s, 0, 0, 0, 0⟩ ((wr.alloc (.cells #[.int .i64 kind, .slice ta tlen tcap, .int .i64 a, .int .i64 b, .int .i64 at_] 67)).alloc (.cells #[.int .i64 1, .string s, .int .i64 0, .int .i64 0, .int .i64 0, .int .i64 0] 50)) from (ENDS.out ⟨1, s, 0, 0, 0, 0⟩ _ (Below.refl _ _)).1)
            have HMC := HM2
            obtain ⟨o, ho⟩ : ∃ o : OpM, o = ⟨1, s, 0, 0, 0, 0⟩ := ⟨_, rfl⟩
            rw [← ho] at HOB
            obtain ⟨sz, hsze⟩ : ∃ sz, sz = s.size := ⟨_, rfl⟩
            rw [← hsze]
            have hsz30 : sz ≤ 3000 := by omega
            clear hsze
            clear ho ENDS
            generalize ((wr.alloc (.cells #[.int .i64 kind, .slice ta tlen tcap, .int .i64 a, .int .i64 b, .int .i64 at_] 67)).alloc (.cells #[.int .i64 1, .string s, .int .i64 0, .int .i64 0, .int .i64 0, .int .i64 0] 50)) = wc at *
            obtain ⟨xl, x0, x1, x2, x3, x4, x5⟩ := HOB.out
            obtain ⟨o0, o1, o2, o3, o4, o5⟩ := o
            simp only at x0 x1 x2 x3 x4 x5
            have HMA := Lib.hid (HMC.out.next (balloc (Below.refl _ _) (.cells #[.int .i64 o0, .string o1, .int .i64 o2, .int .i64 o3, .int .i64 o4, .int .i64 o5] 50)))
            have hszc := HMC.out.bel.size
            clear HM2 HM HS
            by_cases hs6 : sz ≤ 600
            · by_cases hf6 : szs.length < 60
              · have hd1 : decide ((sz : Int) ≤ 600) = true := by simp; omega
                have hd2 : decide ((szs.length : Int) < 60) = true := by simp; omega
                go_wp2_with (first
                  | (at_builtin; refine wpList_append_lies _ rfl _ _ 22 rfl w.heap.size 50 i0 _ 6 56 Try.underlying22 HI.out.1 HI.out.2.1 HI.out.2.2.1 HI.out.2.2.2 rfl (by decide) _ ops.length (opCells ops) rfl HMA.out.orow ⟨wc.heap.size, 0, none⟩ 1 1 [.int .i64 o0, .string o1, .int .i64 o2, .int .i64 o3, .int .i64 o4, .int .i64 o5] rfl rfl (cell_six_new _ _ _ _ _ _ _ _) (by simp [Value.oneCell']) (by omega) (by unfold maxLen; omega) (by omega) (by simp; omega) _ rfl ?_; intro g3 cap3 w3 hown3 hgrow3 _ _; have M3 := Lib.hid (HMA.out.op (o := ⟨o0, o1, o2, o3, o4, o5⟩) hown3 hgrow3); have hsz3 := M3.out.bel.size; clear hown3 hgrow3)
                  | (at_builtin; refine wpList_append_lies _ rfl _ _ 41 rfl w.heap.size 3 i1 _ 1 8 Try.underlying41 HJ.out.1 HJ.out.2.1 HJ.out.2.2.1 HJ.out.2.2.2 rfl (by decide) _ szs.length (szs.map fun s : Nat => .int .i64 (s : Int)) rfl (M3.out.srow.alloc _) ⟨w3.heap.size, 0, none⟩ 1 1 [.int .i64 (sz : Int)] rfl rfl (cell_one_new _ _ _) (by simp [Value.oneCell']) (by omega) (by unfold maxLen; omega) (by omega) (by simp; omega) _ rfl ?_; intro g4 cap4 w4 hown4 hgrow4 _ _; have FIN := Lib.hid ((M3.out.next (balloc (Below.refl _ _) (.cells #[.int .i64 (sz : Int)] 3))).size hs6 hf6 hown4 hgrow4); clear hown4 hgrow4))
                go_roundw
                case rel => exact ⟨i + 1, ops ++ [⟨o0, o1, o2, o3, o4, o5⟩], szs ++ [sz], by omega, by omega, by simp [hopl], rfl, by have h := FIN.out; rw [hopl] at h; exact h⟩
                case measure => simp [intOf]; omega
              · have hf7 : 60 ≤ szs.length := by omega
                have hd1 : decide ((sz : Int) ≤ 600) = true := by simp; omega
                have hd2 : decide ((szs.length : Int) < 60) = false := by rw [decide_eq_false_iff_not]; omega
                go_wp2_with (at_builtin; refine wpList_append_lies _ rfl _ _ 22 rfl w.heap.size 50 i0 _ 6 56 Try.underlying22 HI.out.1 HI.out.2.1 HI.out.2.2.1 HI.out.2.2.2 rfl (by decide) _ ops.length (opCells ops) rfl HMA.out.orow ⟨wc.heap.size, 0, none⟩ 1 1 [.int .i64 o0, .string o1, .int .i64 o2, .int .i64 o3, .int .i64 o4, .int .i64 o5] rfl rfl (cell_six_new _ _ _ _ _ _ _ _) (by simp [Value.oneCell']) (by omega) (by unfold maxLen; omega) (by omega) (by simp; omega) _ rfl ?_; intro g3 cap3 w3 hown3 hgrow3 _ _; have M3 := Lib.hid (HMA.out.op (o := ⟨o0, o1, o2, o3, o4, o5⟩) hown3 hgrow3); have hsz3 := M3.out.bel.size; clear hown3 hgrow3)
                go_roundw
                case rel => exact ⟨i + 1, ops ++ [⟨o0, o1, o2, o3, o4, o5⟩], szs, by omega, by omega, by simp [hopl], rfl, by have h := M3.out; rw [hopl] at h; exact h⟩
                case measure => simp [intOf]; omega
            · have hs7 : 600 < sz := by omega
              have hd1 : decide ((sz : Int) ≤ 600) = false := by rw [decide_eq_false_iff_not]; omega
              go_wp2_with (at_builtin; refine wpList_append_lies _ rfl _ _ 22 rfl w.heap.size 50 i0 _ 6 56 Try.underlying22 HI.out.1 HI.out.2.1 HI.out.2.2.1 HI.out.2.2.2 rfl (by decide) _ ops.length (opCells ops) rfl HMA.out.orow ⟨wc.heap.size, 0, none⟩ 1 1 [.int .i64 o0, .string o1, .int .i64 o2, .int .i64 o3, .int .i64 o4, .int .i64 o5] rfl rfl (cell_six_new _ _ _ _ _ _ _ _) (by simp [Value.oneCell']) (by omega) (by unfold maxLen; omega) (by omega) (by simp; omega) _ rfl ?_; intro g3 cap3 w3 hown3 hgrow3 _ _; have M3 := Lib.hid (HMA.out.op (o := ⟨o0, o1, o2, o3, o4, o5⟩) hown3 hgrow3); have hsz3 := M3.out.bel.size; clear hown3 hgrow3)
              go_roundw
              case rel => exact ⟨i + 1, ops ++ [⟨o0, o1, o2, o3, o4, o5⟩], szs, by omega, by omega, by simp [hopl], rfl, by have h := M3.out; rw [hopl] at h; exact h⟩
              case measure => simp [intOf]; omega
        · have hd0 : decide ((0 : Int) < (szs.length : Int)) = false := by rw [decide_eq_false_iff_not]; omega
          have hd00 : decide (0 < szs.length) = false := by rw [decide_eq_false_iff_not]; exact hk
          clear hk
          go_upto_region 22 with fail
          clear hd0 hd00
          have HOB := Lib.hid (show OpBox (wr.heap.size + 1) ⟨1, s, 0, 0, 0, 0⟩ ((wr.alloc (.cells #[.int .i64 kind, .slice ta tlen tcap, .int .i64 a, .int .i64 b, .int .i64 at_] 67)).alloc (.cells #[.int .i64 1, .string s, .int .i64 0, .int .i64 0, .int .i64 0, .int .i64 0] 50)) from (ENDS.out ⟨1, s, 0, 0, 0, 0⟩ _ (Below.refl _ _)).1)
          have HMC := HM2
          obtain ⟨o, ho⟩ : ∃ o : OpM, o = ⟨1, s, 0, 0, 0, 0⟩ := ⟨_, rfl⟩
          rw [← ho] at HOB
          obtain ⟨sz, hsze⟩ : ∃ sz, sz = s.size := ⟨_, rfl⟩
          rw [← hsze]
          have hsz30 : sz ≤ 3000 := by omega
          clear hsze
          clear ho ENDS
          generalize ((wr.alloc (.cells #[.int .i64 kind, .slice ta tlen tcap, .int .i64 a, .int .i64 b, .int .i64 at_] 67)).alloc (.cells #[.int .i64 1, .string s, .int .i64 0, .int .i64 0, .int .i64 0, .int .i64 0] 50)) = wc at *
          obtain ⟨xl, x0, x1, x2, x3, x4, x5⟩ := HOB.out
          obtain ⟨o0, o1, o2, o3, o4, o5⟩ := o
          simp only at x0 x1 x2 x3 x4 x5
          have HMA := Lib.hid (HMC.out.next (balloc (Below.refl _ _) (.cells #[.int .i64 o0, .string o1, .int .i64 o2, .int .i64 o3, .int .i64 o4, .int .i64 o5] 50)))
          have hszc := HMC.out.bel.size
          clear HM2 HM HS
          by_cases hs6 : sz ≤ 600
          · by_cases hf6 : szs.length < 60
            · have hd1 : decide ((sz : Int) ≤ 600) = true := by simp; omega
              have hd2 : decide ((szs.length : Int) < 60) = true := by simp; omega
              go_wp2_with (first
                | (at_builtin; refine wpList_append_lies _ rfl _ _ 22 rfl w.heap.size 50 i0 _ 6 56 Try.underlying22 HI.out.1 HI.out.2.1 HI.out.2.2.1 HI.out.2.2.2 rfl (by decide) _ ops.length (opCells ops) rfl HMA.out.orow ⟨wc.heap.size, 0, none⟩ 1 1 [.int .i64 o0, .string o1, .int .i64 o2, .int .i64 o3, .int .i64 o4, .int .i64 o5] rfl rfl (cell_six_new _ _ _ _ _ _ _ _) (by simp [Value.oneCell']) (by omega) (by unfold maxLen; omega) (by omega) (by simp; omega) _ rfl ?_; intro g3 cap3 w3 hown3 hgrow3 _ _; have M3 := Lib.hid (HMA.out.op (o := ⟨o0, o1, o2, o3, o4, o5⟩) hown3 hgrow3); have hsz3 := M3.out.bel.size; clear hown3 hgrow3)
                | (at_builtin; refine wpList_append_lies _ rfl _ _ 41 rfl w.heap.size 3 i1 _ 1 8 Try.underlying41 HJ.out.1 HJ.out.2.1 HJ.out.2.2.1 HJ.out.2.2.2 rfl (by decide) _ szs.length (szs.map fun s : Nat => .int .i64 (s : Int)) rfl (M3.out.srow.alloc _) ⟨w3.heap.size, 0, none⟩ 1 1 [.int .i64 (sz : Int)] rfl rfl (cell_one_new _ _ _) (by simp [Value.oneCell']) (by omega) (by unfold maxLen; omega) (by omega) (by simp; omega) _ rfl ?_; intro g4 cap4 w4 hown4 hgrow4 _ _; have FIN := Lib.hid ((M3.out.next (balloc (Below.refl _ _) (.cells #[.int .i64 (sz : Int)] 3))).size hs6 hf6 hown4 hgrow4); clear hown4 hgrow4))
              go_roundw
              case rel => exact ⟨i + 1, ops ++ [⟨o0, o1, o2, o3, o4, o5⟩], szs ++ [sz], by omega, by omega, by simp [hopl], rfl, by have h := FIN.out; rw [hopl] at h; exact h⟩
              case measure => simp [intOf]; omega
            · have hf7 : 60 ≤ szs.length := by omega
              have hd1 : decide ((sz : Int) ≤ 600) = true := by simp; omega
              have hd2 : decide ((szs.length : Int) < 60) = false := by rw [decide_eq_false_iff_not]; omega
              go_wp2_with (at_builtin; refine wpList_append_lies _ rfl _ _ 22 rfl w.heap.size 50 i0 _ 6 56 Try.underlying22 HI.out.1 HI.out.2.1 HI.out.2.2.1 HI.out.2.2.2 rfl (by decide) _ ops.length (opCells ops) rfl HMA.out.orow ⟨wc.heap.size, 0, none⟩ 1 1 [.int .i64 o0, .string o1, .int .i64 o2, .int .i64 o3, .int .i64 o4, .int .i64 o5] rfl rfl (cell_six_new _ _ _ _ _ _ _ _) (by simp [Value.oneCell']) (by omega) (by unfold maxLen; omega) (by omega) (by simp; omega) _ rfl ?_; intro g3 cap3 w3 hown3 hgrow3 _ _; have M3 := Lib.hid (HMA.out.op (o := ⟨o0, o1, o2, o3, o4, o5⟩) hown3 hgrow3); have hsz3 := M3.out.bel.size; clear hown3 hgrow3)
              go_roundw
              case rel => exact ⟨i + 1, ops ++ [⟨o0, o1, o2, o3, o4, o5⟩], szs, by omega, by omega, by simp [hopl], rfl, by have h := M3.out; rw [hopl] at h; exact h⟩
              case measure => simp [intOf]; omega
          · have hs7 : 600 < sz := by omega
            have hd1 : decide ((sz : Int) ≤ 600) = false := by rw [decide_eq_false_iff_not]; omega
            go_wp2_with (at_builtin; refine wpList_append_lies _ rfl _ _ 22 rfl w.heap.size 50 i0 _ 6 56 Try.underlying22 HI.out.1 HI.out.2.1 HI.out.2.2.1 HI.out.2.2.2 rfl (by decide) _ ops.length (opCells ops) rfl HMA.out.orow ⟨wc.heap.size, 0, none⟩ 1 1 [.int .i64 o0, .string o1, .int .i64 o2, .int .i64 o3, .int .i64 o4, .int .i64 o5] rfl rfl (cell_six_new _ _ _ _ _ _ _ _) (by simp [Value.oneCell']) (by omega) (by unfold maxLen; omega) (by omega) (by simp; omega) _ rfl ?_; intro g3 cap3 w3 hown3 hgrow3 _ _; have M3 := Lib.hid (HMA.out.op (o := ⟨o0, o1, o2, o3, o4, o5⟩) hown3 hgrow3); have hsz3 := M3.out.bel.size; clear hown3 hgrow3)
            go_roundw
            case rel => exact ⟨i + 1, ops ++ [⟨o0, o1, o2, o3, o4, o5⟩], szs, by omega, by omega, by simp [hopl], rfl, by have h := M3.out; rw [hopl] at h; exact h⟩
            case measure => simp [intOf]; omega
      · have FIN := Lib.hid hmk
        clear hmk
        have hi : i = 40 := by omega
        subst hi
        go_wp2_with fail
        go_ret
        exact ⟨_, ops, rfl, by omega, OpsV.of_owns FIN.out.orow, FIN.out.bel⟩
    · have FIN := Lib.hid hmk
      clear hmk
      go_wp2_with fail
      go_ret
      exact ⟨_, ops, rfl, by omega, OpsV.of_owns FIN.out.orow, FIN.out.bel⟩

end Go.Proofs.Yteahnhemcceebaa.KeepC
