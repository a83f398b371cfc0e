/-
  Package merge: Merge.
-/
import Derived.Test.YtokfnajgjhkepaaMergeHunks
import Derived.Test.YtokfnajgjhkepaaMergeRm
import Derived.Test.YtokfnajgjhkepaaMergeRound
import Derived.Test.YtokfnajgjhkepaaDiffFaces
import Derived.Test.YtokfnajgjhkepaaMergeLawsW
namespace Go.Proofs.Ytokfnajgjhkepaa.MergeT
open Go.RowKit Kit LineM StrM DiffM DiffA DiffR DiffP DiffK HistM DiffL

theorem indexS0 (a b : Value) (w : World) : (Instr.index 48 (.agg #[a, b]) (.int .i64 0)).run Try.prog w = .ok a w := by kernel_rfl
theorem indexS1 (a b : Value) (w : World) : (Instr.index 48 (.agg #[a, b]) (.int .i64 1)).run Try.prog w = .ok b w := by kernel_rfl
/-- what is known while the sides are made -/
structure S1 (w : World) (la lb lc : List ByteArray) (k : Nat) (W : World) : Prop where
  bel : Below w.heap.size w W
  bx : ∃ u0 u1, B2 w.heap.size u0 u1 W ∧ (0 < k → ∃ hs, RD w.heap.size u0 hs W ∧ HI la (marks la lb) (hs.map Prod.fst)) ∧ (1 < k → ∃ hs, RD w.heap.size u1 hs W ∧ HI la (marks la lc) (hs.map Prod.fst))
section
variable {w W W' : World} {la lb lc : List ByteArray} {k : Nat}
theorem S1.next (h : S1 w la lb lc k W) (hb : Below W.heap.size W W') : S1 w la lb lc k W' := by
  obtain ⟨u0, u1, h1, h2, h3⟩ := h.bx
  exact ⟨bstep h.bel hb, u0, u1, h1.next hb, fun q => by obtain ⟨hs, a, b⟩ := h2 q; exact ⟨hs, a.fr (fr_below hb), b⟩, fun q => by obtain ⟨hs, a, b⟩ := h3 q; exact ⟨hs, a.fr (fr_below hb), b⟩⟩
theorem S1.new (w : World) (la lb lc : List ByteArray) (t : TypeId) : S1 w la lb lc 0 (w.alloc (.cells #[.slice none 0 0, .slice none 0 0] t)) := ⟨balloc (Below.refl _ _) _, _, _, B2.new w _ _ t, fun q => by omega, fun q => by omega⟩
theorem S1.put0 {v : Value} {hs : List HV} (h : S1 w la lb lc 0 W) (hr : RD w.heap.size v hs W) (hh : HI la (marks la lb) (hs.map Prod.fst)) : S1 w la lb lc 1 (W.setCell ⟨w.heap.size, 0, none⟩ v) := by
  obtain ⟨u0, u1, h1, h2, h3⟩ := h.bx
  have hf : Fr (fun b => b = w.heap.size) W (W.setCell ⟨w.heap.size, 0, none⟩ v) := Fr.set (F := fun b => b = w.heap.size) (Fr.refl _ _) (.inl rfl) _
  exact ⟨h.bel.setCell (p := ⟨w.heap.size, 0, none⟩) (Nat.le_refl _) _, v, u1, B2.p0 h1 v, fun _ => ⟨hs, hr.fr hf, hh⟩, fun q => by omega⟩
theorem S1.put1 {v : Value} {hs : List HV} (h : S1 w la lb lc 1 W) (hr : RD w.heap.size v hs W) (hh : HI la (marks la lc) (hs.map Prod.fst)) : S1 w la lb lc 2 (W.setCell ⟨w.heap.size, 1, none⟩ v) := by
  obtain ⟨u0, u1, h1, h2, h3⟩ := h.bx
  have hf : Fr (fun b => b = w.heap.size) W (W.setCell ⟨w.heap.size, 1, none⟩ v) := Fr.set (F := fun b => b = w.heap.size) (Fr.refl _ _) (.inl rfl) _
  obtain ⟨hs0, a, b⟩ := h2 (by omega)
  exact ⟨h.bel.setCell (p := ⟨w.heap.size, 1, none⟩) (Nat.le_refl _) _, u0, v, B2.p1 h1 v, fun _ => ⟨hs0, a.fr hf, b⟩, fun _ => ⟨hs, hr.fr hf, hh⟩⟩
end
/-- between two regions -/
structure S2 (w wB : World) (la lb lc : List ByteArray) (R : List ByteArray × Nat) (us : Nat → Value) (rs : Nat → List HV) (c : Nat) (M : List HV) (cl : Nat) (vm : Value) (W : World) : Prop where
  bel : Below w.heap.size w W
  sb : SB W w.heap.size us rs
  lo : ∀ j, j < 2 → ∀ b, (us j).ownBlock = some b → b < wB.heap.size
  ln : ∀ j, j < 2 → ∀ h ∈ rs j, SlV 1 sc wB h.2 h.1.l ∧ h.2.ownBlock ≠ some w.heap.size
  lm : LM wB w.heap.size M vm W
  mq : MQ mk1 mk2 mk3 la (marks la lb) (marks la lc) R c (M.map Prod.fst) cl (hks rs)
theorem left_sb {W : World} {sb : Nat} {us : Nat → Value} {rs : Nat → List HV} (h : SB W sb us rs) : left sb W = (rs 0).length + (rs 1).length := by
  obtain ⟨a0, c0, e0, _⟩ := (h.rd 0 (by omega)).1
  obtain ⟨a1, c1, e1, _⟩ := (h.rd 1 (by omega)).1
  unfold left
  rw [h.su 0 (by omega), h.su 1 (by omega), e0, e1]
def pair {β : Type} (a b : β) : Nat → β := fun j => if j = 0 then a else b
theorem s2_new {w wB : World} {la lb lc : List ByteArray} {u0 u1 : Value} {hs0 hs1 : List HV} (hb : Below w.heap.size w wB) (hbx : B2 w.heap.size u0 u1 wB) (h0 : RD w.heap.size u0 hs0 wB) (i0 : HI la (marks la lb) (hs0.map Prod.fst)) (h1 : RD w.heap.size u1 hs1 wB) (i1 : HI la (marks la lc) (hs1.map Prod.fst)) : S2 w wB la lb lc (mrg mk1 mk2 mk3 la lb lc) (pair u0 u1) (pair hs0 hs1) 0 [] 0 (.slice none 0 0) wB := by
  have two : ∀ j, j < 2 → j = 0 ∨ j = 1 := fun j hj => by omega
  refine ⟨hb, ⟨hbx.lt, fun j hj => ?_, fun j hj => ?_, fun j hj => ?_⟩, fun j hj b hq => ?_, fun j hj => ?_, ⟨hbx.lt, Fr.refl _ _, World.ownsRow_nil _ _ _ _, fun h hh => by simp at hh⟩, ?_⟩
  · rcases two j hj with rfl | rfl
    · exact hbx.c0
    · exact hbx.c1
  · rcases two j hj with rfl | rfl
    · exact hbx.f0
    · exact hbx.f1
  · rcases two j hj with rfl | rfl
    · exact ⟨h0.sl, h0.ne⟩
    · exact ⟨h1.sl, h1.ne⟩
  · have hlt : ∀ {u : Value} {hs : List HV}, RD w.heap.size u hs wB → u.ownBlock = some b → b < wB.heap.size := fun h hu => by
      obtain ⟨a, cap, e, _, _, hd⟩ := h.sl
      rcases hd with ⟨e2, _⟩ | ⟨g, off, e2, hg⟩
      · rw [e, e2] at hu; cases hu
      · rw [e, e2] at hu
        have : g = b := by simpa [Value.ownBlock] using hu
        omega
    rcases two j hj with rfl | rfl
    · exact hlt h0 hq
    · exact hlt h1 hq
  · rcases two j hj with rfl | rfl
    · exact h0.ln
    · exact h1.ln
  · refine MQ.new (fun j hj => ?_)
    rcases two j hj with rfl | rfl
    · exact i0.rest
    · exact i1.rest
/-- a region is taken off the sides -/
structure S3 (w wB : World) (la lb lc : List ByteArray) (R : List ByteArray × Nat) (us : Nat → Value) (rs : Nat → List HV) (M : List HV) (cl i e : Nat) (RG : List ByteArray × Nat) (vm : Value) (W : World) : Prop where
  bel : Below w.heap.size w W
  sb : SB W w.heap.size us rs
  lo : ∀ j, j < 2 → ∀ b, (us j).ownBlock = some b → b < wB.heap.size
  ln : ∀ j, j < 2 → ∀ h ∈ rs j, SlV 1 sc wB h.2 h.1.l ∧ h.2.ownBlock ≠ some w.heap.size
  lm : LM wB w.heap.size M vm W
  mq : MQ mk1 mk2 mk3 la (marks la lb) (marks la lc) R (e + 1) (M.map Prod.fst ++ [⟨i, e, RG.1⟩]) (cl + RG.2) (hks rs)
theorem SB.fr {W W' : World} {sb : Nat} {us : Nat → Value} {rs : Nat → List HV} (h : SB W sb us rs) (hb : Below W.heap.size W W') : SB W' sb us rs :=
  ⟨Nat.lt_of_lt_of_le h.sl hb.size, fun j hj => keep hb h.sl (h.su j hj), fun j hj => (hb.frozen (p := ⟨sb, j, none⟩) h.sl).trans (h.sf j hj), fun j hj => ⟨SlV.next (h.rd j hj).1 hb, (h.rd j hj).2⟩⟩
theorem S3.next {w wB W W' : World} {la lb lc : List ByteArray} {R RG : List ByteArray × Nat} {us : Nat → Value} {rs : Nat → List HV} {M : List HV} {cl i e : Nat} {vm : Value} (h : S3 w wB la lb lc R us rs M cl i e RG vm W) (hb : Below W.heap.size W W') : S3 w wB la lb lc R us rs M cl i e RG vm W' :=
  ⟨bstep h.bel hb, h.sb.fr hb, h.lo, h.ln, h.lm.next (fr_below hb), h.mq⟩
theorem SlV.blk {α : Type} {k : Nat} {cells : α → List Value} {W W1 : World} {v : Value} {l : List α} (h : SlV k cells W v l) (hs : W.heap.size ≤ W1.heap.size) (hb : ∀ b, v.ownBlock = some b → b < W.heap.size → W1.heap[b]? = W.heap[b]?) : SlV k cells W1 v l := by
  obtain ⟨a, cap, rfl, hle, ha, hd⟩ := h
  refine ⟨a, cap, rfl, hle, ⟨fun i o hi => ?_⟩, hd.imp id ?_⟩
  · obtain ⟨g, off, h0, h1, h2⟩ := ha.cell i o hi
    subst h0
    exact ⟨g, off, rfl, Nat.lt_of_lt_of_le h1 hs, fun j hj => (World.cell?_of_block (a := ⟨g, off + i * k + j, none⟩) (hb g rfl h1)).trans (h2 j hj)⟩
  · rintro ⟨g, off, rfl, hg⟩
    exact ⟨g, off, rfl, Nat.lt_of_lt_of_le hg hs⟩
/-- the region's hunk is added to the merged ones -/
theorem S3.push {w wB W W1 : World} {la lb lc : List ByteArray} {R RG : List ByteArray × Nat} {us : Nat → Value} {rs : Nat → List HV} {M : List HV} {cl i e : Nat} {vm v v' : Value} (h : S3 w wB la lb lc R us rs M cl i e RG vm W) (hv : W.ownsRow wB.heap.size 9 1 v RG.1.length (flatC sc RG.1)) {o : Obj}
    (hr : W1.ownsRow wB.heap.size 54 3 v' (M.length + 1) (flatC hkc M ++ [.int .i64 (i : Int), .int .i64 (e : Int), v])) (hg : (W.alloc o).grownBy W1 vm.ownBlock) : S2 w wB la lb lc R us rs (e + 1) (M ++ [(⟨i, e, RG.1⟩, v)]) (cl + RG.2) v' W1 := by
  have ha := balloc (Below.refl W.heap.size W) o
  have hA := h.next ha
  obtain ⟨p1, p2⟩ := h.lm.push (x := (⟨i, e, RG.1⟩, v)) hv hr hg
  have hlo : ∀ b, vm.ownBlock = some b → wB.heap.size ≤ b := fun b q => (h.lm.row.lt b q).1
  have hwB : w.heap.size < wB.heap.size := h.lm.lt
  have hbel : Below w.heap.size w W1 := hA.bel.trans ⟨hg.os, hg.tape, hg.output, hg.size, fun b hb => hg.block b (Nat.lt_of_lt_of_le hb hA.bel.size) (fun q => by have := hlo b q.symm; omega)⟩
  have hsb : vm.ownBlock ≠ some w.heap.size := fun q => by have := hlo _ q; omega
  refine ⟨hbel, ⟨Nat.lt_of_lt_of_le hA.sb.sl hg.size, fun j hj => kept_at hg (hA.sb.su j hj) hsb, fun j hj => kept_fr hg (hA.sb.su j hj) hsb (hA.sb.sf j hj), fun j hj => ⟨SlV.blk (hA.sb.rd j hj).1 hg.size (fun b hb h1 => hg.block b h1 (fun q => by
    have h2 := hlo b q.symm
    have h3 := h.lo j hj b hb
    omega)), (hA.sb.rd j hj).2⟩⟩, h.lo, h.ln, p1, ?_⟩
  rw [List.map_append]
  exact h.mq
set_option maxRecDepth 100000 in
set_option maxHeartbeats 1000000 in
theorem mergeF (x y z : Sv) (w : World) (hx : x.has w) (hy : y.has w) (hz : z.has w) (hox : okL x.l) (hoy : okL y.l) (hoz : okL z.l) (hcx : x.l.length ≤ x.cap) (hcy : y.l.length ≤ y.cap) (hcz : z.l.length ≤ z.cap) : Calls Try.prog 8 #[.slice x.a x.l.length x.cap, .slice y.a y.l.length y.cap, .slice z.a z.l.length z.cap] w (MgPost (mrg mk1 mk2 mk3 x.l y.l z.l) 0 w) := by
  have STY := Lib.hid (fun W (hW : Below w.heap.size w W) => stepsF x y W (SlAt.next hx hW) (SlAt.next hy hW) hox hoy)
  have STZ := Lib.hid (fun W (hW : Below w.heap.size w W) => stepsF x z W (SlAt.next hx hW) (SlAt.next hz hW) hox hoz)
  have HUY := Lib.hid (fun W (hW : Below w.heap.size w W) av cs hst => hunksF W av cs (comb (kinds x.l y.l)) y x.l hst (SlAt.next hy hW) hcy (rn_of x.l y.l) hox.1 hoy.1)
  have HUZ := Lib.hid (fun W (hW : Below w.heap.size w W) av cs hst => hunksF W av cs (comb (kinds x.l z.l)) z x.l hst (SlAt.next hz hW) hcz (rn_of x.l z.l) hox.1 hoz.1)
  have HX : Hid (StAt w x.a x.l) := Lib.hid hx
  obtain ⟨i0, hi, hz0, hz1, hz2⟩ := info_parts infoHunk
  have HI0 := Lib.hid (And.intro hi (And.intro hz0 (And.intro hz1 hz2)))
  clear hi hz0 hz1 hz2
  have hla := hox.1
  have hlb := hoy.1
  have hlc := hoz.1
  have S0 := Lib.hid (S1.new w x.l y.l z.l 47)
  obtain ⟨R, hR⟩ : ∃ R, mrg mk1 mk2 mk3 x.l y.l z.l = R := ⟨_, rfl⟩
  have HR := Lib.hid hR
  have HRL : Hid (R.1.length ≤ 100000 ∧ R.2 ≤ x.l.length + 1) := Lib.hid (by
    rw [← hR]
    exact ⟨mrg_len hla hlb hlc, mtail_few _ 0 (Nat.le_refl _)⟩)
  rw [hR]
  clear hR hx hy hz hox hoy hoz hcy hcz
  generalize x.l = la at *
  generalize y.l = lb at *
  generalize z.l = lc at *
  generalize x.a = aa at *
  generalize y.a = ab at *
  generalize z.a = ac at *
  generalize x.cap = ca at *
  generalize y.cap = cb at *
  generalize z.cap = cc at *
  obtain ⟨n, hn⟩ : ∃ n, la.length = n := ⟨_, rfl⟩
  obtain ⟨m, hm⟩ : ∃ m, lb.length = m := ⟨_, rfl⟩
  obtain ⟨o, ho⟩ : ∃ o, lc.length = o := ⟨_, rfl⟩
  have HN := Lib.hid hn
  have HM := Lib.hid hm
  have HO := Lib.hid ho
  rw [hn] at hla hcx STY STZ ⊢
  rw [hm] at hlb STY HUY ⊢
  rw [ho] at hlc STZ HUZ ⊢
  clear hn hm ho
  go_enter Try.func8, Try.ntmps8
  go_wp2_with fail
  generalize (w.alloc (.cells #[.slice none 0 0, .slice none 0 0] 47)) = w1 at *
  go_loopw [7, 20] (fun vc vk wr => ∃ k : Nat, k ≤ 2 ∧ vk = .int .i64 (k : Int) ∧ vc = .int .i64 0 ∧ Hid (S1 w la lb lc k wr)) (fun _ vk _ => 2 - (intOf vk).toNat)
  case atStart => exact ⟨0, by omega, rfl, rfl, S0⟩
  case round =>
    obtain ⟨k, hk, rfl, rfl, HS⟩ := hrel
    clear S0
    have ix0 := indexS0
    have ix1 := indexS1
    have BS := Lib.hid HS.out.bel
    have hk3 : k = 0 ∨ k = 1 ∨ k = 2 := by omega
    rcases hk3 with rfl | rfl | hk2
    · have CA := Lib.hid (STY.out wr BS.out)
      clear hk STY
      go_wp2_with fail
      refine CA.out.mono ?_
      rintro q w2 ⟨v, rfl, hv, hb2⟩
      obtain ⟨av, cv, rfl, _, hat, _⟩ := hv
      have B2' := Lib.hid (bstep BS.out hb2)
      have HS2 := Lib.hid (HS.out.next hb2)
      have CH := Lib.hid (HUY.out w2 B2'.out av cv hat)
      clear hat hb2 CA HUY HS
      go_wp2_with fail
      refine CH.out.mono ?_
      rintro q w3 ⟨v, hs, rfl, hlr, hhi⟩
      have HS3 := HS2.out.next hlr.bel
      obtain ⟨u0, u1, hbx, _⟩ := HS2.out.bx
      have hrd := RD.of_lr hlr hbx.lt
      obtain ⟨u0, u1, hbx3, _⟩ := HS3.bx
      have HNX := Lib.hid (HS3.put0 hrd hhi)
      obtain ⟨a3, c3, e3, _⟩ := hrd.sl
      rw [e3] at HNX
      subst e3
      have f0 := hbx3.c0
      have f1 := hbx3.f0
      have f2 := hbx3.lt
      clear hlr hhi HS3 hbx hrd hbx3 CH HS2
      generalize hs.length = nh at *
      go_wp2_with fail
      go_roundw
      case rel => exact ⟨1, by omega, by first | trivial | rfl | go_num, by first | trivial | rfl, HNX⟩
      case measure => simp only [intOf]; omega
    · have CA := Lib.hid (STZ.out wr BS.out)
      clear hk STZ
      go_wp2_with fail
      refine CA.out.mono ?_
      rintro q w2 ⟨v, rfl, hv, hb2⟩
      obtain ⟨av, cv, rfl, _, hat, _⟩ := hv
      have B2' := Lib.hid (bstep BS.out hb2)
      have HS2 := Lib.hid (HS.out.next hb2)
      have CH := Lib.hid (HUZ.out w2 B2'.out av cv hat)
      clear hat hb2 CA HUZ HS
      go_wp2_with fail
      refine CH.out.mono ?_
      rintro q w3 ⟨v, hs, rfl, hlr, hhi⟩
      have HS3 := HS2.out.next hlr.bel
      obtain ⟨u0, u1, hbx, _⟩ := HS2.out.bx
      have hrd := RD.of_lr hlr hbx.lt
      obtain ⟨u0, u1, hbx3, _⟩ := HS3.bx
      have HNX := Lib.hid (HS3.put1 hrd hhi)
      obtain ⟨a3, c3, e3, _⟩ := hrd.sl
      rw [e3] at HNX
      subst e3
      have f0 := hbx3.c1
      have f1 := hbx3.f1
      have f2 := hbx3.lt
      clear hlr hhi HS3 hbx hrd hbx3 CH HS2
      generalize hs.length = nh at *
      go_wp2_with fail
      go_roundw
      case rel => exact ⟨2, by omega, by first | trivial | rfl | go_num, by first | trivial | rfl, HNX⟩
      case measure => simp only [intOf]; omega
    · have hk4 : ¬ (k : Int) < 2 := by omega
      have HS2 : Hid (S1 w la lb lc 2 wr) := Lib.hid (hk2 ▸ HS.out)
      clear hk hk2 HS STY STZ HUY HUZ ix0 ix1
      obtain ⟨u0, u1, hbx, h0, h1⟩ := HS2.out.bx
      obtain ⟨hs0, hr0, hi0⟩ := h0 (by omega)
      obtain ⟨hs1, hr1, hi1⟩ := h1 (by omega)
      have Z0 := Lib.hid (s2_new HS2.out.bel hbx hr0 hi0 hr1 hi1)
      rw [HR.out] at Z0
      clear hbx h0 h1 hr0 hi0 hr1 hi1 HS2 BS
      go_upto_region 11 with fail
      obtain ⟨wB, rfl⟩ : ∃ wB, wB = wr := ⟨_, rfl⟩
      go_loopw [7, 14] (fun vc vm wx => ∃ (us : Nat → Value) (rs : Nat → List HV) (c : Nat) (M : List HV) (cl : Nat), vc = .int .i64 (cl : Int) ∧ Hid (S2 w wB la lb lc R us rs c M cl vm wx)) (fun _ _ wx => left w.heap.size wx)
      case atStart => exact ⟨_, _, _, _, 0, rfl, Z0⟩
      case round =>
        obtain ⟨us, rs, c, M, cl, rfl, HS⟩ := hrel
        clear Z0
        obtain ⟨a0, c0, e0, _⟩ := (HS.out.sb.rd 0 (by omega)).1
        obtain ⟨a1, c1, e1, _⟩ := (HS.out.sb.rd 1 (by omega)).1
        have d0 := HS.out.sb.su 0 (by omega)
        have d1 := HS.out.sb.su 1 (by omega)
        have d2 := HS.out.sb.sl
        rw [e0] at d0
        rw [e1] at d1
        have LS := Lib.hid (left_sb HS.out.sb)
        have RB := Lib.hid (rs_bounds (by rw [HN.out]; exact hla) HS.out.mq)
        have BS := Lib.hid HS.out.bel
        have hl0 := RB.out.1 0 (by omega)
        have hl1 := RB.out.1 1 (by omega)
        have hcl : cl ≤ 100 := by
          have h := HS.out.mq.few HRL.out.2
          have := HN.out
          omega
        by_cases hne : rs 0 ≠ [] ∨ rs 1 ≠ []
        · obtain ⟨i, hf⟩ := fst_ex hne
          have CF := Lib.hid (firstR wr w.heap.size i us rs HS.out.sb hf (fun j hj h hh => by
            obtain ⟨a, cc, e, _⟩ := (HS.out.ln j hj h hh).1
            exact ⟨a, _, cc, e⟩) RB.out.1 RB.out.2)
          have hs0 : (0 : Int) < ((rs 0).length : Int) + ((rs 1).length : Int) := by
            have : 0 < (rs 0).length ∨ 0 < (rs 1).length := hne.imp List.length_pos_iff.2 List.length_pos_iff.2
            omega
          have hw0 : IntKind.i64.wrap (((rs 0).length : Int) + ((rs 1).length : Int)) = ((rs 0).length : Int) + ((rs 1).length : Int) := IntWalk.i64_in _ (by omega)
          have HF := Lib.hid hf
          clear hne hf e0 e1
          generalize hq0 : (rs 0).length = n0 at *
          generalize hq1 : (rs 1).length = n1 at *
          have HQ := Lib.hid (And.intro hq0 hq1)
          clear hq0 hq1
          go_wp2_with fail
          refine CF.out.mono ?_
          rintro q w2 ⟨e, vs, us', ts, rs', rfl, hw, hst, hsp, hfr, hsb, hvs, hob⟩
          obtain ⟨RG, hrm⟩ := round_math (by rw [HM.out]; exact hlb) (by rw [HO.out]; exact hlc) HS.out.mq HF.out hw hst hsp
          have HRM := Lib.hid hrm
          have HW2 : Hid (Below w.heap.size w w2) := Lib.hid (HS.out.bel.trans (hfr.below (B := w.heap.size) HS.out.bel.size (fun b hb => by rw [hb]; exact Nat.le_refl _)))
          have Z3 : Hid (S3 w wB la lb lc R us' rs' M cl i e RG u14 w2) := Lib.hid ⟨HW2.out, hsb, fun j hj b hb => HS.out.lo j hj b (by rw [← hob j hj]; exact hb), fun j hj h hh => HS.out.ln j hj h (by rw [hsp j hj]; simp [hh]), HS.out.lm.next hfr, hrm.mq⟩
          have lnT : ∀ j, j < 2 → ∀ h ∈ ts j, SlV 1 sc w2 h.2 h.1.l := fun j hj h hh => by
            have h1 := HS.out.ln j hj h (by rw [hsp j hj]; simp [hh])
            exact SlV.fr h1.1 h1.2 Z3.out.lm.fr
          have hts : ∀ j, j < 2 → (ts j).length ≤ 1000 := fun j hj => by
            have h1 := RB.out.1 j hj
            rw [hsp j hj, List.length_append] at h1
            omega
          have CM := Lib.hid (mergeR w2 la aa ca (SlAt.next HX.out HW2.out) (by rw [HN.out]; exact hla) (by rw [HN.out]; exact hcx) i e (vs 0) (vs 1) (ts 0) (ts 1) (hvs 0 (by omega)) (hvs 1 (by omega)) (lnT 0 (by omega)) (lnT 1 (by omega)) (hts 0 (by omega)) (hts 1 (by omega)) (hrm.chn 0 (by omega)) (hrm.chn 1 (by omega)) hrm.en (hrm.len 0 (by omega)) (hrm.len 1 (by omega)) RG hrm.q1 hrm.q2 hrm.q3)
          rw [HN.out] at CM
          have S4 := Lib.hid (fun W (hW : Below w2.heap.size w2 W) => Z3.out.next hW)
          have AFTER : Hid (∀ w3 v, SK w2 RG.1 v w3 → ∀ W1 v', W1.ownsRow wB.heap.size 54 3 v' (M.length + 1) (flatC hkc M ++ [.int .i64 (i : Int), .int .i64 (e : Int), v]) → ((w3.alloc (.cells #[.int .i64 (i : Int), .int .i64 (e : Int), v] 54)).alloc (.cells #[.int .i64 (i : Int), .int .i64 (e : Int), v] 54)).grownBy W1 u14.ownBlock → S2 w wB la lb lc R us' rs' (e + 1) (M ++ [(⟨i, e, RG.1⟩, v)]) (cl + RG.2) v' W1) := Lib.hid (fun w3 v hv W1 v' hr hg => by
            have h1 := (Z3.out.next hv.bel).next (balloc (Below.refl w3.heap.size w3) (.cells #[.int .i64 (i : Int), .int .i64 (e : Int), v] 54))
            exact h1.push (row_next (hv.row.mono Z3.out.lm.fr.size) (balloc (Below.refl _ _) _)) hr hg)
          have LTH : Hid (∀ cc MM cl' v' W, S2 w wB la lb lc R us' rs' cc MM cl' v' W → left w.heap.size W < left w.heap.size wr) := Lib.hid (fun cc MM cl' v' W h => by
            rw [left_sb h.sb, LS.out]
            have h0 := congrArg List.length (hsp 0 (by omega))
            have h1 := congrArg List.length (hsp 1 (by omega))
            rw [List.length_append] at h0 h1
            have h3 := HQ.out
            have h2 : 0 < (ts 0).length ∨ 0 < (ts 1).length := hrm.some_.imp List.length_pos_iff.2 List.length_pos_iff.2
            omega)
          have hM8 : M.length ≤ 1000 := by
            have h1 := HS.out.mq.ml
            have h2 := HS.out.mq.cn
            have h3 := HN.out
            rw [List.length_map] at h1
            omega
          have hr2 : RG.2 = 0 ∨ RG.2 = 1 := by have := hrm.one; omega
          clear hw hst hsp hfr hsb hvs hob hrm lnT hts HS HRM HF CF RB LS Z3 d0 d1 d2 hs0 hw0 hl0 hl1 HW2
          go_wp2_with fail
          rcases hr2 with hr | hr
          · have hr1 : decide (RG.2 = 1) = false := by rw [hr]; rfl
            have rc : IntKind.i64.wrap ((cl : Int) + 1) = (cl : Int) + 1 := IntWalk.i64_in _ (by omega)
            rw [hr] at AFTER
            refine CM.out.mono ?_
            rintro q w3 ⟨v, rfl, hv⟩
            rw [hr1]
            clear hr1 hr
            obtain ⟨av, cv, e5, _⟩ := hv.val
            have HV := Lib.hid hv
            have A3 := Lib.hid (AFTER.out w3 v hv)
            have HZ3 := Lib.hid (S4.out w3 hv.bel)
            subst e5
            generalize RG.1.length = np at *
            have L4 : Hid (((w3.alloc (.cells #[.int .i64 (i : Int), .int .i64 (e : Int), .slice av np cv] 54)).alloc (.cells #[.int .i64 (i : Int), .int .i64 (e : Int), .slice av np cv] 54)).ownsRow wB.heap.size 54 3 u14 M.length (flatC hkc M)) := Lib.hid (((HZ3.out.lm.row).alloc _).alloc _)
            have HNEW := Lib.hid (three_new0 (w3.alloc (.cells #[.int .i64 (i : Int), .int .i64 (e : Int), .slice av np cv] 54)) (.int .i64 (i : Int)) (.int .i64 (e : Int)) (.slice av np cv) 54)
            have hz : (w3.alloc (.cells #[.int .i64 (i : Int), .int .i64 (e : Int), .slice av np cv] 54)).heap.size = w3.heap.size + 1 := by simp
            rw [hz] at HNEW
            have hbase : wB.heap.size ≤ ((w3.alloc (.cells #[.int .i64 (i : Int), .int .i64 (e : Int), .slice av np cv] 54)).alloc (.cells #[.int .i64 (i : Int), .int .i64 (e : Int), .slice av np cv] 54)).heap.size := by
              have := HZ3.out.lm.fr.size
              simp; omega
            have BX := Lib.hid (B3.new w3 (.int .i64 (i : Int)) (.int .i64 (e : Int)) (.slice av np cv) 54)
            clear hv HV CM AFTER S4 hz
            go_wp2_with (at_builtin; refine wpList_append_lies _ rfl _ _ _ rfl wB.heap.size 54 i0 _ 3 40 Try.underlying46 HI0.out.1 HI0.out.2.1 HI0.out.2.2.1 HI0.out.2.2.2 rfl (by decide) u14 M.length (flatC hkc M) rfl L4.out ⟨w3.heap.size + 1, 0, none⟩ 1 1 [.int .i64 (i : Int), .int .i64 (e : Int), .slice av np cv] rfl rfl HNEW.out (by simp [Value.oneCell']) (by omega) (by unfold maxLen; omega) (by omega) hbase (w3.heap.size + 1 + 1) (by simp) ?_; intro g4 cap4 w8 hown4 hgrow4 hloc4 hlt4; have HNX := Lib.hid (A3.out _ _ hown4 hgrow4); clear hown4 hgrow4 hloc4 hlt4 L4 HNEW A3 hbase)
            have HLT := Lib.hid (LTH.out _ _ _ _ _ HNX.out)
            go_roundw
            case rel => exact ⟨us', rs', e + 1, _, cl + 0, by first | rfl | go_num | (simp; done), HNX⟩
            case measure => exact HLT.out
          · have hr1 : decide (RG.2 = 1) = true := by rw [hr]; rfl
            have rc : IntKind.i64.wrap ((cl : Int) + 1) = (cl : Int) + 1 := IntWalk.i64_in _ (by omega)
            rw [hr] at AFTER
            refine CM.out.mono ?_
            rintro q w3 ⟨v, rfl, hv⟩
            rw [hr1]
            clear hr1 hr
            obtain ⟨av, cv, e5, _⟩ := hv.val
            have HV := Lib.hid hv
            have A3 := Lib.hid (AFTER.out w3 v hv)
            have HZ3 := Lib.hid (S4.out w3 hv.bel)
            subst e5
            generalize RG.1.length = np at *
            have L4 : Hid (((w3.alloc (.cells #[.int .i64 (i : Int), .int .i64 (e : Int), .slice av np cv] 54)).alloc (.cells #[.int .i64 (i : Int), .int .i64 (e : Int), .slice av np cv] 54)).ownsRow wB.heap.size 54 3 u14 M.length (flatC hkc M)) := Lib.hid (((HZ3.out.lm.row).alloc _).alloc _)
            have HNEW := Lib.hid (three_new0 (w3.alloc (.cells #[.int .i64 (i : Int), .int .i64 (e : Int), .slice av np cv] 54)) (.int .i64 (i : Int)) (.int .i64 (e : Int)) (.slice av np cv) 54)
            have hz : (w3.alloc (.cells #[.int .i64 (i : Int), .int .i64 (e : Int), .slice av np cv] 54)).heap.size = w3.heap.size + 1 := by simp
            rw [hz] at HNEW
            have hbase : wB.heap.size ≤ ((w3.alloc (.cells #[.int .i64 (i : Int), .int .i64 (e : Int), .slice av np cv] 54)).alloc (.cells #[.int .i64 (i : Int), .int .i64 (e : Int), .slice av np cv] 54)).heap.size := by
              have := HZ3.out.lm.fr.size
              simp; omega
            have BX := Lib.hid (B3.new w3 (.int .i64 (i : Int)) (.int .i64 (e : Int)) (.slice av np cv) 54)
            clear hv HV CM AFTER S4 hz
            go_wp2_with (at_builtin; refine wpList_append_lies _ rfl _ _ _ rfl wB.heap.size 54 i0 _ 3 40 Try.underlying46 HI0.out.1 HI0.out.2.1 HI0.out.2.2.1 HI0.out.2.2.2 rfl (by decide) u14 M.length (flatC hkc M) rfl L4.out ⟨w3.heap.size + 1, 0, none⟩ 1 1 [.int .i64 (i : Int), .int .i64 (e : Int), .slice av np cv] rfl rfl HNEW.out (by simp [Value.oneCell']) (by omega) (by unfold maxLen; omega) (by omega) hbase (w3.heap.size + 1 + 1) (by simp) ?_; intro g4 cap4 w8 hown4 hgrow4 hloc4 hlt4; have HNX := Lib.hid (A3.out _ _ hown4 hgrow4); clear hown4 hgrow4 hloc4 hlt4 L4 HNEW A3 hbase)
            have HLT := Lib.hid (LTH.out _ _ _ _ _ HNX.out)
            go_roundw
            case rel => exact ⟨us', rs', e + 1, _, cl + 1, by first | rfl | go_num | (simp; done), HNX⟩
            case measure => exact HLT.out
        · have h0 : rs 0 = [] := by
            cases h : rs 0 with
            | nil => rfl
            | cons a b => exact absurd (.inl (by rw [h]; simp)) hne
          have h1 : rs 1 = [] := by
            cases h : rs 1 with
            | nil => rfl
            | cons a b => exact absurd (.inr (by rw [h]; simp)) hne
          obtain ⟨m1, m2⟩ := HS.out.mq.all (by unfold hks; rw [h0]; rfl) (by unfold hks; rw [h1]; rfl)
          rw [h0] at d0
          rw [h1] at d1
          simp only [List.length_nil] at d0 d1
          obtain ⟨rM, rL⟩ := HS.out.lm.read
          have CR := Lib.hid (replaceF wr la aa ca (SlAt.next HX.out HS.out.bel) (by rw [HN.out]; exact hla) (by rw [HN.out]; exact hcx) 0 la.length u14 M rM rL (by
            have h1 := HS.out.mq.ml
            have h2 := HS.out.mq.cn
            have h3 := HN.out
            rw [List.length_map] at h1
            omega) HS.out.mq.chn (Nat.le_refl _) (by rw [← m1]; exact HRL.out.1))
          rw [← m1, HN.out] at CR
          have CR2 : Hid (Calls Try.prog 25 #[.slice aa n ca, .int .i64 0, .int .i64 (n : Int), u14] wr (OwPost R.1 wr)) := CR
          have FIN : Hid (∀ v W, SK wr R.1 v W → MgPost R 0 w (.returned (.tuple #[v, .int .i64 (cl : Int), .int .i64 0])) W) := Lib.hid (fun v W hv => ⟨v, by rw [m2], hv.val, bstep BS.out hv.bel⟩)
          clear m1 m2 rM rL h0 h1 hne e0 e1 LS RB HS CR
          go_wp2_with fail
          refine CR2.out.mono ?_
          rintro q w3 ⟨v, rfl, hv⟩
          have FIN2 := Lib.hid (FIN.out _ _ hv)
          clear hv FIN CR2
          go_wp2_with fail
          go_ret3
          exact FIN2.out
/-- the call at two lists of which one is refused, or where the third is -/
theorem lf_two_or {x y z : Sv} (h : lf [x, y, z] = 1) : lf [x, y] = 1 ∨ (okL x.l ∧ okL y.l ∧ lf [x, z] = 1) := by
  by_cases hx : okL x.l
  · by_cases hy : okL y.l
    · by_cases hz : okL z.l
      · rw [lf_three hx hy hz] at h; cases h
      · exact .inr ⟨hx, hy, lf_bad (s := z) (by simp) hz⟩
    · exact .inl (lf_bad (s := y) (by simp) hy)
  · exact .inl (lf_bad (s := x) (by simp) hx)
set_option maxRecDepth 100000 in
set_option maxHeartbeats 1000000 in
theorem mergeF_no (x y z : Sv) (w : World) (hx : x.has w) (hy : y.has w) (hz : z.has w) (h : lf [x, y, z] = 1) (hcy : y.l.length ≤ y.cap) : Calls Try.prog 8 #[.slice x.a x.l.length x.cap, .slice y.a y.l.length y.cap, .slice z.a z.l.length z.cap] w (MgPost ([], 0) 1 w) := by
  have hb := balloc (Below.refl w.heap.size w) (.cells #[.slice none 0 0, .slice none 0 0] 47)
  rcases lf_two_or h with h2 | ⟨hox, hoy, h2⟩
  · have CA := Lib.hid (stepsF_no x y _ (SlAt.next hx hb) (SlAt.next hy hb) h2)
    have HB := Lib.hid hb
    clear h hx hy hz h2 hb hcy
    generalize x.l.length = n at *
    generalize y.l.length = m at *
    generalize z.l.length = o at *
    have ix0 := indexS0
    go_enter Try.func8, Try.ntmps8
    go_wp2_with fail
    generalize (w.alloc (.cells #[.slice none 0 0, .slice none 0 0] 47)) = w1 at *
    go_loopw [7, 20] (fun vc vk wr => vk = .int .i64 0 ∧ wr = w1) (fun _ vk _ => 2 - (intOf vk).toNat)
    case atStart => exact ⟨rfl, rfl⟩
    case round =>
      obtain ⟨rfl, rfl⟩ := hrel
      go_wp2_with fail
      refine CA.out.mono ?_
      rintro q w2 ⟨v, rfl, hv, hb2⟩
      have B2' := Lib.hid (bstep HB.out hb2)
      clear hv hb2 CA
      go_wp2_with fail
      go_ret3
      exact ⟨_, rfl, SlV.nil _, B2'.out⟩
  · have STY := Lib.hid (fun W (hW : Below w.heap.size w W) => stepsF x y W (SlAt.next hx hW) (SlAt.next hy hW) hox hoy)
    have CN := Lib.hid (fun W (hW : Below w.heap.size w W) => stepsF_no x z W (SlAt.next hx hW) (SlAt.next hz hW) h2)
    have HUY := Lib.hid (fun W (hW : Below w.heap.size w W) av cs hst => hunksF W av cs (comb (kinds x.l y.l)) y x.l hst (SlAt.next hy hW) hcy (rn_of x.l y.l) hox.1 hoy.1)
    have HB := Lib.hid (And.intro hb (B2.new w (.slice none 0 0) (.slice none 0 0) 47))
    clear h hx hy hz h2 hb hcy hox hoy
    generalize x.l = la at *
    generalize y.l = lb at *
    generalize z.l = lc at *
    generalize la.length = n at *
    generalize lb.length = m at *
    generalize lc.length = o at *
    have ix0 := indexS0
    have ix1 := indexS1
    go_enter Try.func8, Try.ntmps8
    go_wp2_with fail
    generalize (w.alloc (.cells #[.slice none 0 0, .slice none 0 0] 47)) = w1 at *
    go_loopw [7, 20] (fun vc vk wr => ∃ k : Nat, k ≤ 1 ∧ vk = .int .i64 (k : Int) ∧ Hid (Below w.heap.size w wr ∧ ∃ u0 u1, B2 w.heap.size u0 u1 wr)) (fun _ vk _ => 2 - (intOf vk).toNat)
    case atStart => exact ⟨0, by omega, rfl, Lib.hid ⟨HB.out.1, _, _, HB.out.2⟩⟩
    case round =>
      obtain ⟨k, hk, rfl, HS⟩ := hrel
      have BS := Lib.hid HS.out.1
      have hk3 : k = 0 ∨ k = 1 := by omega
      clear hk
      rcases hk3 with rfl | rfl
      · have CA := Lib.hid (STY.out wr BS.out)
        clear STY
        go_wp2_with fail
        refine CA.out.mono ?_
        rintro q w2 ⟨v, rfl, hv, hb2⟩
        obtain ⟨av, cv, rfl, _, hat, _⟩ := hv
        have B2' := Lib.hid (bstep BS.out hb2)
        obtain ⟨u0, u1, hbx⟩ := HS.out.2
        have HS2 := Lib.hid (hbx.next hb2)
        have CH := Lib.hid (HUY.out w2 B2'.out av cv hat)
        clear hat hb2 CA HUY HS hbx
        go_wp2_with fail
        refine CH.out.mono ?_
        rintro q w3 ⟨v, hs, rfl, hlr, hhi⟩
        have hbx3 := HS2.out.next hlr.bel
        obtain ⟨a3, c3, e3, _⟩ := SlV.of_owns hkc_len hlr.row
        subst e3
        have HNX : Hid (Below w.heap.size w (w3.setCell ⟨w.heap.size, 0, none⟩ (.slice a3 hs.length c3)) ∧ ∃ u0 u1, B2 w.heap.size u0 u1 (w3.setCell ⟨w.heap.size, 0, none⟩ (.slice a3 hs.length c3))) := Lib.hid ⟨(bstep B2'.out hlr.bel).setCell (p := ⟨w.heap.size, 0, none⟩) (Nat.le_refl _) _, _, _, B2.p0 hbx3 _⟩
        have f0 := hbx3.c0
        have f1 := hbx3.f0
        have f2 := hbx3.lt
        clear hlr hhi hbx3 CH HS2
        generalize hs.length = nh at *
        go_wp2_with fail
        go_roundw
        case rel => exact ⟨1, by omega, by first | trivial | rfl | go_num, HNX⟩
        case measure => simp only [intOf]; omega
      · have CA := Lib.hid (CN.out wr BS.out)
        clear STY HUY HS
        go_wp2_with fail
        refine CA.out.mono ?_
        rintro q w2 ⟨v, rfl, hv, hb2⟩
        have B2' := Lib.hid (bstep BS.out hb2)
        clear hv hb2 CA
        go_wp2_with fail
        go_ret3
        exact ⟨_, rfl, SlV.nil _, B2'.out⟩
/-- package merge keeps its contracts -/
theorem prog : MergeProg where
  merge := fun x y z W hx hy hz h1 h2 h3 h4 h5 h6 => mergeF x y z W hx hy hz h1 h2 h3 h4 h5 h6
  mergeNo := fun x y z W hx hy hz h1 h2 => mergeF_no x y z W hx hy hz h1 h2
end Go.Proofs.Ytokfnajgjhkepaa.MergeT
