/-
  The document's history (fustianref.HistPlayed).
-/
import Derived.Test.YtkeacipjjoeieaaHistPlay
import Derived.Test.YtkeacipjjoeieaaEditMadeRef
import Derived.Test.YtkeacipjjoeieaaEditFaultRef
import Derived.Test.YtkeacipjjoeieaaCopyV
import Derived.Deep.DeepCutAuto
import Derived.Deep.CutBlock
namespace Go.Proofs.Ytkeacipjjoeieaa.HistR
open Go.RowKit Kit EditM EditC EditK EditR HistM HistC

structure RfR (s : TL) (nt : Nat) (ts : List Value) (nc : Nat) (cs : List Value) (w : World) (lv tv cv : Value) (wr : World) : Prop where
  l : RX 1 wr lv s.ts.length (s.ts.map strV)
  t : RX 1 wr tv nt ts
  c : RX 1 wr cv nc cs
  lb : ∀ b, lv.ownBlock = some b → w.heap.size ≤ b ∧ tv.ownBlock ≠ some b ∧ cv.ownBlock ≠ some b
  tb : ∀ b, tv.ownBlock = some b → w.heap.size ≤ b ∧ cv.ownBlock ≠ some b
  cb : ∀ b, cv.ownBlock = some b → w.heap.size ≤ b
  bel : Below w.heap.size w wr
section
variable {s : TL} {nt : Nat} {ts : List Value} {nc : Nat} {cs : List Value} {w : World} {lv tv cv : Value} {wr : World}
theorem RfR.next (h : RfR s nt ts nc cs w lv tv cv wr) {w' : World} (hb : Below wr.heap.size wr w') : RfR s nt ts nc cs w lv tv cv w' :=
  ⟨h.l.kept hb.size fun b q => hb.block b (h.l.lt q), h.t.kept hb.size fun b q => hb.block b (h.t.lt q), h.c.kept hb.size fun b q => hb.block b (h.c.lt q), h.lb, h.tb, h.cb, bstep h.bel hb⟩
theorem RfR.line (h : RfR s nt ts nc cs w lv tv cv wr) {s' : TL} {w' : World} {lv' : Value} (hr : RX 1 w' lv' s'.ts.length (s'.ts.map strV)) (hg : wr.grownBy w' lv.ownBlock) (hb : ∀ g, lv'.ownBlock = some g → lv.ownBlock = some g ∨ wr.heap.size ≤ g) :
    RfR s' nt ts nc cs w lv' tv cv w' := by
  have hz := h.bel.size
  refine ⟨hr, h.t.kept hg.size fun b q => hg.block b (h.t.lt q) (fun e => (h.lb b e.symm).2.1 q), h.c.kept hg.size fun b q => hg.block b (h.c.lt q) (fun e => (h.lb b e.symm).2.2 q), fun b q => ?_, h.tb, h.cb, h.bel.grown hg hz (fun b e => (h.lb b e).1)⟩
  rcases hb b q with e2 | e2
  · exact h.lb _ e2
  · exact ⟨by omega, fun e => by have := h.t.lt e; omega, fun e => by have := h.c.lt e; omega⟩
theorem RfR.same (h : RfR s nt ts nc cs w lv tv cv wr) {s' : TL} (hs : s'.ts = s.ts) : RfR s' nt ts nc cs w lv tv cv wr :=
  ⟨by rw [hs]; exact h.l, h.t, h.c, h.lb, h.tb, h.cb, h.bel⟩
theorem RfR.code (h : RfR s nt ts nc cs w lv tv cv wr) {w' : World} {cv' : Value} {cs' : List Value} (hr : RX 1 w' cv' (nc + 1) cs') (hg : wr.grownBy w' cv.ownBlock) (hb : ∃ g, cv'.ownBlock = some g ∧ (cv.ownBlock = some g ∨ (wr.heap.size ≤ g ∧ g < w'.heap.size))) :
    RfR s nt ts (nc + 1) cs' w lv tv cv' w' := by
  obtain ⟨g, e1, e2⟩ := hb
  have hz := h.bel.size
  refine ⟨h.l.kept hg.size fun b q => hg.block b (h.l.lt q) (fun e => (h.lb b q).2.2 e.symm), h.t.kept hg.size fun b q => hg.block b (h.t.lt q) (fun e => (h.tb b q).2 e.symm), hr, fun b q => ⟨(h.lb b q).1, (h.lb b q).2.1, ?_⟩, fun b q => ⟨(h.tb b q).1, ?_⟩, fun b q => ?_, h.bel.grown hg hz (fun b e => (h.cb b e))⟩
  · rw [e1]; intro e; cases e
    rcases e2 with e2 | e2
    · exact (h.lb _ q).2.2 e2
    · have := h.l.lt q; omega
  · rw [e1]; intro e; cases e
    rcases e2 with e2 | e2
    · exact (h.tb _ q).2 e2
    · have := h.t.lt q; omega
  · rw [e1] at q; cases q
    rcases e2 with e2 | e2
    · exact h.cb _ e2
    · omega
theorem RfR.text (h : RfR s nt ts nc cs w lv tv cv wr) {w' : World} {tv' : Value} {ts' : List Value} (hr : RX 1 w' tv' (nt + 1) ts') (hg : wr.grownBy w' tv.ownBlock) (hb : ∃ g, tv'.ownBlock = some g ∧ (tv.ownBlock = some g ∨ (wr.heap.size ≤ g ∧ g < w'.heap.size))) :
    RfR s (nt + 1) ts' nc cs w lv tv' cv w' := by
  obtain ⟨g, e1, e2⟩ := hb
  have hz := h.bel.size
  refine ⟨h.l.kept hg.size fun b q => hg.block b (h.l.lt q) (fun e => (h.lb b q).2.1 e.symm), hr, h.c.kept hg.size fun b q => hg.block b (h.c.lt q) (fun e => (h.tb b e.symm).2 q), fun b q => ⟨(h.lb b q).1, ?_, (h.lb b q).2.2⟩, fun b q => ?_, h.cb, h.bel.grown hg hz (fun b e => (h.tb b e).1)⟩
  · rw [e1]; intro e; cases e
    rcases e2 with e2 | e2
    · exact (h.lb _ q).2.1 e2
    · have := h.l.lt q; omega
  · rw [e1] at q; cases q
    rcases e2 with e2 | e2
    · exact h.tb _ e2
    · exact ⟨by omega, fun e => by have := h.c.lt e; omega⟩
/-- the text at a place of the line -/
theorem RfR.at_ (h : RfR s nt ts nc cs w lv tv cv wr) {i : Nat} {t : Bs} (hi : s.ts[i]? = some t) : ∃ g off cap, lv = .slice (some ⟨g, off, none⟩) s.ts.length cap ∧ s.ts.length ≤ cap ∧ cap ≤ maxLen ∧ g < wr.heap.size ∧ wr.cell? ⟨g, off + i, none⟩ = some (.string (str t)) ∧ wr.frozen? ⟨g, off + i, none⟩ = false := by
  have hlt := (List.getElem?_eq_some_iff.1 hi).1
  obtain ⟨g, off, cap, rfl, h1, h2, h3, h4, h5⟩ := h.l.pos (by omega)
  exact ⟨g, off, cap, rfl, h1, h2, h3, h4 i _ (by rw [List.getElem?_map, hi]; rfl), (h5 i (by omega)).2⟩
end
theorem wpList_copy_rx {P : Program} (w : World) {ops : Array Oper} {rest : List Oper} {o : Oper} {a : Act} {Q : Exit → Act → World → Prop} (hgd : o.guard = none) (s x : Operand) (t : TypeId)
    (ho : o.op = .call { callee := .builtin .append, args := #[s, x], argTypes := #[t, t] })
    (e : TypeId) (i : TypeInfo) (z : Value) (size bytes : Nat) (ht : P.underlying t = some (.slice e)) (hi : P.info? e = some i) (hz : i.zero = some z)
    (hsize : i.size = size) (hby : i.bytes = bytes) (hzs : z.cells.size = size) (hsz : 0 < size)
    (hs : a.eval s = .slice none 0 0) (g off n cap : Nat) (xs : List Value) (hx : a.eval x = .slice (some ⟨g, off, none⟩) n cap) (hrow : RX size w (.slice (some ⟨g, off, none⟩) n cap) n xs) (h1 : ∀ u ∈ xs, u.oneCell' = true)
    (h63 : n ≤ maxLen) (hbytes : n * bytes ≤ 140737488355328)
    (h : ∀ a' cap' w', RX size w' (.slice a' n cap') n xs → Below w.heap.size w w' → (∀ b, (Value.slice a' n cap').ownBlock = some b → w.heap.size ≤ b) → wpList P ops Q rest (a.put o.dst (.slice a' n cap')) w') : wpList P ops Q (o :: rest) a w := by
  refine wpList_append_own w hgd s x t ho w.heap.size e i z size bytes ht hi hz hsize hby hzs hsz _ 0 [] hs (World.ownsRow_nil _ _ _ _) ⟨g, off, none⟩ n cap xs hx hrow.len (fun j u hj => ?_) h1 (by rw [Nat.zero_add]; exact h63) (by rw [Nat.zero_add]; exact hbytes) (Nat.le_refl _) ?_
  · rcases hrow.is with ⟨q, _⟩ | ⟨g', off', cap', q, _, _, _, hc, _⟩
    · cases q
    · cases q; rw [add_of rfl]; exact hc j u hj
  · intro v' w' hown hgrow _
    rw [Nat.zero_add, List.nil_append] at hown
    have hr := RX.of_owns hown
    obtain ⟨a', cap', rfl⟩ := hr.form
    exact h a' cap' w' hr (grows_below hgrow) fun b q => (hown.lt b q).1
theorem grown_set {w : World} {g o : Nat} {v : Value} {r : Option Nat} (h : r = some g) : w.grownBy (w.setCell ⟨g, o, none⟩ v) r :=
  ⟨rfl, rfl, rfl, by rw [setZ]; exact Nat.le_refl _, fun b _ hn => heap_set_other (fun e => hn (by rw [h, e])) _⟩
theorem set_last {α : Type} {l : List α} {q : Nat} (h : q < l.length) (x : α) : (l.take (q + 1)).set q x = l.take q ++ [x] := by
  apply List.ext_getElem?
  intro i
  by_cases e : i = q
  · subst e
    rw [List.getElem?_set_self (by simp; omega), List.getElem?_append_right (by simp; omega)]
    simp [Nat.min_eq_left (Nat.le_of_lt h)]
  · rw [List.getElem?_set_ne (by omega), List.getElem?_take]
    by_cases h2 : i < q
    · rw [if_pos (by omega), List.getElem?_append_left (by simp; omega), List.getElem?_take, if_pos h2]
    · rw [if_neg (by omega), List.getElem?_append_right (by simp; omega), List.length_take, Nat.min_eq_left (Nat.le_of_lt h), List.getElem?_eq_none (by simp; omega)]
theorem RX.addr {size : Nat} {w : World} {a : Option Addr} {n cap : Nat} {xs : List Value} (h : RX size w (.slice a (n + 1) cap) (n + 1) xs) : ∃ g off, a = some ⟨g, off, none⟩ ∧ n + 1 ≤ cap := by
  obtain ⟨g, off, cap', e, h1, _⟩ := h.pos (by omega)
  cases e
  exact ⟨g, off, rfl, h1⟩
def RfA (s : TL) (k : Nat) (ts cs : List Value) (w : World) (lv p op tv cv : Value) (wr : World) : Prop := p = .int .i64 (s.p : Int) ∧ op = .bool s.op ∧ RfR s k ts k cs w lv tv cv wr
def CutR (s : TL) (c : Int) (k : Nat) (ts cs : List Value) (w : World) (lv p op tv cv e : Value) (wr : World) : Prop := e = .int .i64 c ∧ RfA s k ts cs w lv p op tv cv wr
def RfPost (t : Bs) (l : List DeedM) (w : World) (x : Ending) (w' : World) : Prop := ∃ tv cv, x = .returned (.tuple #[tv, cv, .int .i64 (((TL.start t).run l).p : Int), .int .i64 ((((TL.start t).run l).ts.length : Int) - 1 - ((TL.start t).run l).p), .int .i64 0]) ∧ Row w' tv (((TL.start t).texts l).map strV) ∧ Row w' cv (((TL.start t).codes l).map intV) ∧ Below w.heap.size w w'
theorem RfR.start {t : Bs} {w : World} (ty : TypeId) : RfR (TL.start t) 0 [] 0 [] w (.slice (some ⟨w.heap.size, 0, none⟩) 1 1) (.slice none 0 0) (.slice none 0 0) (w.alloc (.cells #[.string (str t)] ty)) := by
  refine ⟨⟨rfl, .inr ⟨w.heap.size, 0, 1, rfl, by simp [TL.start], by unfold maxLen; omega, by simp, fun j u hj => ?_, fun j hj => ?_⟩⟩, RX.nil _ _, RX.nil _ _, fun b q => ?_, fun b q => (by cases q), fun b q => (by cases q), balloc (Below.refl _ _) _⟩
  · simp [TL.start, strV] at hj ⊢
    rcases j with _ | j
    · simpa using hj
    · simp at hj
  · obtain rfl : j = 0 := by omega
    simp
  · cases q
    exact ⟨Nat.le_refl _, by simp [Value.ownBlock], by simp [Value.ownBlock]⟩

set_option maxRecDepth 100000 in
set_option maxHeartbeats 2000000 in
theorem played (t : Bs) (l : List DeedM) (a : Option Addr) (cap : Nat) (w : World) (hl : DdsAt w a l) (hok : ∀ d ∈ l, d.ed.ok) (ht : t.length ≤ 600) (h80 : l.length ≤ 80) :
    Calls Try.prog 10 #[.string (str t), .slice a l.length cap] w (RfPost t l w) := by
  obtain ⟨i0, hi, hz0, hz1, hz2⟩ := info_parts infoStr
  have HI := Lib.hid (And.intro hi (And.intro hz0 (And.intro hz1 hz2)))
  clear hi hz0 hz1 hz2
  obtain ⟨i1, hi, hz0, hz1, hz2⟩ := info_parts infoErr
  have HJ := Lib.hid (And.intro hi (And.intro hz0 (And.intro hz1 hz2)))
  clear hi hz0 hz1 hz2
  have HL := Lib.hid hl
  have ST := Lib.hid (RfR.start (w := w) (t := t) 9)
  obtain ⟨n, hn⟩ : ∃ n, n = l.length := ⟨_, rfl⟩
  rw [← hn] at h80 ⊢
  have HN := Lib.hid hn
  have HT := Lib.hid ht
  obtain ⟨T, hT⟩ : ∃ T, T = str t := ⟨_, rfl⟩
  rw [← hT] at ST ⊢
  have ht6 : T.size ≤ 600 := by rw [hT, size_str]; exact ht
  clear hl hn ht hT
  go_enter Try.func10, Try.ntmps10
  go_wp2_with fail
  go_loopw [9, 10, 11, 12, 13, 31] (fun lv p op tv cv i wr => ∃ k : Nat, k ≤ n ∧ i = .int .i64 (k : Int) ∧ RfA ((TL.start t).run (l.take k)) k (((TL.start t).texts (l.take k)).map strV) (((TL.start t).codes (l.take k)).map intV) w lv p op tv cv wr) (fun _ _ _ _ _ i _ => n - (intOf i).toNat)
  case atStart => exact ⟨0, by omega, rfl, rfl, rfl, ST.out⟩
  case round =>
    obtain ⟨k, hk, rfl, hp, ho, hpl⟩ := hrel
    subst hp ho
    have HPL := Lib.hid hpl
    clear hpl
    by_cases hlt : k < n
    · obtain ⟨d, hd⟩ : ∃ d, l[k]? = some d := ⟨l[k]'(by rw [← HN.out]; exact hlt), by simp⟩
      have eok := hok d (List.mem_of_getElem? hd)
      obtain ⟨g, off, rfl, hg, c0, c1, c2, c3⟩ := DdsAt.get (HL.out.next HPL.out.bel) hd
      have NT := Lib.hid (TL.texts_next (TL.start t) hd)
      have NC := Lib.hid (TL.codes_next (TL.start t) hd)
      have NR := Lib.hid (TL.run_next (TL.start t) hd)
      have SOK := Lib.hid ((TL.start_ok HT.out).run (l.take k))
      generalize (TL.start t).run (l.take k) = s at *
      have P1 := Lib.hid (HPL.out.next (balloc (Below.refl _ _) (.cells d.cs.toArray 45)))
      have SOK2 := Lib.hid (SOK.out.step d)
      clear hd HPL
      obtain ⟨gl, ol, cl, rfl, hcl, hcm, hgl, v0, _⟩ := P1.out.at_ SOK.out.now
      have hp1 : s.p < s.ts.length := SOK.out.lt
      have hp2 : s.ts.length ≤ 21 := SOK.out.le
      have NOW6 := SOK.out.now6
      obtain ⟨q, hq⟩ : ∃ q, q = s.p := ⟨_, rfl⟩
      obtain ⟨m, hm⟩ : ∃ m, m = s.ts.length := ⟨_, rfl⟩
      rw [← hq] at v0 hp1 ⊢
      rw [← hm] at hcl hp1 hp2 ⊢
      have HQ := Lib.hid hq
      have HM := Lib.hid hm
      have ha1 := SOK.out.now
      clear hq hm
      simp only [DeedM.cs] at P1 v0 hgl
      obtain ⟨knd, e0⟩ := d
      dsimp only at *
      go_upto_block 2 with fail
      go_cut [9, 10, 11, 16, 18] from 41 to 92 (fun lv p op e mk wx => CutR (s.step ⟨knd, e0⟩).1 (s.step ⟨knd, e0⟩).2 k (((TL.start t).texts (l.take k)).map strV) (((TL.start t).codes (l.take k)).map intV) w lv p op u12 u13 e wx)
      case first =>
        have G1 := Lib.hid (fun W => fault_ref ((str s.now).size : Int) e0.at_ e0.cut e0.put W eok.a1 eok.c1 eok.p)
        have HX1 : Hid (fault ((str s.now).size : Int) e0.at_ e0.cut e0.put.size = e0.fault s.now) := by show _ = _; unfold EdM.fault; rw [size_str]
        rw [HX1.out] at G1
        have hso : s.op = true → 0 < q := fun h => by rw [HQ.out]; exact SOK.out.op h
        by_cases h1 : knd = 1
        · subst h1
          by_cases hf : e0.fault s.now = 0
          · have STP : Hid (s.step ⟨1, e0⟩ = (s.edit (e0.step s.now), 0)) := Lib.hid (by simp [TL.step, hf])
            have hfit := EdM.fits_of hf
            rw [hf] at G1
            have MD := Lib.hid (fun W => editMade (str s.now) e0.put e0.at_.toNat e0.cut.toNat W (by rw [size_str]; exact hfit.nat) (by rw [size_str]; exact NOW6) (by have := hfit.len6; have := hfit.len; have := hfit.nat; omega))
            rw [list_str, show made s.now e0.at_.toNat e0.cut.toNat e0.put.data.toList = e0.step s.now from rfl, Int.toNat_of_nonneg hfit.a0, Int.toNat_of_nonneg hfit.c0] at MD
            generalize e0.step s.now = T1 at *
            have hw : IntKind.i64.wrap ((q : Int) + 1) = (q : Int) + 1 := IntWalk.i64_in _ (by omega)
            have hq0 : q + 1 ≤ cl := by omega
            have hq1 : (q : Int) + 1 ≤ (cl : Int) := by omega
            have hq2 : ((q : Int) + 1).toNat = q + 1 := by omega
            have hq3 : (0 : Int) ≤ (q : Int) + 1 := by omega
            clear hf HX1 hfit
            obtain ⟨a0, ct0, p0⟩ := e0
            dsimp only at *
            cases hop : s.op with
            | true =>
              have ED : Hid (s.edit T1 = ⟨s.ts.take q ++ [T1], q, true⟩) := Lib.hid (by unfold TL.edit; rw [if_pos hop, HQ.out])
              rw [ED.out] at STP
              go_wp2_with fail
              refine (G1.out _).mono ?_
              rintro x w1 ⟨rfl, hb1⟩
              have P2 := Lib.hid (P1.out.next hb1)
              obtain ⟨hc1, hf1, _⟩ := bfacts hb1
              clear hb1
              go_wp2_with fail
              refine (MD.out _).mono ?_
              rintro x w2 ⟨rfl, hb2⟩
              have P3 := Lib.hid (P2.out.next hb2)
              obtain ⟨gl', ol', cl', hv, _, _, hgl2, v2, fr2⟩ := P3.out.at_ ha1
              cases hv
              rw [← HQ.out] at v2 fr2
              clear hb2 hc1 hf1 P2 P1 MD G1
              go_wp2_with fail
              go_meet
              rw [STP.out]
              refine ⟨rfl, rfl, rfl, P3.out.line ?_ (grown_set rfl) (fun g e => .inl e)⟩
              have r1 := (P3.out.l.head (m := q + 1) (by rw [← HM.out]; omega)).set q (strV T1) (by omega)
              rw [Nat.mul_one, set_last (by rw [List.length_map, ← HM.out]; exact hp1), ← List.map_take] at r1
              have : ((s.ts.take q ++ [T1]).length) = q + 1 := by simp; rw [← HM.out]; omega
              show RX 1 _ _ (s.ts.take q ++ [T1]).length ((s.ts.take q ++ [T1]).map strV)
              rw [this, List.map_append]
              exact r1
            | false =>
              have TSQ : Hid ((s.ts.map strV).take (q + 1) = (s.ts.take (q + 1)).map strV) := Lib.hid (by rw [List.map_take])
              have hone : ∀ u ∈ (s.ts.take (q + 1)).map strV, u.oneCell' = true := by
                intro u hu
                obtain ⟨x, _, rfl⟩ := List.mem_map.1 hu
                rfl
              have HONE := Lib.hid hone
              clear hone
              go_wp2_with fail
              refine (G1.out _).mono ?_
              rintro x w1 ⟨rfl, hb1⟩
              have P2 := Lib.hid (P1.out.next hb1)
              obtain ⟨hc1, hf1, _⟩ := bfacts hb1
              clear hb1
              go_wp2_with fail
              refine (MD.out _).mono ?_
              rintro x w2 ⟨rfl, hb2⟩
              have P3 := Lib.hid (P2.out.next hb2)
              have ROW : Hid (RX 1 w2 (.slice (some ⟨gl, ol, none⟩) (q + 1) cl) (q + 1) ((s.ts.take (q + 1)).map strV)) := Lib.hid (by
                have := P3.out.l.head (m := q + 1) (by rw [← HM.out]; omega)
                rwa [Nat.mul_one, TSQ.out] at this)
              clear hb2 hc1 hf1 P2 P1 MD G1
              have hlen2 : Hid ((s.ts.take (q + 1) ++ [T1]).length = q + 2) := Lib.hid (by simp; rw [← HM.out]; omega)
              by_cases hq20 : q < 20
              · have ED : Hid (s.edit T1 = ⟨s.ts.take (q + 1) ++ [T1], q + 1, true⟩) := Lib.hid (by unfold TL.edit; rw [hop, if_neg (by simp), ← HQ.out, if_pos hq20])
                rw [ED.out] at STP
                have g20 : ¬ (20 : Int) < (q : Int) + 1 := by omega
                go_wp2_with (first | (at_builtin; refine wpList_copy_rx _ rfl _ _ 23 rfl 9 i0 _ 1 16 Try.underlying23 HI.out.1 HI.out.2.1 HI.out.2.2.1 HI.out.2.2.2 rfl (by decide) rfl gl ol (q + 1) cl _ rfl ROW.out HONE.out (by unfold maxLen; omega) (by omega) ?_; intro a3 cap3 w3 hown3 hb3 hat3; have R3 := Lib.hid (hown3.kept (w' := w3.alloc (.cells #[.string (str T1)] 9)) (by simp) fun b e => Below.heap_alloc _ _ b (hown3.lt e)); have B3 := Lib.hid hb3; have A3 := Lib.hid hat3; clear hown3 hb3 hat3) | (at_builtin; refine wpList_append_rx _ rfl _ _ 23 rfl 9 i0 _ 1 16 Try.underlying23 HI.out.1 HI.out.2.1 HI.out.2.2.1 HI.out.2.2.2 rfl (by decide) _ (q + 1) _ rfl R3.out ⟨w3.heap.size, 0, none⟩ 1 [.string (str T1)] rfl rfl (cells_six_new w3 [.string (str T1)] _) (by simp [Value.oneCell']) (by unfold maxLen; omega) (by omega) ?_; intro a4 cap4 w4 hown4 hgrow4 hat4; have R4 := Lib.hid hown4; have G4 := Lib.hid hgrow4; have A4 := Lib.hid hat4; clear hown4 hgrow4 hat4))
                go_meet
                rw [STP.out]
                have hz3 := B3.out.size
                have B4 : Below w2.heap.size w2 w4 := (balloc B3.out (.cells #[.string (str T1)] 9)).grown G4.out (by simp; omega) (fun b e => A3.out b e)
                refine ⟨rfl, by go_num, rfl, P3.out.line ?_ ⟨B4.os, B4.tape, B4.output, B4.size, fun b hb _ => B4.block b hb⟩ (fun g e => .inr ?_)⟩
                · show RX 1 _ _ (s.ts.take (q + 1) ++ [T1]).length ((s.ts.take (q + 1) ++ [T1]).map strV)
                  rw [hlen2.out, List.map_append]
                  exact R4.out
                · obtain ⟨g4, e4, e5⟩ := A4.out
                  rw [e4] at e; cases e
                  rcases e5 with e5 | e5
                  · exact A3.out _ e5
                  · have := e5.1; simp at this; omega
              · have g20 : (20 : Int) < (q : Int) + 1 := by omega
                have ED : Hid (s.edit T1 = ⟨(s.ts.take (q + 1) ++ [T1]).drop 1, q, true⟩) := Lib.hid (by unfold TL.edit; rw [hop, if_neg (by simp), ← HQ.out, if_neg (by omega)])
                rw [ED.out] at STP
                go_wp2_with (first | (at_builtin; refine wpList_copy_rx _ rfl _ _ 23 rfl 9 i0 _ 1 16 Try.underlying23 HI.out.1 HI.out.2.1 HI.out.2.2.1 HI.out.2.2.2 rfl (by decide) rfl gl ol (q + 1) cl _ rfl ROW.out HONE.out (by unfold maxLen; omega) (by omega) ?_; intro a3 cap3 w3 hown3 hb3 hat3; have R3 := Lib.hid (hown3.kept (w' := w3.alloc (.cells #[.string (str T1)] 9)) (by simp) fun b e => Below.heap_alloc _ _ b (hown3.lt e)); have B3 := Lib.hid hb3; have A3 := Lib.hid hat3; clear hown3 hb3 hat3) | (at_builtin; (refine wpList_append_rx _ rfl _ _ 23 rfl 9 i0 _ 1 16 Try.underlying23 HI.out.1 HI.out.2.1 HI.out.2.2.1 HI.out.2.2.2 rfl (by decide) _ (q + 1) _ rfl R3.out ⟨w3.heap.size, 0, none⟩ 1 [.string (str T1)] rfl rfl (cells_six_new w3 [.string (str T1)] _) (by simp [Value.oneCell']) (by unfold maxLen; omega) (by omega) ?_; intro a4 cap4 w4 hown4 hgrow4 hat4; obtain ⟨g5, off5, ha4, hle5⟩ := RX.addr hown4; subst ha4; have R4 := Lib.hid hown4; have c1i : (1 : Int) ≤ (cap4 : Int) := (by omega); have c2i : (q : Int) + 1 + 1 ≤ (cap4 : Int) := (by omega); have G4 := Lib.hid hgrow4; have A4 := Lib.hid hat4; clear hown4 hgrow4 hat4)))
                go_meet
                rw [STP.out]
                have hz3 := B3.out.size
                have B4 : Below w2.heap.size w2 w4 := (balloc B3.out (.cells #[.string (str T1)] 9)).grown G4.out (by simp; omega) (fun b e => A3.out b e)
                refine ⟨rfl, rfl, rfl, P3.out.line ?_ ⟨B4.os, B4.tape, B4.output, B4.size, fun b hb _ => B4.block b hb⟩ (fun g e => .inr ?_)⟩
                · show RX 1 _ _ ((s.ts.take (q + 1) ++ [T1]).drop 1).length (((s.ts.take (q + 1) ++ [T1]).drop 1).map strV)
                  have r5 := R4.out.rest
                  rw [List.length_drop, hlen2.out, List.map_drop, List.map_append]
                  exact r5
                · obtain ⟨g4, e4, e5⟩ := A4.out
                  cases e; cases e4
                  rcases e5 with e5 | e5
                  · exact A3.out _ e5
                  · have h5 : (w3.alloc (.cells #[.string (str T1)] 9)).heap.size ≤ g5 := e5.1
                    simp at h5
                    show w2.heap.size ≤ g5
                    omega
          · have STP : Hid (s.step ⟨1, e0⟩ = (s, e0.fault s.now)) := Lib.hid (by simp [TL.step, hf])
            generalize e0.fault s.now = fv at *
            have g0 : (fv != 0) = true := by simpa using hf
            clear hf
            obtain ⟨a0, ct0, p0⟩ := e0
            dsimp only at *
            go_wp2_with fail
            refine (G1.out _).mono ?_
            rintro x w1 ⟨rfl, hb1⟩
            have P2 := Lib.hid (P1.out.next hb1)
            clear hb1
            go_wp2_with fail
            go_meet
            rw [STP.out]
            refine ⟨rfl, by rw [HQ.out], rfl, ?_⟩
            rw [HM.out]; exact P2.out
        by_cases h2 : knd = 2
        · subst h2
          have STP : Hid (s.step ⟨2, e0⟩ = (⟨s.ts, s.p, false⟩, 0)) := Lib.hid (by simp [TL.step])
          clear G1 HX1 h1
          obtain ⟨a0, ct0, p0⟩ := e0
          dsimp only at *
          go_wp2_with fail
          go_meet
          rw [STP.out]
          refine ⟨rfl, by rw [HQ.out], rfl, ?_⟩
          rw [HM.out]; exact P1.out.same rfl
        by_cases h3 : knd = 3
        · subst h3
          clear G1 HX1 h1 h2
          obtain ⟨a0, ct0, p0⟩ := e0
          dsimp only at *
          by_cases hq0 : q = 0
          · have STP : Hid (s.step ⟨3, ⟨a0, ct0, p0⟩⟩ = (s, 7)) := Lib.hid (by simp [TL.step, ← HQ.out, hq0])
            have g0 : ((q : Int) == 0) = true := by simpa using hq0
            clear hq0
            go_wp2_with fail
            go_meet
            rw [STP.out]
            refine ⟨rfl, by rw [HQ.out], rfl, ?_⟩
            rw [HM.out]; exact P1.out
          · have STP : Hid (s.step ⟨3, ⟨a0, ct0, p0⟩⟩ = (⟨s.ts, q - 1, false⟩, 0)) := Lib.hid (by simp [TL.step, ← HQ.out, hq0])
            have g0 : ((q : Int) == 0) = false := by simpa using hq0
            have hq9 : 0 < q := by omega
            clear hq0
            go_wp2_with fail
            go_meet
            rw [STP.out]
            refine ⟨rfl, by go_num, rfl, ?_⟩
            rw [HM.out]; exact P1.out.same rfl
        by_cases h4 : knd = 4
        · subst h4
          clear G1 HX1 h1 h2 h3
          obtain ⟨a0, ct0, p0⟩ := e0
          dsimp only at *
          by_cases hq0 : q + 1 = m
          · have STP : Hid (s.step ⟨4, ⟨a0, ct0, p0⟩⟩ = (s, 7)) := Lib.hid (by simp [TL.step, ← HQ.out, ← HM.out, hq0])
            have g0 : ((q : Int) + 1 == (m : Int)) = true := by simp; omega
            have g1 : (q + 1 == m) = true := by simpa using hq0
            clear hq0
            go_wp2_with fail
            go_meet
            rw [STP.out]
            refine ⟨rfl, by rw [HQ.out], rfl, ?_⟩
            rw [HM.out]; exact P1.out
          · have STP : Hid (s.step ⟨4, ⟨a0, ct0, p0⟩⟩ = (⟨s.ts, q + 1, false⟩, 0)) := Lib.hid (by simp [TL.step, ← HQ.out, ← HM.out, hq0])
            have g0 : ((q : Int) + 1 == (m : Int)) = false := by simp; omega
            have g1 : (q + 1 == m) = false := by simpa using hq0
            clear hq0
            go_wp2_with fail
            go_meet
            rw [STP.out]
            refine ⟨rfl, by go_num, rfl, ?_⟩
            rw [HM.out]; exact P1.out.same rfl
        have STP : Hid (s.step ⟨knd, e0⟩ = (s, 3)) := Lib.hid (by simp [TL.step, h1, h2, h3, h4])
        have g1 : (knd == 1) = false := by simpa using h1
        have g2 : (knd == 2) = false := by simpa using h2
        have g3 : (knd == 3) = false := by simpa using h3
        have g4 : (knd == 4) = false := by simpa using h4
        clear G1 HX1 h1 h2 h3 h4
        obtain ⟨a0, ct0, p0⟩ := e0
        dsimp only at *
        go_wp2_with fail
        go_meet
        rw [STP.out]
        refine ⟨rfl, by rw [HQ.out], rfl, ?_⟩
        rw [HM.out]; exact P1.out
      case rest =>
        generalize s.step ⟨knd, e0⟩ = sd at *
        obtain ⟨s', c'⟩ := sd
        dsimp only at *
        obtain ⟨rfl, hp', ho', hR⟩ := hcut
        subst hp' ho'
        obtain ⟨g9, o9, c9, rfl, hcl9, _, hg9, v9, _⟩ := hR.at_ SOK2.out.now
        have hp9 : s'.p < s'.ts.length := SOK2.out.lt
        have hl9 : s'.ts.length ≤ 21 := SOK2.out.le
        have P5 := Lib.hid (hR.next (balloc (Below.refl _ _) (.cells #[.string (str s'.now)] 9)))
        obtain ⟨q9, hq9⟩ : ∃ q9, q9 = s'.p := ⟨_, rfl⟩
        obtain ⟨m9, hm9⟩ : ∃ m9, m9 = s'.ts.length := ⟨_, rfl⟩
        rw [← hq9] at v9 hp9 ⊢
        rw [← hm9] at hcl9 hp9 hl9 ⊢
        have HQ9 := Lib.hid hq9
        have HM9 := Lib.hid hm9
        clear hR hq9 hm9 P1 c0 c1 c2 c3 v0 ha1
        go_wp2_with (first | (at_builtin; refine wpList_append_rx _ rfl _ _ 23 rfl 9 i0 _ 1 16 Try.underlying23 HI.out.1 HI.out.2.1 HI.out.2.2.1 HI.out.2.2.2 rfl (by decide) u12 k _ rfl P5.out.t ⟨wc.heap.size, 0, none⟩ 1 [.string (str s'.now)] rfl rfl (cells_six_new wc [.string (str s'.now)] _) (by simp [Value.oneCell']) (by unfold maxLen; omega) (by omega) ?_; intro a4 cap4 w4 hown4 hgrow4 hat4; have P6 := Lib.hid ((P5.out.text hown4 hgrow4 hat4).next (balloc (Below.refl _ _) (.cells #[.int .i64 c'] 25))); clear hown4 hgrow4 hat4) | (at_builtin; refine wpList_append_rx _ rfl _ _ 24 rfl 25 i1 _ 1 8 Try.underlying24 HJ.out.1 HJ.out.2.1 HJ.out.2.2.1 HJ.out.2.2.2 rfl (by decide) u13 k _ rfl P6.out.c ⟨w4.heap.size, 0, none⟩ 1 [.int .i64 c'] rfl rfl (cells_six_new w4 [.int .i64 c'] _) (by simp [Value.oneCell']) (by unfold maxLen; omega) (by omega) ?_; intro a5 cap5 w5 hown5 hgrow5 hat5; have P7 := Lib.hid (P6.out.code hown5 hgrow5 hat5); clear hown5 hgrow5 hat5))
        go_roundw
        case rel =>
          refine ⟨k + 1, by omega, by go_num, ?_⟩
          rw [NT.out, NC.out, NR.out, List.map_append, List.map_append]
          refine ⟨by rw [HQ9.out], rfl, ?_⟩
          rw [HM9.out]
          exact P7.out
        case measure => simp [intOf]; omega
    · obtain rfl : k = n := by omega
      have e1 : l.take k = l := by rw [HN.out]; exact List.take_length
      have SOK := Lib.hid ((TL.start_ok HT.out).run l)
      rw [e1] at HPL
      rw [e1]
      clear e1
      have BL := Lib.hid HPL.out.bel
      have RT := Lib.hid (Row.of_rx HPL.out.t)
      have RC := Lib.hid (Row.of_rx HPL.out.c)
      obtain ⟨al, cl, hlf⟩ := HPL.out.l.form
      subst hlf
      have hp1 : ((TL.start t).run l).p < ((TL.start t).run l).ts.length := SOK.out.lt
      have hp2 : ((TL.start t).run l).ts.length ≤ 21 := SOK.out.le
      have FIN := Lib.hid (fun (x : Int) (hx : x = (((TL.start t).run l).ts.length : Int) - 1 - ((TL.start t).run l).p) => (show RfPost t l w (.returned (.tuple #[u12, u13, .int .i64 (((TL.start t).run l).p : Int), .int .i64 x, .int .i64 0])) wr from ⟨u12, u13, by rw [hx], RT.out, RC.out, BL.out⟩))
      generalize ((TL.start t).run l).p = q at *
      generalize ((TL.start t).run l).ts.length = m at *
      clear HPL
      go_wp2_with fail
      exact bodyPost_ret (v := .tuple #[u12, u13, .int .i64 (q : Int), .int .i64 ((m : Int) - 1 - (q : Int)), .int .i64 0]) (by simp [results, Try.results10, go_sem]) rfl (FIN.out _ rfl)

end Go.Proofs.Ytkeacipjjoeieaa.HistR
