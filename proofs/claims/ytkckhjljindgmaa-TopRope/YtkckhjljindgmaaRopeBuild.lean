/-
  Package rope: what build answers.
-/
import Derived.Test.YtkckhjljindgmaaRopeChecked
import Derived.Test.YtkckhjljindgmaaInts
import Derived.Deep.AppendLies
import Derived.Maps.AppendAt
namespace Go.Proofs.Ytkckhjljindgmaa.RopeC
open Go.RowKit Kit RopeM

/-- a slice of operations -/
structure OpsAt (w : World) (a : Option Addr) (l : List OpM) : Prop where
  cell : ∀ (i : Nat) o, l[i]? = some o → ∃ g off, a = some ⟨g, off, none⟩ ∧ g < w.heap.size ∧ w.cell? ⟨g, off + i * 6, none⟩ = some (.int .i64 o.kind) ∧ w.cell? ⟨g, off + i * 6 + 1, none⟩ = some (.string o.text) ∧ w.cell? ⟨g, off + i * 6 + 2, none⟩ = some (.int .i64 o.a) ∧
    w.cell? ⟨g, off + i * 6 + 3, none⟩ = some (.int .i64 o.b) ∧ w.cell? ⟨g, off + i * 6 + 4, none⟩ = some (.int .i64 o.at_) ∧ w.cell? ⟨g, off + i * 6 + 5, none⟩ = some (.int .i64 o.cnt)
theorem OpsAt.next {w w' : World} {a : Option Addr} {l : List OpM} (h : OpsAt w a l) (hb : Below w.heap.size w w') : OpsAt w' a l where
  cell i o hi := by
    obtain ⟨g, off, h0, h1, h2, h3, h4, h5, h6, h7⟩ := h.cell i o hi
    have hc : ∀ k, w'.cell? ⟨g, k, none⟩ = w.cell? ⟨g, k, none⟩ := fun k => hb.cell (p := ⟨g, k, none⟩) h1
    exact ⟨g, off, h0, Nat.lt_of_lt_of_le h1 hb.size, (hc _).trans h2, (hc _).trans h3, (hc _).trans h4, (hc _).trans h5, (hc _).trans h6, (hc _).trans h7⟩

/-- rows of two types are two blocks -/
theorem apart {w : World} {b1 b2 : Nat} {e1 e2 : TypeId} {s1 s2 n1 n2 : Nat} {v1 v2 : Value} {x1 x2 : List Value} (h1 : w.ownsRow b1 e1 s1 v1 n1 x1) (h2 : w.ownsRow b2 e2 s2 v2 n2 x2) (he : e1 ≠ e2) : v1.ownBlock = none ∨ v1.ownBlock ≠ v2.ownBlock := by
  rcases h1.2 with ⟨rfl, _⟩ | ⟨g, cap, cur, rfl, _, hg, _⟩
  · exact .inl rfl
  · right
    rcases h2.2 with ⟨rfl, _⟩ | ⟨g', cap', cur', rfl, _, hg', _⟩
    · simp [Value.ownBlock]
    · simp only [Value.ownBlock, ne_eq, Option.some.injEq]
      rintro rfl
      rw [hg] at hg'
      simp only [Option.some.injEq, Obj.cells.injEq] at hg'
      exact he hg'.2.1
theorem noTyp {w : World} {b1 : Nat} {e1 : TypeId} {s1 n1 : Nat} {v1 : Value} {x1 : List Value} (h1 : w.ownsRow b1 e1 s1 v1 n1 x1) (he : e1 ≠ 109) : ∀ k, v1.ownBlock = some k → ¬ Typ w k := by
  rintro k hk ⟨cs, fr, ht⟩
  rcases h1.2 with ⟨rfl, _⟩ | ⟨g, cap, cur, rfl, _, hg, _⟩
  · simp [Value.ownBlock] at hk
  · simp only [Value.ownBlock, Option.some.injEq] at hk
    subst hk
    rw [hg] at ht
    simp only [Option.some.injEq, Obj.cells.injEq] at ht
    exact he ht.2.1

theorem infoPtr : (Try.prog.info? 87).map (fun i => (i.zero, i.size, i.bytes)) = some (some (.pointer none), 1, 8) := by kernel_rfl
theorem infoErr : (Try.prog.info? 24).map (fun i => (i.zero, i.size, i.bytes)) = some (some (.int .i64 0), 1, 8) := by kernel_rfl

def ptrs (ts : List RT) : List Value := ts.map fun t => .pointer t.addr
def ints (l : List Int) : List Value := l.map (.int .i64)
/-- what the loop keeps -/
structure BA (w : World) (l : List OpM) (i : Nat) (ts : List RT) (rv cv : Value) (wr : World) : Prop where
  txt : txts ts = texts (l.take i) []
  rrow : wr.ownsRow w.heap.size 87 1 rv ts.length (ptrs ts)
  rope : ∀ t ∈ ts, RopeAt wr t
  crow : wr.ownsRow w.heap.size 24 1 cv i (ints (codes (l.take i) []))
  bel : Below w.heap.size w wr
theorem BA.next {w : World} {l : List OpM} {i : Nat} {ts : List RT} {rv cv : Value} {w1 w2 : World} (h : BA w l i ts rv cv w1) (hb : Below w1.heap.size w1 w2) : BA w l i ts rv cv w2 :=
  ⟨h.txt, row_next h.rrow hb, fun t ht => (h.rope t ht).next hb, row_next h.crow hb, bstep h.bel hb⟩
theorem BA.fine {w : World} {l : List OpM} {i : Nat} {ts : List RT} {rv cv : Value} {w1 : World} (h : BA w l i ts rv cv w1) : Fine (txts ts) := by rw [h.txt]; exact Fine.nil.texts
theorem BA.ropes {w : World} {l : List OpM} {i : Nat} {ts : List RT} {rv cv : Value} {w1 : World} (h : BA w l i ts rv cv w1) : ∃ p cap, rv = .slice p ts.length cap ∧ Ropes w1 p ts := by
  have hr : ∀ (i : Nat) t, ts[i]? = some t → RopeAt w1 t := fun i t hi => h.rope t (List.mem_of_getElem? hi)
  rcases h.rrow.2 with ⟨e, h0⟩ | ⟨g, cap, cur, e, hb, hg, h1, h2, h3, h4⟩
  · refine ⟨none, 0, by rw [e, h0], ⟨fun i t hi => ?_, hr⟩⟩
    rw [List.eq_nil_of_length_eq_zero h0] at hi; simp at hi
  · refine ⟨some ⟨g, 0, none⟩, cap, e, ⟨fun i t hi => ⟨g, rfl, (h.rrow.lt g (by rw [e]; rfl)).2, ?_⟩, hr⟩⟩
    have hlt : i < ts.length := (List.getElem?_eq_some_iff.1 hi).1
    have := h.rrow
    rw [e] at this
    rw [this.cellAt i (by omega)]
    simp [ptrs, hi]
/-- behind an operation that failed -/
theorem BA.no {w : World} {l : List OpM} {i : Nat} {ts : List RT} {rv cv cv' : Value} {w1 w2 : World} {o : OpM} (h : BA w l i ts rv cv w1) (hi : l[i]? = some o) (hc : code o (txts ts) ≠ 0)
    (hrow : w2.ownsRow w.heap.size 24 1 cv' (i + 1) (ints (codes (l.take i) []) ++ [.int .i64 (code o (txts ts))])) (hg : w1.grownBy w2 cv.ownBlock) : BA w l (i + 1) ts rv cv' w2 := by
  have hlt := (List.getElem?_eq_some_iff.1 hi).1
  have ho := (List.getElem?_eq_some_iff.1 hi).2
  have e : l.take (i + 1) = l.take i ++ [o] := by rw [List.take_succ_eq_append_getElem hlt, ho]
  refine ⟨?_, h.rrow.kept hg (apart h.rrow h.crow (by decide)), fun t ht => (h.rope t ht).grown hg (noTyp h.crow (by decide)), ?_, bgrow h.bel h.crow hg⟩
  · rw [e, texts_append, ← h.txt]
    simp [texts, nextT, hc]
  · rw [e, codes_append, ← h.txt]
    simpa [codes, ints] using hrow
/-- behind an operation that made a text: the ropes are appended to -/
theorem BA.mid {w : World} {l : List OpM} {i : Nat} {ts : List RT} {rv cv rv' : Value} {w1 w2 : World} {t : RT} (h : BA w l i ts rv cv w1) (ht : RopeAt w1 t)
    (hrow : w2.ownsRow w.heap.size 87 1 rv' (ts.length + 1) (ptrs ts ++ [.pointer t.addr])) (hg : w1.grownBy w2 rv.ownBlock) :
    w2.ownsRow w.heap.size 87 1 rv' (ts ++ [t]).length (ptrs (ts ++ [t])) ∧ (∀ u ∈ ts ++ [t], RopeAt w2 u) ∧ w2.ownsRow w.heap.size 24 1 cv i (ints (codes (l.take i) [])) ∧ Below w.heap.size w w2 := by
  refine ⟨?_, ?_, h.crow.kept hg (apart h.crow h.rrow (by decide)), bgrow h.bel h.rrow hg⟩
  · simpa [ptrs] using hrow
  · intro u hu
    rw [List.mem_append, List.mem_singleton] at hu
    rcases hu with hu | rfl
    · exact (h.rope u hu).grown hg (noTyp h.rrow (by decide))
    · exact ht.grown hg (noTyp h.rrow (by decide))
/-- .. and then the codes -/
theorem BA.yes {w : World} {l : List OpM} {i : Nat} {ts : List RT} {t : RT} {rv' cv cv' : Value} {w1 w2 : World} {o : OpM} (hi : l[i]? = some o) (htx : txts ts = texts (l.take i) []) (hc : code o (txts ts) = 0) (htt : t.txt = newT o (txts ts))
    (h1 : w1.ownsRow w.heap.size 87 1 rv' (ts ++ [t]).length (ptrs (ts ++ [t]))) (h2 : ∀ u ∈ ts ++ [t], RopeAt w1 u) (h3 : w1.ownsRow w.heap.size 24 1 cv i (ints (codes (l.take i) []))) (h4 : Below w.heap.size w w1)
    (hrow : w2.ownsRow w.heap.size 24 1 cv' (i + 1) (ints (codes (l.take i) []) ++ [.int .i64 0])) (hg : w1.grownBy w2 cv.ownBlock) : BA w l (i + 1) (ts ++ [t]) rv' cv' w2 := by
  have hlt := (List.getElem?_eq_some_iff.1 hi).1
  have ho := (List.getElem?_eq_some_iff.1 hi).2
  have e : l.take (i + 1) = l.take i ++ [o] := by rw [List.take_succ_eq_append_getElem hlt, ho]
  refine ⟨?_, h1.kept hg (apart h1 h3 (by decide)), fun u hu => (h2 u hu).grown hg (noTyp h3 (by decide)), ?_, bgrow h4 h3 hg⟩
  · rw [e, texts_append, ← htx]
    simp only [texts, nextT, if_pos hc]
    simp [txts, htt]
  · rw [e, codes_append, ← htx]
    simpa [codes, ints, hc] using hrow

set_option maxRecDepth 100000 in
set_option maxHeartbeats 2000000 in
theorem build (l : List OpM) (a : Option Addr) (cap : Nat) (w : World) (hl : OpsAt w a l) (h80 : l.length ≤ 80) :
    Calls Try.prog 44 #[.slice a l.length cap] w fun e w' => ∃ ts rv cv, e = .returned (.tuple #[rv, cv, .int .i64 0]) ∧ BA w l l.length ts rv cv w' := by
  obtain ⟨i0, hi, hz0, hz1, hz2⟩ := info_parts infoPtr
  have HI := Lib.hid (And.intro hi (And.intro hz0 (And.intro hz1 hz2)))
  clear hi hz0 hz1 hz2
  obtain ⟨i1, hi, hz0, hz1, hz2⟩ := info_parts infoErr
  have HJ := Lib.hid (And.intro hi (And.intro hz0 (And.intro hz1 hz2)))
  clear hi hz0 hz1 hz2
  have hgt : decide ((80 : Int) < (l.length : Int)) = false := by simp; omega
  have HL := Lib.hid hl
  clear hl
  obtain ⟨n, hn⟩ : ∃ n, l.length = n := ⟨_, rfl⟩
  rw [hn] at h80 hgt ⊢
  go_enter Try.func44, Try.ntmps44
  go_wp2_with fail
  go_loopw [5, 6, 15] (fun rv cv m wr => ∃ (i : Nat) (ts : List RT), i ≤ n ∧ m = .int .i64 (i : Int) ∧ BA w l i ts rv cv wr) (fun _ _ m _ => n - (intOf m).toNat)
  case atStart => exact ⟨0, [], by omega, rfl, rfl, World.ownsRow_nil _ _ _ _, fun t ht => by simp at ht, World.ownsRow_nil _ _ _ _, Below.refl _ _⟩
  case round =>
    obtain ⟨i, ts, hin, rfl, hba⟩ := hrel
    by_cases hlt : i < n
    · obtain ⟨o, ho⟩ : ∃ o, l[i]? = some o := ⟨l[i]'(by omega), by simp [hn, hlt]⟩
      obtain ⟨g, off, rfl, hx, c0, c1, c2, c3, c4, c5⟩ := (HL.out.next hba.bel).cell i o ho
      obtain ⟨p, cap', rfl, hrp⟩ := hba.ropes
      have hfine := hba.fine
      have CH : Hid (∀ W : World, Below wr.heap.size wr W → Calls Try.prog 51 #[.agg #[.int .i64 o.kind, .string o.text, .int .i64 o.a, .int .i64 o.b, .int .i64 o.at_, .int .i64 o.cnt], .slice p ts.length cap'] W fun e w' => e = .returned (.int .i64 (code o (txts ts))) ∧ Below W.heap.size W w') := Lib.hid fun W hW => check o p cap' ts W (hrp.next hW) hfine
      have hbx : Hid (∀ W : World, Below (wr.alloc (.cells #[.int .i64 o.kind, .string o.text, .int .i64 o.a, .int .i64 o.b, .int .i64 o.at_, .int .i64 o.cnt] 55)).heap.size (wr.alloc (.cells #[.int .i64 o.kind, .string o.text, .int .i64 o.a, .int .i64 o.b, .int .i64 o.at_, .int .i64 o.cnt] 55)) W → (W.cell? ⟨wr.heap.size, 0, none⟩ = some (.int .i64 o.kind) ∧ W.cell? ⟨wr.heap.size, 1, none⟩ = some (.string o.text) ∧ W.cell? ⟨wr.heap.size, 2, none⟩ = some (.int .i64 o.a) ∧ W.cell? ⟨wr.heap.size, 3, none⟩ = some (.int .i64 o.b) ∧ W.cell? ⟨wr.heap.size, 4, none⟩ = some (.int .i64 o.at_) ∧ W.cell? ⟨wr.heap.size, 5, none⟩ = some (.int .i64 o.cnt)) ∧ Below wr.heap.size wr W) := Lib.hid fun W hW => by
        have hlt : wr.heap.size < (wr.alloc (.cells #[.int .i64 o.kind, .string o.text, .int .i64 o.a, .int .i64 o.b, .int .i64 o.at_, .int .i64 o.cnt] 55)).heap.size := by simp
        exact ⟨⟨keep hW hlt (by simp), keep hW hlt (by simp), keep hW hlt (by simp), keep hW hlt (by simp), keep hW hlt (by simp), keep hW hlt (by simp)⟩, bstep (balloc (Below.refl _ _) _) hW⟩
      have HB := Lib.hid hba
      by_cases hc : code o (txts ts) = 0
      · have CR : Hid (∀ W : World, Below wr.heap.size wr W → Calls Try.prog 52 #[.agg #[.int .i64 o.kind, .string o.text, .int .i64 o.a, .int .i64 o.b, .int .i64 o.at_, .int .i64 o.cnt], .slice p ts.length cap'] W fun e w' => ∃ t : RT, e = .returned (.pointer t.addr) ∧ Hid (RopeAt w' t ∧ t.txt = newT o (txts ts) ∧ BA w l i ts (.slice p ts.length cap') u6 w') ∧ w.heap.size ≤ w'.heap.size) := Lib.hid fun W hW => by
          obtain ⟨z1, z2, z3⟩ := code_zero hc
          rw [txts_length] at z1 z2
          refine (create o p cap' ts W (hrp.next hW) hfine z1 z2 z3).mono ?_
          rintro e w' ⟨t, rfl, g1, g2, g3⟩
          have hb := bstep hW g3
          exact ⟨t, rfl, Lib.hid ⟨g1, g2, hba.next hb⟩, by have := hba.bel.size; have := hb.size; omega⟩
        rw [hc] at CH
        have HT := Lib.hid hba.txt
        have hlen : ts.length ≤ 60 := by have := hfine.1; rw [txts_length] at this; exact this
        have HC := Lib.hid hc
        clear hba hrp hfine hc
        go_wp2_with fail
        refine (CH.out _ (balloc (Below.refl _ _) _)).mono ?_
        rintro e w1 ⟨rfl, hb1⟩
        obtain ⟨⟨x0, x1, x2, x3, x4, x5⟩, hb2⟩ := hbx.out w1 hb1
        clear hb1 hbx CH
        go_wp2_with fail
        refine (CR.out _ hb2).mono ?_
        rintro e w2 ⟨t, rfl, G, hsz⟩
        clear CR x0 x1 x2 x3 x4 x5 c0 c1 c2 c3 c4 c5 hb2
        have HA : Hid (BA w l i ts (.slice p ts.length cap') u6 (w2.alloc (.cells #[.pointer t.addr] 87))) := Lib.hid (G.out.2.2.next (balloc (Below.refl _ _) _))
        have hRA : Hid (RopeAt (w2.alloc (.cells #[.pointer t.addr] 87)) t) := Lib.hid (G.out.1.next (balloc (Below.refl _ _) _))
        go_wp2_with (first
          | (at_builtin; refine wpList_append_lies _ rfl _ _ 84 rfl w.heap.size 87 i0 _ 1 8 Try.underlying84 HI.out.1 HI.out.2.1 HI.out.2.2.1 HI.out.2.2.2 rfl (by decide) _ ts.length (ptrs ts) rfl HA.out.rrow ⟨w2.heap.size, 0, none⟩ 1 1 [.pointer t.addr] rfl rfl (cell_one_new _ _ _) (by simp [Value.oneCell']) (by omega) (by unfold maxLen; omega) (by omega) (by simp; omega) _ rfl ?_; intro g3 cap3 w3 hown3 hgrow3 _ _; have M := Lib.hid (HA.out.mid hRA.out hown3 hgrow3); have hsz3 := M.out.2.2.2.size; clear hown3 hgrow3)
          | (at_builtin; refine wpList_append_lies _ rfl _ _ 58 rfl w.heap.size 24 i1 _ 1 8 Try.underlying58 HJ.out.1 HJ.out.2.1 HJ.out.2.2.1 HJ.out.2.2.2 rfl (by decide) _ i (ints (codes (l.take i) [])) rfl (M.out.2.2.1.alloc _) ⟨w3.heap.size, 0, none⟩ 1 1 [.int .i64 0] rfl rfl (cell_one_new _ _ _) (by simp [Value.oneCell']) (by omega) (by unfold maxLen; omega) (by omega) (by simp; omega) _ rfl ?_; intro g4 cap4 w4 hown4 hgrow4 _ _; have FIN := Lib.hid (BA.yes (t := t) ho HT.out HC.out G.out.2.1 (M.out.1.alloc _) (fun u hu => (M.out.2.1 u hu).next (balloc (Below.refl _ _) _)) (M.out.2.2.1.alloc _) (balloc M.out.2.2.2 _) hown4 hgrow4); clear hown4 hgrow4))
        go_roundw
        case rel =>
          refine ⟨i + 1, ts ++ [t], by omega, rfl, ?_⟩
          have := FIN.out
          rw [List.length_append, List.length_singleton] at *
          exact this
        case measure => simp [intOf]; omega
      · have hd : (code o (txts ts) == 0) = false := by simpa using hc
        have HC := Lib.hid hc
        generalize hcv : code o (txts ts) = cc at *
        have HA : Hid (∀ W : World, Below wr.heap.size wr W → BA w l i ts (.slice p ts.length cap') u6 W) := Lib.hid fun W hW => hba.next hW
        have hsz := hba.bel.size
        clear hba hrp hfine hc
        go_wp2_with fail
        refine (CH.out _ (balloc (Below.refl _ _) _)).mono ?_
        rintro e w1 ⟨rfl, hb1⟩
        have hb2 := (hbx.out w1 hb1).2
        have hsz2 := hb2.size
        have HA1 := Lib.hid (HA.out _ (balloc hb2 (.cells #[.int .i64 cc] 24)))
        clear hb1 hbx CH hb2 HA c0 c1 c2 c3 c4 c5
        go_wp2_with (at_builtin; refine wpList_append_lies _ rfl _ _ 58 rfl w.heap.size 24 i1 _ 1 8 Try.underlying58 HJ.out.1 HJ.out.2.1 HJ.out.2.2.1 HJ.out.2.2.2 rfl (by decide) _ i (ints (codes (l.take i) [])) rfl HA1.out.crow ⟨w1.heap.size, 0, none⟩ 1 1 [.int .i64 cc] rfl rfl (cell_one_new _ _ _) (by simp [Value.oneCell']) (by omega) (by unfold maxLen; omega) (by omega) (by simp; omega) _ rfl ?_; intro g4 cap4 w4 hown4 hgrow4 _ _; have FIN := Lib.hid (BA.no HA1.out ho (by rw [hcv]; exact HC.out) (by rw [hcv]; exact hown4) hgrow4); clear hown4 hgrow4)
        go_roundw
        case rel => exact ⟨i + 1, ts, by omega, rfl, FIN.out⟩
        case measure => simp [intOf]; omega
    · obtain rfl : i = n := by omega
      have HB := Lib.hid hba
      clear hba
      go_wp2_with fail
      refine bodyPost_ret (v := .tuple #[u5, u6, .int .i64 0]) (by simp [results, Try.results44]) rfl ⟨ts, _, _, rfl, ?_⟩
      exact HB.out

end Go.Proofs.Ytkckhjljindgmaa.RopeC
