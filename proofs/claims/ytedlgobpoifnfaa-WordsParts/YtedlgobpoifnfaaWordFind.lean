/-
  Package words: Find.
-/
import Derived.Test.YtedlgobpoifnfaaWordEach
import Derived.Test.YtedlgobpoifnfaaLineAt
import Derived.Deep.AppendLies
import Derived.Maps.AppendAt
namespace Go.Proofs.Ytedlgobpoifnfaa.WordC
open Go.RowKit Kit WordM LineM Go.Shelf

/-- a row above, while blocks that are not its own turn -/
theorem kept_at {W W1 : World} {r : Option Nat} {k o : Nat} {u : Value} (hg : W.grownBy W1 r) (h : W.cell? ⟨k, o, none⟩ = some u) (hk : r ≠ some k) : W1.cell? ⟨k, o, none⟩ = some u := by
  have hlt := block_lt h
  exact (World.cell?_of_block (a := ⟨k, o, none⟩) (hg.block k hlt (fun e => hk e.symm))).trans h
theorem kept_fr {W W1 : World} {r : Option Nat} {k o : Nat} {u : Value} (hg : W.grownBy W1 r) (h : W.cell? ⟨k, o, none⟩ = some u) (hk : r ≠ some k) (hf : W.frozen? ⟨k, o, none⟩ = false) : W1.frozen? ⟨k, o, none⟩ = false := by
  have hlt := block_lt h
  exact (World.frozen?_of_block (a := ⟨k, o, none⟩) (hg.block k hlt (fun e => hk e.symm))).trans hf
theorem own_above {w : World} {base e size n : Nat} {v : Value} {xs : List Value} (h : w.ownsRow base e size v n xs) {k : Nat} (hk : k < base) : v.ownBlock ≠ some k := by
  intro e
  have := (h.lt k e).1
  omega
/-- the world in which Find looks -/
structure FJ (w : World) (kb : Nat) (q : ByteArray) (o : List (Int × List UInt8)) (v : Value) (W : World) : Prop where
  row : W.ownsRow (kb + 1) 3 1 v (pos o q.data.toList).length (flatC ic (pos o q.data.toList))
  bel : Below w.heap.size w W
  cw : W.cell? ⟨w.heap.size, 0, none⟩ = some (.string q)
  co : W.cell? ⟨kb, 0, none⟩ = some v
  fo : W.frozen? ⟨kb, 0, none⟩ = false
  sz : kb + 1 ≤ W.heap.size
  lt : w.heap.size < kb
/-- one place more -/
theorem FJ.add {w : World} {kb : Nat} {q : ByteArray} {o : List (Int × List UInt8)} {v v' : Value} {W W1 : World} {x : Obj} {a : Int} (h : FJ w kb q o v W) (hg : (W.alloc x).grownBy W1 v.ownBlock)
    (hr : W1.ownsRow (kb + 1) 3 1 v' ((pos o q.data.toList).length + 1) (flatC ic (pos o q.data.toList) ++ [.int .i64 a])) : FJ w kb q (o ++ [(a, q.data.toList)]) v' (W1.setCell ⟨kb, 0, none⟩ v') := by
  have k0 := own_above h.row (k := w.heap.size) (by have := h.lt; omega)
  have k1 := own_above h.row (k := kb) (by omega)
  have hb1 : Below W.heap.size W (W.alloc x) := balloc (Below.refl _ _) x
  have c0 := kept_at hg (keep hb1 (block_lt h.cw) h.cw) k0
  have c1 := kept_at hg (keep hb1 (block_lt h.co) h.co) k1
  have f1 := kept_fr hg (keep hb1 (block_lt h.co) h.co) k1 ((hb1.frozen (p := ⟨kb, 0, none⟩) (block_lt h.co)).trans h.fo)
  have hs := hg.size
  have hlt := h.lt
  have hs0 := h.sz
  simp at hs
  refine ⟨?_, ?_, ?_, setS c1 _, by rw [World.frozen?_setCell]; exact f1, by rw [setZ]; omega, h.lt⟩
  · rw [pos_snoc, if_pos rfl, List.length_append, flatC_append]
    exact ownsRow_setCell_below hr (by show kb < kb + 1; omega) _
  · have : Below w.heap.size w W1 := (balloc h.bel x).trans ⟨hg.os, hg.tape, hg.output, hg.size, fun b hb => hg.block b (Nat.lt_of_lt_of_le hb (balloc h.bel x).size) (fun e => own_above h.row (k := b) (by omega) e.symm)⟩
    exact this.setCell (by show w.heap.size ≤ kb; omega) _
  · rw [setO (.inl (by omega))]; exact c0
theorem FJ.same {w : World} {kb : Nat} {q : ByteArray} {o : List (Int × List UInt8)} {v : Value} {W : World} {a : Int} {x : List UInt8} (h : FJ w kb q o v W) (hx : x ≠ q.data.toList) : FJ w kb q (o ++ [(a, x)]) v W := by
  have e : pos (o ++ [(a, x)]) q.data.toList = pos o q.data.toList := by rw [pos_snoc, if_neg hx, List.append_nil]
  exact ⟨by rw [e]; exact h.row, h.bel, h.cw, h.co, h.fo, h.sz, h.lt⟩

theorem eq_bs {v : List UInt8} {q : ByteArray} : ((bs v).toList == q.toList) = decide (v = q.data.toList) := by
  rw [Lib.toList_data, Lib.toList_data, Bool.eq_iff_iff]
  simp

set_option maxRecDepth 100000 in
set_option maxHeartbeats 2000000 in
theorem find1 (w : World) (kb : Nat) (q : ByteArray) (n : Nat) (hn : n ≤ 600) : VisOk 31 #[.pointer (some ⟨w.heap.size, 0, none⟩), .pointer (some ⟨kb, 0, none⟩)] n (fun o W => ∃ v, FJ w kb q o v W) := by
  intro o a v W ⟨v0, h⟩ ho ha hv
  show Calls Try.prog 31 #[.int .i64 (a : Int), .string (bs v), .pointer (some ⟨w.heap.size, 0, none⟩), .pointer (some ⟨kb, 0, none⟩)] W _
  obtain ⟨i0, hi, hz0, hz1, hz2⟩ := info_parts infoInt
  have HI := Lib.hid (And.intro hi (And.intro hz0 (And.intro hz1 hz2)))
  have H0 := Lib.hid h
  have cw := h.cw
  have co := h.co
  have hpl := pos_len o q.data.toList
  have hle : (pos o q.data.toList).length ≤ 600 := by omega
  clear hi hz0 hz1 hz2 h
  by_cases hx : v = q.data.toList
  · subst hx
    have hb : ((bs q.data.toList).toList == q.toList) = true := by rw [eq_bs]; simp
    have HROW := Lib.hid H0.out.row
    have hs0 := H0.out.sz
    have hkb := H0.out.lt
    have AFTER := Lib.hid (fun W1 x (hg : (W.alloc x).grownBy W1 v0.ownBlock) => And.intro (kept_at hg (keep (balloc (Below.refl _ _) x) (block_lt H0.out.co) H0.out.co) (own_above H0.out.row (k := kb) (by omega))) (kept_fr hg (keep (balloc (Below.refl _ _) x) (block_lt H0.out.co) H0.out.co) (own_above H0.out.row (k := kb) (by omega)) (((balloc (Below.refl _ _) x).frozen (p := ⟨kb, 0, none⟩) (block_lt H0.out.co)).trans H0.out.fo)))
    have FIN := Lib.hid (fun v' W1 x (hg : (W.alloc x).grownBy W1 v0.ownBlock) hr => FJ.add (v' := v') (a := (a : Int)) H0.out hg hr)
    clear hpl
    generalize hP : pos o q.data.toList = L at *
    clear hP
    generalize bs q.data.toList = x at *
    go_enter Try.func31, Try.ntmps31
    go_wp2_with (at_builtin; refine wpList_append_lies _ rfl _ _ 28 rfl (kb + 1) 3 i0 _ 1 8 Try.underlying28 HI.out.1 HI.out.2.1 HI.out.2.2.1 HI.out.2.2.2 rfl (by decide) _ L.length (flatC ic L) rfl (HROW.out.alloc _) ⟨W.heap.size, 0, none⟩ 1 1 [.int .i64 (a : Int)] rfl rfl (cell_one_new _ _ _) (by simp [Value.oneCell']) (by omega) (by unfold maxLen; omega) (by omega) (by simp; omega) _ rfl ?_; intro g cap w1 hown1 hgrow1 _ _; obtain ⟨c1, c2⟩ := AFTER.out _ _ hgrow1)
    go_end0
    exact ⟨rfl, _, FIN.out _ _ _ hgrow1 hown1⟩
  · have hb : ((bs v).toList == q.toList) = false := by rw [eq_bs]; simpa using hx
    have FIN := Lib.hid (FJ.same (a := (a : Int)) H0.out hx)
    clear hx hpl
    generalize bs v = x at *
    go_enter Try.func31, Try.ntmps31
    go_wp2_with fail
    go_end0
    exact ⟨rfl, _, FIN.out⟩

/-- is the last word q? -/
def lastIs (o : List (Int × List UInt8)) (q : List UInt8) : Bool := match o.getLast? with | some p => decide (p.2 = q) | none => false
theorem lastIs_snoc (o : List (Int × List UInt8)) (a : Int) (v q : List UInt8) : lastIs (o ++ [(a, v)]) q = decide (v = q) := by simp [lastIs]
theorem lastIs_nil (q : List UInt8) : lastIs [] q = false := rfl
/-- the world in which indexed looks -/
structure XJ (w : World) (q : ByteArray) (o : List (Int × List UInt8)) (W : World) : Prop where
  bel : Below w.heap.size w W
  cw : W.cell? ⟨w.heap.size, 0, none⟩ = some (.string q)
  co : W.cell? ⟨w.heap.size + 1, 0, none⟩ = some (.bool (lastIs o q.data.toList))
  fo : W.frozen? ⟨w.heap.size + 1, 0, none⟩ = false
set_option maxRecDepth 100000 in
set_option maxHeartbeats 2000000 in
theorem indexed1 (w : World) (q : ByteArray) (n : Nat) : VisOk 49 #[.pointer (some ⟨w.heap.size, 0, none⟩), .pointer (some ⟨w.heap.size + 1, 0, none⟩)] n (XJ w q) := by
  intro o a v W h ho ha hv
  show Calls Try.prog 49 #[.int .i64 (a : Int), .string (bs v), .pointer (some ⟨w.heap.size, 0, none⟩), .pointer (some ⟨w.heap.size + 1, 0, none⟩)] W _
  have HB := Lib.hid (eq_bs (v := v) (q := q))
  have cw := h.cw
  have co := h.co
  have fo := h.fo
  have H0 := Lib.hid h
  have FIN : Hid (∀ b : Bool, b = decide (v = q.data.toList) → XJ w q (o ++ [((a : Int), v)]) (W.setCell ⟨w.heap.size + 1, 0, none⟩ (.bool b))) := Lib.hid (fun b hb =>
    ⟨H0.out.bel.setCell (by show w.heap.size ≤ w.heap.size + 1; omega) _, by rw [setO (.inl (by omega))]; exact H0.out.cw, by rw [setS H0.out.co, lastIs_snoc, hb], by rw [World.frozen?_setCell]; exact H0.out.fo⟩)
  clear h H0
  generalize lastIs o q.data.toList = b0 at *
  generalize bs v = x at *
  go_enter Try.func49, Try.ntmps49
  go_wp2_with fail
  go_end0
  exact ⟨rfl, FIN.out _ HB.out⟩

/-- is a text one indexed word? -/
def isWord (l : List UInt8) : Bool := lastIs (occ l) l
set_option maxRecDepth 100000 in
set_option maxHeartbeats 2000000 in
theorem indexed (q : ByteArray) (w : World) (hq : q.size ≤ 140737488351232) : Calls Try.prog 29 #[.string q] w fun e w' => e = .returned (.bool (isWord q.data.toList)) ∧ Below w.heap.size w w' := by
  obtain ⟨w1, hw1⟩ : ∃ w1, w1 = (w.alloc (.cells #[.string q] 9)).alloc (.cells #[.bool false] 4) := ⟨_, rfl⟩
  have h1 : XJ w q [] w1 := by
    rw [hw1]
    exact ⟨balloc (balloc (Below.refl _ _) _) _, by simp, by simp [lastIs_nil], by simp⟩
  have E := Lib.hid (each 49 _ (enters_of Try.func49 (by kernel_rfl) rfl) (XJ w q) q hq (indexed1 w q q.size) w1 h1)
  subst hw1
  clear h1
  go_enter Try.func29, Try.ntmps29
  go_wp2_with (go_at_call 30; refine E.out.mono ?_; rintro e w2 ⟨rfl, hj⟩; have c2 := hj.co; have HJ := Lib.hid hj; clear hj)
  go_ret
  exact ⟨rfl, HJ.out.bel⟩

set_option maxHeartbeats 1000000 in
theorem find_form (s q : ByteArray) (w : World) (hq : q.size ≤ 140737488351232) (h : isWord q.data.toList = false) :
    Calls Try.prog 12 #[.string s, .string q] w (IsPost w [] 4) := by
  have X := Lib.hid (indexed q (w.alloc (.cells #[.string q] 9)) hq)
  rw [h] at X
  clear h
  go_enter Try.func12, Try.ntmps12
  go_wp2_with (go_at_call 29; refine X.out.mono ?_; rintro e w1 ⟨rfl, hb1⟩)
  go_ret2
  exact ⟨_, rfl, IK.nil ((balloc (Below.refl _ _) _).trans (hb1.mono (by simp)))⟩
set_option maxHeartbeats 1000000 in
theorem find_size (s q : ByteArray) (w : World) (hq : q.size ≤ 140737488351232) (h : isWord q.data.toList = true) (hs : 600 < s.size) :
    Calls Try.prog 12 #[.string s, .string q] w (IsPost w [] 1) := by
  have X := Lib.hid (indexed q (w.alloc (.cells #[.string q] 9)) hq)
  rw [h] at X
  clear h
  go_enter Try.func12, Try.ntmps12
  go_wp2_with (go_at_call 29; refine X.out.mono ?_; rintro e w1 ⟨rfl, hb1⟩)
  go_ret2
  exact ⟨_, rfl, IK.nil ((balloc (Below.refl _ _) _).trans (hb1.mono (by simp)))⟩
set_option maxRecDepth 100000 in
set_option maxHeartbeats 2000000 in
theorem find (s q : ByteArray) (w : World) (hq : q.size ≤ 140737488351232) (h : isWord q.data.toList = true) (hs : s.size ≤ 600) :
    Calls Try.prog 12 #[.string s, .string q] w (IsPost w (pos (occ s.data.toList) q.data.toList) 0) := by
  have X := Lib.hid (indexed q (w.alloc (.cells #[.string q] 9)) hq)
  rw [h] at X
  have E := Lib.hid (fun w1 (hb : Below (w.alloc (.cells #[.string q] 9)).heap.size (w.alloc (.cells #[.string q] 9)) w1) => each 31 _ (enters_of Try.func31 (by kernel_rfl) rfl) (fun o W => ∃ v, FJ w w1.heap.size q o v W) s (by omega) (find1 w w1.heap.size q s.size hs) (w1.alloc (.cells #[.slice none 0 0] 28))
    ⟨_, by
      have hs := hb.size
      simp at hs
      have c0 : w1.cell? ⟨w.heap.size, 0, none⟩ = some (.string q) := keep hb (by simp) (by simp)
      exact ⟨World.ownsRow_nil _ _ _ _, balloc ((balloc (Below.refl _ _) _).trans (hb.mono (by simp))) _, keep (balloc (Below.refl _ _) _) (block_lt c0) c0, by simp, by simp, by simp, by omega⟩⟩)
  clear h
  go_enter Try.func12, Try.ntmps12
  go_wp2_with (first
    | (go_at_call 29; refine X.out.mono ?_; rintro e w1 ⟨rfl, hb1⟩; have E1 := Lib.hid (E.out w1 hb1); clear E)
    | (go_at_call 30; refine E1.out.mono ?_; rintro e w2 ⟨rfl, v, hj⟩; have c2 := hj.co; have HJ := Lib.hid hj; clear hj))
  go_ret2
  exact ⟨_, rfl, HJ.out.row.mono (by have := HJ.out.lt; omega), HJ.out.bel⟩
end Go.Proofs.Ytedlgobpoifnfaa.WordC
