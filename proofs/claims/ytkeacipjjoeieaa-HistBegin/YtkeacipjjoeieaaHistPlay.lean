/-
  Package hist: Play and Counts.
-/
import Derived.Test.YtkeacipjjoeieaaHistExec
import Derived.Test.YtkeacipjjoeieaaHistDeed
namespace Go.Proofs.Ytkeacipjjoeieaa.HistC
open Go.RowKit Kit EditM EditC EditK HistM

def strV (t : Bs) : Value := .string (str t)
def intV (n : Int) : Value := .int .i64 n
theorem HOk.box {s : TL} {k : Nat} {F : Nat → Prop} {N : Nat} {w : World} (h : HOk s k F N w) : k < w.heap.size ∧ w.cell? ⟨k, 0, none⟩ = some (.string (str s.now)) := by
  obtain ⟨gs, vu, vr, vs, h1, h2, h3⟩ := h
  exact ⟨h3.box.lt, h3.box.c0⟩
/-- the history, the texts and the codes so far; each in blocks of its own -/
structure PlR (k : Nat) (s : TL) (N nt : Nat) (ts : List Value) (nc : Nat) (cs : List Value) (w : World) (tv cv : Value) (F : Nat → Prop) (wr : World) : Prop where
  h : HOk s k F N wr
  low : ∀ b, F b → w.heap.size ≤ b
  t : RX 1 wr tv nt ts
  c : RX 1 wr cv nc cs
  tb : ∀ b, tv.ownBlock = some b → w.heap.size ≤ b ∧ ¬ F b ∧ cv.ownBlock ≠ some b
  cb : ∀ b, cv.ownBlock = some b → w.heap.size ≤ b ∧ ¬ F b
  bel : Below w.heap.size w wr
section
variable {k : Nat} {s : TL} {N nt : Nat} {ts : List Value} {nc : Nat} {cs : List Value} {w : World} {tv cv : Value} {F : Nat → Prop} {wr : World}
theorem PlR.next (h : PlR k s N nt ts nc cs w tv cv F wr) {w' : World} (hb : Below wr.heap.size wr w') : PlR k s N nt ts nc cs w tv cv F w' :=
  ⟨h.h.kept hb.size fun b q => hb.block b (h.h.lt q), h.low, h.t.kept hb.size fun b q => hb.block b (h.t.lt q), h.c.kept hb.size fun b q => hb.block b (h.c.lt q), h.tb, h.cb, bstep h.bel hb⟩
theorem PlR.exec (h : PlR k s N nt ts nc cs w tv cv F wr) {s' : TL} {c : Int} {M : Nat} {x : Ending} {w' : World} (hb : ExPost s' c k F M wr x w') : PlR k s' M nt ts nc cs w tv cv (grow F wr w') w' := by
  obtain ⟨_, h2, h3⟩ := hb
  refine ⟨h2, fun b q => ?_, h.t.kept h3.size fun b q => h3.block b (h.t.lt q) (h.tb b q).2.1, h.c.kept h3.size fun b q => h3.block b (h.c.lt q) (h.cb b q).2, fun b q => ⟨(h.tb b q).1, ?_, (h.tb b q).2.2⟩, fun b q => ⟨(h.cb b q).1, ?_⟩, ?_⟩
  · have := h.bel.size
    rcases q with q | q
    · exact h.low b q
    · omega
  · have := h.t.lt q
    rintro (e | e)
    · exact (h.tb b q).2.1 e
    · omega
  · have := h.c.lt q
    rintro (e | e)
    · exact (h.cb b q).2 e
    · omega
  · exact h.bel.trans (h3.below h.bel.size h.low)
theorem PlR.code (h : PlR k s N nt ts nc cs w tv cv F wr) {w' : World} {cv' : Value} {cs' : List Value} (hr : RX 1 w' cv' (nc + 1) cs') (hg : wr.grownBy w' cv.ownBlock) (hb : ∃ g, cv'.ownBlock = some g ∧ (cv.ownBlock = some g ∨ (wr.heap.size ≤ g ∧ g < w'.heap.size))) :
    PlR k s N nt ts (nc + 1) cs' w tv cv' F w' := by
  obtain ⟨g, e1, e2⟩ := hb
  have hz := h.bel.size
  refine ⟨h.h.kept hg.size fun b q => hg.block b (h.h.lt q) (fun e => (h.cb b e.symm).2 q), h.low, h.t.kept hg.size fun b q => hg.block b (h.t.lt q) (fun e => (h.tb b q).2.2 e.symm), hr, fun b q => ⟨(h.tb b q).1, (h.tb b q).2.1, ?_⟩, fun b q => ?_, h.bel.grown hg hz (fun b e => (h.cb b e).1)⟩
  · rw [e1]; intro e; cases e
    rcases e2 with e2 | e2
    · exact (h.tb _ q).2.2 e2
    · have := h.t.lt q; omega
  · rw [e1] at q; cases q
    rcases e2 with e2 | e2
    · exact h.cb _ e2
    · exact ⟨by omega, fun e => by have := h.h.lt e; omega⟩
theorem PlR.text (h : PlR k s N nt ts nc cs w tv cv F wr) {w' : World} {tv' : Value} {ts' : List Value} (hr : RX 1 w' tv' (nt + 1) ts') (hg : wr.grownBy w' tv.ownBlock) (hb : ∃ g, tv'.ownBlock = some g ∧ (tv.ownBlock = some g ∨ (wr.heap.size ≤ g ∧ g < w'.heap.size))) :
    PlR k s N (nt + 1) ts' nc cs w tv' cv F w' := by
  obtain ⟨g, e1, e2⟩ := hb
  have hz := h.bel.size
  refine ⟨h.h.kept hg.size fun b q => hg.block b (h.h.lt q) (fun e => (h.tb b e.symm).2.1 q), h.low, hr, h.c.kept hg.size fun b q => hg.block b (h.c.lt q) (fun e => (h.tb b e.symm).2.2 q), fun b q => ?_, h.cb, h.bel.grown hg hz (fun b e => (h.tb b e).1)⟩
  rw [e1] at q; cases q
  rcases e2 with e2 | e2
  · exact h.tb _ e2
  · exact ⟨by omega, fun e => by have := h.h.lt e; omega, fun e => by have := h.c.lt e; omega⟩
theorem PlR.start {t : Bs} (ht : t.length ≤ 600) (ty : TypeId) : PlR w.heap.size (TL.start t) 0 0 [] 0 [] w (.slice none 0 0) (.slice none 0 0) (fun b => b = w.heap.size) (w.alloc (.cells #[.string (str t), .slice none 0 0, .slice none 0 0, .bool false] ty)) := by
  refine ⟨⟨[], .slice none 0 0, .slice none 0 0, [], Rel.start ht, fun g hg => by simp at hg, ?_⟩, fun b q => by omega, RX.nil _ _, RX.nil _ _, fun b q => (by cases q), fun b q => (by cases q), balloc (Below.refl _ _) _⟩
  refine ⟨⟨by simp, by simp [TL.start, TL.now], by simp, by simp, by simp [TL.start], fun j => by simp⟩, rfl, fun b q => by simp [q], by simp [TL.start], rfl, RX.nil _ _, RX.nil _ _, fun i v g hv => by simp at hv, fun b q => (by cases q), fun b q => (by cases q), fun i v hv => by simp at hv, fun i j v v' hv => by simp at hv⟩
end
def PlA (k : Nat) (s : TL) (N : Nat) (ts cs : List Value) (w : World) (tv cv : Value) (wr : World) : Prop := ∃ F, PlR k s N N ts N cs w tv cv F wr
theorem Row.of_rx {w : World} {v : Value} {n : Nat} {xs : List Value} (h : RX 1 w v n xs) : Row w v xs := by
  have hl := h.len
  rw [Nat.mul_one] at hl
  rcases h.is with ⟨rfl, rfl⟩ | ⟨g, off, cap, rfl, _, _, hg, hc, _⟩
  · obtain rfl : xs = [] := List.eq_nil_of_length_eq_zero hl
    exact Row.nil w
  · exact ⟨_, cap, by rw [hl], fun _ => ⟨g, off, rfl, hg, fun i hi => by rw [List.getElem?_eq_getElem hi]; exact hc i _ (List.getElem?_eq_getElem hi)⟩⟩

theorem tooLong (t : ByteArray) (a : Option Addr) (n cap : Nat) (w : World) (ht : t.size ≤ 600) (hn : n ≤ 80) :
    Calls Try.prog 20 #[.string t, .slice a n cap] w fun e w' => e = .returned (.bool false) ∧ w = w' := by
  go_enter Try.func20, Try.ntmps20
  go_wp2_with fail
  go_ret
  exact ⟨ret_bool (by simp; omega), rfl⟩
theorem tooLong_t (t : ByteArray) (v : Value) (w : World) (ht : 600 < t.size) (hm : t.size ≤ maxLen) :
    Calls Try.prog 20 #[.string t, v] w fun e w' => e = .returned (.bool true) ∧ w = w' := by
  unfold maxLen at hm
  go_enter Try.func20, Try.ntmps20
  go_wp2_with fail
  go_ret
  exact ⟨rfl, rfl⟩
theorem tooLong_l (t : ByteArray) (a : Option Addr) (n cap : Nat) (w : World) (ht : t.size ≤ 600) (hn : 80 < n) (hm : n ≤ maxLen) :
    Calls Try.prog 20 #[.string t, .slice a n cap] w fun e w' => e = .returned (.bool true) ∧ w = w' := by
  unfold maxLen at hm
  go_enter Try.func20, Try.ntmps20
  go_wp2_with fail
  go_ret
  exact ⟨ret_bool (by simp; omega), rfl⟩

theorem infoStr : (Try.prog.info? 9).map (fun i => (i.zero, i.size, i.bytes)) = some (some (.string ⟨#[]⟩), 1, 16) := by kernel_rfl
theorem infoErr : (Try.prog.info? 25).map (fun i => (i.zero, i.size, i.bytes)) = some (some (.int .i64 0), 1, 8) := by kernel_rfl
def PlPost (t : Bs) (l : List DeedM) (w : World) (x : Ending) (w' : World) : Prop := ∃ tv cv, x = .returned (.tuple #[tv, cv, .int .i64 0]) ∧ Row w' tv (((TL.start t).texts l).map strV) ∧ Row w' cv (((TL.start t).codes l).map intV) ∧ Below w.heap.size w w'
set_option maxRecDepth 100000 in
set_option maxHeartbeats 2000000 in
theorem play (t : Bs) (l : List DeedM) (a : Option Addr) (cap : Nat) (w : World) (hl : DdsAt w a l) (hok : ∀ d ∈ l, d.ed.ok) (ht : t.length ≤ 600) (h80 : l.length ≤ 80) :
    Calls Try.prog 9 #[.string (str t), .slice a l.length cap] w (PlPost t l w) := by
  obtain ⟨i0, hi, hz0, hz1, hz2⟩ := info_parts infoStr
  have HI := Lib.hid (And.intro hi (And.intro hz0 (And.intro hz1 hz2)))
  clear hi hz0 hz1 hz2
  obtain ⟨i1, hi, hz0, hz1, hz2⟩ := info_parts infoErr
  have HJ := Lib.hid (And.intro hi (And.intro hz0 (And.intro hz1 hz2)))
  clear hi hz0 hz1 hz2
  have HL := Lib.hid hl
  have TLG := Lib.hid (tooLong (str t) a l.length cap w (by rw [size_str]; exact ht) h80)
  have ST := Lib.hid (PlR.start (w := w) ht 54)
  obtain ⟨n, hn⟩ : ∃ n, n = l.length := ⟨_, rfl⟩
  rw [← hn] at TLG h80 ⊢
  have HN := Lib.hid hn
  have HT := Lib.hid ht
  obtain ⟨T, hT⟩ : ∃ T, T = str t := ⟨_, rfl⟩
  rw [← hT] at TLG ST ⊢
  clear hl hn ht hT
  go_enter Try.func9, Try.ntmps9
  go_wp2_with fail
  refine TLG.out.mono ?_
  rintro e w1 ⟨rfl, rfl⟩
  clear TLG
  go_wp2_with fail
  go_loopw [4, 5, 17] (fun tv cv i wr => ∃ k : Nat, k ≤ n ∧ i = .int .i64 (k : Int) ∧ PlA w.heap.size ((TL.start t).run (l.take k)) k (((TL.start t).texts (l.take k)).map strV) (((TL.start t).codes (l.take k)).map intV) w tv cv wr) (fun _ _ i _ => n - (intOf i).toNat)
  case atStart => exact ⟨0, by omega, rfl, _, ST.out⟩
  case round =>
    obtain ⟨k, hk, rfl, hpl⟩ := hrel
    have HPL := Lib.hid hpl
    clear hpl
    by_cases hlt : k < n
    · obtain ⟨d, hd⟩ : ∃ d, l[k]? = some d := ⟨l[k]'(by rw [← HN.out]; exact hlt), by simp⟩
      have HD := Lib.hid hd
      have eok := hok d (List.mem_of_getElem? hd)
      obtain ⟨F, hF⟩ := HPL.out
      obtain ⟨g, off, rfl, hg, c0, c1, c2, c3⟩ := DdsAt.get (HL.out.next hF.bel) hd
      have NT := Lib.hid (TL.texts_next (TL.start t) hd)
      have NC := Lib.hid (TL.codes_next (TL.start t) hd)
      have NR := Lib.hid (TL.run_next (TL.start t) hd)
      have P1 := Lib.hid (hF.next (balloc (Below.refl _ _) (.cells d.cs.toArray 45)))
      have EX := Lib.hid (execute _ _ _ _ d _ P1.out.h (by omega) eok)
      simp only [DeedM.cs] at P1 EX
      clear hd eok hF HPL
      generalize ((TL.start t).run (l.take k)).step d = sd at *
      obtain ⟨s', c'⟩ := sd
      dsimp only at *
      generalize (TL.start t).run (l.take k) = s at *
      obtain ⟨knd, ae, ce, pe⟩ := d
      dsimp only at *
      go_wp2_with fail
      refine EX.out.mono ?_
      rintro x w1 ⟨rfl, h1, h2⟩
      have P2 := Lib.hid ((P1.out.exec (x := .returned (.int .i64 c')) ⟨rfl, h1, h2⟩).next (balloc (Below.refl _ _) (.cells #[.int .i64 c'] 25)))
      clear h1 h2 EX P1 c0 c1 c2 c3
      generalize grow F _ w1 = F1 at *
      go_wp2_with (first | (at_builtin; refine wpList_append_rx _ rfl _ _ 24 rfl 25 i1 _ 1 8 Try.underlying24 HJ.out.1 HJ.out.2.1 HJ.out.2.2.1 HJ.out.2.2.2 rfl (by decide) u5 k _ rfl P2.out.c ⟨w1.heap.size, 0, none⟩ 1 [.int .i64 c'] rfl rfl (cells_six_new w1 [.int .i64 c'] _) (by simp [Value.oneCell']) (by unfold maxLen; omega) (by omega) ?_; intro a2 cap2 w2 hown2 hgrow2 hat2; have P3 := Lib.hid (P2.out.code hown2 hgrow2 hat2); clear hown2 hgrow2 hat2; obtain ⟨kl, d0⟩ := P3.out.h.box; have P4 := Lib.hid (P3.out.next (balloc (Below.refl _ _) (.cells #[.string (str s'.now)] 9)))) | (at_builtin; refine wpList_append_rx _ rfl _ _ 23 rfl 9 i0 _ 1 16 Try.underlying23 HI.out.1 HI.out.2.1 HI.out.2.2.1 HI.out.2.2.2 rfl (by decide) u4 k _ rfl P4.out.t ⟨w2.heap.size, 0, none⟩ 1 [.string (str s'.now)] rfl rfl (cells_six_new w2 [.string (str s'.now)] _) (by simp [Value.oneCell']) (by unfold maxLen; omega) (by omega) ?_; intro a3 cap3 w3 hown3 hgrow3 hat3; have P5 := Lib.hid (P4.out.text hown3 hgrow3 hat3); clear hown3 hgrow3 hat3))
      go_roundw
      case rel => exact ⟨k + 1, by omega, by go_num, F1, by
        rw [NT.out, NC.out, NR.out, List.map_append, List.map_append]
        exact P5.out⟩
      case measure => simp [intOf]; omega
    · obtain rfl : k = n := by omega
      obtain ⟨F, hF⟩ := HPL.out
      have e1 : l.take k = l := by rw [HN.out]; exact List.take_length
      rw [e1] at hF
      have FIN := Lib.hid (show PlPost t l w (.returned (.tuple #[u4, u5, .int .i64 0])) wr from ⟨u4, u5, rfl, Row.of_rx hF.t, Row.of_rx hF.c, hF.bel⟩)
      clear hF HPL e1
      go_wp2_with fail
      exact bodyPost_ret (v := .tuple #[u4, u5, .int .i64 0]) (by simp [results, Try.results9, go_sem]) rfl FIN.out

end Go.Proofs.Ytkeacipjjoeieaa.HistC
