/-
  Package marks: sorted, and Order.
-/
import Derived.Test.YtllpglanpfjcnaaMarkCmp
import Derived.Test.YtllpglanpfjcnaaSortStable
import Derived.Laws.MakeOwn
namespace Go.Proofs.Ytllpglanpfjcnaa.MarkC
open Go.RowKit Kit EditM MarkM SortM SortC

/-- what the comparison of two places loads -/
def SX (w : World) (p q g i j : Nat) (f s x0 x1 y0 y1 : Value) (W : World) : Prop :=
  Below w.heap.size w W ∧ (p < W.heap.size ∧ q < W.heap.size ∧ g < W.heap.size) ∧ W.cell? ⟨p, 0, none⟩ = some f ∧ W.cell? ⟨q, 0, none⟩ = some s ∧ W.cell? ⟨g, i, none⟩ = some x0 ∧ W.cell? ⟨g, i + 1, none⟩ = some x1 ∧ W.cell? ⟨g, j, none⟩ = some y0 ∧ W.cell? ⟨g, j + 1, none⟩ = some y1
theorem SX.next {w W W' : World} {p q g i j : Nat} {f s x0 x1 y0 y1 : Value} (h : SX w p q g i j f s x0 x1 y0 y1 W) (hb : Below W.heap.size W W') : SX w p q g i j f s x0 x1 y0 y1 W' := by
  obtain ⟨h1, ⟨h2, h3, h4⟩, h5, h6, h7, h8, h9, h10⟩ := h
  exact ⟨bstep h1 hb, ⟨Nat.lt_of_lt_of_le h2 hb.size, Nat.lt_of_lt_of_le h3 hb.size, Nat.lt_of_lt_of_le h4 hb.size⟩, keep hb h2 h5, keep hb h3 h6, keep hb h4 h7, keep hb h4 h8, keep hb h4 h9, keep hb h4 h10⟩
theorem SX.drew {w W : World} {p q g i j : Nat} {f s x0 x1 y0 y1 : Value} (h : SX w p q g i j f s x0 x1 y0 y1 W) : SX w p q g i j f s x0 x1 y0 y1 W.drew := h.next ((Below.refl _ _).drew)
/-- the world in which two places of the marks ms are compared -/
structure CmpW (f : Nat) (ms : List MkM) (al : Option Addr) (cap p q : Nat) (W : World) : Prop where
  hp : p < W.heap.size
  hq : q < W.heap.size
  cp : W.cell? ⟨p, 0, none⟩ = some (.func (.func f) #[] #[])
  cq : W.cell? ⟨q, 0, none⟩ = some (.slice al ms.length cap)
  hm : MksAt W al ms
def key2 (m : MkM) : Int := 2 * m.at_ + (if m.right then 1 else 0)
theorem cmpI_neg (a b : Int) : cmpI a b < 0 ↔ a < b := by unfold cmpI; split <;> (try split) <;> omega
theorem cmpI_zero (a b : Int) : cmpI a b = 0 ↔ a = b := by unfold cmpI; split <;> (try split) <;> omega
theorem ordI_neg (a b : MkM) : ordI a b < 0 ↔ key2 a < key2 b := by
  obtain ⟨x, r⟩ := a
  obtain ⟨y, s⟩ := b
  unfold ordI orI key2 cmpI sides
  dsimp only
  cases r <;> cases s <;> simp <;> split <;> (try split) <;> omega
/-- the order of places by a key, and by place -/
def ltK (k : Nat → Int) (x y : Nat) : Prop := k x < k y ∨ (k x = k y ∧ x < y)
theorem ordK (k : Nat → Int) (cf : Nat → Nat → Int) (h : ∀ x y, cf x y < 0 ↔ k x < k y) : Ord cf (ltK k) := by
  refine ⟨fun x y hxy => ?_, fun x y hxy => ?_, fun x y z h1 h2 => ?_, fun x hx => ?_⟩
  · rw [h]; unfold ltK; constructor
    · exact .inl
    · rintro (h1 | h1) <;> omega
  · unfold ltK; omega
  · unfold ltK at *; omega
  · unfold ltK at hx; omega
def mk (ms : List MkM) (i : Nat) : MkM := ms.getD i ⟨0, false⟩
theorem mk_get {ms : List MkM} {i : Nat} (h : i < ms.length) : ms[i]? = some (mk ms i) := by simp [mk, List.getD, List.getElem?_eq_getElem h]
/-- what sorted answers: the places, sorted by the key -/
def SortedPost (k : Nat → Int) (n : Nat) (w : World) (e : Ending) (w' : World) : Prop := ∃ blk d, e = .returned (.slice (some ⟨blk, 0, none⟩) n n) ∧ w.heap.size ≤ blk ∧ Below w.heap.size w w' ∧ SR w' blk n d w' ∧ Moved 0 n (fun i => i) d ∧ Srt (ltK k) 0 n d
theorem SR.ext {w0 W : World} {blk n : Nat} {d d' : Nat → Nat} (h : SR w0 blk n d W) (e : ∀ i, i < n → d' i = d i) : SR w0 blk n d' W :=
  ⟨h.bel, h.lt, fun i hi => by rw [e i hi]; exact h.cell i hi, h.free, fun i hi => by rw [e i hi]; exact h.rng i hi⟩
theorem SR.set0 {w0 W : World} {blk n k : Nat} (h : SR w0 blk n (fun j => if j < k then j else 0) W) (hk : k < n) : SR w0 blk n (fun j => if j < k + 1 then j else 0) (W.setCell ⟨blk, k, none⟩ (.int .i64 (k : Int))) := by
  refine SR.ext (h.set hk k hk) fun i _ => ?_
  by_cases e : i = k
  · subst e; rw [if_pos rfl, if_pos (by omega)]
  · rw [if_neg e]
    by_cases e2 : i < k
    · rw [if_pos e2, if_pos (by omega)]
    · rw [if_neg e2, if_neg (by omega)]
theorem SR.made {w0 W : World} {base n e blk : Nat} {cap : Nat} (hb : Below blk w0 W) (h : W.ownsRow base e 1 (.slice (some ⟨blk, 0, none⟩) n cap) n (madeCells (Value.int .i64 0).cells (n * 1)).toList) : SR w0 blk n (fun j => if j < 0 then j else 0) W := by
  refine ⟨hb, (h.lt blk rfl).2, fun i hi => ?_, fun i hi => h.frozenAt i, fun i hi => by simp; omega⟩
  rw [h.cellAt i (by omega)]
  simp [madeCells, Value.cells, hi, Nat.mod_one]


set_option maxRecDepth 100000 in
set_option maxHeartbeats 4000000 in
theorem sortedCmp_order (ms : List MkM) (al : Option Addr) (cap p q x y : Nat) (w : World) (h : CmpW 30 ms al cap p q w) (hx : x < ms.length) (hy : y < ms.length) :
    Calls Try.prog 48 #[.int .i64 (x : Int), .int .i64 (y : Int), .pointer (some ⟨p, 0, none⟩), .pointer (some ⟨q, 0, none⟩)] w fun e w' => e = .returned (.int .i64 (ordI (mk ms x) (mk ms y))) ∧ Below w.heap.size w w' := by
  obtain ⟨g, off, rfl, hg, c0, c1⟩ := MksAt.get h.hm (mk_get hx)
  obtain ⟨g', off', eg, _, c2, c3⟩ := MksAt.get h.hm (mk_get hy)
  simp only [Option.some.injEq, Addr.mk.injEq, and_true] at eg
  obtain ⟨rfl, rfl⟩ := eg
  have C := Lib.hid (fun W => orderCmp (mk ms x) (mk ms y) W)
  have i1 : (x : Int) < (ms.length : Int) := by omega
  have i2 : (y : Int) < (ms.length : Int) := by omega
  have i3 : (0 : Int) ≤ (x : Int) := by omega
  have i4 : (0 : Int) ≤ (y : Int) := by omega
  generalize mk ms x = a at *
  generalize mk ms y = b at *
  have T0 : Hid (SX w p q g (off + x * 2) (off + y * 2) (.func (.func 30) #[] #[]) (.slice (some ⟨g, off, none⟩) ms.length cap) (.int .i64 a.at_) (.bool a.right) (.int .i64 b.at_) (.bool b.right) w) := Lib.hid ⟨Below.refl _ _, ⟨h.hp, h.hq, hg⟩, h.cp, h.cq, c0, c1, c2, c3⟩
  clear h c0 c1 c2 c3 hg hx hy
  generalize ms.length = n at *
  generalize ordI a b = v at *
  go_enter Try.func48, Try.ntmps48
  go_wp2_with fail
  go_region_held3 (fun W => Below w.heap.size w W ∧ (p < W.heap.size ∧ q < W.heap.size ∧ g < W.heap.size) ∧ W.cell? ⟨p, 0, none⟩ = some (.func (.func 30) #[] #[]) ∧ W.cell? ⟨q, 0, none⟩ = some (.slice (some ⟨g, off, none⟩) n cap) ∧ W.cell? ⟨g, off + x * 2, none⟩ = some (.int .i64 a.at_) ∧ W.cell? ⟨g, off + x * 2 + 1, none⟩ = some (.bool a.right) ∧ W.cell? ⟨g, off + y * 2, none⟩ = some (.int .i64 b.at_) ∧ W.cell? ⟨g, off + y * 2 + 1, none⟩ = some (.bool b.right))
    (first | exact T0.out.drew | exact SX.next (by assumption) (by assumption))
    (first | (go_at_call 30; refine (C.out _).mono ?_; rintro e wz ⟨rfl, hb⟩))
  rename_i hH
  have B1 := Lib.hid hH.1
  clear hH
  go_wp2_with fail
  go_ret
  exact ⟨rfl, B1.out⟩

set_option maxRecDepth 100000 in
set_option maxHeartbeats 4000000 in
theorem sorted_order (ms : List MkM) (al : Option Addr) (cap : Nat) (w : World) (h : MksAt w al ms) (h60 : ms.length ≤ 60) :
    Calls Try.prog 29 #[.slice al ms.length cap, .func (.func 30) #[] #[]] w (SortedPost (fun i => key2 (mk ms i)) ms.length w) := by
  have O := Lib.hid (ordK (fun i => key2 (mk ms i)) (fun x y => ordI (mk ms x) (mk ms y)) (fun x y => ordI_neg _ _))
  obtain ⟨i0, hi, hz0, hz1, hz2⟩ := info_parts infoInt
  have HI := Lib.hid (And.intro hi (And.intro hz0 (And.intro hz1 hz2)))
  clear hi hz0 hz1 hz2
  obtain ⟨n, hn⟩ : ∃ n, n = ms.length := ⟨_, rfl⟩
  have WA : Hid (∀ W, Below w.heap.size w W → w.heap.size + 1 < W.heap.size → W.cell? ⟨w.heap.size + 1, 0, none⟩ = some (.func (.func 30) #[] #[]) → W.cell? ⟨w.heap.size, 0, none⟩ = some (.slice al n cap) → CmpW 30 ms al cap (w.heap.size + 1) w.heap.size W) := Lib.hid fun W hb h1 h2 h3 => ⟨h1, by omega, h2, by rw [← hn]; exact h3, h.next hb⟩
  have CS := Lib.hid (fun W x y hW hx hy => sortedCmp_order ms al cap (w.heap.size + 1) w.heap.size x y W hW hx hy)
  have ST := Lib.hid (fun w0 blk W hs hc => sortStable O.out w0 blk n n (.pointer (some ⟨w.heap.size + 1, 0, none⟩)) (.pointer (some ⟨w.heap.size, 0, none⟩)) W hs hc (by omega))
  rw [← hn] at CS h60 ⊢
  clear hn h
  go_enter Try.func29, Try.ntmps29
  go_wp2_with (refine wpList_make_full _ rfl _ _ 30 rfl w.heap.size 3 i0 _ 1 Try.underlying30 HI.out.1 HI.out.2.1 HI.out.2.2.1 .i64 .i64 _ _ n rfl rfl rfl rfl (by rw [HI.out.2.2.2]; omega) (by unfold maxLen; omega) (by simp; omega) ?_; intro w1 hown hgrow)
  have hz : ((w.alloc (.cells #[.slice al n cap] 22)).alloc (.cells #[.func (.func 30) #[] #[]] 61)).heap.size = w.heap.size + 1 + 1 := by simp
  have B0 := grows_below hgrow
  have k1 : w1.cell? ⟨w.heap.size + 1, 0, none⟩ = some (.func (.func 30) #[] #[]) := (B0.cell (p := ⟨w.heap.size + 1, 0, none⟩) (by rw [hz]; show w.heap.size + 1 < _; omega)).trans (by simp)
  have k2 : w1.cell? ⟨w.heap.size, 0, none⟩ = some (.slice al n cap) := (B0.cell (p := ⟨w.heap.size, 0, none⟩) (by rw [hz]; show w.heap.size < _; omega)).trans (by simp)
  have B1 : Below w.heap.size w w1 := bstep (balloc (balloc (Below.refl _ _) _) _) B0
  rw [hz] at hown B0
  have S0 := Lib.hid (SR.made (Below.refl _ w1) hown)
  have K0 := Lib.hid (And.intro B1 (And.intro k1 k2))
  clear hown hgrow hz B0 k1 k2 B1
  go_loopw [12] (fun vi wr => ∃ k : Nat, k ≤ n ∧ vi = .int .i64 (k : Int) ∧ Hid (SR w1 (w.heap.size + 1 + 1) n (fun j => if j < k then j else 0) wr)) (fun vi _ => n - (intOf vi).toNat)
  case atStart => exact ⟨0, by omega, rfl, S0⟩
  case round =>
    obtain ⟨k, hk, rfl, HR⟩ := hrel
    clear S0
    by_cases hlt : k < n
    · have c1 := HR.out.cell k hlt
      have f1 := HR.out.free k hlt
      have S1 := Lib.hid (SR.set0 HR.out hlt)
      have i1 : (k : Int) < (n : Int) := by omega
      have i2 : (0 : Int) ≤ (k : Int) := by omega
      clear HR CS WA ST K0
      generalize w.heap.size + 1 + 1 = blk at *
      go_wp2_with fail
      go_roundw
      case rel => exact ⟨k + 1, by omega, by go_num, S1⟩
      case measure => simp [intOf]; omega
    · obtain rfl : k = n := by omega
      have SN : SR w1 (w.heap.size + 1 + 1) k (fun i => i) wr := SR.ext HR.out fun i hi => by rw [if_pos hi]
      have C := Lib.hid (ST.out w1 (w.heap.size + 1 + 1) wr SN (fun W hW hl x y hx hy => CS.out W x y (WA.out W (K0.out.1.trans (hW.mono (by omega))) (by omega) ((hW.cell (p := ⟨w.heap.size + 1, 0, none⟩) (by show w.heap.size + 1 < _; omega)).trans K0.out.2.1) ((hW.cell (p := ⟨w.heap.size, 0, none⟩) (by show w.heap.size < _; omega)).trans K0.out.2.2)) hx hy))
      clear SN HR CS WA ST
      go_wp2_with fail
      refine C.out.mono ?_
      rintro e w2 ⟨rfl, d, hm, hs, hr⟩
      have FIN : Hid (SortedPost (fun i => key2 (mk ms i)) k w (.returned (.slice (some ⟨w.heap.size + 1 + 1, 0, none⟩) k k)) w2) := Lib.hid ⟨w.heap.size + 1 + 1, d, rfl, by omega, K0.out.1.trans (hr.bel.mono (by omega)), ⟨Below.refl _ _, hr.lt, hr.cell, hr.free, hr.rng⟩, hm, hs⟩
      clear hm hs hr C K0
      go_wp2_with fail
      go_ret
      exact FIN.out

set_option maxRecDepth 100000 in
set_option maxHeartbeats 4000000 in
theorem sortedCmp_near (ms : List MkM) (al : Option Addr) (cap p q x y : Nat) (w : World) (h : CmpW 34 ms al cap p q w) (hx : x < ms.length) (hy : y < ms.length) :
    Calls Try.prog 48 #[.int .i64 (x : Int), .int .i64 (y : Int), .pointer (some ⟨p, 0, none⟩), .pointer (some ⟨q, 0, none⟩)] w fun e w' => e = .returned (.int .i64 (cmpI (mk ms x).at_ (mk ms y).at_)) ∧ Below w.heap.size w w' := by
  obtain ⟨g, off, rfl, hg, c0, c1⟩ := MksAt.get h.hm (mk_get hx)
  obtain ⟨g', off', eg, _, c2, c3⟩ := MksAt.get h.hm (mk_get hy)
  simp only [Option.some.injEq, Addr.mk.injEq, and_true] at eg
  obtain ⟨rfl, rfl⟩ := eg
  have C := Lib.hid (fun W => nearCmp (mk ms x) (mk ms y) W)
  have i1 : (x : Int) < (ms.length : Int) := by omega
  have i2 : (y : Int) < (ms.length : Int) := by omega
  have i3 : (0 : Int) ≤ (x : Int) := by omega
  have i4 : (0 : Int) ≤ (y : Int) := by omega
  generalize mk ms x = a at *
  generalize mk ms y = b at *
  have T0 : Hid (SX w p q g (off + x * 2) (off + y * 2) (.func (.func 34) #[] #[]) (.slice (some ⟨g, off, none⟩) ms.length cap) (.int .i64 a.at_) (.bool a.right) (.int .i64 b.at_) (.bool b.right) w) := Lib.hid ⟨Below.refl _ _, ⟨h.hp, h.hq, hg⟩, h.cp, h.cq, c0, c1, c2, c3⟩
  clear h c0 c1 c2 c3 hg hx hy
  generalize ms.length = n at *
  generalize cmpI a.at_ b.at_ = v at *
  go_enter Try.func48, Try.ntmps48
  go_wp2_with fail
  go_region_held3 (fun W => Below w.heap.size w W ∧ (p < W.heap.size ∧ q < W.heap.size ∧ g < W.heap.size) ∧ W.cell? ⟨p, 0, none⟩ = some (.func (.func 34) #[] #[]) ∧ W.cell? ⟨q, 0, none⟩ = some (.slice (some ⟨g, off, none⟩) n cap) ∧ W.cell? ⟨g, off + x * 2, none⟩ = some (.int .i64 a.at_) ∧ W.cell? ⟨g, off + x * 2 + 1, none⟩ = some (.bool a.right) ∧ W.cell? ⟨g, off + y * 2, none⟩ = some (.int .i64 b.at_) ∧ W.cell? ⟨g, off + y * 2 + 1, none⟩ = some (.bool b.right))
    (first | exact T0.out.drew | exact SX.next (by assumption) (by assumption))
    (first | (go_at_call 34; refine (C.out _).mono ?_; rintro e wz ⟨rfl, hb⟩))
  rename_i hH
  have B1 := Lib.hid hH.1
  clear hH
  go_wp2_with fail
  go_ret
  exact ⟨rfl, B1.out⟩

set_option maxRecDepth 100000 in
set_option maxHeartbeats 4000000 in
theorem sorted_near (ms : List MkM) (al : Option Addr) (cap : Nat) (w : World) (h : MksAt w al ms) (h60 : ms.length ≤ 60) :
    Calls Try.prog 29 #[.slice al ms.length cap, .func (.func 34) #[] #[]] w (SortedPost (fun i => (mk ms i).at_) ms.length w) := by
  have O := Lib.hid (ordK (fun i => (mk ms i).at_) (fun x y => cmpI (mk ms x).at_ (mk ms y).at_) (fun x y => cmpI_neg _ _))
  obtain ⟨i0, hi, hz0, hz1, hz2⟩ := info_parts infoInt
  have HI := Lib.hid (And.intro hi (And.intro hz0 (And.intro hz1 hz2)))
  clear hi hz0 hz1 hz2
  obtain ⟨n, hn⟩ : ∃ n, n = ms.length := ⟨_, rfl⟩
  have WA : Hid (∀ W, Below w.heap.size w W → w.heap.size + 1 < W.heap.size → W.cell? ⟨w.heap.size + 1, 0, none⟩ = some (.func (.func 34) #[] #[]) → W.cell? ⟨w.heap.size, 0, none⟩ = some (.slice al n cap) → CmpW 34 ms al cap (w.heap.size + 1) w.heap.size W) := Lib.hid fun W hb h1 h2 h3 => ⟨h1, by omega, h2, by rw [← hn]; exact h3, h.next hb⟩
  have CS := Lib.hid (fun W x y hW hx hy => sortedCmp_near ms al cap (w.heap.size + 1) w.heap.size x y W hW hx hy)
  have ST := Lib.hid (fun w0 blk W hs hc => sortStable O.out w0 blk n n (.pointer (some ⟨w.heap.size + 1, 0, none⟩)) (.pointer (some ⟨w.heap.size, 0, none⟩)) W hs hc (by omega))
  rw [← hn] at CS h60 ⊢
  clear hn h
  go_enter Try.func29, Try.ntmps29
  go_wp2_with (refine wpList_make_full _ rfl _ _ 30 rfl w.heap.size 3 i0 _ 1 Try.underlying30 HI.out.1 HI.out.2.1 HI.out.2.2.1 .i64 .i64 _ _ n rfl rfl rfl rfl (by rw [HI.out.2.2.2]; omega) (by unfold maxLen; omega) (by simp; omega) ?_; intro w1 hown hgrow)
  have hz : ((w.alloc (.cells #[.slice al n cap] 22)).alloc (.cells #[.func (.func 34) #[] #[]] 61)).heap.size = w.heap.size + 1 + 1 := by simp
  have B0 := grows_below hgrow
  have k1 : w1.cell? ⟨w.heap.size + 1, 0, none⟩ = some (.func (.func 34) #[] #[]) := (B0.cell (p := ⟨w.heap.size + 1, 0, none⟩) (by rw [hz]; show w.heap.size + 1 < _; omega)).trans (by simp)
  have k2 : w1.cell? ⟨w.heap.size, 0, none⟩ = some (.slice al n cap) := (B0.cell (p := ⟨w.heap.size, 0, none⟩) (by rw [hz]; show w.heap.size < _; omega)).trans (by simp)
  have B1 : Below w.heap.size w w1 := bstep (balloc (balloc (Below.refl _ _) _) _) B0
  rw [hz] at hown B0
  have S0 := Lib.hid (SR.made (Below.refl _ w1) hown)
  have K0 := Lib.hid (And.intro B1 (And.intro k1 k2))
  clear hown hgrow hz B0 k1 k2 B1
  go_loopw [12] (fun vi wr => ∃ k : Nat, k ≤ n ∧ vi = .int .i64 (k : Int) ∧ Hid (SR w1 (w.heap.size + 1 + 1) n (fun j => if j < k then j else 0) wr)) (fun vi _ => n - (intOf vi).toNat)
  case atStart => exact ⟨0, by omega, rfl, S0⟩
  case round =>
    obtain ⟨k, hk, rfl, HR⟩ := hrel
    clear S0
    by_cases hlt : k < n
    · have c1 := HR.out.cell k hlt
      have f1 := HR.out.free k hlt
      have S1 := Lib.hid (SR.set0 HR.out hlt)
      have i1 : (k : Int) < (n : Int) := by omega
      have i2 : (0 : Int) ≤ (k : Int) := by omega
      clear HR CS WA ST K0
      generalize w.heap.size + 1 + 1 = blk at *
      go_wp2_with fail
      go_roundw
      case rel => exact ⟨k + 1, by omega, by go_num, S1⟩
      case measure => simp [intOf]; omega
    · obtain rfl : k = n := by omega
      have SN : SR w1 (w.heap.size + 1 + 1) k (fun i => i) wr := SR.ext HR.out fun i hi => by rw [if_pos hi]
      have C := Lib.hid (ST.out w1 (w.heap.size + 1 + 1) wr SN (fun W hW hl x y hx hy => CS.out W x y (WA.out W (K0.out.1.trans (hW.mono (by omega))) (by omega) ((hW.cell (p := ⟨w.heap.size + 1, 0, none⟩) (by show w.heap.size + 1 < _; omega)).trans K0.out.2.1) ((hW.cell (p := ⟨w.heap.size, 0, none⟩) (by show w.heap.size < _; omega)).trans K0.out.2.2)) hx hy))
      clear SN HR CS WA ST
      go_wp2_with fail
      refine C.out.mono ?_
      rintro e w2 ⟨rfl, d, hm, hs, hr⟩
      have FIN : Hid (SortedPost (fun i => (mk ms i).at_) k w (.returned (.slice (some ⟨w.heap.size + 1 + 1, 0, none⟩) k k)) w2) := Lib.hid ⟨w.heap.size + 1 + 1, d, rfl, by omega, K0.out.1.trans (hr.bel.mono (by omega)), ⟨Below.refl _ _, hr.lt, hr.cell, hr.free, hr.rng⟩, hm, hs⟩
      clear hm hs hr C K0
      go_wp2_with fail
      go_ret
      exact FIN.out

end Go.Proofs.Ytllpglanpfjcnaa.MarkC
