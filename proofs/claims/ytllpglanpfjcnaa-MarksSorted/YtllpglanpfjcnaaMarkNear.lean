/-
  Package marks: Near.
-/
import Derived.Test.YtllpglanpfjcnaaMarkSort
import Derived.Test.YtllpglanpfjcnaaMarkMath
namespace Go.Proofs.Ytllpglanpfjcnaa.MarkC
open Go.RowKit Kit EditM MarkM SortM SortC

def atOf (ms : List MkM) (i : Nat) : Int := (mk ms i).at_
/-- what a mark must be to be asked for -/
def fits (right : Bool) (at_ x : Int) : Prop := if right then at_ ≤ x else x ≤ at_
def closer (right : Bool) (x y : Int) : Prop := if right then x < y else y < x
/-- r is the closest one, the first one of several -/
structure NearIs (f : Nat → Int) (n : Nat) (at_ : Int) (right : Bool) (r : Nat) : Prop where
  lt : r < n
  ok : fits right at_ (f r)
  best : ∀ i, i < n → fits right at_ (f i) → closer right (f r) (f i) ∨ (f r = f i ∧ r ≤ i)
def IsAns (f : Nat → Int) (n : Nat) (at_ : Int) (right : Bool) (x e : Int) : Prop := (∃ r, NearIs f n at_ right r ∧ x = (r : Int) ∧ e = 0) ∨ ((∀ i, i < n → ¬ fits right at_ (f i)) ∧ x = 0 ∧ e = 7)
theorem ans_one {f : Nat → Int} {n : Nat} {at_ : Int} {right : Bool} {x e y g : Int} (h1 : IsAns f n at_ right x e) (h2 : IsAns f n at_ right y g) : x = y ∧ e = g := by
  rcases h1 with ⟨r, h1, rfl, rfl⟩ | ⟨h1, rfl, rfl⟩ <;> rcases h2 with ⟨s, h2, rfl, rfl⟩ | ⟨h2, rfl, rfl⟩
  · have a := h1.best s h2.lt h2.ok
    have b := h2.best r h1.lt h1.ok
    unfold closer at a b
    cases right <;> simp at a b <;> omega
  · exact absurd h1.ok (h2 r h1.lt)
  · exact absurd h2.ok (h1 s h2.lt)
  · exact ⟨rfl, rfl⟩
section
variable {f : Nat → Int} {n : Nat} {d : Nat → Nat}
theorem srt_le (hs : Srt (ltK f) 0 n d) {p q : Nat} (h : p ≤ q) (hq : q < n) : f (d p) ≤ f (d q) := by
  by_cases e : p = q
  · subst e; exact Int.le_refl _
  · have := hs p q (Nat.zero_le _) (by omega) hq
    unfold ltK at this; omega
theorem near_right {at_ : Int} {i : Nat} (hm : Moved 0 n (fun i => i) d) (hs : Srt (ltK f) 0 n d) (hi : i ≤ n) (h1 : 0 < i → ¬ at_ ≤ f (d (i - 1))) (h2 : i < n → at_ ≤ f (d i)) :
    (i = n → IsAns f n at_ true 0 7) ∧ (i < n → IsAns f n at_ true (d i : Int) 0) := by
  refine ⟨fun e => .inr ⟨fun x hx hv => ?_, rfl, rfl⟩, fun e => .inl ⟨d i, ⟨hm.rng i e, h2 e, fun x hx hv => ?_⟩, rfl, rfl⟩⟩
  · obtain ⟨p, hp, rfl⟩ := hm.sur x hx
    have a := srt_le hs (p := p) (q := i - 1) (by omega) (by omega)
    have b := h1 (by omega)
    simp only [fits, if_true] at hv
    omega
  · obtain ⟨p, hp, rfl⟩ := hm.sur x hx
    simp only [fits, if_true] at hv
    simp only [closer, if_true]
    by_cases c : p < i
    · have a := srt_le hs (p := p) (q := i - 1) (by omega) (by omega)
      have b := h1 (by omega)
      omega
    · by_cases c2 : p = i
      · subst c2; exact .inr ⟨rfl, Nat.le_refl _⟩
      · have := hs i p (Nat.zero_le _) (by omega) hp
        unfold ltK at this; omega
theorem near_left0 {at_ : Int} (hm : Moved 0 n (fun i => i) d) (hs : Srt (ltK f) 0 n d) (h2 : 0 < n → at_ < f (d 0)) : IsAns f n at_ false 0 7 := by
  refine .inr ⟨fun x hx hv => ?_, rfl, rfl⟩
  obtain ⟨p, hp, rfl⟩ := hm.sur x hx
  have a := srt_le hs (p := 0) (q := p) (by omega) hp
  have b := h2 (by omega)
  simp [fits] at hv
  omega
theorem near_left {at_ : Int} {j i : Nat} (hm : Moved 0 n (fun i => i) d) (hs : Srt (ltK f) 0 n d) (hj : j < n) (h1 : ¬ at_ < f (d j)) (h2 : j + 1 < n → at_ < f (d (j + 1))) (hi : i ≤ n) (h3 : 0 < i → ¬ f (d j) ≤ f (d (i - 1))) (h4 : i < n → f (d j) ≤ f (d i)) :
    i < n ∧ IsAns f n at_ false (d i : Int) 0 := by
  have hij : i ≤ j := by
    rcases Nat.lt_or_ge j i with c | c
    · exact absurd (srt_le hs (p := j) (q := i - 1) (by omega) (by omega)) (h3 (by omega))
    · exact c
  have e1 := srt_le hs hij hj
  have e2 := h4 (by omega)
  refine ⟨by omega, .inl ⟨d i, ⟨hm.rng i (by omega), by simp [fits]; omega, fun x hx hv => ?_⟩, rfl, rfl⟩⟩
  obtain ⟨p, hp, rfl⟩ := hm.sur x hx
  simp [fits] at hv
  simp only [closer, Bool.false_eq_true, if_false]
  by_cases c : j < p
  · have a := srt_le hs (p := j + 1) (q := p) (by omega) hp
    have b := h2 (by omega)
    omega
  · have a := srt_le hs (p := p) (q := j) (by omega) hj
    by_cases c2 : p < i
    · have a2 := srt_le hs (p := p) (q := i - 1) (by omega) (by omega)
      have b := h3 (by omega)
      omega
    · by_cases c3 : p = i
      · subst c3; exact .inr ⟨rfl, Nat.le_refl _⟩
      · have := hs i p (Nat.zero_le _) (by omega) hp
        unfold ltK at this; omega
end

set_option maxHeartbeats 400000 in
theorem near3 (x a : Int) (b : Nat) (w : World) (cb : w.cell? ⟨b, 0, none⟩ = some (.int .i64 a)) :
    Calls Try.prog 38 #[.int .i64 x, .pointer (some ⟨b, 0, none⟩)] w fun e w' => e = .returned (.bool (decide (a < x))) ∧ w = w' := by
  go_enter Try.func38, Try.ntmps38
  go_wp2
  go_ret
  exact ⟨rfl, rfl⟩
set_option maxHeartbeats 400000 in
theorem near4 (x a : Int) (b : Nat) (w : World) (cb : w.cell? ⟨b, 0, none⟩ = some (.int .i64 a)) :
    Calls Try.prog 39 #[.int .i64 x, .pointer (some ⟨b, 0, none⟩)] w fun e w' => e = .returned (.bool (decide (a ≤ x))) ∧ w = w' := by
  go_enter Try.func39, Try.ntmps39
  go_wp2
  go_ret
  exact ⟨by first | rfl | simp [go_sem], rfl⟩

/-- what is asked of the test that is searched by -/
def SrchOk (p1 p2 p3 : Value) (P : Nat → Bool) (n : Nat) (w : World) : Prop :=
  ∀ W, Below w.heap.size w W → ∀ k : Nat, k < n → Calls Try.prog 37 #[.int .i64 (k : Int), p1, p2, p3] W fun e w' => e = .returned (.bool (P k)) ∧ Below W.heap.size W w'
def SrchPost (P : Nat → Bool) (n : Nat) (w : World) (e : Ending) (w' : World) : Prop := ∃ i : Nat, e = .returned (.int .i64 (i : Int)) ∧ i ≤ n ∧ (0 < i → P (i - 1) = false) ∧ (i < n → P i = true) ∧ Below w.heap.size w w'
def SrchI (P : Nat → Bool) (n i j : Nat) : Prop := (0 < i → P (i - 1) = false) ∧ (j < n → P j = true)
set_option maxHeartbeats 2000000 in
theorem search (n : Nat) (p1 p2 p3 : Value) (P : Nat → Bool) (w : World) (hn : n ≤ 1000000) (h : SrchOk p1 p2 p3 P n w) :
    Calls Try.prog 36 #[.int .i64 (n : Int), .func (.func 37) #[] #[p1, p2, p3]] w (SrchPost P n w) := by
  have H := Lib.hid h
  clear h
  go_enter Try.func36, Try.ntmps36
  go_wp2_with fail
  go_loopw [5, 6] (fun vi vj wr => ∃ i j : Nat, vi = .int .i64 (i : Int) ∧ vj = .int .i64 (j : Int) ∧ i ≤ j ∧ j ≤ n ∧ Hid (SrchI P n i j ∧ Below w.heap.size w wr)) (fun vi vj _ => (intOf vj).toNat - (intOf vi).toNat)
  case atStart => exact ⟨0, n, rfl, rfl, by omega, by omega, Lib.hid ⟨⟨fun h => by omega, fun h => by omega⟩, Below.refl _ _⟩⟩
  case round =>
    obtain ⟨i, j, rfl, rfl, hij, hjn, HK⟩ := hrel
    by_cases hlt : i < j
    · obtain ⟨hh, hhe⟩ : ∃ hh, hh = (i + j) / 2 := ⟨_, rfl⟩
      have ez : ((i : Int) + (j : Int)) / 2 = (hh : Int) := by omega
      have q1 : i ≤ hh := by omega
      have q2 : hh < j := by omega
      clear hhe
      have C := Lib.hid (H.out wr HK.out.2 hh (by omega))
      cases hp : P hh
      · have HN : Hid (SrchI P n (hh + 1) j) := Lib.hid ⟨fun _ => hp, HK.out.1.2⟩
        rw [hp] at C
        clear hp
        go_wp2_with fail
        refine C.out.mono ?_
        rintro e w1 ⟨rfl, hb⟩
        have B := Lib.hid (bstep HK.out.2 hb)
        clear hb C HK
        go_wp2_with fail
        go_roundw
        case rel => exact ⟨hh + 1, j, by go_num, rfl, by omega, by omega, Lib.hid ⟨HN.out, B.out⟩⟩
        case measure => simp [intOf]; omega
      · have HN : Hid (SrchI P n i hh) := Lib.hid ⟨HK.out.1.1, fun _ => hp⟩
        rw [hp] at C
        clear hp
        go_wp2_with fail
        refine C.out.mono ?_
        rintro e w1 ⟨rfl, hb⟩
        have B := Lib.hid (bstep HK.out.2 hb)
        clear hb C HK
        go_wp2_with fail
        go_roundw
        case rel => exact ⟨i, hh, rfl, rfl, by omega, by omega, Lib.hid ⟨HN.out, B.out⟩⟩
        case measure => simp [intOf]; omega
    · obtain rfl : j = i := by omega
      go_wp2_with fail
      go_ret
      exact ⟨j, rfl, hjn, HK.out.1.1, HK.out.1.2, HK.out.2⟩

/-- the world in which Near searches: the boxes of the marks, of the offset, of the places -/
structure NW (ms : List MkM) (al : Option Addr) (cap n : Nat) (d : Nat → Nat) (blk q b r : Nat) (a : Int) (W : World) : Prop where
  len : ms.length = n
  hq : q < W.heap.size
  hb : b < W.heap.size
  hr : r < W.heap.size
  cq : W.cell? ⟨q, 0, none⟩ = some (.slice al n cap)
  cb : W.cell? ⟨b, 0, none⟩ = some (.int .i64 a)
  fb : W.frozen? ⟨b, 0, none⟩ = false
  cr : W.cell? ⟨r, 0, none⟩ = some (.slice (some ⟨blk, 0, none⟩) n n)
  hm : MksAt W al ms
  hblk : blk < W.heap.size
  row : ∀ i, i < n → W.cell? ⟨blk, i, none⟩ = some (.int .i64 (d i : Int))
  rng : ∀ i, i < n → d i < n
  gb : ∀ g off, al = some ⟨g, off, none⟩ → 0 < n → g ≠ b
  qb : q ≠ b
  rb : r ≠ b
  bb : blk ≠ b
section
variable {ms : List MkM} {al : Option Addr} {cap n : Nat} {d : Nat → Nat} {blk q b r : Nat} {a : Int} {W W' : World}
theorem NW.next (h : NW ms al cap n d blk q b r a W) (hW : Below W.heap.size W W') : NW ms al cap n d blk q b r a W' :=
  ⟨h.len, Nat.lt_of_lt_of_le h.hq hW.size, Nat.lt_of_lt_of_le h.hb hW.size, Nat.lt_of_lt_of_le h.hr hW.size, keep hW h.hq h.cq, keep hW h.hb h.cb, (hW.frozen (p := ⟨b, 0, none⟩) h.hb).trans h.fb, keep hW h.hr h.cr, h.hm.next hW, Nat.lt_of_lt_of_le h.hblk hW.size, fun i hi => keep hW h.hblk (h.row i hi), h.rng, h.gb, h.qb, h.rb, h.bb⟩
theorem NW.set (h : NW ms al cap n d blk q b r a W) (a' : Int) : NW ms al cap n d blk q b r a' (W.setCell ⟨b, 0, none⟩ (.int .i64 a')) := by
  refine ⟨h.len, by rw [setZ]; exact h.hq, by rw [setZ]; exact h.hb, by rw [setZ]; exact h.hr, (setO (.inl h.qb) _).trans h.cq, setS h.cb _, by rw [World.frozen?_setCell]; exact h.fb, (setO (.inl h.rb) _).trans h.cr, ⟨fun i o hi => ?_⟩, by rw [setZ]; exact h.hblk, fun i hi => (setO (.inl h.bb) _).trans (h.row i hi), h.rng, h.gb, h.qb, h.rb, h.bb⟩
  obtain ⟨g, off, e, hg, hc⟩ := h.hm.cell i o hi
  have hil := (List.getElem?_eq_some_iff.1 hi).1
  exact ⟨g, off, e, by rw [setZ]; exact hg, fun j hj => (setO (.inl (h.gb g off e (by have := h.len; omega))) _).trans (hc j hj)⟩
end
/-- what the test loads -/
def SN (w : World) (p q r b blk g i j : Nat) (f s v a x m : Value) (W : World) : Prop :=
  Below w.heap.size w W ∧ (p < W.heap.size ∧ q < W.heap.size ∧ r < W.heap.size ∧ b < W.heap.size ∧ blk < W.heap.size ∧ g < W.heap.size) ∧ W.cell? ⟨p, 0, none⟩ = some f ∧ W.cell? ⟨q, 0, none⟩ = some s ∧ W.cell? ⟨r, 0, none⟩ = some v ∧ W.cell? ⟨b, 0, none⟩ = some a ∧ W.cell? ⟨blk, i, none⟩ = some x ∧ W.cell? ⟨g, j, none⟩ = some m
theorem SN.next {w W W' : World} {p q r b blk g i j : Nat} {f s v a x m : Value} (h : SN w p q r b blk g i j f s v a x m W) (hb : Below W.heap.size W W') : SN w p q r b blk g i j f s v a x m W' := by
  obtain ⟨h1, ⟨h2, h3, h4, h5, h6, h7⟩, k1, k2, k3, k4, k5, k6⟩ := h
  exact ⟨bstep h1 hb, ⟨Nat.lt_of_lt_of_le h2 hb.size, Nat.lt_of_lt_of_le h3 hb.size, Nat.lt_of_lt_of_le h4 hb.size, Nat.lt_of_lt_of_le h5 hb.size, Nat.lt_of_lt_of_le h6 hb.size, Nat.lt_of_lt_of_le h7 hb.size⟩, keep hb h2 k1, keep hb h3 k2, keep hb h4 k3, keep hb h5 k4, keep hb h6 k5, keep hb h7 k6⟩
theorem SN.drew {w W : World} {p q r b blk g i j : Nat} {f s v a x m : Value} (h : SN w p q r b blk g i j f s v a x m W) : SN w p q r b blk g i j f s v a x m W.drew := h.next ((Below.refl _ _).drew)

set_option maxRecDepth 100000 in
set_option maxHeartbeats 4000000 in
theorem test3 (ms : List MkM) (al : Option Addr) (cap n : Nat) (d : Nat → Nat) (blk q b r : Nat) (a : Int) (p k : Nat) (w : World) (h : NW ms al cap n d blk q b r a w) (hp : p < w.heap.size) (cp : w.cell? ⟨p, 0, none⟩ = some (.func (.func 38) #[] #[.pointer (some ⟨b, 0, none⟩)])) (hk : k < n) :
    Calls Try.prog 37 #[.int .i64 (k : Int), .pointer (some ⟨p, 0, none⟩), .pointer (some ⟨q, 0, none⟩), .pointer (some ⟨r, 0, none⟩)] w fun e w' => e = .returned (.bool (decide (a < atOf ms (d k)))) ∧ Below w.heap.size w w' := by
  have hdk := h.rng k hk
  obtain ⟨g, off, rfl, hg, c0, _⟩ := MksAt.get h.hm (mk_get (i := d k) (by rw [h.len]; exact hdk))
  have T0 : Hid (SN w p q r b blk g k (off + d k * 2) (.func (.func 38) #[] #[.pointer (some ⟨b, 0, none⟩)]) (.slice (some ⟨g, off, none⟩) n cap) (.slice (some ⟨blk, 0, none⟩) n n) (.int .i64 a) (.int .i64 (d k : Int)) (.int .i64 (mk ms (d k)).at_) w) := Lib.hid ⟨Below.refl _ _, ⟨hp, h.hq, h.hr, h.hb, h.hblk, hg⟩, cp, h.cq, h.cr, h.cb, h.row k hk, c0⟩
  have C := Lib.hid (fun W (hW : W.cell? ⟨b, 0, none⟩ = some (.int .i64 a)) => near3 (mk ms (d k)).at_ a b W hW)
  have E : Hid (atOf ms (d k) = (mk ms (d k)).at_) := Lib.hid rfl
  rw [E.out]
  generalize (mk ms (d k)).at_ = x at *
  generalize d k = y at *
  have i1 : (k : Int) < (n : Int) := by omega
  have i2 : (0 : Int) ≤ (k : Int) := by omega
  have i3 : (y : Int) < (n : Int) := by omega
  have i4 : (0 : Int) ≤ (y : Int) := by omega
  clear h hp cp c0 hg E hk hdk
  generalize decide (a < x) = v at *
  go_enter Try.func37, Try.ntmps37
  go_wp2_with fail
  go_region_held3 (fun W => Below w.heap.size w W ∧ (p < W.heap.size ∧ q < W.heap.size ∧ r < W.heap.size ∧ b < W.heap.size ∧ blk < W.heap.size ∧ g < W.heap.size) ∧ W.cell? ⟨p, 0, none⟩ = some (.func (.func 38) #[] #[.pointer (some ⟨b, 0, none⟩)]) ∧ W.cell? ⟨q, 0, none⟩ = some (.slice (some ⟨g, off, none⟩) n cap) ∧ W.cell? ⟨r, 0, none⟩ = some (.slice (some ⟨blk, 0, none⟩) n n) ∧ W.cell? ⟨b, 0, none⟩ = some (.int .i64 a) ∧ W.cell? ⟨blk, k, none⟩ = some (.int .i64 (y : Int)) ∧ W.cell? ⟨g, off + y * 2, none⟩ = some (.int .i64 x))
    (first | exact T0.out.drew | exact SN.next (by assumption) (by assumption))
    (first | (go_at_call 38; refine (C.out _ T0.out.drew.2.2.2.2.2.1).mono ?_; rintro e wz ⟨rfl, rfl⟩))
  rename_i hH
  have B1 := Lib.hid hH.1
  clear hH
  go_wp2_with fail
  go_ret
  exact ⟨rfl, B1.out⟩

set_option maxRecDepth 100000 in
set_option maxHeartbeats 2000000 in
theorem first3 (ms : List MkM) (al : Option Addr) (cap n : Nat) (d : Nat → Nat) (blk q b r : Nat) (a : Int) (w : World) (h : NW ms al cap n d blk q b r a w) (hn : n ≤ 60) :
    Calls Try.prog 35 #[.func (.func 38) #[] #[.pointer (some ⟨b, 0, none⟩)], .pointer (some ⟨r, 0, none⟩), .pointer (some ⟨q, 0, none⟩)] w (SrchPost (fun k => decide (a < atOf ms (d k))) n w) := by
  have cr := h.cr
  have hr := h.hr
  have W1 := h.next (balloc (Below.refl _ _) (.cells #[.func (.func 38) #[] #[.pointer (some ⟨b, 0, none⟩)]] 62))
  have C := Lib.hid (search n (.pointer (some ⟨w.heap.size, 0, none⟩)) (.pointer (some ⟨q, 0, none⟩)) (.pointer (some ⟨r, 0, none⟩)) (fun k => decide (a < atOf ms (d k))) (w.alloc (.cells #[.func (.func 38) #[] #[.pointer (some ⟨b, 0, none⟩)]] 62)) (by omega) (fun W hW k hk => test3 ms al cap n d blk q b r a w.heap.size k W (W1.next hW) (Nat.lt_of_lt_of_le (by simp) hW.size) (keep hW (by simp) (by simp)) hk))
  clear W1 h
  generalize (fun k => decide (a < atOf ms (d k))) = P at *
  go_enter Try.func35, Try.ntmps35
  go_wp2_with fail
  refine C.out.mono ?_
  rintro e w1 ⟨i, rfl, h1, h2, h3, h4⟩
  have FIN : Hid (SrchPost P n w (.returned (.int .i64 (i : Int))) w1) := Lib.hid ⟨i, rfl, h1, h2, h3, bstep (balloc (Below.refl _ _) _) h4⟩
  clear h1 h2 h3 h4 C
  go_wp2_with fail
  go_ret
  exact FIN.out

set_option maxRecDepth 100000 in
set_option maxHeartbeats 4000000 in
theorem test4 (ms : List MkM) (al : Option Addr) (cap n : Nat) (d : Nat → Nat) (blk q b r : Nat) (a : Int) (p k : Nat) (w : World) (h : NW ms al cap n d blk q b r a w) (hp : p < w.heap.size) (cp : w.cell? ⟨p, 0, none⟩ = some (.func (.func 39) #[] #[.pointer (some ⟨b, 0, none⟩)])) (hk : k < n) :
    Calls Try.prog 37 #[.int .i64 (k : Int), .pointer (some ⟨p, 0, none⟩), .pointer (some ⟨q, 0, none⟩), .pointer (some ⟨r, 0, none⟩)] w fun e w' => e = .returned (.bool (decide (a ≤ atOf ms (d k)))) ∧ Below w.heap.size w w' := by
  have hdk := h.rng k hk
  obtain ⟨g, off, rfl, hg, c0, _⟩ := MksAt.get h.hm (mk_get (i := d k) (by rw [h.len]; exact hdk))
  have T0 : Hid (SN w p q r b blk g k (off + d k * 2) (.func (.func 39) #[] #[.pointer (some ⟨b, 0, none⟩)]) (.slice (some ⟨g, off, none⟩) n cap) (.slice (some ⟨blk, 0, none⟩) n n) (.int .i64 a) (.int .i64 (d k : Int)) (.int .i64 (mk ms (d k)).at_) w) := Lib.hid ⟨Below.refl _ _, ⟨hp, h.hq, h.hr, h.hb, h.hblk, hg⟩, cp, h.cq, h.cr, h.cb, h.row k hk, c0⟩
  have C := Lib.hid (fun W (hW : W.cell? ⟨b, 0, none⟩ = some (.int .i64 a)) => near4 (mk ms (d k)).at_ a b W hW)
  have E : Hid (atOf ms (d k) = (mk ms (d k)).at_) := Lib.hid rfl
  rw [E.out]
  generalize (mk ms (d k)).at_ = x at *
  generalize d k = y at *
  have i1 : (k : Int) < (n : Int) := by omega
  have i2 : (0 : Int) ≤ (k : Int) := by omega
  have i3 : (y : Int) < (n : Int) := by omega
  have i4 : (0 : Int) ≤ (y : Int) := by omega
  clear h hp cp c0 hg E hk hdk
  generalize decide (a ≤ x) = v at *
  go_enter Try.func37, Try.ntmps37
  go_wp2_with fail
  go_region_held3 (fun W => Below w.heap.size w W ∧ (p < W.heap.size ∧ q < W.heap.size ∧ r < W.heap.size ∧ b < W.heap.size ∧ blk < W.heap.size ∧ g < W.heap.size) ∧ W.cell? ⟨p, 0, none⟩ = some (.func (.func 39) #[] #[.pointer (some ⟨b, 0, none⟩)]) ∧ W.cell? ⟨q, 0, none⟩ = some (.slice (some ⟨g, off, none⟩) n cap) ∧ W.cell? ⟨r, 0, none⟩ = some (.slice (some ⟨blk, 0, none⟩) n n) ∧ W.cell? ⟨b, 0, none⟩ = some (.int .i64 a) ∧ W.cell? ⟨blk, k, none⟩ = some (.int .i64 (y : Int)) ∧ W.cell? ⟨g, off + y * 2, none⟩ = some (.int .i64 x))
    (first | exact T0.out.drew | exact SN.next (by assumption) (by assumption))
    (first | (go_at_call 39; refine (C.out _ T0.out.drew.2.2.2.2.2.1).mono ?_; rintro e wz ⟨rfl, rfl⟩))
  rename_i hH
  have B1 := Lib.hid hH.1
  clear hH
  go_wp2_with fail
  go_ret
  exact ⟨rfl, B1.out⟩

set_option maxRecDepth 100000 in
set_option maxHeartbeats 2000000 in
theorem first4 (ms : List MkM) (al : Option Addr) (cap n : Nat) (d : Nat → Nat) (blk q b r : Nat) (a : Int) (w : World) (h : NW ms al cap n d blk q b r a w) (hn : n ≤ 60) :
    Calls Try.prog 35 #[.func (.func 39) #[] #[.pointer (some ⟨b, 0, none⟩)], .pointer (some ⟨r, 0, none⟩), .pointer (some ⟨q, 0, none⟩)] w (SrchPost (fun k => decide (a ≤ atOf ms (d k))) n w) := by
  have cr := h.cr
  have hr := h.hr
  have W1 := h.next (balloc (Below.refl _ _) (.cells #[.func (.func 39) #[] #[.pointer (some ⟨b, 0, none⟩)]] 62))
  have C := Lib.hid (search n (.pointer (some ⟨w.heap.size, 0, none⟩)) (.pointer (some ⟨q, 0, none⟩)) (.pointer (some ⟨r, 0, none⟩)) (fun k => decide (a ≤ atOf ms (d k))) (w.alloc (.cells #[.func (.func 39) #[] #[.pointer (some ⟨b, 0, none⟩)]] 62)) (by omega) (fun W hW k hk => test4 ms al cap n d blk q b r a w.heap.size k W (W1.next hW) (Nat.lt_of_lt_of_le (by simp) hW.size) (keep hW (by simp) (by simp)) hk))
  clear W1 h
  generalize (fun k => decide (a ≤ atOf ms (d k))) = P at *
  go_enter Try.func35, Try.ntmps35
  go_wp2_with fail
  refine C.out.mono ?_
  rintro e w1 ⟨i, rfl, h1, h2, h3, h4⟩
  have FIN : Hid (SrchPost P n w (.returned (.int .i64 (i : Int))) w1) := Lib.hid ⟨i, rfl, h1, h2, h3, bstep (balloc (Below.refl _ _) _) h4⟩
  clear h1 h2 h3 h4 C
  go_wp2_with fail
  go_ret
  exact FIN.out

end Go.Proofs.Ytllpglanpfjcnaa.MarkC
