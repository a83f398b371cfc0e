/-
  Package rope: what create answers.
-/
import Derived.Test.YtkckhjljindgmaaRopeLength
namespace Go.Proofs.Ytkckhjljindgmaa.RopeC
open Go.RowKit Kit RopeM

/-- what a region keeps that reads an operation and two of the ropes -/
def S6 (w : World) (k : Nat) (v2 v3 v4 v5 : Value) (g i j : Nat) (p q : Value) (w' : World) : Prop :=
  Below w.heap.size w w' ∧ (w'.cell? ⟨k, 2, none⟩ = some v2 ∧ w'.cell? ⟨k, 3, none⟩ = some v3 ∧ w'.cell? ⟨k, 4, none⟩ = some v4 ∧ w'.cell? ⟨k, 5, none⟩ = some v5) ∧ w'.cell? ⟨g, i, none⟩ = some p ∧ w'.cell? ⟨g, j, none⟩ = some q
theorem S6.start {w : World} {v0 v1 v2 v3 v4 v5 : Value} {g i j : Nat} {p q : Value} (T : TypeId) (hg : g < w.heap.size) (hi : w.cell? ⟨g, i, none⟩ = some p) (hj : w.cell? ⟨g, j, none⟩ = some q) (W : World) (hW : Below (w.alloc (.cells #[v0, v1, v2, v3, v4, v5] T)).heap.size (w.alloc (.cells #[v0, v1, v2, v3, v4, v5] T)) W) : S6 w w.heap.size v2 v3 v4 v5 g i j p q W := by
  have hb := balloc (Below.refl w.heap.size w) (.cells #[v0, v1, v2, v3, v4, v5] T)
  have h1 := bstep hb hW
  have hlt : w.heap.size < (w.alloc (.cells #[v0, v1, v2, v3, v4, v5] T)).heap.size := by simp
  exact ⟨h1, ⟨keep hW hlt (by simp), keep hW hlt (by simp), keep hW hlt (by simp), keep hW hlt (by simp)⟩, keep h1 hg hi, keep h1 hg hj⟩
theorem S6.same {w : World} {v0 v1 v2 v3 v4 v5 : Value} {g i j : Nat} {p q : Value} (T : TypeId) (hg : g < w.heap.size) (hi : w.cell? ⟨g, i, none⟩ = some p) (hj : w.cell? ⟨g, j, none⟩ = some q) : Hid (S6 w w.heap.size v2 v3 v4 v5 g i j p q (w.alloc (.cells #[v0, v1, v2, v3, v4, v5] T)).drew) :=
  Lib.hid (S6.start T hg hi hj _ ((Below.refl _ _).drew))
theorem S6.next {w : World} {k : Nat} {v2 v3 v4 v5 : Value} {g i j : Nat} {p q : Value} {w1 w2 : World} (h : S6 w k v2 v3 v4 v5 g i j p q w1) (hk : k < w1.heap.size) (hg : g < w1.heap.size) (hb : Below w1.heap.size w1 w2) : S6 w k v2 v3 v4 v5 g i j p q w2 :=
  ⟨bstep h.1 hb, ⟨keep hb hk h.2.1.1, keep hb hk h.2.1.2.1, keep hb hk h.2.1.2.2.1, keep hb hk h.2.1.2.2.2⟩, keep hb hg h.2.2.1, keep hb hg h.2.2.2⟩

set_option maxRecDepth 100000 in
set_option maxHeartbeats 2000000 in
theorem create_cat (s : ByteArray) (i j : Nat) (at_ cnt : Int) (g n cap : Nat) (t u : RT) (w : World) (hi : i < n) (hj : j < n) (hg : g < w.heap.size) (hc : w.cell? ⟨g, i, none⟩ = some (.pointer t.addr)) (hd : w.cell? ⟨g, j, none⟩ = some (.pointer u.addr)) (ht : RopeAt w t) (hu : RopeAt w u) (h1 : t.len ≤ 600) (h2 : u.len ≤ 600) :
    Calls Try.prog 52 #[.agg #[.int .i64 2, .string s, .int .i64 (i : Int), .int .i64 (j : Int), .int .i64 at_, .int .i64 cnt], .slice (some ⟨g, 0, none⟩) n cap] w fun e w' => ∃ t' : RT, e = .returned (.pointer t'.addr) ∧ RopeAt w' t' ∧ t'.txt = t.txt ++ u.txt ∧ Below w.heap.size w w' := by
  have J : Hid (∀ W : World, Below w.heap.size w W → Calls Try.prog 66 #[.pointer t.addr, .pointer u.addr] W fun e w' => ∃ t' : RT, e = .returned (.pointer t'.addr) ∧ Hid (RopeAt w' t' ∧ t'.txt = t.txt ++ u.txt ∧ Below w.heap.size w w') ∧ Below W.heap.size W w') := Lib.hid fun W hW =>
    (join t u W (ht.next hW) (hu.next hW) (by omega)).mono fun e w' ⟨t', e1, e2, e3, _, e4⟩ => ⟨t', e1, Lib.hid ⟨e2, e3, bstep hW e4⟩, e4⟩
  have hS := S6.same (v0 := .int .i64 2) (v1 := .string s) (v2 := .int .i64 (i : Int)) (v3 := .int .i64 (j : Int)) (v4 := .int .i64 at_) (v5 := .int .i64 cnt) 55 hg hc hd
  have hne := Nat.ne_of_lt hg
  generalize t.addr = ta at *
  generalize u.addr = ua at *
  clear ht hu h1 h2
  go_enter Try.func52, Try.ntmps52
  go_upto_region 3 with fail
  go_region_held3 (fun w' => Below w.heap.size w w' ∧ (w'.cell? ⟨w.heap.size, 2, none⟩ = some (.int .i64 (i : Int)) ∧ w'.cell? ⟨w.heap.size, 3, none⟩ = some (.int .i64 (j : Int)) ∧ w'.cell? ⟨w.heap.size, 4, none⟩ = some (.int .i64 at_) ∧ w'.cell? ⟨w.heap.size, 5, none⟩ = some (.int .i64 cnt)) ∧ w'.cell? ⟨g, i, none⟩ = some (.pointer ta) ∧ w'.cell? ⟨g, j, none⟩ = some (.pointer ua))
    (first | exact hS.out | exact S6.next hS.out (by simp) (by simp; omega) (by assumption))
    ((go_at_call 66; refine (J.out _ (bstep ((Below.refl _ _).alloc (Nat.le_refl _) _) (Below.refl _ _).drew)).mono ?_; rintro e w1 ⟨t', rfl, G, hb⟩))
  go_wp2_with fail
  go_ret
  exact ⟨t', rfl, G.out⟩
set_option maxRecDepth 100000 in
set_option maxHeartbeats 2000000 in
theorem create_head (s : ByteArray) (i k : Nat) (b cnt : Int) (g n cap : Nat) (t : RT) (w : World) (hi : i < n) (hg : g < w.heap.size) (hc : w.cell? ⟨g, i, none⟩ = some (.pointer t.addr)) (ht : RopeAt w t) (hk : k ≤ t.len) (h1 : t.len ≤ 600) :
    Calls Try.prog 52 #[.agg #[.int .i64 3, .string s, .int .i64 (i : Int), .int .i64 b, .int .i64 (k : Int), .int .i64 cnt], .slice (some ⟨g, 0, none⟩) n cap] w fun e w' => ∃ t' : RT, e = .returned (.pointer t'.addr) ∧ RopeAt w' t' ∧ t'.txt = t.txt.take k ∧ Below w.heap.size w w' := by
  have J : Hid (∀ W : World, Below w.heap.size w W → Calls Try.prog 67 #[.pointer t.addr, .int .i64 (k : Int)] W fun e w' => ∃ t' u' : RT, e = .returned (.tuple #[.pointer t'.addr, .pointer u'.addr]) ∧ Hid (RopeAt w' t' ∧ t'.txt = t.txt.take k ∧ Below w.heap.size w w') ∧ Below W.heap.size W w') := Lib.hid fun W hW =>
    (split t W k (ht.next hW) (by omega) hk).mono fun e w' ⟨t', u', e1, e2, e3, e4, e5, e6⟩ => ⟨t', u', e1, Lib.hid ⟨e2, e4, bstep hW e6⟩, e6⟩
  have hS := S6.same (v0 := .int .i64 3) (v1 := .string s) (v2 := .int .i64 (i : Int)) (v3 := .int .i64 b) (v4 := .int .i64 (k : Int)) (v5 := .int .i64 cnt) 55 hg hc hc
  have hne := Nat.ne_of_lt hg
  generalize t.addr = ta at *
  clear ht hk h1
  go_enter Try.func52, Try.ntmps52
  go_upto_region 5 with fail
  go_region_held3 (fun w' => Below w.heap.size w w' ∧ (w'.cell? ⟨w.heap.size, 2, none⟩ = some (.int .i64 (i : Int)) ∧ w'.cell? ⟨w.heap.size, 3, none⟩ = some (.int .i64 b) ∧ w'.cell? ⟨w.heap.size, 4, none⟩ = some (.int .i64 (k : Int)) ∧ w'.cell? ⟨w.heap.size, 5, none⟩ = some (.int .i64 cnt)) ∧ w'.cell? ⟨g, i, none⟩ = some (.pointer ta) ∧ w'.cell? ⟨g, i, none⟩ = some (.pointer ta))
    (first | exact hS.out | exact S6.next hS.out (by simp) (by simp; omega) (by assumption))
    ((go_at_call 67; refine (J.out _ (bstep ((Below.refl _ _).alloc (Nat.le_refl _) _) (Below.refl _ _).drew)).mono ?_; rintro e w1 ⟨t', u', rfl, G, hb⟩))
  go_wp2_with fail
  go_ret
  exact ⟨t', rfl, G.out⟩
set_option maxRecDepth 100000 in
set_option maxHeartbeats 2000000 in
theorem create_tail (s : ByteArray) (i k : Nat) (b cnt : Int) (g n cap : Nat) (t : RT) (w : World) (hi : i < n) (hg : g < w.heap.size) (hc : w.cell? ⟨g, i, none⟩ = some (.pointer t.addr)) (ht : RopeAt w t) (hk : k ≤ t.len) (h1 : t.len ≤ 600) :
    Calls Try.prog 52 #[.agg #[.int .i64 4, .string s, .int .i64 (i : Int), .int .i64 b, .int .i64 (k : Int), .int .i64 cnt], .slice (some ⟨g, 0, none⟩) n cap] w fun e w' => ∃ t' : RT, e = .returned (.pointer t'.addr) ∧ RopeAt w' t' ∧ t'.txt = t.txt.drop k ∧ Below w.heap.size w w' := by
  have J : Hid (∀ W : World, Below w.heap.size w W → Calls Try.prog 67 #[.pointer t.addr, .int .i64 (k : Int)] W fun e w' => ∃ t' u' : RT, e = .returned (.tuple #[.pointer t'.addr, .pointer u'.addr]) ∧ Hid (RopeAt w' u' ∧ u'.txt = t.txt.drop k ∧ Below w.heap.size w w') ∧ Below W.heap.size W w') := Lib.hid fun W hW =>
    (split t W k (ht.next hW) (by omega) hk).mono fun e w' ⟨t', u', e1, e2, e3, e4, e5, e6⟩ => ⟨t', u', e1, Lib.hid ⟨e3, e5, bstep hW e6⟩, e6⟩
  have hS := S6.same (v0 := .int .i64 4) (v1 := .string s) (v2 := .int .i64 (i : Int)) (v3 := .int .i64 b) (v4 := .int .i64 (k : Int)) (v5 := .int .i64 cnt) 55 hg hc hc
  have hne := Nat.ne_of_lt hg
  generalize t.addr = ta at *
  clear ht hk h1
  go_enter Try.func52, Try.ntmps52
  go_upto_region 8 with fail
  go_region_held3 (fun w' => Below w.heap.size w w' ∧ (w'.cell? ⟨w.heap.size, 2, none⟩ = some (.int .i64 (i : Int)) ∧ w'.cell? ⟨w.heap.size, 3, none⟩ = some (.int .i64 b) ∧ w'.cell? ⟨w.heap.size, 4, none⟩ = some (.int .i64 (k : Int)) ∧ w'.cell? ⟨w.heap.size, 5, none⟩ = some (.int .i64 cnt)) ∧ w'.cell? ⟨g, i, none⟩ = some (.pointer ta) ∧ w'.cell? ⟨g, i, none⟩ = some (.pointer ta))
    (first | exact hS.out | exact S6.next hS.out (by simp) (by simp; omega) (by assumption))
    ((go_at_call 67; refine (J.out _ (bstep ((Below.refl _ _).alloc (Nat.le_refl _) _) (Below.refl _ _).drew)).mono ?_; rintro e w1 ⟨t', u', rfl, G, hb⟩))
  go_wp2_with fail
  go_ret
  exact ⟨u', rfl, G.out⟩
set_option maxRecDepth 100000 in
set_option maxHeartbeats 2000000 in
theorem create_copy (s : ByteArray) (i k : Nat) (b at_ : Int) (g n cap : Nat) (t : RT) (w : World) (hi : i < n) (hg : g < w.heap.size) (hc : w.cell? ⟨g, i, none⟩ = some (.pointer t.addr)) (ht : RopeAt w t) (hk : k ≤ 4) (h1 : t.len ≤ 600) :
    Calls Try.prog 52 #[.agg #[.int .i64 5, .string s, .int .i64 (i : Int), .int .i64 b, .int .i64 at_, .int .i64 (k : Int)], .slice (some ⟨g, 0, none⟩) n cap] w fun e w' => ∃ t' : RT, e = .returned (.pointer t'.addr) ∧ RopeAt w' t' ∧ t'.txt = cop t.txt k ∧ Below w.heap.size w w' := by
  have J : Hid (∀ W : World, Below w.heap.size w W → Calls Try.prog 68 #[.pointer t.addr, .int .i64 (k : Int)] W fun e w' => ∃ t' : RT, e = .returned (.pointer t'.addr) ∧ Hid (RopeAt w' t' ∧ t'.txt = cop t.txt k ∧ Below w.heap.size w w') ∧ Below W.heap.size W w') := Lib.hid fun W hW =>
    (repeat_ t k W (ht.next hW) hk h1).mono fun e w' ⟨t', e1, e2, e3, e4⟩ => ⟨t', e1, Lib.hid ⟨e2, e3, bstep hW e4⟩, e4⟩
  have hS := S6.same (v0 := .int .i64 5) (v1 := .string s) (v2 := .int .i64 (i : Int)) (v3 := .int .i64 b) (v4 := .int .i64 at_) (v5 := .int .i64 (k : Int)) 55 hg hc hc
  have hne := Nat.ne_of_lt hg
  generalize t.addr = ta at *
  clear ht hk h1
  go_enter Try.func52, Try.ntmps52
  go_upto_region 11 with fail
  go_region_held3 (fun w' => Below w.heap.size w w' ∧ (w'.cell? ⟨w.heap.size, 2, none⟩ = some (.int .i64 (i : Int)) ∧ w'.cell? ⟨w.heap.size, 3, none⟩ = some (.int .i64 b) ∧ w'.cell? ⟨w.heap.size, 4, none⟩ = some (.int .i64 at_) ∧ w'.cell? ⟨w.heap.size, 5, none⟩ = some (.int .i64 (k : Int))) ∧ w'.cell? ⟨g, i, none⟩ = some (.pointer ta) ∧ w'.cell? ⟨g, i, none⟩ = some (.pointer ta))
    (first | exact hS.out | exact S6.next hS.out (by simp) (by simp; omega) (by assumption))
    ((go_at_call 68; refine (J.out _ (bstep ((Below.refl _ _).alloc (Nat.le_refl _) _) (Below.refl _ _).drew)).mono ?_; rintro e w1 ⟨t', rfl, G, hb⟩))
  go_wp2_with fail
  go_ret
  exact ⟨t', rfl, G.out⟩
set_option maxRecDepth 100000 in
set_option maxHeartbeats 2000000 in
theorem create_text (k : Int) (s : ByteArray) (a b at_ cnt : Int) (p : Option Addr) (n cap : Nat) (w : World) (h2 : (k == 2) = false) (h3 : (k == 3) = false) (h4 : (k == 4) = false) (h5 : (k == 5) = false) :
    Calls Try.prog 52 #[.agg #[.int .i64 k, .string s, .int .i64 a, .int .i64 b, .int .i64 at_, .int .i64 cnt], .slice p n cap] w fun e w' => ∃ t' : RT, e = .returned (.pointer t'.addr) ∧ RopeAt w' t' ∧ t'.txt = s.data.toList ∧ Below w.heap.size w w' := by
  have N : Hid (∀ W : World, Below w.heap.size w W → Calls Try.prog 69 #[.string s] W fun e w' => ∃ t' : RT, e = .returned (.pointer t'.addr) ∧ Hid (RopeAt w' t' ∧ t'.txt = s.data.toList ∧ Below w.heap.size w w') ∧ Below W.heap.size W w') := Lib.hid fun W hW =>
    (newLeaf s W).mono fun e w' ⟨t', e1, e2, e3, e4⟩ => ⟨t', e1, Lib.hid ⟨e2, e3, bstep hW e4⟩, e4⟩
  go_enter Try.func52, Try.ntmps52
  go_wp2_with fail
  refine (N.out _ ((Below.refl _ _).alloc (Nat.le_refl _) _)).mono ?_
  rintro e w1 ⟨t', rfl, G, hb⟩
  go_wp2_with fail
  go_ret
  exact ⟨t', rfl, G.out⟩

/-- create, of an operation whose texts exist and whose numbers are in their range -/
theorem create (o : OpM) (p : Option Addr) (cap : Nat) (ts : List RT) (w : World) (hts : Ropes w p ts) (hf : Fine (txts ts)) (ha : o.kind = 2 ∨ o.kind = 3 ∨ o.kind = 4 ∨ o.kind = 5 → has o.a ts.length = true) (hb : o.kind = 2 → has o.b ts.length = true) (hr : inR o (txts ts) = true) :
    Calls Try.prog 52 #[o.val, .slice p ts.length cap] w fun e w' => ∃ t' : RT, e = .returned (.pointer t'.addr) ∧ RopeAt w' t' ∧ t'.txt = newT o (txts ts) ∧ Below w.heap.size w w' := by
  have lim : ∀ (i : Nat) t, ts[i]? = some t → t.len ≤ 600 := fun i t h => by
    rw [← RT.txt_len]
    exact hf.2 _ (List.mem_map.2 ⟨t, List.mem_of_getElem? h, rfl⟩)
  obtain ⟨k, s, a, b, at_, cnt⟩ := o
  unfold inR at hr
  unfold newT OpM.val OpM.cells
  simp only at ha hb hr ⊢
  by_cases h2 : k = 2
  · subst h2
    obtain ⟨i, t, rfl, hi, hti, hn⟩ := has_some (ha (by omega))
    obtain ⟨j, u, rfl, hj, huj, hm⟩ := has_some (hb rfl)
    obtain ⟨g, rfl, hg, hc⟩ := hts.cell i t hti
    obtain ⟨g', hg', _, hd⟩ := hts.cell j u huj
    cases hg'
    rw [if_pos rfl, hn, hm]
    exact create_cat s i j at_ cnt g ts.length cap t u w hi hj hg hc hd (hts.rope i t hti) (hts.rope j u huj) (lim i t hti) (lim j u huj)
  · rw [if_neg h2]
    by_cases h3 : k = 3
    · subst h3
      rw [if_pos (.inl rfl)] at hr
      simp only [Bool.and_eq_true, decide_eq_true_eq] at hr
      obtain ⟨i, t, rfl, hi, hti, hn⟩ := has_some (ha (by omega))
      obtain ⟨g, rfl, hg, hc⟩ := hts.cell i t hti
      rw [hn, RT.txt_len] at hr
      rw [if_pos rfl, hn]
      obtain ⟨q, rfl⟩ := Int.eq_ofNat_of_zero_le hr.1
      rw [Int.toNat_natCast]
      exact create_head s i q b cnt g ts.length cap t w hi hg hc (hts.rope i t hti) (by omega) (lim i t hti)
    · rw [if_neg h3]
      by_cases h4 : k = 4
      · subst h4
        rw [if_pos (.inr rfl)] at hr
        simp only [Bool.and_eq_true, decide_eq_true_eq] at hr
        obtain ⟨i, t, rfl, hi, hti, hn⟩ := has_some (ha (by omega))
        obtain ⟨g, rfl, hg, hc⟩ := hts.cell i t hti
        rw [hn, RT.txt_len] at hr
        rw [if_pos rfl, hn]
        obtain ⟨q, rfl⟩ := Int.eq_ofNat_of_zero_le hr.1
        rw [Int.toNat_natCast]
        exact create_tail s i q b cnt g ts.length cap t w hi hg hc (hts.rope i t hti) (by omega) (lim i t hti)
      · rw [if_neg h4]
        rw [if_neg (by omega)] at hr
        by_cases h5 : k = 5
        · subst h5
          rw [if_pos rfl] at hr
          simp only [Bool.and_eq_true, decide_eq_true_eq] at hr
          obtain ⟨i, t, rfl, hi, hti, hn⟩ := has_some (ha (by omega))
          obtain ⟨g, rfl, hg, hc⟩ := hts.cell i t hti
          rw [if_pos rfl, hn]
          obtain ⟨q, rfl⟩ := Int.eq_ofNat_of_zero_le hr.1
          rw [Int.toNat_natCast]
          exact create_copy s i q b at_ g ts.length cap t w hi hg hc (hts.rope i t hti) (by omega) (lim i t hti)
        · rw [if_neg h5]
          exact create_text k s a b at_ cnt p ts.length cap w (by simp; omega) (by simp; omega) (by simp; omega) (by simp; omega)

end Go.Proofs.Ytkckhjljindgmaa.RopeC
