/-
  Package rope: what newLength answers.
-/
import Derived.Test.YtkckhjljindgmaaRopeRange
namespace Go.Proofs.Ytkckhjljindgmaa.RopeC
open Go.RowKit Kit RopeM

set_option maxRecDepth 100000 in
set_option maxHeartbeats 2000000 in
theorem newLength_cat (s : ByteArray) (i j : Nat) (at_ cnt : Int) (g n cap : Nat) (t u : RT) (w : World) (hi : i < n) (hj : j < n) (hg : g < w.heap.size) (hc : w.cell? ⟨g, i, none⟩ = some (.pointer t.addr)) (hd : w.cell? ⟨g, j, none⟩ = some (.pointer u.addr)) (ht : RopeAt w t) (hu : RopeAt w u) (h1 : t.len ≤ 600) (h2 : u.len ≤ 600) :
    Calls Try.prog 65 #[.agg #[.int .i64 2, .string s, .int .i64 (i : Int), .int .i64 (j : Int), .int .i64 at_, .int .i64 cnt], .slice (some ⟨g, 0, none⟩) n cap] w fun e w' => e = .returned (.int .i64 ((t.len + u.len : Nat) : Int)) ∧ Below w.heap.size w w' := by
  have L := lengthQ t w ht
  have M := lengthQ u w hu
  have hne := Nat.ne_of_lt hg
  generalize t.addr = ta at *
  generalize t.len = tn at *
  generalize u.addr = ua at *
  generalize u.len = un at *
  have ew : IntKind.i64.wrap ((tn : Int) + (un : Int)) = (tn : Int) + (un : Int) := IntWalk.i64_in _ (by omega)
  clear ht hu
  go_enter Try.func65, Try.ntmps65
  go_upto_region 3 with fail
  go_quiet (first | (go_at_call_of 77 (Value.pointer ta); exact L.out _ _ (bdrewN ((Below.refl _ _).alloc (Nat.le_refl _) _) _)) | (go_at_call_of 77 (Value.pointer ua); exact M.out _ _ (bdrewN ((Below.refl _ _).alloc (Nat.le_refl _) _) _)))
  go_wp2_with fail
  go_ret
  exact ⟨by simp, (bdrewN ((Below.refl _ _).alloc (Nat.le_refl _) _) _)⟩
set_option maxRecDepth 100000 in
set_option maxHeartbeats 2000000 in
theorem newLength_head (s : ByteArray) (a b at_ cnt : Int) (p : Option Addr) (n cap : Nat) (w : World) :
    Calls Try.prog 65 #[.agg #[.int .i64 3, .string s, .int .i64 a, .int .i64 b, .int .i64 at_, .int .i64 cnt], .slice p n cap] w fun e w' => e = .returned (.int .i64 at_) ∧ Below w.heap.size w w' := by
  go_enter Try.func65, Try.ntmps65
  go_wp2_with fail
  go_ret
  exact ⟨rfl, ((Below.refl _ _).alloc (Nat.le_refl _) _)⟩
set_option maxRecDepth 100000 in
set_option maxHeartbeats 2000000 in
theorem newLength_tail (s : ByteArray) (i k : Nat) (b cnt : Int) (g n cap : Nat) (t : RT) (w : World) (hi : i < n) (hg : g < w.heap.size) (hc : w.cell? ⟨g, i, none⟩ = some (.pointer t.addr)) (ht : RopeAt w t) (hk : k ≤ t.len) (h1 : t.len ≤ 600) :
    Calls Try.prog 65 #[.agg #[.int .i64 4, .string s, .int .i64 (i : Int), .int .i64 b, .int .i64 (k : Int), .int .i64 cnt], .slice (some ⟨g, 0, none⟩) n cap] w fun e w' => e = .returned (.int .i64 ((t.len - k : Nat) : Int)) ∧ Below w.heap.size w w' := by
  have L := lengthQ t w ht
  have hne := Nat.ne_of_lt hg
  generalize t.addr = ta at *
  generalize t.len = tn at *
  have e1 : ((tn - k : Nat) : Int) = (tn : Int) - (k : Int) := by omega
  rw [e1]
  have ew : IntKind.i64.wrap ((tn : Int) - (k : Int)) = (tn : Int) - (k : Int) := IntWalk.i64_in _ (by omega)
  clear ht e1
  go_enter Try.func65, Try.ntmps65
  go_upto_region 7 with fail
  go_quiet (first | (go_at_call_of 77 (Value.pointer ta); exact L.out _ _ (bdrewN ((Below.refl _ _).alloc (Nat.le_refl _) _) _)))
  go_wp2_with fail
  go_ret
  exact ⟨rfl, (bdrewN ((Below.refl _ _).alloc (Nat.le_refl _) _) _)⟩
set_option maxRecDepth 100000 in
set_option maxHeartbeats 2000000 in
theorem newLength_copy (s : ByteArray) (i k : Nat) (b at_ : Int) (g n cap : Nat) (t : RT) (w : World) (hi : i < n) (hg : g < w.heap.size) (hc : w.cell? ⟨g, i, none⟩ = some (.pointer t.addr)) (ht : RopeAt w t) (hk : k ≤ 4) (h1 : t.len ≤ 600) :
    Calls Try.prog 65 #[.agg #[.int .i64 5, .string s, .int .i64 (i : Int), .int .i64 b, .int .i64 at_, .int .i64 (k : Int)], .slice (some ⟨g, 0, none⟩) n cap] w fun e w' => e = .returned (.int .i64 ((k * t.len : Nat) : Int)) ∧ Below w.heap.size w w' := by
  have L := lengthQ t w ht
  have hne := Nat.ne_of_lt hg
  generalize t.addr = ta at *
  generalize t.len = tn at *
  have e1 : ((k * tn : Nat) : Int) = (tn : Int) * (k : Int) := by rw [Nat.mul_comm]; exact Int.natCast_mul _ _
  have e2 : k * tn ≤ 4 * 600 := Nat.mul_le_mul hk h1
  have ew : IntKind.i64.wrap ((tn : Int) * (k : Int)) = (tn : Int) * (k : Int) := IntWalk.i64_in _ (by rw [← e1]; omega)
  rw [e1]
  clear ht e1 e2 hk h1
  go_enter Try.func65, Try.ntmps65
  go_upto_region 9 with fail
  go_quiet (first | (go_at_call_of 77 (Value.pointer ta); exact L.out _ _ (bdrewN ((Below.refl _ _).alloc (Nat.le_refl _) _) _)))
  go_wp2_with fail
  go_ret
  exact ⟨rfl, (bdrewN ((Below.refl _ _).alloc (Nat.le_refl _) _) _)⟩
set_option maxRecDepth 100000 in
set_option maxHeartbeats 2000000 in
theorem newLength_text (k : Int) (s : ByteArray) (a b at_ cnt : Int) (p : Option Addr) (n cap : Nat) (w : World) (h2 : (k == 2) = false) (h3 : (k == 3) = false) (h4 : (k == 4) = false) (h5 : (k == 5) = false) :
    Calls Try.prog 65 #[.agg #[.int .i64 k, .string s, .int .i64 a, .int .i64 b, .int .i64 at_, .int .i64 cnt], .slice p n cap] w fun e w' => e = .returned (.int .i64 (s.size : Int)) ∧ Below w.heap.size w w' := by
  go_enter Try.func65, Try.ntmps65
  go_wp2_with fail
  go_ret
  exact ⟨rfl, ((Below.refl _ _).alloc (Nat.le_refl _) _)⟩

/-- newLength, of an operation whose texts exist and whose numbers are in their range -/
theorem newLength (o : OpM) (p : Option Addr) (cap : Nat) (ts : List RT) (w : World) (hts : Ropes w p ts) (hf : Fine (txts ts)) (ha : o.kind = 2 ∨ o.kind = 3 ∨ o.kind = 4 ∨ o.kind = 5 → has o.a ts.length = true) (hb : o.kind = 2 → has o.b ts.length = true) (hr : inR o (txts ts) = true) :
    Calls Try.prog 65 #[o.val, .slice p ts.length cap] w fun e w' => e = .returned (.int .i64 ((newT o (txts ts)).length : Int)) ∧ Below w.heap.size w w' := by
  have lim : ∀ (i : Nat) t, ts[i]? = some t → t.len ≤ 600 := fun i t h => by
    rw [← RT.txt_len]
    exact hf.2 _ (List.mem_map.2 ⟨t, List.mem_of_getElem? h, rfl⟩)
  obtain ⟨k, s, a, b, at_, cnt⟩ := o
  unfold inR at hr
  unfold newT OpM.val OpM.cells
  simp only at ha hb hr ⊢
  by_cases h2 : k = 2
  · subst h2
    obtain ⟨i, t, rfl, hi, hti, hn⟩ := has_some (ha (by omega))
    obtain ⟨j, u, rfl, hj, huj, hm⟩ := has_some (hb rfl)
    obtain ⟨g, rfl, hg, hc⟩ := hts.cell i t hti
    obtain ⟨g', hg', _, hd⟩ := hts.cell j u huj
    cases hg'
    rw [if_pos rfl, hn, hm, List.length_append, RT.txt_len, RT.txt_len]
    exact newLength_cat s i j at_ cnt g ts.length cap t u w hi hj hg hc hd (hts.rope i t hti) (hts.rope j u huj) (lim i t hti) (lim j u huj)
  · rw [if_neg h2]
    by_cases h3 : k = 3
    · subst h3
      rw [if_pos (.inl rfl)] at hr
      simp only [Bool.and_eq_true, decide_eq_true_eq] at hr
      rw [if_pos rfl, List.length_take]
      refine (newLength_head s a b at_ cnt p ts.length cap w).mono ?_
      rintro e w' ⟨rfl, h⟩
      refine ⟨?_, h⟩
      congr 2
      omega
    · rw [if_neg h3]
      by_cases h4 : k = 4
      · subst h4
        rw [if_pos (.inr rfl)] at hr
        simp only [Bool.and_eq_true, decide_eq_true_eq] at hr
        obtain ⟨i, t, rfl, hi, hti, hn⟩ := has_some (ha (by omega))
        obtain ⟨g, rfl, hg, hc⟩ := hts.cell i t hti
        rw [hn, RT.txt_len] at hr
        rw [if_pos rfl, hn, List.length_drop, RT.txt_len]
        obtain ⟨q, rfl⟩ := Int.eq_ofNat_of_zero_le hr.1
        rw [Int.toNat_natCast]
        exact newLength_tail s i q b cnt g ts.length cap t w hi hg hc (hts.rope i t hti) (by omega) (lim i t hti)
      · rw [if_neg h4]
        rw [if_neg (by omega)] at hr
        by_cases h5 : k = 5
        · subst h5
          rw [if_pos rfl] at hr
          simp only [Bool.and_eq_true, decide_eq_true_eq] at hr
          obtain ⟨i, t, rfl, hi, hti, hn⟩ := has_some (ha (by omega))
          obtain ⟨g, rfl, hg, hc⟩ := hts.cell i t hti
          rw [if_pos rfl, hn, cop_length, RT.txt_len]
          obtain ⟨q, rfl⟩ := Int.eq_ofNat_of_zero_le hr.1
          rw [Int.toNat_natCast]
          exact newLength_copy s i q b at_ g ts.length cap t w hi hg hc (hts.rope i t hti) (by omega) (lim i t hti)
        · rw [if_neg h5]
          refine (newLength_text k s a b at_ cnt p ts.length cap w (by simp; omega) (by simp; omega) (by simp; omega) (by simp; omega)).mono ?_
          rintro e w' ⟨rfl, h⟩
          exact ⟨by simp, h⟩

end Go.Proofs.Ytkckhjljindgmaa.RopeC
