/-
  The law RopeStays.
-/
import Derived.Test.YteahnhemcceebaaOpenMakes
import Derived.Test.YteahnhemcceebaaSameTK
namespace Go.Proofs.Yteahnhemcceebaa.KeepC
open Go.RowKit Kit RopeM RopeC Txt Lift

theorem texts_pre : ∀ (l : List OpM) (ts : Tx), ts <+: texts l ts
  | [], ts => List.prefix_refl _
  | o :: l, ts => by
    have h : ts <+: nextT o ts := by
      unfold nextT; split
      · exact List.prefix_append _ _
      · exact List.prefix_refl _
    exact h.trans (texts_pre l _)
theorem texts_take (l : List OpM) (k : Nat) : texts (l.take k) [] <+: texts l [] := by
  conv => rhs; rw [← List.take_append_drop k l, texts_append]
  exact texts_pre _ _
theorem texts_few (l : List OpM) : (texts l []).length ≤ 60 := (Fine.nil.texts (l := l)).1
/-- a part of a slice of operations -/
theorem OpsAt.take {w : World} {a : Option Addr} {l : List OpM} (h : OpsAt w a l) (k : Nat) : OpsAt w a (l.take k) := ⟨fun i o hi => by
  rw [List.getElem?_take] at hi
  split at hi
  · exact h.cell i o hi
  · cases hi⟩
/-- a part of a row -/
theorem row_take {w : World} {a : Option Addr} {n cap : Nat} {xs ys : List Value} (h : Row w (.slice a n cap) xs) (hp : ys <+: xs) : Row w (.slice a ys.length cap) ys := by
  obtain ⟨a', cap', e, hc⟩ := h
  simp only [Value.slice.injEq] at e
  obtain ⟨rfl, _, rfl⟩ := e
  refine ⟨a, cap, rfl, fun hl => ?_⟩
  have hlen := hp.length_le
  obtain ⟨b, off, e, hb, hcell⟩ := hc (by omega)
  refine ⟨b, off, e, hb, fun i hi => ?_⟩
  rw [hcell i (by omega)]
  obtain ⟨r, rfl⟩ := hp
  rw [List.getElem?_append_left hi]
def strsK (ts : Tx) : List ByteArray := ts.map fun l => ⟨l.toArray⟩
theorem strsK_map (ts : Tx) : (strsK ts).map (.string ·) = ts.map strV := by simp [strsK, strV]
theorem sameTK (v1 v2 : Value) (ts : Tx) (w : World) (h1 : Row w v1 (ts.map strV)) (h2 : Row w v2 (ts.map strV)) (hl : ts.length ≤ 60) :
    Calls Try.prog 22 #[v1, v2] w fun e w' => e = .returned (.bool true) ∧ Below w.heap.size w w' :=
  SameTK.same v1 v2 (strsK ts) w (by rw [strsK_map]; exact h1) (by rw [strsK_map]; exact h2) (by simp only [strsK, List.length_map]; unfold maxLen; omega)

set_option maxRecDepth 100000 in
set_option maxHeartbeats 2000000 in
theorem ropeStays (al : Option Addr) (cap : Nat) (l : List MakeM) (x : Int) (w : World) (hl : MksAt w al l) (hlen : l.length ≤ 9223372036854775807) (_hx : (Lit.int .i64 x).wf = true) :
    Calls Try.prog 7 #[.slice al l.length cap, .int .i64 x] w fun e w' => e = .returned (.bool true) ∧ Below w.heap.size w w' := by
  have MK := Lib.hid (makes l al cap w hl hlen)
  clear hl hlen
  generalize l.length = n at *
  go_enter Try.func7, Try.ntmps7
  go_wp2_with fail
  refine MK.out.mono ?_
  rintro e w1 ⟨v, ops, rfl, h40, hops, hb1⟩
  have RO := Lib.hid (roped v ops w1 hops (by omega))
  obtain ⟨a, capo, rfl, hle, hat, hshape⟩ := id hops
  have HB1 := Lib.hid hb1
  have HAT := Lib.hid hat
  have HSH := Lib.hid hshape
  clear hb1 hat hops hshape MK
  obtain ⟨m, hm⟩ : ∃ m, ops.length = m := ⟨_, rfl⟩
  have HM := Lib.hid hm
  rw [hm] at h40 hle RO ⊢
  clear hm
  go_wp2_with fail
  refine RO.out.mono ?_
  rintro e w2 ⟨tv, rfl, ht, hb2⟩
  have PK := Lib.hid (picked x ((m : Int) + 1) w2 (by omega) (by omega))
  obtain ⟨k, hk⟩ := Int.eq_ofNat_of_zero_le (Int.emod_nonneg x (show ((m : Int) + 1) ≠ 0 by omega))
  have lk := Int.emod_lt_of_pos x (show (0 : Int) < (m : Int) + 1 by omega)
  rw [hk] at PK lk
  have hkm : k ≤ m := by omega
  have hkc : k ≤ capo := by omega
  have R2 : Hid (Calls Try.prog 20 #[.slice a k capo] w2 fun e w' => ∃ tv, e = .returned (.tuple #[tv, .bool true]) ∧ RowF w' tv ((texts (ops.take k) []).map strV) ∧ Below w2.heap.size w2 w') := Lib.hid (by
    have hlk : (ops.take k).length = k := by rw [List.length_take, HM.out]; omega
    refine roped _ (ops.take k) w2 ⟨a, capo, by rw [hlk], by rw [hlk]; exact hkc, OpsAt.take (HAT.out.next hb2) k, ?_⟩ (by omega)
    rcases HSH.out with ⟨h1, h2, h3⟩ | h1
    · exact .inl ⟨h1, h2, by rw [h3]; simp⟩
    · exact .inr h1)
  have T2 := Lib.hid ht
  have HB2 := Lib.hid (bstep HB1.out hb2)
  clear ht hb2 RO hk lk HB1 HAT
  rcases HSH.out with ⟨rfl, rfl, h3⟩ | ⟨g, off, rfl⟩
  · have hm0 : m = 0 := by omega
    subst hm0
    have hk0 : k = 0 := by omega
    subst hk0
    go_wp2_with fail
    refine PK.out.mono ?_
    rintro e w3 ⟨rfl, rfl⟩
    go_wp2_with fail
    refine R2.out.mono ?_
    rintro e w3 ⟨pv, rfl, hp, hb3⟩
    obtain ⟨at', ct, rfl, hct⟩ := T2.out.2
    obtain ⟨ap, cp, rfl, hcp⟩ := hp.2
    have hpre := texts_take ops 0
    have hlp := hpre.length_le
    have hfew := texts_few (ops.take 0)
    simp only [List.length_map] at *
    have S1 := Lib.hid (sameTK (.slice ap (texts (ops.take 0) []).length cp) (.slice at' (texts (ops.take 0) []).length ct) (texts (ops.take 0) []) w3 hp.1 (by have := row_take (T2.out.next hb3).1 (hpre.map strV); simpa using this) hfew)
    have HB3 := Lib.hid (bstep HB2.out hb3)
    have hg1 : decide (((texts ops []).length : Int) < ((texts (ops.take 0) []).length : Int)) = false := by rw [decide_eq_false_iff_not]; omega
    have hg2 : (texts (ops.take 0) []).length ≤ ct := by omega
    clear hp hb3 R2 T2 HB2 hpre
    generalize (texts (ops.take 0) []).length = n2 at *
    generalize (texts ops []).length = n1 at *
    cases at' with
    | none =>
      go_wp2_with fail
      refine S1.out.mono ?_
      rintro e w4 ⟨rfl, hb4⟩
      have HB4 := Lib.hid (bstep HB3.out hb4)
      clear hb4
      go_wp2_with fail
      go_ret
      exact ⟨rfl, HB4.out⟩
    | some ad =>
      go_wp2_with fail
      refine S1.out.mono ?_
      rintro e w4 ⟨rfl, hb4⟩
      have HB4 := Lib.hid (bstep HB3.out hb4)
      clear hb4
      go_wp2_with fail
      go_ret
      exact ⟨rfl, HB4.out⟩
  · go_wp2_with fail
    refine PK.out.mono ?_
    rintro e w3 ⟨rfl, rfl⟩
    go_wp2_with fail
    refine R2.out.mono ?_
    rintro e w3 ⟨pv, rfl, hp, hb3⟩
    obtain ⟨at', ct, rfl, hct⟩ := T2.out.2
    obtain ⟨ap, cp, rfl, hcp⟩ := hp.2
    have hpre := texts_take ops k
    have hlp := hpre.length_le
    have hfew := texts_few (ops.take k)
    simp only [List.length_map] at *
    have S1 := Lib.hid (sameTK (.slice ap (texts (ops.take k) []).length cp) (.slice at' (texts (ops.take k) []).length ct) (texts (ops.take k) []) w3 hp.1 (by have := row_take (T2.out.next hb3).1 (hpre.map strV); simpa using this) hfew)
    have HB3 := Lib.hid (bstep HB2.out hb3)
    have hg1 : decide (((texts ops []).length : Int) < ((texts (ops.take k) []).length : Int)) = false := by rw [decide_eq_false_iff_not]; omega
    have hg2 : (texts (ops.take k) []).length ≤ ct := by omega
    clear hp hb3 R2 T2 HB2 hpre
    generalize (texts (ops.take k) []).length = n2 at *
    generalize (texts ops []).length = n1 at *
    cases at' with
    | none =>
      go_wp2_with fail
      refine S1.out.mono ?_
      rintro e w4 ⟨rfl, hb4⟩
      have HB4 := Lib.hid (bstep HB3.out hb4)
      clear hb4
      go_wp2_with fail
      go_ret
      exact ⟨rfl, HB4.out⟩
    | some ad =>
      go_wp2_with fail
      refine S1.out.mono ?_
      rintro e w4 ⟨rfl, hb4⟩
      have HB4 := Lib.hid (bstep HB3.out hb4)
      clear hb4
      go_wp2_with fail
      go_ret
      exact ⟨rfl, HB4.out⟩

end Go.Proofs.Yteahnhemcceebaa.KeepC
