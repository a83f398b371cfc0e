/-
  fustiankeep.roped: all texts that operations make.
-/
import Derived.Test.YteahnhemcceebaaRopePlay
import Derived.Laws.AppendOwnNone
namespace Go.Proofs.Yteahnhemcceebaa.KeepC
open Go.RowKit Kit RopeM RopeC

/-- a slice of operations, nil or at an address -/
def OpsV (w : World) (v : Value) (l : List OpM) : Prop := ∃ a cap, v = .slice a l.length cap ∧ l.length ≤ cap ∧ OpsAt w a l ∧ ((a = none ∧ cap = 0 ∧ l = []) ∨ ∃ g off, a = some ⟨g, off, none⟩)
theorem OpsV.next {w w' : World} {v : Value} {l : List OpM} (h : OpsV w v l) (hb : Below w.heap.size w w') : OpsV w' v l := by
  obtain ⟨a, cap, e, hle, ha, hs⟩ := h
  exact ⟨a, cap, e, hle, ha.next hb, hs⟩
def opCells (l : List OpM) : List Value := (l.map fun o => o.cells.toList).flatten
theorem opCells_cons (o : OpM) (l : List OpM) : opCells (o :: l) = o.cells.toList ++ opCells l := by simp [opCells]
theorem opCells_append (l m : List OpM) : opCells (l ++ m) = opCells l ++ opCells m := by simp [opCells]
theorem opCells_length : ∀ l : List OpM, (opCells l).length = l.length * 6
  | [] => rfl
  | o :: l => by rw [opCells_cons, List.length_append, opCells_length l, List.length_cons]; simp [OpM.cells]; omega
theorem opCells_get : ∀ (l : List OpM) (i : Nat) (o : OpM) (j : Nat), l[i]? = some o → j < 6 → (opCells l)[i * 6 + j]? = o.cells.toList[j]?
  | [], i, o, j, h, _ => by simp at h
  | x :: l, 0, o, j, h, hj => by
    simp at h; subst h
    rw [opCells_cons, List.getElem?_append_left (by simp [OpM.cells]; omega)]; simp
  | x :: l, i + 1, o, j, h, hj => by
    simp at h
    rw [opCells_cons, List.getElem?_append_right (by simp [OpM.cells]; omega)]
    have e2 : (i + 1) * 6 + j - x.cells.toList.length = i * 6 + j := by simp [OpM.cells]; omega
    rw [e2]
    exact opCells_get l i o j h hj
theorem opCells_one (l : List OpM) : ∀ u ∈ opCells l, u.oneCell' = true := by
  intro u hu
  simp only [opCells, List.mem_flatten, List.mem_map] at hu
  obtain ⟨x, ⟨o, _, rfl⟩, hu⟩ := hu
  simp [OpM.cells] at hu
  rcases hu with rfl | rfl | rfl | rfl | rfl | rfl <;> rfl
/-- what lies at the address, cell by cell -/
theorem ops_cells {w : World} {l : List OpM} {g off : Nat} (h : OpsAt w (some ⟨g, off, none⟩) l) : ∀ j u, (opCells l)[j]? = some u → w.cell? ((⟨g, off, none⟩ : Addr).add j) = some u := by
  intro j u hj
  have hjl := (List.getElem?_eq_some_iff.1 hj).1
  rw [opCells_length] at hjl
  have hi : j / 6 < l.length := by omega
  have ho : l[j / 6]? = some l[j / 6] := by simp [hi]
  obtain ⟨g', off', e, _, c0, c1, c2, c3, c4, c5⟩ := h.cell (j / 6) _ ho
  have hg := opCells_get l (j / 6) _ (j % 6) ho (by omega)
  have hjj : j / 6 * 6 + j % 6 = j := by omega
  rw [hjj, hj] at hg
  have ea : (⟨g, off, none⟩ : Addr).add j = ⟨g, off + (j / 6 * 6 + j % 6), none⟩ := by
    rw [hjj]; unfold Addr.add; split
    · simp
    · rfl
  simp only [Option.some.injEq, Addr.mk.injEq, and_true] at e
  obtain ⟨rfl, rfl⟩ := e
  rw [ea]
  have h6 : j % 6 < 6 := by omega
  generalize j % 6 = r at *
  match r, h6 with
  | 0, _ => rw [hg]; simpa [OpM.cells] using c0
  | 1, _ => rw [hg]; simpa [OpM.cells, Nat.add_assoc] using c1
  | 2, _ => rw [hg]; simpa [OpM.cells, Nat.add_assoc] using c2
  | 3, _ => rw [hg]; simpa [OpM.cells, Nat.add_assoc] using c3
  | 4, _ => rw [hg]; simpa [OpM.cells, Nat.add_assoc] using c4
  | 5, _ => rw [hg]; simpa [OpM.cells, Nat.add_assoc] using c5
theorem OpsV.of_owns {w : World} {base : Nat} {v : Value} {l : List OpM} (h : w.ownsRow base 50 6 v l.length (opCells l)) : OpsV w v l := by
  rcases h.2 with ⟨e, h0⟩ | ⟨g, cap, cur, e, hb, hg, hle, _⟩
  · have hl : l = [] := List.eq_nil_of_length_eq_zero h0
    subst hl
    exact ⟨none, 0, by rw [e]; rfl, by simp, ⟨fun i o hi => by simp at hi⟩, .inl ⟨rfl, rfl, rfl⟩⟩
  · refine ⟨some ⟨g, 0, none⟩, cap, e, hle, ⟨fun i o hi => ⟨g, 0, rfl, (h.lt g (by rw [e]; rfl)).2, ?_⟩⟩, .inr ⟨g, 0, rfl⟩⟩
    have hlt := (List.getElem?_eq_some_iff.1 hi).1
    rw [e] at h
    have k : ∀ j, j < 6 → w.cell? ⟨g, 0 + i * 6 + j, none⟩ = o.cells.toList[j]? := by
      intro j hj
      rw [Nat.zero_add, h.cellAt (i * 6 + j) (by omega), opCells_get l i o j hi hj]
    exact ⟨k 0 (by omega), k 1 (by omega), k 2 (by omega), k 3 (by omega), k 4 (by omega), k 5 (by omega)⟩
theorem infoOp : (Try.prog.info? 50).map (fun i => (i.zero, i.size, i.bytes)) = some (some (.agg #[.int .i64 0, .string ⟨#[]⟩, .int .i64 0, .int .i64 0, .int .i64 0, .int .i64 0]), 6, 56) := by kernel_rfl

/-- Play, whatever the value -/
theorem playV (v : Value) (l : List OpM) (w : World) (h : OpsV w v l) (h80 : l.length ≤ 80) :
    Calls Try.prog 11 #[v] w fun e w' => ∃ tv cv, e = .returned (.tuple #[tv, cv, .int .i64 0]) ∧ RowF w' tv ((texts l []).map strV) ∧ Row w' cv (ints (codes l [])) ∧ Below w.heap.size w w' := by
  obtain ⟨a, cap, rfl, _, ha, _⟩ := h
  exact playF l a cap w ha h80

def opX : OpM := ⟨1, ⟨#[120]⟩, 0, 0, 0, 0⟩
theorem texts_x : texts [opX] [] = [[120]] := by decide
theorem opX_at (w : World) : OpsV (w.alloc (.cells #[.int .i64 1, .string ⟨#[120]⟩, .int .i64 0, .int .i64 0, .int .i64 0, .int .i64 0] 50)) (.slice (some ⟨w.heap.size, 0, none⟩) 1 1) [opX] := by
  refine ⟨_, 1, rfl, by simp, ⟨fun i o hi => ?_⟩, .inr ⟨_, _, rfl⟩⟩
  match i, hi with
  | 0, hi =>
    simp at hi; subst hi
    exact ⟨w.heap.size, 0, rfl, by simp, by simp [opX], by simp [opX], by simp [opX], by simp [opX], by simp [opX], by simp [opX]⟩

set_option maxRecDepth 100000 in
set_option maxHeartbeats 2000000 in
theorem roped_some (l : List OpM) (g off cap : Nat) (w : World) (hl : OpsAt w (some ⟨g, off, none⟩) l) (h80 : l.length ≤ 80) :
    Calls Try.prog 20 #[.slice (some ⟨g, off, none⟩) l.length cap] w fun e w' => ∃ tv, e = .returned (.tuple #[tv, .bool true]) ∧ RowF w' tv ((texts l []).map strV) ∧ Below w.heap.size w w' := by
  obtain ⟨i0, hi, hz0, hz1, hz2⟩ := info_parts infoOp
  have HI := Lib.hid (And.intro hi (And.intro hz0 (And.intro hz1 hz2)))
  clear hi hz0 hz1 hz2
  have HL := Lib.hid (ops_cells hl)
  have P : Hid (∀ v W, OpsV W v l → Calls Try.prog 11 #[v] W fun e w' => ∃ tv cv, e = .returned (.tuple #[tv, cv, .int .i64 0]) ∧ RowF w' tv ((texts l []).map strV) ∧ Row w' cv (ints (codes l [])) ∧ Below W.heap.size W w') := Lib.hid fun v W h => playV v l W h h80
  have PX : Hid (∀ W : World, Calls Try.prog 11 #[.slice (some ⟨W.heap.size, 0, none⟩) 1 1] (W.alloc (.cells #[.int .i64 1, .string ⟨#[120]⟩, .int .i64 0, .int .i64 0, .int .i64 0, .int .i64 0] 50)) fun e w' => ∃ tv cv, e = .returned (.tuple #[tv, cv, .int .i64 0]) ∧ Row w' tv [.string ⟨#[120]⟩] ∧ Below W.heap.size W w') := Lib.hid fun W => by
    refine (playV _ [opX] _ (opX_at W) (by simp)).mono ?_
    rintro e w' ⟨tv, cv, rfl, h1, _, h3⟩
    rw [texts_x] at h1
    exact ⟨tv, cv, rfl, h1.1, bstep (balloc (Below.refl _ _) _) h3⟩
  have hcl : (codes l []).length = l.length := codes_length l []
  clear hl
  obtain ⟨n, hn⟩ : ∃ n, l.length = n := ⟨_, rfl⟩
  have HN := Lib.hid hn
  rw [hn] at h80 hcl ⊢
  clear hn
  go_enter Try.func20, Try.ntmps20
  go_wp2_with (at_builtin; refine wpList_append_own _ rfl _ _ 22 rfl w.heap.size 50 i0 _ 6 56 Try.underlying22 HI.out.1 HI.out.2.1 HI.out.2.2.1 HI.out.2.2.2 rfl (by decide) _ 0 [] rfl (World.ownsRow_nil _ _ _ _) ⟨g, off, none⟩ n cap (opCells l) rfl (by rw [opCells_length, HN.out]) HL.out (opCells_one l) (by unfold maxLen; omega) (by omega) (by simp) ?_; intro v' w1 hown hgrow _)
  have HV : Hid (OpsV w1 v' l) := Lib.hid (OpsV.of_owns (base := w.heap.size) (by rw [HN.out]; simpa using hown))
  have B1 : Hid (Below w.heap.size w w1) := Lib.hid (grows_below hgrow)
  clear hown hgrow
  go_wp2_with fail
  refine (P.out _ _ HV.out).mono ?_
  rintro e w2 ⟨tv, cv, rfl, ht, hc, hb⟩
  have T2 := Lib.hid ht
  have B2 := Lib.hid (bstep B1.out hb)
  obtain ⟨ac, cc, rfl, _⟩ := hc
  have hcl2 : (ints (codes l [])).length = n := by simp [ints, hcl]
  rw [hcl2]
  clear ht hb P HV B1
  go_wp2_with fail
  refine (PX.out _).mono ?_
  rintro e w3 ⟨xv, xc, rfl, hx, hb⟩
  have T3 := Lib.hid (T2.out.next hb)
  have B3 := Lib.hid (bstep B2.out hb)
  obtain ⟨ax, cx, rfl, hxx⟩ := hx
  obtain ⟨gx, ox, rfl, hgx, hcx⟩ := hxx (by simp)
  have c0 := hcx 0 (by simp)
  simp only [List.getElem?_cons_zero, Nat.add_zero] at c0
  clear hb hxx hcx PX T2 B2
  simp only [List.length_singleton]
  go_upto_region 3 with fail
  go_quiet (fail)
  go_wp2_with fail
  refine bodyPost_ret (v := .tuple #[tv, .bool true]) (by simp [results, Try.results20, go_sem, *]) rfl ⟨tv, rfl, T3.out.next (bdrewN (Below.refl _ _) _), bdrewN B3.out _⟩

set_option maxRecDepth 100000 in
set_option maxHeartbeats 2000000 in
theorem roped_none (w : World) :
    Calls Try.prog 20 #[.slice none 0 0] w fun e w' => ∃ tv, e = .returned (.tuple #[tv, .bool true]) ∧ RowF w' tv ((texts [] []).map strV) ∧ Below w.heap.size w w' := by
  obtain ⟨i0, hi, hz0, hz1, hz2⟩ := info_parts infoOp
  have HI := Lib.hid (And.intro hi (And.intro hz0 (And.intro hz1 hz2)))
  clear hi hz0 hz1 hz2
  obtain ⟨l, hll⟩ : ∃ l : List OpM, l = [] := ⟨_, rfl⟩
  have h80 : l.length ≤ 80 := by rw [hll]; simp
  rw [show texts [] [] = texts l [] by rw [hll]]
  have P : Hid (∀ v W, OpsV W v l → Calls Try.prog 11 #[v] W fun e w' => ∃ tv cv, e = .returned (.tuple #[tv, cv, .int .i64 0]) ∧ RowF w' tv ((texts l []).map strV) ∧ Row w' cv (ints (codes l [])) ∧ Below W.heap.size W w') := Lib.hid fun v W h => playV v l W h h80
  have PX : Hid (∀ W : World, Calls Try.prog 11 #[.slice (some ⟨W.heap.size, 0, none⟩) 1 1] (W.alloc (.cells #[.int .i64 1, .string ⟨#[120]⟩, .int .i64 0, .int .i64 0, .int .i64 0, .int .i64 0] 50)) fun e w' => ∃ tv cv, e = .returned (.tuple #[tv, cv, .int .i64 0]) ∧ Row w' tv [.string ⟨#[120]⟩] ∧ Below W.heap.size W w') := Lib.hid fun W => by
    refine (playV _ [opX] _ (opX_at W) (by simp)).mono ?_
    rintro e w' ⟨tv, cv, rfl, h1, _, h3⟩
    rw [texts_x] at h1
    exact ⟨tv, cv, rfl, h1.1, bstep (balloc (Below.refl _ _) _) h3⟩
  have hcl : (codes l []).length = l.length := codes_length l []
  have hn : l.length = 0 := by rw [hll]; rfl
  have HV : Hid (OpsV w (.slice none 0 0) l) := Lib.hid (by rw [hll]; exact ⟨none, 0, rfl, by simp, ⟨fun i o hi => by simp at hi⟩, .inl ⟨rfl, rfl, rfl⟩⟩)
  obtain ⟨n, hnn⟩ : ∃ n, n = 0 := ⟨_, rfl⟩
  rw [hn] at hcl
  clear hn hll h80
  go_enter Try.func20, Try.ntmps20
  go_wp2_with (at_builtin; refine wpList_append_own_none rfl _ _ 22 rfl w.heap.size 50 i0 6 Try.underlying22 HI.out.1 _ 0 [] rfl (World.ownsRow_nil _ _ _ _) rfl ?_)
  refine (P.out _ _ HV.out).mono ?_
  rintro e w2 ⟨tv, cv, rfl, ht, hc, hb⟩
  have T2 := Lib.hid ht
  have B2 := Lib.hid hb
  obtain ⟨ac, cc, rfl, _⟩ := hc
  have hcl2 : (ints (codes l [])).length = 0 := by simp [ints, hcl]
  rw [hcl2]
  clear ht hb P HV hnn
  go_wp2_with fail
  refine (PX.out _).mono ?_
  rintro e w3 ⟨xv, xc, rfl, hx, hb⟩
  have T3 := Lib.hid (T2.out.next hb)
  have B3 := Lib.hid (bstep B2.out hb)
  obtain ⟨ax, cx, rfl, hxx⟩ := hx
  obtain ⟨gx, ox, rfl, hgx, hcx⟩ := hxx (by simp)
  have c0 := hcx 0 (by simp)
  simp only [List.getElem?_cons_zero, Nat.add_zero] at c0
  clear hb hxx hcx PX T2 B2
  simp only [List.length_singleton]
  go_upto_region 3 with fail
  go_quiet (fail)
  go_wp2_with fail
  refine bodyPost_ret (v := .tuple #[tv, .bool true]) (by simp [results, Try.results20, go_sem, *]) rfl ⟨tv, rfl, T3.out.next (bdrewN (Below.refl _ _) _), bdrewN B3.out _⟩

theorem roped (v : Value) (l : List OpM) (w : World) (h : OpsV w v l) (h80 : l.length ≤ 80) :
    Calls Try.prog 20 #[v] w fun e w' => ∃ tv, e = .returned (.tuple #[tv, .bool true]) ∧ RowF w' tv ((texts l []).map strV) ∧ Below w.heap.size w w' := by
  obtain ⟨a, cap, rfl, _, ha, hs⟩ := h
  rcases hs with ⟨rfl, rfl, rfl⟩ | ⟨g, off, rfl⟩
  · exact roped_none w
  · exact roped_some l g off cap w ha h80

end Go.Proofs.Yteahnhemcceebaa.KeepC
