/-
  The law RopeShallow.
-/
import Derived.Test.YteahnhemcceebaaRopeCopiesW
import Derived.Test.YteahnhemcceebaaRopeMeas
import Derived.Test.YteahnhemcceebaaBits
import Derived.Test.YteahnhemcceebaaPosMayC
namespace Go.Proofs.Yteahnhemcceebaa.KeepC
open Go.RowKit Kit RopeM RopeC Txt Lift PosM BitsM

/-- how the texts grow -/
structure Sh (L : List OpM) (i now sz : Nat) : Prop where
  len : L.length = 3 + i
  tlen : (texts L []).length = 3 + i
  t1 : (texts L [])[1]? = some [97]
  t2 : (texts L [])[2]? = some [10, 98, 99]
  lt : now < 3 + i
  tn : ∃ t, (texts L [])[now]? = some t ∧ t.length = sz
  up : sz ≤ 3 * i
  lo : i ≤ sz
def base3 : List OpM := [⟨1, ⟨#[]⟩, 0, 0, 0, 0⟩, ⟨1, ⟨#[97]⟩, 0, 0, 0, 0⟩, ⟨1, ⟨#[10, 98, 99]⟩, 0, 0, 0, 0⟩]
theorem base3_texts : texts base3 [] = [[], [97], [10, 98, 99]] := by decide
theorem Sh.start : Sh base3 0 0 0 := by
  refine ⟨rfl, by rw [base3_texts]; rfl, by rw [base3_texts]; rfl, by rw [base3_texts]; rfl, by omega, ⟨[], by rw [base3_texts]; rfl, rfl⟩, by omega, by omega⟩
def catOp (a b : Nat) : OpM := ⟨2, ⟨#[]⟩, (a : Int), (b : Int), 0, 0⟩
theorem nth_of {ts : Tx} {k : Nat} {t : List UInt8} (h : ts[k]? = some t) : nth ts (k : Int) = t := by simp [nth, List.getD_eq_getElem?_getD, h]
theorem has_of {k n : Nat} (h : k < n) : has (k : Int) n = true := by simp [has]; omega
/-- one more operation: a part of 1 or 3 bytes at one end or the other -/
theorem Sh.step {L : List OpM} {i now sz a b x : Nat} (h : Sh L i now sz) (hi : i < 50) (hx : x = 1 ∨ x = 2) (hab : (a = now ∧ b = x) ∨ (a = x ∧ b = now)) : Sh (L ++ [catOp a b]) (i + 1) (3 + i) (sz + (if x = 1 then 1 else 3)) := by
  obtain ⟨h1, h2, h3, h4, h5, ⟨t, ht, htl⟩, h7, h8⟩ := h
  obtain ⟨u, hu, hul⟩ : ∃ u, (texts L [])[x]? = some u ∧ u.length = if x = 1 then 1 else 3 := by
    rcases hx with rfl | rfl
    · exact ⟨_, h3, rfl⟩
    · exact ⟨_, h4, rfl⟩
  have hxi : x < 3 + i := by rcases hx with rfl | rfl <;> omega
  have hul3 : u.length ≤ 3 := by rw [hul]; split <;> omega
  have hul1 : 1 ≤ u.length := by rw [hul]; split <;> omega
  have key : ∃ v, newT (catOp a b) (texts L []) = v ∧ v.length = sz + u.length ∧ has (a : Int) (texts L []).length = true ∧ has (b : Int) (texts L []).length = true := by
    rcases hab with ⟨rfl, rfl⟩ | ⟨rfl, rfl⟩
    · refine ⟨t ++ u, ?_, by rw [List.length_append, htl], has_of (by omega), has_of (by omega)⟩
      unfold newT catOp; simp only [if_true]; rw [nth_of ht, nth_of hu]
    · refine ⟨u ++ t, ?_, by rw [List.length_append, htl]; omega, has_of (by omega), has_of (by omega)⟩
      unfold newT catOp; simp only [if_true]; rw [nth_of ht, nth_of hu]
  obtain ⟨v, hv, hvl, ha, hb⟩ := key
  have hc : code (catOp a b) (texts L []) = 0 := code_ok (by simp [catOp]) (by simp [catOp]) (fun _ => ha) (fun _ => hb) (by simp [inR, catOp]) (by omega) (by rw [hv]; omega)
  have he : texts (L ++ [catOp a b]) [] = texts L [] ++ [v] := by
    rw [texts_append]
    show nextT (catOp a b) (texts L []) = _
    rw [next_ok hc, hv]
  refine ⟨by simp [h1]; omega, by rw [he]; simp [h2]; omega, ?_, ?_, by omega, ⟨v, ?_, by rw [hvl, hul]⟩, ?_, ?_⟩
  · rw [he, List.getElem?_append_left (by omega)]; exact h3
  · rw [he, List.getElem?_append_left (by omega)]; exact h4
  · rw [he, List.getElem?_append_right (by omega), h2]; simp
  · rw [← hul]; omega
  · rw [← hul]; omega

theorem isRow_nx {w w' : World} {a : Option Addr} {len cap : Nat} {zs : List Int} (h : IsRow .i64 w a len cap zs) (hb : Below w.heap.size w w') : IsRow .i64 w' a len cap zs := by
  rcases h with h | ⟨x, e, h1, h2, h3, h4, h5⟩
  · exact .inl h
  · refine .inr ⟨x, e, h1, h2, h3, fun i hi => ?_, h5⟩
    have hc := h4 i hi
    have hlt : (x.add i).block < w.heap.size := by
      unfold World.cell? at hc
      split at hc
      · rename_i hs; exact (Array.getElem?_eq_some_iff.1 hs).1
      · cases hc
    exact (hb.cell hlt).trans hc
theorem cell6 (w : World) (x0 x1 x2 x3 x4 x5 : Value) (o : Obj) (t : TypeId) : ∀ j u, [x0, x1, x2, x3, x4, x5][j]? = some u → ((w.alloc o).alloc (.cells #[x0, x1, x2, x3, x4, x5] t)).cell? ((⟨w.heap.size + 1, 0, none⟩ : Addr).add j) = some u := by
  intro j u hj
  have e : (⟨w.heap.size + 1, 0, none⟩ : Addr).add j = ⟨w.heap.size + 1, j, none⟩ := by
    unfold Addr.add; split
    · rename_i h0; rw [h0]
    · simp
  have := cellsNew (w.alloc o) #[x0, x1, x2, x3, x4, x5] t j
  rw [World.size_alloc] at this
  rw [e, this]
  simpa using hj
theorem base3_cells : opCells base3 = [.int .i64 1, .string ⟨#[]⟩, .int .i64 0, .int .i64 0, .int .i64 0, .int .i64 0, .int .i64 1, .string ⟨#[97]⟩, .int .i64 0, .int .i64 0, .int .i64 0, .int .i64 0, .int .i64 1, .string ⟨#[10, 98, 99]⟩, .int .i64 0, .int .i64 0, .int .i64 0, .int .i64 0] := rfl
theorem base3_row (w : World) : (w.alloc (.cells #[.int .i64 1, .string ⟨#[]⟩, .int .i64 0, .int .i64 0, .int .i64 0, .int .i64 0, .int .i64 1, .string ⟨#[97]⟩, .int .i64 0, .int .i64 0, .int .i64 0, .int .i64 0, .int .i64 1, .string ⟨#[10, 98, 99]⟩, .int .i64 0, .int .i64 0, .int .i64 0, .int .i64 0] 50)).ownsRow w.heap.size 50 6 (.slice (some ⟨w.heap.size, 0, none⟩) 3 3) 3 (opCells base3) := by
  refine ⟨by rw [base3_cells]; rfl, .inr ⟨w.heap.size, 3, _, rfl, Nat.le_refl _, World.alloc_heap_new w _, by omega, by unfold maxLen; omega, rfl, ?_⟩⟩
  rw [base3_cells]; rfl

theorem depthsRow {w : World} {v : Value} {ts : List RT} (h : Row w v (depsV ts)) : ∃ a cap, v = .slice a ts.length cap ∧ ∀ (i : Nat) t, ts[i]? = some t → ∃ g off, a = some ⟨g, off, none⟩ ∧ g < w.heap.size ∧ w.cell? ⟨g, off + i, none⟩ = some (.int .i64 (t.dep : Int)) := by
  obtain ⟨a, cap, rfl, h⟩ := h
  refine ⟨a, cap, by simp [depsV], fun i t hi => ?_⟩
  have hlt := (List.getElem?_eq_some_iff.1 hi).1
  obtain ⟨g, off, e, hg, hc⟩ := h (by simp [depsV]; omega)
  refine ⟨g, off, e, hg, ?_⟩
  rw [hc i (by simpa [depsV] using hlt)]
  simp [depsV, hi]
theorem depthsV (v : Value) (L : List OpM) (now sz : Nat) (w : World) (h : OpsV w v L) (hsh : Sh L 50 now sz) :
    Calls Try.prog 18 #[v] w fun e w' => ∃ g off cap dd, e = .returned (.tuple #[.slice (some ⟨g, off, none⟩) 53 cap, .int .i64 0]) ∧ g < w'.heap.size ∧ w'.cell? ⟨g, off + now, none⟩ = some (.int .i64 ((dd : Nat) : Int)) ∧ 1 ≤ dd ∧ dd ≤ 2 * BitsM.bits sz ∧ Below w.heap.size w w' := by
  obtain ⟨a, cap, rfl, _, ha, _⟩ := h
  obtain ⟨h1, h2, h3, h4, h5, ⟨t, ht, htl⟩, h7, h8⟩ := hsh
  refine (depths L a cap w ha (by omega)).mono ?_
  rintro e w' ⟨dv, ts, rfl, htx, hok, hd, hb⟩
  obtain ⟨a', cap', rfl, hc⟩ := depthsRow hd
  have hlen : ts.length = 53 := by rw [← txts_length, htx, h2]
  rw [← htx] at ht
  obtain ⟨r, hr, hrt⟩ : ∃ r, ts[now]? = some r ∧ r.txt = t := by
    simp only [txts, List.getElem?_map, Option.map_eq_some_iff] at ht
    exact ht
  obtain ⟨g, off, rfl, hg, hcell⟩ := hc now r hr
  have ho := hok r (List.mem_of_getElem? hr)
  have hl : r.len = sz := by rw [← RT.txt_len, hrt, htl]
  have hd1 := dep_bits ho
  have hd2 := RT.dep_pos ho
  rw [hl] at hd1 hd2
  exact ⟨g, off, cap', r.dep, by rw [hlen], hg, hcell, by omega, hd1, hb⟩
theorem measureV (v : Value) (L : List OpM) (now sz : Nat) (w : World) (h : OpsV w v L) (hsh : Sh L 50 now sz) :
    Calls Try.prog 15 #[v] w fun e w' => ∃ g cap hv' l c, e = .returned (.tuple #[.slice (some ⟨g, 0, none⟩) 53 cap, hv', .int .i64 0]) ∧ g < w'.heap.size ∧ w'.cell? ⟨g, now * 3, none⟩ = some (.int .i64 (sz : Int)) ∧ w'.cell? ⟨g, now * 3 + 1, none⟩ = some (.int .i64 l) ∧ w'.cell? ⟨g, now * 3 + 2, none⟩ = some (.int .i64 c) ∧ mayB (sz : Int) l c = true ∧ Below w.heap.size w w' := by
  obtain ⟨a, cap, rfl, _, ha, _⟩ := h
  obtain ⟨h1, h2, h3, h4, h5, ⟨t, ht, htl⟩, h7, h8⟩ := hsh
  refine (measured L a cap w ha (by omega)).mono ?_
  rintro e w' ⟨pv, hv', rfl, hm, hb⟩
  obtain ⟨a', cap', rfl, hc⟩ := hm.pos
  obtain ⟨g, rfl, hg, c0, c1, c2⟩ := hc now t ht
  rw [htl] at c0
  have hmay := mayB_of t (by omega)
  rw [htl] at hmay
  exact ⟨g, cap', hv', _, _, by rw [h2], hg, c0, c1, c2, hmay, hb⟩

end Go.Proofs.Yteahnhemcceebaa.KeepC
