/-
  Package hist: record (a change is added to the open group, or to a new one).
-/
import Derived.Test.YtkeacipjjoeieaaHistAt
import Derived.WalkSpells
import Derived.Deep.RegionLaw
namespace Go.Proofs.Ytkeacipjjoeieaa.HistC
open Go.RowKit Kit EditM HistM

theorem infoCh : (Try.prog.info? 70).map (fun i => (i.zero, i.size, i.bytes)) = some (some (.agg #[.int .i64 0, .int .i64 0, .string ⟨#[]⟩, .int .i64 0, .int .i64 0, .string ⟨#[]⟩]), 6, 64) := by kernel_rfl
theorem infoGr : (Try.prog.info? 73).map (fun i => (i.zero, i.size, i.bytes)) = some (some (.slice none 0 0), 1, 24) := by kernel_rfl

def RecPost (k : Nat) (t : Value) (gs : List (List Ch)) (p : Nat) (F : Nat → Prop) (w : World) (x : Ending) (w' : World) : Prop := x = .returned (.tuple #[]) ∧ (∃ vu vr vs, HX k t gs p true vu vr vs (grow F w w') w') ∧ Fr F w w'
theorem cells_six_new (w : World) (cs : List Value) (t : TypeId) : ∀ j u, cs[j]? = some u → (w.alloc (.cells cs.toArray t)).cell? ((⟨w.heap.size, 0, none⟩ : Addr).add j) = some u := by
  intro j u hj
  have e : (⟨w.heap.size, 0, none⟩ : Addr).add j = ⟨w.heap.size, j, none⟩ := by rw [add_of rfl]; simp
  rw [e, cells_new]
  simpa using hj
set_option maxRecDepth 100000 in
set_option maxHeartbeats 2000000 in
theorem record_open (k : Nat) (t : Value) (gs : List (List Ch)) (n : Nat) (vu vr : Value) (vs : List Value) (F : Nat → Prop) (gl : List Ch) (c : Ch) (w : World) (h : HX k t gs (n + 1) true vu vr vs F w) (hn : n < 20) (hgl : gs[n]? = some gl) (hsm : gl.length ≤ 1000) :
    Calls Try.prog 30 #[.pointer (some ⟨k, 0, none⟩), .agg #[.int .i64 c.1.at_, .int .i64 c.1.cut, .string c.1.put, .int .i64 c.2.at_, .int .i64 c.2.cut, .string c.2.put]] w (RecPost k t ((gs.take (n + 1)).set n (gl ++ [c])) (n + 1) F w) := by
  obtain ⟨i0, hi, hz0, hz1, hz2⟩ := info_parts infoCh
  have HI := Lib.hid (And.intro hi (And.intro hz0 (And.intro hz1 hz2)))
  clear hi hz0 hz1 hz2
  have mixed : Try.prog.follows .mixedOrders = true := by kernel_rfl
  obtain ⟨⟨a1, c1, p1⟩, a2, c2, p2⟩ := c
  dsimp only
  have HC := Lib.hid (h.clear.next (balloc (Below.refl _ _) (.cells #[.int .i64 a1, .int .i64 c1, .string p1, .int .i64 a2, .int .i64 c2, .string p2] 70)))
  obtain ⟨g, off, cap, rfl, hcap, hmx, hgl0, _⟩ := h.u.pos (by omega)
  obtain ⟨v, hv⟩ : ∃ v, vs[n]? = some v := ⟨vs[n]'(by have := h.vl; have := h.le; omega), by simp⟩
  have hv1 : (vs.take (n + 1))[n]? = some v := by rw [List.getElem?_take, if_pos (by omega)]; exact hv
  have hgl1 : (gs.take (n + 1))[n]? = some gl := by rw [List.getElem?_take, if_pos (by omega)]; exact hgl
  have hlen : (gs.take (n + 1)).length = n + 1 := by rw [List.length_take]; have := h.le; omega
  obtain ⟨hgF, hgk, _⟩ := h.uF g rfl
  obtain ⟨b0, hb0, hF0, hk0, hu0, _⟩ := h.gF n v hv
  obtain ⟨av, cv, hvf⟩ := (h.g n v gl hv hgl).form
  subst hvf
  have hkF := h.kF
  have FR0 : Hid (Fr F w ((w.setCell ⟨k, 2, none⟩ (.slice none 0 0)).alloc (.cells #[.int .i64 a1, .int .i64 c1, .string p1, .int .i64 a2, .int .i64 c2, .string p2] 70))) := Lib.hid (((Fr.refl F w).set (.inl hkF) _).alloc _)
  have hFlt := Lib.hid h.lt
  obtain ⟨klt, q0, q1, q2, q3, qf⟩ := h.box
  have qf2 := qf 2
  have kne : ¬ k = w.heap.size := by omega
  have kne2 : ¬ w.heap.size = k := by omega
  clear h hv hgl qf
  go_enter Try.func30, Try.ntmps30
  go_wp2_with fail
  have hB : ((w.setCell ⟨k, 2, none⟩ (.slice none 0 0)).alloc (.cells #[.int .i64 a1, .int .i64 c1, .string p1, .int .i64 a2, .int .i64 c2, .string p2] 70)).heap.size = w.heap.size + 1 := by simp
  have d0 : ∀ j, ((w.setCell ⟨k, 2, none⟩ (.slice none 0 0)).alloc (.cells #[.int .i64 a1, .int .i64 c1, .string p1, .int .i64 a2, .int .i64 c2, .string p2] 70)).cell? ⟨w.heap.size, j, none⟩ = #[Value.int .i64 a1, .int .i64 c1, .string p1, .int .i64 a2, .int .i64 c2, .string p2][j]? := fun j => by
    have := cells_new (w.setCell ⟨k, 2, none⟩ (.slice none 0 0)) #[.int .i64 a1, .int .i64 c1, .string p1, .int .i64 a2, .int .i64 c2, .string p2] 70 j
    simpa using this
  generalize ((w.setCell ⟨k, 2, none⟩ (.slice none 0 0)).alloc (.cells #[.int .i64 a1, .int .i64 c1, .string p1, .int .i64 a2, .int .i64 c2, .string p2] 70)) = W1 at *
  have e0 := d0 0
  have e1 := d0 1
  have e2 := d0 2
  have e3 := d0 3
  have e4 := d0 4
  have e5 := d0 5
  simp at e0 e1 e2 e3 e4 e5
  have gx := HC.out.box.c1
  obtain ⟨_, _, _, hx, _, _, hlt, hcs, hsp⟩ := HC.out.u.pos (by omega)
  cases hx
  have gv : W1.cell? ⟨g, off + n, none⟩ = some (.slice av gl.length cv) := hcs n _ (by rw [List.getElem?_take, if_pos (by omega)]; exact hv1)
  have gf : W1.frozen? ⟨g, off + n, none⟩ = false := (hsp n (by omega)).2
  have GR := Lib.hid (HC.out.g n _ _ hv1 hgl1)
  have hgB : g < w.heap.size := hFlt.out g hgF
  have hbB : b0 < w.heap.size := hFlt.out b0 hF0
  have hgb0 : g ≠ b0 := fun e => hu0 (by rw [e]; rfl)
  have gne : ¬ g = w.heap.size := by omega
  have gne1 : ¬ g = k := hgk
  clear q0 q1 q2 q3 qf2 hcs hsp d0
  have hB1 : w.heap.size < W1.heap.size := by omega
  have hk1 : k < W1.heap.size := by omega
  have HB := Lib.hid hB
  clear hB
  have HROW : Hid (RX 6 (W1.alloc (.cells #[.int .i64 a1, .int .i64 c1, .string p1, .int .i64 a2, .int .i64 c2, .string p2] 70)).drew (.slice av gl.length cv) gl.length (flatC ccs gl)) := Lib.hid (GR.out.kept (by simp) fun b e => Below.heap_alloc W1 _ b (GR.out.lt e))
  have HNEW : Hid (∀ (j : Nat) u, [Value.int .i64 a1, .int .i64 c1, .string p1, .int .i64 a2, .int .i64 c2, .string p2][j]? = some u → (W1.alloc (.cells #[.int .i64 a1, .int .i64 c1, .string p1, .int .i64 a2, .int .i64 c2, .string p2] 70)).drew.cell? ((⟨W1.heap.size, 0, none⟩ : Addr).add j) = some u) := Lib.hid (cells_six_new W1 _ _)
  have HK1 : some k ≠ (Value.slice av gl.length cv).ownBlock := by rw [hb0]; intro e; injection e with e; exact hk0 e.symm
  have HG1 : some g ≠ (Value.slice av gl.length cv).ownBlock := by rw [hb0]; intro e; injection e with e; exact hgb0 e
  have HW1 : some w.heap.size ≠ (Value.slice av gl.length cv).ownBlock := by rw [hb0]; intro e; injection e with e; omega
  have hn1 : n < n + 1 := by omega
  have hn2 : (n : Int) < (n : Int) + 1 := by omega
  obtain ⟨N, hN⟩ : ∃ N, N = gl.length := ⟨_, rfl⟩
  rw [← hN] at gv hsm HROW HK1 HG1 HW1 hb0
  have HN := Lib.hid hN
  clear hN
  have GM : Hid (∀ (w4 : World) (x : Value) (b : Nat), grow F (W1.alloc (.cells #[.int .i64 a1, .int .i64 c1, .string p1, .int .i64 a2, .int .i64 c2, .string p2] 70)).drew w4 b → grow F w (w4.setCell ⟨g, off + n, none⟩ x) b) := Lib.hid fun w4 x b q => q.imp id fun q => ⟨by have := q.1; simp at this; omega, by rw [setZ]; exact q.2⟩
  have BB : Hid (Below W1.heap.size W1 (W1.alloc (.cells #[.int .i64 a1, .int .i64 c1, .string p1, .int .i64 a2, .int .i64 c2, .string p2] 70)).drew) := Lib.hid (balloc (Below.refl _ _) _).drew
  have GV4 : Hid (∀ w4, (W1.alloc (.cells #[.int .i64 a1, .int .i64 c1, .string p1, .int .i64 a2, .int .i64 c2, .string p2] 70)).drew.grownBy w4 (Value.slice av N cv).ownBlock → w4.cell? ⟨g, off + n, none⟩ = some (.slice av N cv) ∧ w4.frozen? ⟨g, off + n, none⟩ = false ∧ w4.cell? ⟨k, 1, none⟩ = some (.slice (some ⟨g, off, none⟩) (n + 1) cap)) := Lib.hid fun w4 q => ⟨(q.cell_far ⟨g, off + n, none⟩ (by simp; omega) HG1).trans (keep BB.out hlt gv), (q.frozen_far ⟨g, off + n, none⟩ (by simp; omega) HG1).trans ((BB.out.frozen (p := ⟨g, off + n, none⟩) hlt).trans gf), (q.cell_far ⟨k, 1, none⟩ (by simp; omega) HK1).trans (keep BB.out hk1 gx)⟩
  go_region_law ((refine step_append_rx _ (by rfl) _ _ _ (by rfl) 70 i0 _ 6 64 Try.underlying73 HI.out.1 HI.out.2.1 HI.out.2.2.1 HI.out.2.2.2 rfl (by decide) (.slice av N cv) N (flatC ccs gl) (by rfl) HROW.out ⟨W1.heap.size, 0, none⟩ 1 [.int .i64 a1, .int .i64 c1, .string p1, .int .i64 a2, .int .i64 c2, .string p2] (by rfl) rfl HNEW.out (by simp [Value.oneCell']) (by unfold maxLen; omega) (by omega) ?_; intro a4 cap4 w4 hown4 hgrow4 hat4; obtain ⟨gv4, gf4, gx4⟩ := GV4.out _ hgrow4))
  all_goals
    have FIN := Lib.hid (HX.longer (HC.out.next (w' := (W1.alloc (.cells #[.int .i64 a1, .int .i64 c1, .string p1, .int .i64 a2, .int .i64 c2, .string p2] 70)).drew) (balloc (Below.refl _ _) _).drew) hlen hv1 hgl1 (c := (⟨a1, c1, p1⟩, ⟨a2, c2, p2⟩)) (by rw [← HN.out]; exact hown4) (by rw [← HN.out]; exact hgrow4) (by rw [← HN.out]; exact hat4))
    have FR := Lib.hid (((FR0.out.alloc (.cells #[.int .i64 a1, .int .i64 c1, .string p1, .int .i64 a2, .int .i64 c2, .string p2] 70)).drew.grown hgrow4 (fun b e => .inl (by rw [hb0] at e; cases e; exact hF0))).set (k := g) (o := off + n) (.inl hgF) (.slice a4 (N + 1) cap4))
    clear hown4 hgrow4 hat4
    go_wp2_with fail
    go_end0
    refine ⟨rfl, ⟨_, _, _, FIN.out.mono (GM.out _ _) (fun b q => ?_)⟩, FR.out⟩
    rcases q with q | q
    · exact Nat.lt_of_lt_of_le (hFlt.out b q) FR.out.size
    · exact q.2

end Go.Proofs.Ytkeacipjjoeieaa.HistC
