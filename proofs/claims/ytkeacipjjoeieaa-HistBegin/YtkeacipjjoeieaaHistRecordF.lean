/-
  Package hist: record, where no group is open and as many groups are kept as may be.
-/
import Derived.Test.YtkeacipjjoeieaaHistRecord
namespace Go.Proofs.Ytkeacipjjoeieaa.HistC
open Go.RowKit Kit EditM HistM

set_option maxRecDepth 100000 in
set_option maxHeartbeats 2000000 in
theorem record_full (k : Nat) (t : Value) (gs : List (List Ch)) (vu vr : Value) (vs : List Value) (F : Nat → Prop) (c : Ch) (w : World) (h : HX k t gs 20 false vu vr vs F w) :
    Calls Try.prog 30 #[.pointer (some ⟨k, 0, none⟩), .agg #[.int .i64 c.1.at_, .int .i64 c.1.cut, .string c.1.put, .int .i64 c.2.at_, .int .i64 c.2.cut, .string c.2.put]] w (RecPost k t ((gs.take 20 ++ [[c]]).drop 1) 20 F w) := by
  obtain ⟨i0, hi, hz0, hz1, hz2⟩ := info_parts infoGr
  have HI := Lib.hid (And.intro hi (And.intro hz0 (And.intro hz1 hz2)))
  clear hi hz0 hz1 hz2
  have mixed : Try.prog.follows .mixedOrders = true := by kernel_rfl
  obtain ⟨⟨a1, c1, p1⟩, a2, c2, p2⟩ := c
  dsimp only
  have HC := Lib.hid (h.clear.next (balloc (Below.refl _ _) (.cells #[.int .i64 a1, .int .i64 c1, .string p1, .int .i64 a2, .int .i64 c2, .string p2] 70)))
  obtain ⟨au, cu, hvf⟩ := h.u.form
  subst hvf
  have hlen : (gs.take 20).length = 20 := by rw [List.length_take]; have := h.le; omega
  have hvl : (vs.take 20).length = 20 := by rw [List.length_take]; have := h.le; have := h.vl; omega
  have hkF := h.kF
  have UF : Hid (∀ b, (Value.slice au 20 cu).ownBlock = some b → F b ∧ b ≠ k) := Lib.hid fun b e => ⟨(h.uF b e).1, (h.uF b e).2.1⟩
  have FR0 : Hid (Fr F w ((w.setCell ⟨k, 2, none⟩ (.slice none 0 0)).alloc (.cells #[.int .i64 a1, .int .i64 c1, .string p1, .int .i64 a2, .int .i64 c2, .string p2] 70))) := Lib.hid (((Fr.refl F w).set (.inl hkF) _).alloc _)
  have hFlt := Lib.hid h.lt
  obtain ⟨klt, q0, q1, q2, q3, qf⟩ := h.box
  have qf2 := qf 2
  have kne : ¬ k = w.heap.size := by omega
  have kne2 : ¬ w.heap.size = k := by omega
  clear h qf
  go_enter Try.func30, Try.ntmps30
  go_wp2_with fail
  have hB : ((w.setCell ⟨k, 2, none⟩ (.slice none 0 0)).alloc (.cells #[.int .i64 a1, .int .i64 c1, .string p1, .int .i64 a2, .int .i64 c2, .string p2] 70)).heap.size = w.heap.size + 1 := by simp
  have d0 : ∀ j, ((w.setCell ⟨k, 2, none⟩ (.slice none 0 0)).alloc (.cells #[.int .i64 a1, .int .i64 c1, .string p1, .int .i64 a2, .int .i64 c2, .string p2] 70)).cell? ⟨w.heap.size, j, none⟩ = #[Value.int .i64 a1, .int .i64 c1, .string p1, .int .i64 a2, .int .i64 c2, .string p2][j]? := fun j => by
    have := cells_new (w.setCell ⟨k, 2, none⟩ (.slice none 0 0)) #[.int .i64 a1, .int .i64 c1, .string p1, .int .i64 a2, .int .i64 c2, .string p2] 70 j
    simpa using this
  generalize ((w.setCell ⟨k, 2, none⟩ (.slice none 0 0)).alloc (.cells #[.int .i64 a1, .int .i64 c1, .string p1, .int .i64 a2, .int .i64 c2, .string p2] 70)) = W1 at *
  have e0 := d0 0
  have e1 := d0 1
  have e2 := d0 2
  have e3 := d0 3
  have e4 := d0 4
  have e5 := d0 5
  simp at e0 e1 e2 e3 e4 e5
  have gx := HC.out.box.c1
  have hB1 : w.heap.size < W1.heap.size := by omega
  have hk1 : k < W1.heap.size := by omega
  have HB := Lib.hid hB
  clear hB q0 q1 q2 q3 qf2 d0
  have BB : Hid (Below W1.heap.size W1 ((W1.alloc (.cells #[.int .i64 a1, .int .i64 c1, .string p1, .int .i64 a2, .int .i64 c2, .string p2] 70)).alloc (.cells #[.slice (some ⟨W1.heap.size, 0, none⟩) 1 1] 73)).drew) := Lib.hid (balloc (balloc (Below.refl _ _) _) _).drew
  have HX2 := Lib.hid (HC.out.next BB.out)
  have HGV : Hid (RX 6 ((W1.alloc (.cells #[.int .i64 a1, .int .i64 c1, .string p1, .int .i64 a2, .int .i64 c2, .string p2] 70)).alloc (.cells #[.slice (some ⟨W1.heap.size, 0, none⟩) 1 1] 73)).drew (.slice (some ⟨W1.heap.size, 0, none⟩) 1 1) 1 (ccs (⟨a1, c1, p1⟩, ⟨a2, c2, p2⟩))) := Lib.hid (by
    have hc : ∀ j, j < 6 → ((W1.alloc (.cells #[.int .i64 a1, .int .i64 c1, .string p1, .int .i64 a2, .int .i64 c2, .string p2] 70)).alloc (.cells #[.slice (some ⟨W1.heap.size, 0, none⟩) 1 1] 73)).drew.cell? ⟨W1.heap.size, 0 + j, none⟩ = [Value.int .i64 a1, .int .i64 c1, .string p1, .int .i64 a2, .int .i64 c2, .string p2][j]? := by
      intro j hj
      rw [Nat.zero_add]
      have h1 := cells_new W1 #[.int .i64 a1, .int .i64 c1, .string p1, .int .i64 a2, .int .i64 c2, .string p2] 70 j
      have h2 := (balloc (Below.refl _ (W1.alloc (.cells #[.int .i64 a1, .int .i64 c1, .string p1, .int .i64 a2, .int .i64 c2, .string p2] 70))) (.cells #[.slice (some ⟨W1.heap.size, 0, none⟩) 1 1] 73)).cell (p := ⟨W1.heap.size, j, none⟩) (by simp)
      exact h2.trans (h1.trans (by simp))
    refine ⟨rfl, .inr ⟨W1.heap.size, 0, 1, rfl, Nat.le_refl _, by unfold maxLen; omega, by simp; omega, fun j u hj => ?_, fun j hj => ⟨?_, ?_⟩⟩⟩
    · have hj6 := (List.getElem?_eq_some_iff.1 hj).1
      rw [ccs_len] at hj6
      rw [hc j hj6]; exact hj
    · rw [hc j (by omega)]
      rcases j with _ | _ | _ | _ | _ | _ | j
      all_goals first | rfl | omega
    · have h1 := World.frozen?_alloc_new W1 #[.int .i64 a1, .int .i64 c1, .string p1, .int .i64 a2, .int .i64 c2, .string p2] 70 (0 + j)
      have h2 := (balloc (Below.refl _ (W1.alloc (.cells #[.int .i64 a1, .int .i64 c1, .string p1, .int .i64 a2, .int .i64 c2, .string p2] 70))) (.cells #[.slice (some ⟨W1.heap.size, 0, none⟩) 1 1] 73)).frozen (p := ⟨W1.heap.size, 0 + j, none⟩) (by simp)
      exact h2.trans h1)
  have HROW : Hid (RX 1 ((W1.alloc (.cells #[.int .i64 a1, .int .i64 c1, .string p1, .int .i64 a2, .int .i64 c2, .string p2] 70)).alloc (.cells #[.slice (some ⟨W1.heap.size, 0, none⟩) 1 1] 73)).drew (.slice au 20 cu) 20 (vs.take 20)) := Lib.hid (by
    have := HX2.out.u
    rwa [List.take_of_length_le (by omega)] at this)
  have HNEW : Hid (∀ (j : Nat) u, [Value.slice (some ⟨W1.heap.size, 0, none⟩) 1 1][j]? = some u → ((W1.alloc (.cells #[.int .i64 a1, .int .i64 c1, .string p1, .int .i64 a2, .int .i64 c2, .string p2] 70)).alloc (.cells #[.slice (some ⟨W1.heap.size, 0, none⟩) 1 1] 73)).drew.cell? ((⟨W1.heap.size + 1, 0, none⟩ : Addr).add j) = some u) := Lib.hid (by
    have := cells_six_new (W1.alloc (.cells #[.int .i64 a1, .int .i64 c1, .string p1, .int .i64 a2, .int .i64 c2, .string p2] 70)) [Value.slice (some ⟨W1.heap.size, 0, none⟩) 1 1] 73
    simpa using this)
  have HK1 : some k ≠ (Value.slice au 20 cu).ownBlock := fun e => (UF.out k e.symm).2 rfl
  have GV4 : Hid (∀ w4, ((W1.alloc (.cells #[.int .i64 a1, .int .i64 c1, .string p1, .int .i64 a2, .int .i64 c2, .string p2] 70)).alloc (.cells #[.slice (some ⟨W1.heap.size, 0, none⟩) 1 1] 73)).drew.grownBy w4 (Value.slice au 20 cu).ownBlock → B4 k t (.slice au 20 cu) (.slice none 0 0) (.bool false) w4) := Lib.hid fun w4 q => HX2.out.box.kept q.size (q.block k (HX2.out.lt k hkF) HK1)
  go_region_law ((refine step_append_rx _ (by rfl) _ _ _ (by rfl) 73 i0 _ 1 24 Try.underlying52 HI.out.1 HI.out.2.1 HI.out.2.2.1 HI.out.2.2.2 rfl (by decide) (.slice au 20 cu) 20 (vs.take 20) (by rfl) HROW.out ⟨W1.heap.size + 1, 0, none⟩ 1 [.slice (some ⟨W1.heap.size, 0, none⟩) 1 1] (by rfl) rfl HNEW.out (by simp [Value.oneCell']) (by unfold maxLen; omega) (by omega) ?_; intro a4 cap4 w4 hown4 hgrow4 hat4; obtain ⟨kl4, _, gx4, _, gy4, fr4⟩ := GV4.out _ hgrow4; have fr41 := fr4 1; have fr43 := fr4 3; clear fr4))
  all_goals
    have FIN := Lib.hid ((HX.pushed (w0 := w) HX2.out hlen.symm (by simp; omega) hFlt.out (b := W1.heap.size) rfl (by omega) HGV.out hown4 hgrow4 hat4).mark true)
    have FR := Lib.hid (((((FR0.out.alloc (.cells #[.int .i64 a1, .int .i64 c1, .string p1, .int .i64 a2, .int .i64 c2, .string p2] 70)).alloc (.cells #[.slice (some ⟨W1.heap.size, 0, none⟩) 1 1] 73)).drew.grown hgrow4 (fun b e => .inl (UF.out b e).1)).set (k := k) (o := 1) (.inl hkF) (.slice a4 (20 + 1) cap4)).set (k := k) (o := 3) (.inl hkF) (.bool true))
    obtain ⟨g5, off5, cap5, hx5, hle5, _⟩ := hown4.pos (by omega)
    cases hx5
    clear hown4 hgrow4 hat4
    have FIN2 := Lib.hid (FIN.out.fewer (by rw [List.length_append, hlen]; rfl))
    have FR2 := Lib.hid (FR.out.set (k := k) (o := 1) (.inl hkF) (.slice (some ⟨g5, off5 + 1, none⟩) 20 (cap4 - 1)))
    have c1i : (1 : Int) ≤ (cap4 : Int) := by omega
    have c2i : (21 : Int) ≤ (cap4 : Int) := by omega
    have c3i : 21 ≤ cap4 := by omega
    go_wp2_with fail
    go_end0
    refine ⟨rfl, ⟨_, _, _, FIN2.out.mono (fun b q => q.imp id fun q => ⟨q.1, by rw [setZ, setZ, setZ]; exact q.2⟩) (fun b q => ?_)⟩, FR2.out⟩
    rcases q with q | q
    · exact Nat.lt_of_lt_of_le (hFlt.out b q) FR2.out.size
    · exact q.2

end Go.Proofs.Ytkeacipjjoeieaa.HistC
