/-
  Package words: index's function value: a place more of a word, in the map.
-/
import Derived.Test.YtedlgobpoifnfaaWordFind
import Derived.Test.YtedlgobpoifnfaaWordMap
import Derived.Test.YtedlgobpoifnfaaMapStep
namespace Go.Proofs.Ytedlgobpoifnfaa.WordC
open Go.RowKit Kit WordM LineM Go.Shelf Go.Maps

theorem zeroRow (w : World) : (zeroValue 28).run Try.prog w = .ok (.slice none 0 0) w := by kernel_rfl
theorem grown_drew {w w1 : World} {r : Option Nat} (h : w.grownBy w1 r) : w.grownBy w1.drew r := ⟨h.os, h.tape, h.output, h.size, h.block⟩
/-- the world in which index collects: the map lies in the block ahead of its box -/
structure NJ (w : World) (o : List (Int × List UInt8)) (W : World) : Prop where
  own : ∃ D, W.ownsGroups Try.prog 9 (w.heap.size + 2) 3 .i64 w.heap.size o.length D ∧ DM o D
  bel : Below w.heap.size w W
  cb : W.cell? ⟨w.heap.size + 1, 0, none⟩ = some (.map (some w.heap.size))
  sz : w.heap.size + 2 ≤ W.heap.size
theorem key_bs (v : List UInt8) (h : v.length ≤ 12) : keyOf Try.prog 9 (.string (bs v)) = some (.string v) := by
  have : (bs v).size ≤ maxLen := by rw [bs_size]; unfold maxLen; omega
  simp [keyOf, mapKey, Try.underlying9, this]
theorem flat_ints (zs : List Int) : zs.map (Value.int .i64) = flatC ic zs := (flat_ic zs).symm

set_option maxRecDepth 100000 in
set_option maxHeartbeats 4000000 in
theorem index1 (w : World) (n : Nat) (hn : n ≤ 600) : VisOk 40 #[.pointer (some ⟨w.heap.size + 1, 0, none⟩)] n (NJ w) := by
  intro o a v W h ho ha hv
  show Calls Try.prog 40 #[.int .i64 (a : Int), .string (bs v), .pointer (some ⟨w.heap.size + 1, 0, none⟩)] W _
  obtain ⟨i0, hi, hz0, hz1, hz2⟩ := info_parts infoInt
  have HI := Lib.hid (And.intro hi (And.intro hz0 (And.intro hz1 hz2)))
  obtain ⟨D, hg, hd⟩ := h.own
  obtain ⟨u, zs, LK, hat, hoi, hzl, hback⟩ := look_any hg (string_keyed Try.underlying9) Try.underlying64 zeroRow (by unfold maxLen; omega) (key_bs v hv)
  have hzs := hd.places v hat hoi
  have hkb : u.ownBlock ≠ some (w.heap.size + 1) := own_above hoi.1 (by omega)
  have LK' := Lib.hid LK
  have cb := h.cb
  have hlt : w.heap.size + 1 < W.heap.size := by have := h.sz; omega
  have HROW : Hid (((W.alloc (.cells #[.int .i64 (a : Int)] 3)).drew).ownsRow (w.heap.size + 2) 3 1 u zs.length (zs.map (Value.int .i64))) := Lib.hid (hoi.1.alloc _)
  have hzl2 : zs.length ≤ 600 := by omega
  have hbase : w.heap.size + 2 ≤ ((W.alloc (.cells #[.int .i64 (a : Int)] 3)).drew).heap.size := by
    show w.heap.size + 2 ≤ (W.alloc (.cells #[.int .i64 (a : Int)] 3)).heap.size
    have := h.sz
    simp; omega
  have HNEW : Hid (∀ j x, [Value.int .i64 (a : Int)][j]? = some x → ((W.alloc (.cells #[.int .i64 (a : Int)] 3)).drew).cell? ((⟨W.heap.size, 0, none⟩ : Addr).add j) = some x) := Lib.hid (cell_one_new _ _ _)
  have AFTER : Hid (∀ g cap w4, w4.ownsRow (w.heap.size + 2) 3 1 (.slice (some ⟨g, 0, none⟩) (zs.length + 1) cap) (zs.length + 1) (zs.map (Value.int .i64) ++ [.int .i64 (a : Int)]) → ((W.alloc (.cells #[.int .i64 (a : Int)] 3)).drew).grownBy w4 u.ownBlock → (u.ownBlock = some g ∨ g = W.heap.size + 1) →
      ∃ w5, (Instr.mapUpdate 64 (.map (some w.heap.size)) (.string (bs v)) (.slice (some ⟨g, 0, none⟩) (zs.length + 1) cap)).run Try.prog w4 = .ok () w5 ∧ NJ w (o ++ [((a : Int), v)]) w5 ∧ w4.cell? ⟨w.heap.size + 1, 0, none⟩ = some (.map (some w.heap.size))) := Lib.hid (fun g cap w4 hr hgr hloc => by
    have hall : W.grownBy w4 u.ownBlock := (grown_drew (World.grownBy_alloc W _ _)).trans hgr
    have hoi' := hoi.appended hr (WalkArith.wf_i64 (by omega))
    obtain ⟨w5, h5, h6, h7⟩ := hback w4 _ _ hall hoi' (by simp; omega) (by
      rcases hloc with e | e
      · exact .inl e.symm
      · exact .inr ⟨g, rfl, by omega⟩)
    have c4 := kept_at hall cb hkb
    refine ⟨w5, h5, ⟨?_, ?_, kept_at h7 c4 (by simp), ?_⟩, c4⟩
    · refine ⟨_, by simpa using h6, ?_⟩
      rw [hoi'.datum_pos (by simp), hzs]
      exact hd.add _ _
    · exact h.bel.groups hoi hall h7 (by omega) (by omega) (Nat.le_refl _)
    · have e1 := hall.size
      have e2 := h7.size
      omega)
  have LKa := LK W.drew rfl
  have LKb := LK (W.alloc (.cells #[.int .i64 (a : Int)] 3)).drew (Below.heap_alloc _ _ _ (by omega))
  have hsz2 : (bs v).size ≤ maxLen := by rw [bs_size]; unfold maxLen; omega
  clear hi hz0 hz1 hz2 hat hoi hback hzs LK hg hd h
  generalize bs v = x at *
  go_enter Try.func40, Try.ntmps40
  go_wp2_with fail
  go_region_held3 (fun W' => W'.cell? ⟨w.heap.size + 1, 0, none⟩ = some (.map (some w.heap.size)))
    (first
      | go_keep
      | exact NJ.cb (by assumption)
      | (rw [kept_at (by assumption) (by assumption) hkb])
      | assumption)
    (first
      | (refine step_append_lies _ (by rfl) _ _ _ (by rfl) (w.heap.size + 2) 3 i0 _ 1 8 Try.underlying28 HI.out.1 HI.out.2.1 HI.out.2.2.1 HI.out.2.2.2 rfl (by decide) u zs.length (zs.map (Value.int .i64)) (by rfl) HROW.out ⟨W.heap.size, 0, none⟩ 1 1 [.int .i64 (a : Int)] (by rfl) rfl HNEW.out (by simp [Value.oneCell']) (by omega) (by unfold maxLen; omega) (by omega) hbase (W.heap.size + 1) (by simp) ?_; intro g4 cap4 w4 hown4 hgrow4 hloc4 hlt4; obtain ⟨w5, hrun5, hn5, hc4⟩ := AFTER.out g4 cap4 w4 hown4 hgrow4 hloc4)
      | (refine step_update _ (by rfl) _ _ _ _ (by rfl) (.map (some w.heap.size)) (.string x) _ (by rfl) (by rfl) (by rfl) w5 (by assumption) ?_)
      | fail)
  all_goals
    go_end0
    exact ⟨rfl, by assumption⟩
end Go.Proofs.Ytedlgobpoifnfaa.WordC
