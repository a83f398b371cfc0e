/-
  fustiankeep.copiedWords, fustiankeep.sameWords.
-/
import Derived.Test.YtedlgobpoifnfaaCopyRow
import Derived.Test.YtedlgobpoifnfaaWordAt
import Derived.Test.YtedlgobpoifnfaaWordFind
import Derived.Test.YtedlgobpoifnfaaRefGroup
import Derived.Test.YtedlgobpoifnfaaSameK
import Derived.WalkSmall
import Derived.BigQuiet
namespace Go.Proofs.Ytedlgobpoifnfaa.WordK
open Go.RowKit Kit WordM LineM WordC

/-- the copies so far -/
def CW (w : World) (l : List (List UInt8 × List Int)) (i : Nat) (vo : Value) (W : World) : Prop := ∃ us : List Wt, us.map rd = l.take i ∧ W.ownsRow w.heap.size 46 2 vo i (flatC cw us) ∧ (∀ t ∈ us, W.ownsRow w.heap.size 3 1 t.2.1 t.2.2.length (flatC ic t.2.2)) ∧ Below w.heap.size w W
theorem CW.add {w W w4 : World} {l : List (List UInt8 × List Int)} {i : Nat} {vo : Value} (h : CW w l i vo W) {p : List UInt8 × List Int} (hi : l[i]? = some p) (hb : Below W.heap.size W w4) {b : Option Addr} {c : Nat} (hr : w4.ownsRow w.heap.size 3 1 (.slice b p.2.length c) p.2.length (flatC ic p.2)) :
    ∃ us : List Wt, w4.ownsRow w.heap.size 46 2 vo i (flatC cw us) ∧ ∀ ob g5 cap5 w5, w5.ownsRow w.heap.size 46 2 (.slice (some ⟨g5, 0, none⟩) (i + 1) cap5) (i + 1) (flatC cw us ++ [.string (bs p.1), .slice b p.2.length c]) → (w4.alloc ob).grownBy w5 vo.ownBlock → CW w l (i + 1) (.slice (some ⟨g5, 0, none⟩) (i + 1) cap5) w5 := by
  obtain ⟨us, h1, h2, h3, h4⟩ := h
  have h2' := row_next h2 hb
  refine ⟨us, h2', fun ob g5 cap5 w5 hr5 hg5 => ⟨us ++ [(p.1, .slice b p.2.length c, p.2)], ?_, ?_, ?_, ?_⟩⟩
  · rw [List.map_append, h1, List.take_add_one, hi]; rfl
  · rw [flatC_append, flatC_one]; exact hr5
  · intro t ht
    rcases List.mem_append.1 ht with ht | ht
    · have h5 := row_next (h3 t ht) hb
      exact (h5.alloc ob).kept hg5 (WordR.apart h5 h2' (by decide))
    · simp at ht
      subst ht
      exact (hr.alloc ob).kept hg5 (WordR.apart hr h2' (by decide))
  · exact bgrow (balloc (bstep h4 hb) ob) (h2'.alloc ob) hg5

set_option maxRecDepth 100000 in
set_option maxHeartbeats 4000000 in
theorem copied (va : Value) (l : List (List UInt8 × List Int)) (w : World) (hv : WsV w va l) (hl : l.length ≤ 600) (hp : ∀ p ∈ l, p.2.length ≤ 600) :
    Calls Try.prog 19 #[va] w (WsPost w l) := by
  obtain ⟨i0, hi, hz0, hz1, hz2⟩ := info_parts infoInt
  have HI := Lib.hid (And.intro hi (And.intro hz0 (And.intro hz1 hz2)))
  clear hi hz0 hz1 hz2
  obtain ⟨j0, hi, hz0, hz1, hz2⟩ := info_parts infoWord
  have HJ := Lib.hid (And.intro hi (And.intro hz0 (And.intro hz1 hz2)))
  clear hi hz0 hz1 hz2
  obtain ⟨a1, c1, rfl⟩ := hv.form
  have A1 := Lib.hid hv
  have HP := Lib.hid hp
  clear hv hp
  generalize hN : l.length = N at *
  have HN := Lib.hid hN
  clear hN
  go_enter Try.func19, Try.ntmps19
  go_wp2_with fail
  go_loopw [3, 4] (fun vo vi wr => ∃ i : Nat, i ≤ N ∧ vi = .int .i64 (i : Int) ∧ Hid (CW w l i vo wr)) (fun _ vi _ => N - (intOf vi).toNat)
  case atStart => exact ⟨0, by omega, rfl, Lib.hid ⟨[], by simp, World.ownsRow_nil _ _ _ _, fun t ht => by simp at ht, Below.refl _ _⟩⟩
  case round =>
    obtain ⟨i, hi, rfl, HK⟩ := hrel
    by_cases hlt : i < N
    · have hil : i < l.length := by rw [HN.out]; exact hlt
      obtain ⟨p, hpx⟩ : ∃ p, l[i]? = some p := ⟨l[i], by simp [hil]⟩
      obtain ⟨g, off, u, rfl, hg, cx0, cx1, hu⟩ := A1.out.get hpx
      obtain ⟨us0, _, hrow0, _, hbel⟩ := HK.out
      have hgw : g < w.heap.size := hg
      have hg2 : g < wr.drew.heap.size := Nat.lt_of_lt_of_le hgw hbel.size
      have S0 : Hid (wr.drew.cell? ⟨g, off + i * 2, none⟩ = some (.string (bs p.1)) ∧ wr.drew.cell? ⟨g, off + i * 2 + 1, none⟩ = some u) := Lib.hid ⟨(show wr.cell? _ = _ from keep hbel hg cx0), (show wr.cell? _ = _ from keep hbel hg cx1)⟩
      have VD := Lib.hid (SlV.next (SlV.next hu hbel) (Below.drew (Below.refl _ _)))
      have hsz := hbel.size
      have hp6 : p.2.length ≤ 600 := HP.out p (List.mem_of_getElem? hpx)
      have ADD := Lib.hid (fun w4 b c (hb : Below wr.drew.heap.size wr.drew w4) hr => HK.out.add (w4 := w4) (b := b) (c := c) hpx (Below.trans (Below.drew (Below.refl _ _)) hb) hr)
      have NB := Lib.hid (own_above (k := g) hrow0)
      have r1 : IntKind.i64.wrap ((i : Int) + 1) = (i : Int) + 1 := IntWalk.i64_in _ (by omega)
      have p1 : (0 : Int) ≤ (i : Int) := by omega
      have p2 : (i : Int) < (N : Int) := by omega
      clear cx0 cx1 hpx hil HK hrow0 hbel hu
      obtain ⟨x, hx⟩ : ∃ x, bs p.1 = x := ⟨_, rfl⟩
      rw [hx] at S0
      have HX := Lib.hid hx
      clear hx
      generalize hn4 : p.2.length = n4 at *
      have HN4 := Lib.hid hn4
      clear hn4
      go_wp2_with fail
      go_region_held3 (fun W => W.cell? ⟨g, off + i * 2, none⟩ = some (.string x) ∧ W.cell? ⟨g, off + i * 2 + 1, none⟩ = some u)
        (first | exact S0.out | exact S1.out | exact S1a.out | exact S2.out)
        (first
          | (have _t := VD; clear _t; refine step_copyR ic_len ic_one (by omega) (by rfl) _ _ _ (by rfl) 3 i0 _ 8 Try.underlying28 HI.out.1 HI.out.2.1 HI.out.2.2.1 HI.out.2.2.2 rfl (by rfl) u (by rfl) p.2 VD.out (by rw [HN4.out]; unfold maxLen; omega) (by rw [HN4.out]; omega) ?_; intro b4 c4 w4 hr4 hb4; rw [HN4.out] at hr4 ⊢; obtain ⟨us, hrow4, hadd4⟩ := ADD.out w4 b4 c4 hb4 (hr4.mono (by show w.heap.size ≤ wr.heap.size; omega)); have HROW4 := Lib.hid hrow4; have HADD4 := Lib.hid hadd4; rw [HX.out] at HADD4; have hs4 : w.heap.size ≤ w4.heap.size := Nat.le_trans hsz hb4.size; have hg4 : g < w4.heap.size := Nat.lt_of_lt_of_le hg2 hb4.size; have S1 := Lib.hid (And.intro (keep hb4 hg2 S0.out.1) (keep hb4 hg2 S0.out.2)); have S1a : Hid ((w4.alloc (.cells #[.string x, .slice b4 n4 c4] 46)).cell? ⟨g, off + i * 2, none⟩ = some (.string x) ∧ (w4.alloc (.cells #[.string x, .slice b4 n4 c4] 46)).cell? ⟨g, off + i * 2 + 1, none⟩ = some u) := Lib.hid (And.intro (keep (balloc (Below.refl _ _) _) hg4 S1.out.1) (keep (balloc (Below.refl _ _) _) hg4 S1.out.2)); clear hr4 hrow4 hadd4 hb4 VD)
          | (refine step_append_lies _ (by rfl) _ _ _ (by rfl) w.heap.size 46 j0 _ 2 40 Try.underlying22 HJ.out.1 HJ.out.2.1 HJ.out.2.2.1 HJ.out.2.2.2 rfl (by decide) _ i (flatC cw us) (by rfl) (HROW4.out.alloc _) ⟨w4.heap.size, 0, none⟩ 1 1 [.string x, .slice b4 n4 c4] (by rfl) rfl (cell_two_new _ _ _ _) (by simp [Value.oneCell']) (by omega) (by unfold maxLen; omega) (by omega) (by simp; omega) (w4.heap.size + 1) (by simp) ?_; intro g5 cap5 w5 hown5 hgrow5 _ _; have FIN := Lib.hid (HADD4.out _ g5 cap5 w5 hown5 hgrow5); have S2 := Lib.hid (And.intro (kept_at hgrow5 S1a.out.1 (NB.out hgw)) (kept_at hgrow5 S1a.out.2 (NB.out hgw))); clear hown5 hgrow5)
          | fail)
      rename_i hHeld
      clear hHeld
      go_wp2_with fail
      go_roundw
      case rel => exact ⟨i + 1, by omega, by go_num, FIN⟩
      case measure => simp [intOf]; omega
    · obtain rfl : i = N := by omega
      go_wp2_with fail
      go_ret
      obtain ⟨us, h1, h2, h3, h4⟩ := HK.out
      rw [List.take_of_length_le (by rw [HN.out]; exact Nat.le_refl _)] at h1
      have hlen : us.length = i := by
        have := congrArg List.length h1
        rw [List.length_map, HN.out] at this
        exact this
      exact ⟨_, rfl, ⟨us, h1.symm, SlV.of_owns cw_len (by rw [hlen]; exact h2), fun t ht => SlV.of_owns ic_len (h3 t ht)⟩, h4⟩
end Go.Proofs.Ytedlgobpoifnfaa.WordK
