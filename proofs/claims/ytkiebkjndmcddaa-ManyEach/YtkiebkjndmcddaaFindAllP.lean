/-
  Package find: offsets and All.
-/
import Derived.Test.YtkiebkjndmcddaaFindFail
import Derived.Test.YtkiebkjndmcddaaKeepMath
namespace Go.Proofs.Ytkiebkjndmcddaa.FindP
open Go.RowKit Kit LineM FindM FindR EditM

/-- the borders, while another row grows -/
structure OfR (w : World) (f : ByteArray) (g : Nat) (L : List Int) (vo : Value) (wr : World) : Prop where
  own : IK w L vo wr
  lt : g < wr.heap.size
  hg : w.heap.size ≤ g
  far : vo.ownBlock ≠ some g
  cell : ∀ i, i < f.size → wr.cell? ⟨g, i, none⟩ = some (.int .i64 (bord f.data.toList (i + 1) : Int))
theorem OfR.next {w : World} {f : ByteArray} {g : Nat} {L : List Int} {vo : Value} {wr wx : World} (h : OfR w f g L vo wr) (hb : Below wr.heap.size wr wx) : OfR w f g L vo wx :=
  ⟨h.own.next hb, Nat.lt_of_lt_of_le h.lt hb.size, h.hg, h.far, fun i hi => (hb.cell (p := ⟨g, i, none⟩) h.lt).trans (h.cell i hi)⟩
theorem OfR.push {w : World} {f : ByteArray} {g g1 n cap : Nat} {L : List Int} {z : Int} {vo : Value} {wr w1 : World} {o : Obj} (h : OfR w f g L vo wr) (hown : w1.ownsRow w.heap.size 3 1 (.slice (some ⟨g1, 0, none⟩) n cap) (L.length + 1) (flatC ic L ++ [.int .i64 z])) (hgrow : (wr.alloc o).grownBy w1 vo.ownBlock) (hfar : vo.ownBlock = some g1 ∨ g1 = (wr.alloc o).heap.size) : OfR w f g (L ++ [z]) (.slice (some ⟨g1, 0, none⟩) n cap) w1 := by
  have hs : wr.heap.size < (wr.alloc o).heap.size := (Array.getElem?_eq_some_iff.1 (MapKept.heap_alloc wr o).1).1
  have hd : w1.heap[g]? = (wr.alloc o).heap[g]? := hgrow.block g (by have := h.lt; omega) (fun e => h.far e.symm)
  have hs2 : (wr.alloc o).heap.size ≤ w1.heap.size := hgrow.size
  refine ⟨⟨by rw [List.length_append, flatC_append]; exact hown, bgrow (balloc h.own.bel _) (h.own.row.alloc _) hgrow⟩, by have := h.lt; omega, h.hg, fun e => ?_, fun i hi => ?_⟩
  · have e1 : g1 = g := by simpa [Value.ownBlock] using e
    rcases hfar with hf | hf
    · rw [e1] at hf; exact h.far hf
    · have := h.lt; omega
  · rw [World.cell?_of_block (a := ⟨g, i, none⟩) hd]
    exact (h.next (balloc (Below.refl _ _) o)).cell i hi
theorem met_res {f t : List UInt8} {m i r : Nat} {c : UInt8} (hc : t[i]? = some c) (h : (∃ j, CandM f t m i j ∧ f[j]? = some c ∧ r = j + 1) ∨ (CandM f t m i 0 ∧ f[0]? ≠ some c ∧ r = 0)) : Met f t (m + 1) (i + 1) r := by
  rcases h with ⟨j, h1, h2, rfl⟩ | ⟨h1, h2, rfl⟩
  · exact h1.hit (h2.trans hc.symm)
  · exact h1.miss (by rw [hc]; exact h2)
theorem hitsTo_next {t f : List UInt8} {i : Nat} (hi : i < t.length) {r : Nat} (h : Met f t f.length (i + 1) r) : hitsTo t f (i + 1 + 1 - f.length) = hitsTo t f (i + 1 - f.length) ++ (if r = f.length then [i + 1 - f.length] else []) := by
  by_cases hl : f.length ≤ i + 1
  · rw [show i + 1 + 1 - f.length = (i + 1 - f.length) + 1 by omega, hitsTo_succ]
    have hw := h.whole (by omega) hl
    by_cases hr : r = f.length
    · rw [if_pos hr, if_pos (hw.2 hr)]
    · rw [if_neg hr, if_neg (fun e => hr (hw.1 e))]
  · have hr : r ≠ f.length := fun e => by have := h.1.1; omega
    rw [if_neg hr, List.append_nil]
    congr 1; omega
set_option maxRecDepth 100000 in
set_option maxHeartbeats 4000000 in
theorem offsets (t f : ByteArray) (w : World) (ht : t.size ≤ 600) (hf : f.size ≤ 20) (hf0 : 0 < f.size) : Calls Try.prog 24 #[.string t, .string f] w (fun e w' => ∃ v', e = .returned v' ∧ IsV w' v' (ints (hits t.data.toList f.data.toList)) ∧ Below w.heap.size w w') := by
  obtain ⟨i0, hi, hz0, hz1, hz2⟩ := info_parts infoInt
  have HI := Lib.hid (And.intro hi (And.intro hz0 (And.intro hz1 hz2)))
  clear hi hz0 hz1 hz2
  have LT := Lib.hid (size_list t)
  have LF := Lib.hid (size_list f)
  have FL := Lib.hid (failure f w (by omega))
  go_enter Try.func24, Try.ntmps24
  go_wp2_with (go_at_call 27; refine FL.out.mono ?_; rintro e w1 ⟨gb, cb, rfl, hcb, hgb, hr⟩; have HR := Lib.hid hr; clear hr)
  have S0 : Hid (OfR w f gb [] (.slice none 0 0) w1) := Lib.hid ⟨IK.nil (HR.out.bel.mono hgb), HR.out.lt, hgb, by simp [Value.ownBlock], HR.out.cell⟩
  clear HR FL
  go_loopw [5, 7, 13] (fun vo vm vi wr => ∃ i k : Nat, i ≤ t.size ∧ k < f.size ∧ vi = .int .i64 (i : Int) ∧ vm = .int .i64 (k : Int) ∧ Hid (Met f.data.toList t.data.toList (f.size - 1) i k) ∧ Hid (OfR w f gb (ints (hitsTo t.data.toList f.data.toList (i + 1 - f.size))) vo wr)) (fun _ _ vi _ => t.size - (intOf vi).toNat)
  case atStart => exact ⟨0, 0, by omega, hf0, rfl, rfl, Lib.hid (met_start _ _ _), Lib.hid (by rw [show 0 + 1 - f.size = 0 by omega]; exact S0.out)⟩
  case round =>
    obtain ⟨i, k, hi, hk, rfl, rfl, HM, HK⟩ := hrel
    clear S0
    by_cases hlt : i < t.size
    · have hlen : (ints (hitsTo t.data.toList f.data.toList (i + 1 - f.size))).length ≤ 601 := by
        unfold ints hitsTo
        rw [List.length_map]
        have := List.length_filter_le (stands t.data.toList f.data.toList) (List.range (i + 1 - f.size))
        rw [List.length_range] at this
        omega
      have r1 : IntKind.i64.wrap ((i : Int) + 1) = (i : Int) + 1 := IntWalk.i64_in _ (by omega)
      have u0 : (0 : Int) ≤ (i : Int) := by omega
      have u1 : (i : Int) < (t.size : Int) := by omega
      have u2 : (0 : Int) ≤ (f.size : Int) - 1 := by omega
      have u3 : (f.size : Int) - 1 < (f.size : Int) := by omega
      have u4 : (1 : Int) ≤ (f.size : Int) := by omega
      have GT := Lib.hid (sget t i hlt)
      have E : Hid (Calls Try.prog 34 #[.string f, .slice (some ⟨gb, 0, none⟩) f.size cb, .int .i64 (k : Int), .int .u8 (t[i].toNat : Int)] wr (ExtPost (CandM f.data.toList t.data.toList (f.size - 1) i) f.data.toList t[i] wr)) := Lib.hid (extend (CandM f.data.toList t.data.toList (f.size - 1) i) f gb f.size cb k t[i] wr (by omega) HM.out.cand (fun j hj => by have := hj.2.1; omega) (fun j hj h0 hne => hj.back h0 (by rw [GT.out]; exact hne)) (fun j hj => HK.out.cell j (by have := hj.2.1; omega)))
      have R23 : Hid (IntKind.i64.wrap ((f.size : Int) - 1) = (f.size : Int) - 1 ∧ ((f.size : Int) - 1).toNat = f.size - 1) := Lib.hid ⟨IntWalk.i64_in _ (by omega), by omega⟩
      have cb1 := HK.out.cell (f.size - 1) (by omega)
      rw [show f.size - 1 + 1 = f.size by omega] at cb1
      clear HM
      go_wp2_with fail
      refine E.out.mono ?_
      rintro e wx ⟨r, rfl, hr, rfl⟩
      have HHM := Lib.hid (met_res GT.out hr)
      rw [show f.size - 1 + 1 = f.size by omega] at HHM
      have HHX := Lib.hid (hitsTo_next (t := t.data.toList) (f := f.data.toList) (i := i) (by rw [LT.out]; exact hlt) (r := r) (by rw [LF.out]; exact HHM.out))
      rw [LF.out] at HHX
      have hrf : r ≤ f.size := HHM.out.2.1
      clear hr E
      by_cases he : r = f.size
      · have q1 : decide ((r : Int) = (f.size : Int)) = true := decide_eq_true (by omega)
        have hri : f.size ≤ i + 1 := by have := HHM.out.1.1; omega
        have r4 : IntKind.i64.wrap ((i : Int) + 1 - (f.size : Int)) = ((i + 1 - f.size : Nat) : Int) := by rw [show (i : Int) + 1 - (f.size : Int) = ((i + 1 - f.size : Nat) : Int) by omega]; exact IntWalk.i64_in _ (by omega)
        have HHL : Hid (ints (hitsTo t.data.toList f.data.toList (i + 1 + 1 - f.size)) = ints (hitsTo t.data.toList f.data.toList (i + 1 - f.size)) ++ [((i + 1 - f.size : Nat) : Int)]) := Lib.hid (by rw [HHX.out, if_pos he]; simp [ints])
        have HM2 : Hid (Met f.data.toList t.data.toList (f.size - 1) (i + 1) (bord f.data.toList f.size)) := Lib.hid (by
          have h1 := HHM.out
          have h2 := Met.cut (f := f.data.toList) (t := t.data.toList) (i := i + 1) (by rw [LF.out]; rw [he] at h1; exact h1) (by rw [LF.out]; exact hf0)
          rwa [LF.out] at h2)
        have hbl := (bord_is f.data.toList (n := f.size) hf0).1
        subst he
        clear HHX HHM GT
        generalize ints (hitsTo t.data.toList f.data.toList (i + 1 - f.size)) = L at *
        have hsz := HK.out.own.bel.size
        have HROW := Lib.hid (HK.out.own.row)
        have hgl := HK.out.lt
        go_wp2_with (at_builtin; refine wpList_append_lies _ rfl _ _ 22 rfl w.heap.size 3 i0 _ 1 8 Try.underlying22 HI.out.1 HI.out.2.1 HI.out.2.2.1 HI.out.2.2.2 rfl (by decide) _ L.length (flatC ic L) rfl (HROW.out.alloc _) ⟨wr.heap.size, 0, none⟩ 1 1 [.int .i64 ((i + 1 - f.size : Nat) : Int)] rfl rfl (cell_one_new _ _ _) (by simp [Value.oneCell']) (by omega) (by unfold maxLen; omega) (by omega) (by simp; omega) _ rfl ?_; intro g cap w1 hown1 hgrow1 hx1 hx2; obtain ⟨r2, r3⟩ := R23.out; have HOF := Lib.hid (HK.out.push hown1 hgrow1 hx1); have cb2 := HOF.out.cell (f.size - 1) (by omega); rw [Nat.sub_add_cancel hf0] at cb2; clear hown1 hgrow1 hx1)
        go_roundw
        case rel => exact ⟨i + 1, _, by omega, hbl, by go_num, by go_num, HM2, Lib.hid (by rw [HHL.out]; exact HOF.out)⟩
        case measure => simp [intOf]; omega
      · have q1 : decide ((r : Int) = (f.size : Int)) = false := decide_eq_false (by omega)
        have HHL : Hid (hitsTo t.data.toList f.data.toList (i + 1 + 1 - f.size) = hitsTo t.data.toList f.data.toList (i + 1 - f.size)) := Lib.hid (by rw [HHX.out, if_neg he, List.append_nil])
        have HM2 : Hid (Met f.data.toList t.data.toList (f.size - 1) (i + 1) r) := Lib.hid (Met.less (m := f.size - 1) (by rw [Nat.sub_add_cancel hf0]; exact HHM.out) (by omega))
        have hrl : r < f.size := by omega
        have hne : ¬ (r : Int) = (f.size : Int) := by omega
        clear HHX HHM GT
        go_wp2_with fail
        go_roundw
        case rel => exact ⟨i + 1, r, by omega, hrl, by go_num, rfl, HM2, Lib.hid (by rw [HHL.out]; exact HK.out)⟩
        case measure => simp [intOf]; omega
    · have u1 : ¬ (i : Int) < (t.size : Int) := by omega
      have e1 : i = t.size := by omega
      have HE := Lib.hid (hitsTo_end (t := t.data.toList) (f := f.data.toList) (fun e => by have := LF.out; rw [e] at this; simp at this; omega))
      rw [LT.out, LF.out, ← e1] at HE
      clear e1
      go_wp2_with fail
      go_ret
      exact ⟨_, rfl, by rw [HE.out]; exact HK.out.own.val, HK.out.own.bel⟩
theorem all_ok (t f : ByteArray) (w : World) (h : ffault t.size f.size = 0) : Calls Try.prog 12 #[.string t, .string f] w (IrPost w (ints (hits t.data.toList f.data.toList)) 0) := by
  obtain ⟨ht, hf, hf0⟩ := ffault_ok h
  have F := Lib.hid (offsets t f w ht hf hf0)
  have hb := some_list f (by omega)
  clear h
  go_enter Try.func12, Try.ntmps12
  go_wp2_with (go_at_call 24; refine F.out.mono ?_; rintro e w1 ⟨v, rfl, hv, hbv⟩; have HV := Lib.hid hv; have HB := Lib.hid hbv; clear hv hbv)
  go_ret2
  exact ⟨_, rfl, HV.out, HB.out⟩
theorem all_no (t f : ByteArray) (w : World) (h : ffault t.size f.size ≠ 0) : Calls Try.prog 12 #[.string t, .string f] w (IrPost w [] (ffault t.size f.size)) := by
  by_cases h1 : 600 < t.size
  · have e : ffault t.size f.size = 1 := if_pos (.inl h1)
    rw [e]
    clear e h
    go_enter Try.func12, Try.ntmps12
    go_wp2_with fail
    go_ret2
    exact ⟨_, rfl, SlV.nil _, Below.refl _ _⟩
  · by_cases h2 : 20 < f.size
    · have e : ffault t.size f.size = 1 := if_pos (.inr h2)
      rw [e]
      clear e h
      go_enter Try.func12, Try.ntmps12
      go_wp2_with fail
      go_ret2
      exact ⟨_, rfl, SlV.nil _, Below.refl _ _⟩
    · by_cases h3 : f.size = 0
      · have e : ffault t.size f.size = 4 := by unfold ffault; rw [if_neg (by omega), if_pos h3]
        have hb := empty_list f h3
        rw [e]
        clear e h h3
        go_enter Try.func12, Try.ntmps12
        go_wp2_with fail
        go_ret2
        exact ⟨_, rfl, SlV.nil _, Below.refl _ _⟩
      · exact absurd (by unfold ffault; rw [if_neg (by omega), if_neg h3]) h
end Go.Proofs.Ytkiebkjndmcddaa.FindP
