/-
  fustiankeep.Marks: marks of raw numbers.
-/
import Derived.Test.YtllpglanpfjcnaaMoveMath
import Derived.Test.YtllpglanpfjcnaaTexts
import Derived.Test.YtllpglanpfjcnaaChanges
import Derived.Test.YtllpglanpfjcnaaBoxes
import Derived.Deep.RegionHeld3
import Derived.Deep.AppendLies
import Derived.Maps.AppendAt
namespace Go.Proofs.Ytllpglanpfjcnaa.MarkK
open Go.RowKit Kit EditM MarkM Lift Txt ChgM

def mkOf (size z : Int) : MkM := ⟨z % (size + 1), z.tdiv 1000 % 2 == 1⟩
def marksOf (zs : List Int) (size : Int) : List MkM := zs.map (mkOf size)
theorem mkOf_in (z : Int) {size : Int} (h : 0 ≤ size) : (mkOf size z).in_ size := by
  have h1 := Int.emod_nonneg z (show size + 1 ≠ 0 by omega)
  have h2 := Int.emod_lt_of_pos z (show 0 < size + 1 by omega)
  exact ⟨h1, by show z % (size + 1) ≤ size; omega⟩
theorem marksOf_in (zs : List Int) {size : Int} (h : 0 ≤ size) : ∀ m ∈ marksOf zs size, m.in_ size := by
  intro m hm
  obtain ⟨z, _, rfl⟩ := List.mem_map.1 hm
  exact mkOf_in z h
theorem tdiv_fits {z : Int} (h0 : -9223372036854775808 ≤ z) (h1 : z ≤ 9223372036854775807) : -9223372036854775808 ≤ z.tdiv 1000 ∧ z.tdiv 1000 ≤ 9223372036854775807 := by
  by_cases h : 0 ≤ z
  · rw [Int.tdiv_eq_ediv_of_nonneg h]; omega
  · obtain ⟨y, rfl⟩ : ∃ y, z = -y := ⟨-z, by omega⟩
    rw [Int.neg_tdiv, Int.tdiv_eq_ediv_of_nonneg (by omega)]; omega
theorem row_wf {w : World} {a : Option Addr} {len cap : Nat} {zs : List Int} (h : IsRow .i64 w a len cap zs) {z : Int} (hz : z ∈ zs) : -9223372036854775808 ≤ z ∧ z ≤ 9223372036854775807 := by
  rcases h with ⟨_, _, _, rfl⟩ | ⟨_, _, _, _, _, _, h5⟩
  · simp at hz
  · exact wf_i64 (h5 z hz)
/-- marks of the call's own -/
structure MsK (w : World) (es : List MkM) (v : Value) (wr : World) : Prop where
  row : wr.ownsRow w.heap.size 28 2 v es.length (flatC MkM.cs es)
  bel : Below w.heap.size w wr
theorem MsK.next {w : World} {es : List MkM} {v : Value} {w1 w2 : World} (h : MsK w es v w1) (hb : Below w1.heap.size w1 w2) : MsK w es v w2 := ⟨row_next h.row hb, bstep h.bel hb⟩
theorem MsK.val {w : World} {es : List MkM} {v : Value} {wr : World} (h : MsK w es v wr) : MksV wr v es := SlV.of_owns MkM.cs_len h.row
theorem cell_two_new (w : World) (x0 x1 : Value) (t : TypeId) : ∀ j u, [x0, x1][j]? = some u → (w.alloc (.cells #[x0, x1] t)).cell? ((⟨w.heap.size, 0, none⟩ : Addr).add j) = some u := by
  intro j u hj
  have e : (⟨w.heap.size, 0, none⟩ : Addr).add j = ⟨w.heap.size, j, none⟩ := by rw [add_of rfl]; simp
  rw [e, cells_new]
  simpa using hj
def MksPost (w : World) (es : List MkM) (e : Ending) (w' : World) : Prop := ∃ v, e = .returned v ∧ MsK w es v w'

set_option maxRecDepth 100000 in
set_option maxHeartbeats 4000000 in
theorem marksK (a : Option Addr) (len cap : Nat) (zs : List Int) (n size : Nat) (w : World) (h : IsRow .i64 w a len cap zs) (hn : n ≤ 30) (hs : size ≤ 1000) :
    Calls Try.prog 19 #[.slice a len cap, .int .i64 (n : Int), .int .i64 (size : Int)] w (MksPost w (marksOf ((zs.take len).take n) size)) := by
  obtain ⟨h1, h2⟩ := row_len h
  unfold maxLen at h2
  have HR := Lib.hid h
  clear h
  obtain ⟨i0, hi, hz0, hz1, hz2⟩ := info_parts infoMark
  have HI := Lib.hid (And.intro hi (And.intro hz0 (And.intro hz1 hz2)))
  clear hi hz0 hz1 hz2
  go_enter Try.func19, Try.ntmps19
  go_wp2_with fail
  go_loopw [7, 8] (fun v i wr => ∃ k : Nat, k ≤ len ∧ k ≤ n ∧ i = .int .i64 (k : Int) ∧ Hid (MsK w (marksOf (zs.take k) size) v wr)) (fun _ i _ => n - (intOf i).toNat)
  case atStart => exact ⟨0, by omega, by omega, rfl, Lib.hid ⟨World.ownsRow_nil _ _ _ _, Below.refl _ _⟩⟩
  case round =>
    obtain ⟨k, hk, hkn, rfl, HK⟩ := hrel
    by_cases hlt : k < len
    · by_cases hlm : k < n
      · obtain ⟨b, off, rfl, _, hc⟩ := row_at (isRow_next HR.out HK.out.bel) (by omega)
        have hck := hc k (by omega)
        have hbl : b < w.heap.size := by
          obtain ⟨b', off', e', _, hc'⟩ := row_at HR.out (by omega)
          simp only [Option.some.injEq, Addr.mk.injEq, and_true] at e'
          obtain ⟨rfl, rfl⟩ := e'
          exact block_lt (a := ⟨b, off + k, none⟩) (hc' k (by omega))
        clear hc
        have hzk : zs[k]? = some (zs.getD k 0) := by simp [List.getD, List.getElem?_eq_getElem (show k < zs.length by omega)]
        have NX : Hid (marksOf (zs.take (k + 1)) size = marksOf (zs.take k) size ++ [mkOf size (zs.getD k 0)]) := Lib.hid (by unfold marksOf; rw [take_next hzk, List.map_append]; rfl)
        have LN : Hid ((marksOf (zs.take k) size).length = k) := Lib.hid (by unfold marksOf; rw [List.length_map, List.length_take]; omega)
        have hzf := row_wf HR.out (List.mem_of_getElem? hzk)
        clear hzk
        generalize zs.getD k 0 = z at *
        have r2 : IntKind.i64.wrap (z.tdiv 1000) = z.tdiv 1000 := IntWalk.i64_in _ (tdiv_fits hzf.1 hzf.2)
        clear hzf
        generalize marksOf (zs.take k) size = es at *
        have P1 := Lib.hid (fun W => picked z ((size : Int) + 1) W (by omega) (by omega))
        have P2 := Lib.hid (fun W => picked (z.tdiv 1000) 2 W (by omega) (by omega))
        have hzw : w.heap.size ≤ wr.heap.size := HK.out.bel.size
        have E2 : Hid (MsK w es u7 (wr.alloc (.cells #[.int .i64 (z % ((size : Int) + 1)), .bool (z.tdiv 1000 % 2 == 1)] 28)).drew) := Lib.hid (HK.out.next (balloc (Below.refl _ _) _).drew)
        have HNEW := Lib.hid (cell_two_new wr (.int .i64 (z % ((size : Int) + 1))) (.bool (z.tdiv 1000 % 2 == 1)) 28)
        have HROW : Hid ((wr.alloc (.cells #[.int .i64 (z % ((size : Int) + 1)), .bool (z.tdiv 1000 % 2 == 1)] 28)).drew.ownsRow w.heap.size 28 2 u7 k (flatC MkM.cs es)) := by
          have := E2.out.row
          rw [LN.out] at this
          exact Lib.hid this
        have HO : u7.ownBlock ≠ some b := by
          intro e
          have := (HK.out.row.lt _ e).1
          omega
        have i1 : (k : Int) < (len : Int) := by omega
        have i2 : (0 : Int) ≤ (k : Int) := by omega
        have r1 : IntKind.i64.wrap ((size : Int) + 1) = (size : Int) + 1 := IntWalk.i64_in _ (by omega)
        have FF : Hid (mkOf size z = ⟨z % ((size : Int) + 1), z.tdiv 1000 % 2 == 1⟩) := Lib.hid rfl
        generalize z % ((size : Int) + 1) = x at *
        generalize hy : z.tdiv 1000 % 2 = y at *
        clear hy
        go_wp2_with fail
        go_region_held3 (fun W => W.cell? ⟨b, off + k, none⟩ = some (.int .i64 z))
          (first
            | go_keep
            | (rw [hgrow4.cell_far _ (by simp; omega) (Ne.symm HO)]; assumption))
          (first
            | (go_at_call 18; ((with_reducible refine (P1.out _).mono ?_); rintro e wz ⟨rfl, rfl⟩))
            | (go_at_call 18; ((with_reducible refine (P2.out _).mono ?_); rintro e wz ⟨rfl, rfl⟩))
            | (refine step_append_lies _ (by rfl) _ _ _ (by rfl) w.heap.size 28 i0 _ 2 16 Try.underlying22 HI.out.1 HI.out.2.1 HI.out.2.2.1 HI.out.2.2.2 rfl (by decide) u7 k (flatC MkM.cs es) (by rfl) HROW.out ⟨wr.heap.size, 0, none⟩ 1 1 [.int .i64 x, .bool (y == 1)] (by rfl) rfl HNEW.out (by simp [Value.oneCell']) (by omega) (by unfold maxLen; omega) (by omega) (by simp; omega) (wr.heap.size + 1) (by simp) ?_; intro g4 cap4 w4 hown4 hgrow4 hat4 hlt4))
        have FIN : Hid (MsK w (es ++ [⟨x, y == 1⟩]) (.slice (some ⟨g4, 0, none⟩) (k + 1) cap4) w4) := Lib.hid ⟨by rw [flatC_append, flatC_one, List.length_append, LN.out]; exact hown4, bgrow E2.out.bel HROW.out hgrow4⟩
        rename_i hHeld
        clear hown4 hgrow4 hHeld hat4 hlt4 HROW HNEW HO E2 HK
        go_wp2_with fail
        go_roundw
        case rel => exact ⟨k + 1, by omega, by omega, by go_num, Lib.hid (by rw [NX.out, FF.out]; exact FIN.out)⟩
        case measure => simp [intOf]; omega
      · obtain rfl : k = n := by omega
        have HV : Hid (MsK w (marksOf ((zs.take len).take k) size) u7 wr) := Lib.hid (by rw [List.take_take, Nat.min_eq_left hk]; exact HK.out)
        clear HK
        go_wp2_with fail
        go_ret
        exact ⟨_, rfl, HV.out⟩
    · obtain rfl : k = len := by omega
      have HV : Hid (MsK w (marksOf ((zs.take k).take n) size) u7 wr) := Lib.hid (by rw [List.take_take, Nat.min_eq_right hkn]; exact HK.out)
      clear HK
      go_wp2_with fail
      go_ret
      exact ⟨_, rfl, HV.out⟩

end Go.Proofs.Ytllpglanpfjcnaa.MarkK
