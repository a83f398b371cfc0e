/-
  Package lines: what Update refuses, and what Line answers.
-/
import Derived.Test.YtfikolidmpjfcaaLineUpdate
namespace Go.Proofs.Ytfikolidmpjfcaa.LineC
open Go.RowKit Kit EditM LineM

set_option maxRecDepth 100000 in
set_option maxHeartbeats 1000000 in
theorem update_bad (size : Int) (zs : List Int) (al : Option Addr) (cap : Nat) (a c : Int) (p : ByteArray) (w : World) (hl : IsAt w al zs) (hlc : zs.length ≤ cap) (hmx : zs.length ≤ maxLen) (hv : ¬ Vld size zs) :
    Calls Try.prog 13 #[.slice al zs.length cap, .int .i64 size, .agg #[.int .i64 a, .int .i64 c, .string p]] w (IsPost w [] 4) := by
  obtain ⟨w0, hw0⟩ : ∃ w0, w0 = w.alloc (.cells #[.int .i64 a, .int .i64 c, .string p] 29) := ⟨_, rfl⟩
  have HW : Hid (Below w.heap.size w w0) := Lib.hid (by rw [hw0]; exact balloc (Below.refl _ _) _)
  have VA := Lib.hid (valid size zs al cap w0 (by rw [hw0]; exact hl.next (balloc (Below.refl _ _) _)) hlc hmx)
  rw [goodB_no hv] at VA
  clear hl hlc hmx hv
  generalize zs.length = n at *
  go_enter Try.func13, Try.ntmps13
  go_wp2_with fail
  rw [← hw0]
  clear hw0
  refine VA.out.mono ?_
  rintro e w1 ⟨rfl, rfl⟩
  go_wp2_with fail
  go_ret2
  exact ⟨_, rfl, IK.nil HW.out⟩
set_option maxRecDepth 100000 in
set_option maxHeartbeats 1000000 in
theorem update_fault (size : Int) (zs : List Int) (al : Option Addr) (cap : Nat) (a c : Int) (p : ByteArray) (w : World) (hl : IsAt w al zs) (hlc : zs.length ≤ cap) (hmx : zs.length ≤ maxLen) (hv : Vld size zs) (ha : a ≤ 9223372036854775807) (hp : p.size ≤ 140737488351232) (hf : fault size a c p.size ≠ 0) :
    Calls Try.prog 13 #[.slice al zs.length cap, .int .i64 size, .agg #[.int .i64 a, .int .i64 c, .string p]] w (IsPost w [] (fault size a c p.size)) := by
  obtain ⟨w0, hw0⟩ : ∃ w0, w0 = w.alloc (.cells #[.int .i64 a, .int .i64 c, .string p] 29) := ⟨_, rfl⟩
  have HW : Hid (Below w.heap.size w w0) := Lib.hid (by rw [hw0]; exact balloc (Below.refl _ _) _)
  have HB : Hid (B3 w.heap.size (.int .i64 a) (.int .i64 c) (.string p) w0) := Lib.hid (by rw [hw0]; exact B3.new _ _ _ _ _)
  have VA := Lib.hid (valid size zs al cap w0 (by rw [hw0]; exact hl.next (balloc (Below.refl _ _) _)) hlc hmx)
  rw [goodB_yes hv] at VA
  have CK := Lib.hid (fun W => EditC.check size a c p W ha hp)
  have g : (fault size a c p.size != 0) = true := by simpa using hf
  obtain ⟨_, d0, d1, d2, _, _, _⟩ := HB.out
  clear hl hlc hmx hv hf HB
  generalize fault size a c p.size = fv at *
  generalize zs.length = n at *
  go_enter Try.func13, Try.ntmps13
  go_wp2_with fail
  rw [← hw0]
  clear hw0
  refine VA.out.mono ?_
  rintro e w1 ⟨rfl, rfl⟩
  go_wp2_with fail
  refine (CK.out _).mono ?_
  rintro e w2 ⟨rfl, hb2⟩
  have B2 := Lib.hid (bstep HW.out hb2)
  clear hb2 CK VA HW
  go_wp2_with fail
  go_ret2
  exact ⟨_, rfl, IK.nil B2.out⟩

/-- what Line answers: a number and a code -/
def LnPost (x c : Int) (w : World) (e : Ending) (w' : World) : Prop := e = .returned (.tuple #[.int .i64 x, .int .i64 c]) ∧ Below w.heap.size w w'
set_option maxHeartbeats 1000000 in
theorem line_bad (zs : List Int) (al : Option Addr) (cap : Nat) (a : Int) (w : World) (hl : IsAt w al zs) (hlc : zs.length ≤ cap) (hmx : zs.length ≤ maxLen) (hv : ¬ Vld 600 zs) :
    Calls Try.prog 15 #[.slice al zs.length cap, .int .i64 a] w (LnPost 0 4 w) := by
  have VA := Lib.hid (valid 600 zs al cap w hl hlc hmx)
  rw [goodB_no hv] at VA
  clear hl hlc hmx hv
  generalize zs.length = n at *
  go_enter Try.func15, Try.ntmps15
  go_wp2_with fail
  refine VA.out.mono ?_
  rintro e w1 ⟨rfl, rfl⟩
  go_wp2_with fail
  go_ret2
  exact ⟨rfl, Below.refl _ _⟩
set_option maxHeartbeats 1000000 in
theorem line_range (zs : List Int) (al : Option Addr) (cap : Nat) (a : Int) (w : World) (hl : IsAt w al zs) (hlc : zs.length ≤ cap) (hmx : zs.length ≤ maxLen) (hv : Vld 600 zs) (ha : a < 0) :
    Calls Try.prog 15 #[.slice al zs.length cap, .int .i64 a] w (LnPost 0 2 w) := by
  have VA := Lib.hid (valid 600 zs al cap w hl hlc hmx)
  rw [goodB_yes hv] at VA
  clear hl hlc hmx hv
  generalize zs.length = n at *
  go_enter Try.func15, Try.ntmps15
  go_wp2_with fail
  refine VA.out.mono ?_
  rintro e w1 ⟨rfl, rfl⟩
  go_wp2_with fail
  go_ret2
  exact ⟨rfl, Below.refl _ _⟩
/-- the line of an offset -/
def LinePost (zs : List Int) (a : Int) (w : World) (e : Ending) (w' : World) : Prop := ∃ i : Nat, e = .returned (.tuple #[.int .i64 (i : Int), .int .i64 0]) ∧ UpTo zs a (i + 1) ∧ Below w.heap.size w w'
set_option maxHeartbeats 1000000 in
theorem line_ok (zs : List Int) (al : Option Addr) (cap : Nat) (a : Int) (w : World) (hl : IsAt w al zs) (hlc : zs.length ≤ cap) (hmx : zs.length ≤ maxLen) (hv : Vld 600 zs) (ha : 0 ≤ a) :
    Calls Try.prog 15 #[.slice al zs.length cap, .int .i64 a] w (LinePost zs a w) := by
  have VA := Lib.hid (valid 600 zs al cap w hl hlc hmx)
  rw [goodB_yes hv] at VA
  have h601 := hv.len
  have CU := Lib.hid (countUpTo zs al cap a w hl (by omega))
  have UP := Lib.hid (fun i h => upto_pos (i := i) hv ha h)
  have UL := Lib.hid (fun (i : Nat) (h : UpTo zs a i) => Nat.le_trans h.le h601)
  clear hl hlc hmx hv h601
  generalize zs.length = n at *
  go_enter Try.func15, Try.ntmps15
  go_wp2_with fail
  refine VA.out.mono ?_
  rintro e w1 ⟨rfl, rfl⟩
  go_wp2_with fail
  refine CU.out.mono ?_
  rintro e w2 ⟨i, rfl, hu, hb⟩
  have h0 := UP.out i hu
  have h6 := UL.out i hu
  obtain ⟨k, rfl⟩ : ∃ k, i = k + 1 := ⟨i - 1, by omega⟩
  have FIN : Hid (UpTo zs a (k + 1) ∧ Below w.heap.size w w2) := Lib.hid ⟨hu, hb⟩
  have r1 : IntKind.i64.wrap (((k + 1 : Nat) : Int) - 1) = (k : Int) := by rw [show ((k + 1 : Nat) : Int) - 1 = (k : Int) by omega]; exact IntWalk.i64_in _ (by omega)
  have r2 : IntKind.i64.wrap ((k : Int) + 1 - 1) = (k : Int) := by rw [show (k : Int) + 1 - 1 = (k : Int) by omega]; exact IntWalk.i64_in _ (by omega)
  clear hu hb CU UP UL
  go_wp2_with fail
  go_ret2
  exact ⟨k, rfl, FIN.out.1, FIN.out.2⟩
end Go.Proofs.Ytfikolidmpjfcaa.LineC
