/-
  Package poly: the law PolyLineses.
-/
import Derived.Test.YtlcinbnofcjhiaaPolyLines
import Derived.Test.YtlcinbnofcjhiaaRefLines
import Derived.Test.YtlcinbnofcjhiaaSameL
namespace Go.Proofs.Ytlcinbnofcjhiaa.LinesC
open Go.RowKit Go.Shelf PosM LinesM PolyM Kit StrC PolyC

theorem ref_vals (l : List UInt8) : RefLines.vals (cut l) = ((cut l).map fun x => (hv x : Int)).map (.int .i64) := by
  simp [RefLines.vals]

theorem refLines (s : ByteArray) (w : World) (hs : s.size ≤ 600) :
    Calls Try.prog 18 #[.string s] w fun e w' => ∃ v, e = .returned (.tuple #[v, .int .i64 0]) ∧ Row w' v (((cut s.data.toList).map fun x => (hv x : Int)).map (.int .i64)) ∧ Below w.heap.size w w' := by
  refine (RefLines.refLines s w hs).mono ?_
  rintro e w' ⟨v, rfl, hrow, hB⟩
  refine ⟨v, rfl, ?_, hB⟩
  rw [← ref_vals]
  exact Row.of_owns hrow

set_option maxHeartbeats 400000 in
theorem polyLineses (s : ByteArray) (w : World) (_hs : s.size ≤ maxLen) : Calls Try.prog 6 #[.string s] w fun e w' => e = .returned (.bool true) ∧ Below w.heap.size w w' := by
  by_cases h : 600 < s.size
  · have L := Lib.hid (fun w => lines_big s w h)
    have R := Lib.hid (fun w => RefLines.refLines_no s w h)
    have SM := Lib.hid (fun w => SameL.same (.slice none 0 0) (.slice none 0 0) [] w (Row.nil w) (Row.nil w) (by simp))
    go_enter Try.func6, Try.ntmps6
    go_wp2_with fail
    refine (L.out _).mono ?_
    rintro e w1 ⟨rfl, rfl⟩
    go_wp2_with fail
    refine (R.out _).mono ?_
    rintro e w1 ⟨rfl, rfl⟩
    go_wp2_with fail
    refine (SM.out _).mono ?_
    rintro e w1 ⟨rfl, hb⟩
    go_wp2
    go_ret
    exact ⟨rfl, hb⟩
  · have L := Lib.hid (fun w => lines s w (by omega))
    have R := Lib.hid (fun w => refLines s w (by omega))
    have hlen : ((cut s.data.toList).map fun x => (hv x : Int)).length ≤ 601 := by
      have := RefLines.lines_le s.data.toList
      have hl : s.data.toList.length = s.size := by simp
      rw [List.length_map]; omega
    generalize ((cut s.data.toList).map fun x => (hv x : Int)) = zs at *
    go_enter Try.func6, Try.ntmps6
    go_wp2_with fail
    refine (L.out _).mono ?_
    rintro e w1 ⟨v1, rfl, r1, b1⟩
    have R1 := Lib.hid r1
    clear r1
    go_wp2_with fail
    refine (R.out _).mono ?_
    rintro e w2 ⟨v2, rfl, r2, b2⟩
    have SM := Lib.hid (SameL.same v1 v2 zs w2 (R1.out.next b2) r2 (by unfold maxLen; omega))
    clear r2 R1
    go_wp2_with fail
    refine SM.out.mono ?_
    rintro e w3 ⟨rfl, b3⟩
    go_wp2
    go_ret
    exact ⟨rfl, bstep (bstep b1 b2) b3⟩

end Go.Proofs.Ytlcinbnofcjhiaa.LinesC
