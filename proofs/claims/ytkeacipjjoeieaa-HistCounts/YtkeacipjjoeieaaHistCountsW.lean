/-
  The law HistCounts.
-/
import Derived.Test.YtkeacipjjoeieaaHistPlaysW
import Derived.Test.YtkeacipjjoeieaaHistCount
namespace Go.Proofs.Ytkeacipjjoeieaa.HistL
open Go.RowKit Kit EditM HistM HistC HistR

set_option maxRecDepth 100000 in
set_option maxHeartbeats 1000000 in
theorem counts_big (t : ByteArray) (a : Option Addr) (n cap : Nat) (w : World) (h : 600 < t.size ∨ 80 < n) (ht : t.size ≤ maxLen) (hm : n ≤ maxLen) :
    Calls Try.prog 13 #[.string t, .slice a n cap] w fun e w' => e = .returned (.tuple #[.int .i64 0, .int .i64 0, .int .i64 1]) ∧ w = w' := by
  have C := Lib.hid (tooLong_any t a n cap w h ht hm)
  clear h ht hm
  go_enter Try.func13, Try.ntmps13
  go_wp2_with fail
  refine C.out.mono ?_
  rintro e w1 ⟨rfl, rfl⟩
  go_wp2_with fail
  refine bodyPost_ret (v := .tuple #[.int .i64 0, .int .i64 0, .int .i64 1]) (by simp [results, Try.results13, go_sem]) rfl ⟨rfl, rfl⟩
set_option maxRecDepth 100000 in
set_option maxHeartbeats 1000000 in
theorem histCounts (t : ByteArray) (a : Option Addr) (cap : Nat) (l : List DeedM) (w : World) (ht : t.size ≤ maxLen) (hl : DdsAt w a l) (hok : ∀ d ∈ l, d.ed.ok) (hle : l.length ≤ cap) (hmx : cap ≤ maxLen) {X : Prop} (_ : X) :
    Calls Try.prog 4 #[.string t, .slice a l.length cap] w fun e w' => e = .returned (.bool true) ∧ Below w.heap.size w w' := by
  by_cases hb : 600 < t.size ∨ 80 < l.length
  · have P := Lib.hid (counts_big t a l.length cap w hb ht (by omega))
    have Q := Lib.hid (played_big t a l.length cap w hb ht (by omega))
    clear hb ht hl hok hle hmx
    generalize l.length = n at *
    go_enter Try.func4, Try.ntmps4
    go_wp2_with fail
    refine P.out.mono ?_
    rintro e w1 ⟨rfl, rfl⟩
    go_wp2_with fail
    refine Q.out.mono ?_
    rintro e w1 ⟨rfl, rfl⟩
    go_wp2_with fail
    go_ret
    exact ⟨rfl, Below.refl _ _⟩
  · have ht6 : t.data.toList.length ≤ 600 := by rw [size_list]; omega
    have h80 : l.length ≤ 80 := by omega
    have P := Lib.hid (counts t.data.toList l a cap w hl hok ht6 h80)
    have Q : Hid (∀ W : World, Below w.heap.size w W → Calls Try.prog 10 #[.string (str t.data.toList), .slice a l.length cap] W (RfPost t.data.toList l W)) := Lib.hid fun W hW => played t.data.toList l a cap W (hl.next hW) hok ht6 h80
    rw [str_list] at P Q
    generalize t.data.toList = tl at *
    clear hb hl hok hle hmx h80 ht6
    generalize l.length = n at *
    go_enter Try.func4, Try.ntmps4
    go_wp2_with fail
    refine P.out.mono ?_
    rintro e w1 ⟨rfl, hb⟩
    have B1 := Lib.hid hb
    have Q1 := Lib.hid (Q.out _ hb)
    clear hb P Q
    unfold RfPost at Q1
    generalize ((TL.start tl).run l).p = q at *
    generalize ((TL.start tl).run l).ts.length = m at *
    go_wp2_with fail
    refine Q1.out.mono ?_
    rintro e w2 ⟨tv2, cv2, rfl, _, _, hb⟩
    have B2 := Lib.hid (bstep B1.out hb)
    clear hb Q1
    go_wp2_with fail
    go_ret
    exact ⟨rfl, B2.out⟩

end Go.Proofs.Ytkeacipjjoeieaa.HistL
