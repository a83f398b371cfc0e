/-
  The law HistPlays.
-/
import Derived.Test.YtkeacipjjoeieaaHistRef
import Derived.Test.YtkeacipjjoeieaaSameTL
import Derived.Test.YtkeacipjjoeieaaSameCL
namespace Go.Proofs.Ytkeacipjjoeieaa.HistL
open Go.RowKit Kit EditM HistM HistC HistR

set_option maxRecDepth 100000 in
set_option maxHeartbeats 1000000 in
theorem played_big (t : ByteArray) (a : Option Addr) (n cap : Nat) (w : World) (h : 600 < t.size ∨ 80 < n) (ht : t.size ≤ maxLen) (hm : n ≤ maxLen) :
    Calls Try.prog 10 #[.string t, .slice a n cap] w fun e w' => e = .returned (.tuple #[.slice none 0 0, .slice none 0 0, .int .i64 0, .int .i64 0, .int .i64 1]) ∧ w = w' := by
  unfold maxLen at ht hm
  by_cases h6 : 600 < t.size
  · clear h
    go_enter Try.func10, Try.ntmps10
    go_wp2_with fail
    refine bodyPost_ret (v := .tuple #[.slice none 0 0, .slice none 0 0, .int .i64 0, .int .i64 0, .int .i64 1]) (by simp [results, Try.results10, go_sem]) rfl ⟨rfl, rfl⟩
  · have hn : 80 < n := by omega
    have h7 : t.size ≤ 600 := by omega
    clear h
    go_enter Try.func10, Try.ntmps10
    go_wp2_with fail
    refine bodyPost_ret (v := .tuple #[.slice none 0 0, .slice none 0 0, .int .i64 0, .int .i64 0, .int .i64 1]) (by simp [results, Try.results10, go_sem]) rfl ⟨rfl, rfl⟩
theorem tooLong_any (t : ByteArray) (a : Option Addr) (n cap : Nat) (w : World) (h : 600 < t.size ∨ 80 < n) (ht : t.size ≤ maxLen) (hm : n ≤ maxLen) :
    Calls Try.prog 20 #[.string t, .slice a n cap] w fun e w' => e = .returned (.bool true) ∧ w = w' := by
  by_cases h6 : 600 < t.size
  · exact tooLong_t t _ w h6 ht
  · exact tooLong_l t a n cap w (by omega) (by omega) hm
set_option maxRecDepth 100000 in
set_option maxHeartbeats 1000000 in
theorem play_big (t : ByteArray) (a : Option Addr) (n cap : Nat) (w : World) (h : 600 < t.size ∨ 80 < n) (ht : t.size ≤ maxLen) (hm : n ≤ maxLen) :
    Calls Try.prog 9 #[.string t, .slice a n cap] w fun e w' => e = .returned (.tuple #[.slice none 0 0, .slice none 0 0, .int .i64 1]) ∧ w = w' := by
  have C := Lib.hid (tooLong_any t a n cap w h ht hm)
  clear h ht hm
  go_enter Try.func9, Try.ntmps9
  go_wp2_with fail
  refine C.out.mono ?_
  rintro e w1 ⟨rfl, rfl⟩
  go_wp2_with fail
  refine bodyPost_ret (v := .tuple #[.slice none 0 0, .slice none 0 0, .int .i64 1]) (by simp [results, Try.results9, go_sem]) rfl ⟨rfl, rfl⟩

theorem sameT (v1 v2 : Value) (ts : List Bs) (w : World) (h1 : Row w v1 (ts.map strV)) (h2 : Row w v2 (ts.map strV)) (hl : ts.length ≤ 80) :
    Calls Try.prog 11 #[v1, v2] w fun e w' => e = .returned (.bool true) ∧ Below w.heap.size w w' :=
  SameTL.same v1 v2 (ts.map str) w (by rw [List.map_map]; exact h1) (by rw [List.map_map]; exact h2) (by rw [List.length_map]; unfold maxLen; omega)
set_option maxRecDepth 100000 in
set_option maxHeartbeats 1000000 in
theorem histPlays (t : ByteArray) (a : Option Addr) (cap : Nat) (l : List DeedM) (w : World) (ht : t.size ≤ maxLen) (hl : DdsAt w a l) (hok : ∀ d ∈ l, d.ed.ok) (hle : l.length ≤ cap) (hmx : cap ≤ maxLen) {X : Prop} (_ : X) :
    Calls Try.prog 3 #[.string t, .slice a l.length cap] w fun e w' => e = .returned (.bool true) ∧ Below w.heap.size w w' := by
  by_cases hb : 600 < t.size ∨ 80 < l.length
  · have P := Lib.hid (play_big t a l.length cap w hb ht (by omega))
    have Q := Lib.hid (played_big t a l.length cap w hb ht (by omega))
    have S1 := Lib.hid (SameTL.same (.slice none 0 0) (.slice none 0 0) [] w (Row.nil _) (Row.nil _) (by simp))
    have S2 : Hid (∀ W : World, Calls Try.prog 12 #[.slice none 0 0, .slice none 0 0] W fun e w' => e = .returned (.bool true) ∧ Below W.heap.size W w') := Lib.hid fun W => SameCL.same _ _ [] W (Row.nil _) (Row.nil _) (by simp)
    clear hb ht hl hok hle hmx
    generalize l.length = n at *
    go_enter Try.func3, Try.ntmps3
    go_wp2_with fail
    refine P.out.mono ?_
    rintro e w1 ⟨rfl, rfl⟩
    go_wp2_with fail
    refine Q.out.mono ?_
    rintro e w1 ⟨rfl, rfl⟩
    go_wp2_with fail
    refine S1.out.mono ?_
    rintro e w3 ⟨rfl, hb⟩
    have B3 := Lib.hid hb
    clear hb
    go_wp2_with fail
    refine (S2.out _).mono ?_
    rintro e w4 ⟨rfl, hb⟩
    have B4 := Lib.hid (bstep B3.out hb)
    clear hb
    go_wp2_with fail
    go_ret
    exact ⟨rfl, B4.out⟩
  · have ht6 : t.data.toList.length ≤ 600 := by rw [size_list]; omega
    have h80 : l.length ≤ 80 := by omega
    have P := Lib.hid (play t.data.toList l a cap w hl hok ht6 h80)
    have Q : Hid (∀ W : World, Below w.heap.size w W → Calls Try.prog 10 #[.string (str t.data.toList), .slice a l.length cap] W (RfPost t.data.toList l W)) := Lib.hid fun W hW => played t.data.toList l a cap W (hl.next hW) hok ht6 h80
    rw [str_list] at P Q
    generalize t.data.toList = tl at *
    have hz : ((TL.start tl).texts l).length ≤ 80 := by rw [TL.texts_len]; exact h80
    have hcl : ((TL.start tl).codes l).length ≤ 80 := by rw [TL.codes_len]; exact h80
    clear hb hl hok hle hmx h80 ht6
    generalize l.length = n at *
    go_enter Try.func3, Try.ntmps3
    go_wp2_with fail
    refine P.out.mono ?_
    rintro e w1 ⟨tv, cv, rfl, ht, hc, hb⟩
    have T1 := Lib.hid ht
    have C1 := Lib.hid hc
    have B1 := Lib.hid hb
    clear ht hc hb P
    go_wp2_with fail
    refine (Q.out _ B1.out).mono ?_
    rintro e w2 ⟨tv2, cv2, rfl, ht, hc, hb⟩
    have S1 := Lib.hid (sameT tv tv2 _ w2 (T1.out.next hb) ht hz)
    have S2 : Hid (∀ W : World, Below w2.heap.size w2 W → Calls Try.prog 12 #[cv, cv2] W fun e w' => e = .returned (.bool true) ∧ Below W.heap.size W w') := Lib.hid fun W hW => SameCL.same cv cv2 _ W ((C1.out.next hb).next hW) (hc.next hW) (by unfold maxLen; omega)
    have B2 := Lib.hid (bstep B1.out hb)
    clear ht hc hb Q T1 C1
    generalize ((TL.start tl).run l).p = q at *
    generalize ((TL.start tl).run l).ts.length = m at *
    go_wp2_with fail
    refine S1.out.mono ?_
    rintro e w3 ⟨rfl, hb⟩
    have B3 := Lib.hid (bstep B2.out hb)
    have S3 := Lib.hid (S2.out _ hb)
    clear hb S2 S1
    go_wp2_with fail
    refine S3.out.mono ?_
    rintro e w4 ⟨rfl, hb⟩
    have B4 := Lib.hid (bstep B3.out hb)
    clear hb S3
    go_wp2_with fail
    go_ret
    exact ⟨rfl, B4.out⟩

end Go.Proofs.Ytkeacipjjoeieaa.HistL
