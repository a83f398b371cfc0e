/-
  The law RopePlays.
-/
import Derived.Test.YteahnhemcceebaaRefPlay2
import Derived.Test.YteahnhemcceebaaSameTL
import Derived.Test.YteahnhemcceebaaSameCL
import Derived.Test.YteahnhemcceebaaOpenOps
namespace Go.Proofs.Yteahnhemcceebaa.RopeL
open Go.RowKit Kit RopeM RopeC RefC

set_option maxRecDepth 100000 in
set_option maxHeartbeats 1000000 in
theorem played_big (n cap : Nat) (a : Option Addr) (w : World) (h : 80 < n) :
    Calls Try.prog 12 #[.slice a n cap] w fun e w' => e = .returned (.tuple #[.slice none 0 0, .slice none 0 0, .int .i64 1]) ∧ w = w' := by
  go_enter Try.func12, Try.ntmps12
  go_wp2_with fail
  refine bodyPost_ret (v := .tuple #[.slice none 0 0, .slice none 0 0, .int .i64 1]) (by simp [results, Try.results12]) rfl ⟨rfl, rfl⟩

def strs (ts : Tx) : List ByteArray := ts.map fun l => ⟨l.toArray⟩
theorem strs_map (ts : Tx) : (strs ts).map (.string ·) = ts.map strV := by simp [strs, strV]
theorem sameT (v1 v2 : Value) (ts : Tx) (w : World) (h1 : Row w v1 (ts.map strV)) (h2 : Row w v2 (ts.map strV)) (hl : ts.length ≤ 60) :
    Calls Try.prog 13 #[v1, v2] w fun e w' => e = .returned (.bool true) ∧ Below w.heap.size w w' :=
  SameTL.same v1 v2 (strs ts) w (by rw [strs_map]; exact h1) (by rw [strs_map]; exact h2) (by simp only [strs, List.length_map]; unfold maxLen; omega)

set_option maxRecDepth 100000 in
set_option maxHeartbeats 1000000 in
theorem ropePlays_ok (a : Option Addr) (cap : Nat) (l : List OpM) (w : World) (hl : OpsAt w a l) (h80 : l.length ≤ 80) :
    Calls Try.prog 3 #[.slice a l.length cap] w fun e w' => e = .returned (.bool true) ∧ Below w.heap.size w w' := by
  have P := Lib.hid (play l a cap w hl h80)
  have Q : Hid (∀ W : World, Below w.heap.size w W → Calls Try.prog 12 #[.slice a l.length cap] W fun e w' => ∃ tv cv, e = .returned (.tuple #[tv, cv, .int .i64 0]) ∧ Row w' tv ((texts l []).map strV) ∧ Row w' cv (ints (codes l [])) ∧ Below W.heap.size W w') := Lib.hid fun W hW => played l a cap W (hl.next hW) h80
  have hz : (texts l []).length ≤ 60 := (Fine.nil.texts (l := l)).1
  have hcl : (codes l []).length ≤ 80 := by rw [codes_length]; exact h80
  clear hl h80
  generalize l.length = n at *
  go_enter Try.func3, Try.ntmps3
  go_wp2_with fail
  refine P.out.mono ?_
  rintro e w1 ⟨tv, cv, rfl, ht, hc, hb⟩
  have T1 := Lib.hid ht
  have C1 := Lib.hid hc
  have B1 := Lib.hid hb
  clear ht hc hb P
  go_wp2_with fail
  refine (Q.out _ B1.out).mono ?_
  rintro e w2 ⟨tv2, cv2, rfl, ht, hc, hb⟩
  have S1 := Lib.hid (sameT tv tv2 (texts l []) w2 (T1.out.next hb) ht hz)
  have S2 : Hid (∀ W : World, Below w2.heap.size w2 W → Calls Try.prog 14 #[cv, cv2] W fun e w' => e = .returned (.bool true) ∧ Below W.heap.size W w') := Lib.hid fun W hW => SameCL.same cv cv2 (codes l []) W ((C1.out.next hb).next hW) (hc.next hW) (by unfold maxLen; omega)
  have B2 := Lib.hid (bstep B1.out hb)
  clear ht hc hb Q T1 C1
  go_wp2_with fail
  refine S1.out.mono ?_
  rintro e w3 ⟨rfl, hb⟩
  have B3 := Lib.hid (bstep B2.out hb)
  have S3 := Lib.hid (S2.out _ hb)
  clear hb S2 S1
  go_wp2_with fail
  refine S3.out.mono ?_
  rintro e w4 ⟨rfl, hb⟩
  have B4 := Lib.hid (bstep B3.out hb)
  clear hb S3
  go_wp2_with fail
  go_ret
  exact ⟨rfl, B4.out⟩

set_option maxRecDepth 100000 in
set_option maxHeartbeats 1000000 in
theorem ropePlays_big (a : Option Addr) (n cap : Nat) (w : World) (h : 80 < n) :
    Calls Try.prog 3 #[.slice a n cap] w fun e w' => e = .returned (.bool true) ∧ Below w.heap.size w w' := by
  have P := Lib.hid (play_big n cap a w h)
  have Q := Lib.hid (played_big n cap a w h)
  have S1 := Lib.hid (SameTL.same (.slice none 0 0) (.slice none 0 0) [] w (Row.nil _) (Row.nil _) (by simp))
  have S2 : Hid (∀ W : World, Calls Try.prog 14 #[.slice none 0 0, .slice none 0 0] W fun e w' => e = .returned (.bool true) ∧ Below W.heap.size W w') := Lib.hid fun W => SameCL.same _ _ [] W (Row.nil _) (Row.nil _) (by simp)
  go_enter Try.func3, Try.ntmps3
  go_wp2_with fail
  refine P.out.mono ?_
  rintro e w1 ⟨rfl, rfl⟩
  go_wp2_with fail
  refine Q.out.mono ?_
  rintro e w1 ⟨rfl, rfl⟩
  go_wp2_with fail
  refine S1.out.mono ?_
  rintro e w3 ⟨rfl, hb⟩
  have B3 := Lib.hid hb
  clear hb
  go_wp2_with fail
  refine (S2.out _).mono ?_
  rintro e w4 ⟨rfl, hb⟩
  have B4 := Lib.hid (bstep B3.out hb)
  clear hb
  go_wp2_with fail
  go_ret
  exact ⟨rfl, B4.out⟩

theorem ropePlays (a : Option Addr) (cap : Nat) (l : List OpM) (w : World) (hl : OpsAt w a l) :
    Calls Try.prog 3 #[.slice a l.length cap] w fun e w' => e = .returned (.bool true) ∧ Below w.heap.size w w' := by
  by_cases h : l.length ≤ 80
  · exact ropePlays_ok a cap l w hl h
  · exact ropePlays_big a _ cap w (by omega)

end Go.Proofs.Yteahnhemcceebaa.RopeL
