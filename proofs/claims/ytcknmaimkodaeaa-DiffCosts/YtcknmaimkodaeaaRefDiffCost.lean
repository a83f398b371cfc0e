/-
  The document: DiffCost.
-/
import Derived.Test.YtcknmaimkodaeaaRefCommon
namespace Go.Proofs.Ytcknmaimkodaeaa.DiffR
open Go.RowKit Kit LineM StrM DiffM DiffA NumR

/-- a number and a code -/
def NcPost (n c : Int) (w : World) (e : Ending) (w' : World) : Prop := e = .returned (.tuple #[.int .i64 n, .int .i64 c]) ∧ Below w.heap.size w w'
/-- the call of LinesFault at two lists -/
theorem fault_two (x y : Sv) (w : World) (hx : x.has w) (hy : y.has w) (t : TypeId) : Calls Try.prog 23 #[.slice (some ⟨w.heap.size, 0, none⟩) 2 2] (w.alloc (.cells #[.slice x.a x.l.length x.cap, .slice y.a y.l.length y.cap] t)) (LfPost (lf [x, y]) (w.alloc (.cells #[.slice x.a x.l.length x.cap, .slice y.a y.l.length y.cap] t))) :=
  linesFault _ 2 [x, y] _ (two_at w x y t) (fun s hs => by
    have hb := balloc (Below.refl w.heap.size w) (.cells #[.slice x.a x.l.length x.cap, .slice y.a y.l.length y.cap] t)
    rcases List.mem_cons.1 hs with rfl | hs
    · exact SlAt.next hx hb
    · rw [List.mem_singleton] at hs; subst hs; exact SlAt.next hy hb) (by simp)
open Classical in
theorem lf_two (x y : Sv) : (lf [x, y] = 0 ∧ okL x.l ∧ okL y.l) ∨ (lf [x, y] = 1 ∧ ¬ (okL x.l ∧ okL y.l)) := by
  by_cases h : okL x.l ∧ okL y.l
  · exact .inl ⟨lf_ok (fun s hs => by
      rcases List.mem_cons.1 hs with rfl | hs
      · exact h.1
      · rw [List.mem_singleton] at hs; subst hs; exact h.2), h⟩
  · refine .inr ⟨?_, h⟩
    by_cases hx : okL x.l
    · exact lf_bad (s := y) (by simp) (fun hy => h ⟨hx, hy⟩)
    · exact lf_bad (s := x) (by simp) hx
set_option maxHeartbeats 1000000 in
theorem diffCost_no (x y : Sv) (w : World) (hx : x.has w) (hy : y.has w) (h : lf [x, y] = 1) : Calls Try.prog 13 #[.slice x.a x.l.length x.cap, .slice y.a y.l.length y.cap] w (NcPost 0 1 w) := by
  have F := Lib.hid (fault_two x y w hx hy 22)
  rw [h] at F
  clear h hx hy
  go_enter Try.func13, Try.ntmps13
  go_wp2_with fail
  refine F.out.mono ?_
  rintro e w1 ⟨rfl, rfl⟩
  go_wp2_with fail
  go_ret2
  exact ⟨rfl, balloc (Below.refl _ _) _⟩
set_option maxHeartbeats 1000000 in
theorem diffCost (x y : Sv) (w : World) (hx : x.has w) (hy : y.has w) (hox : okL x.l) (hoy : okL y.l) : Calls Try.prog 13 #[.slice x.a x.l.length x.cap, .slice y.a y.l.length y.cap] w (NcPost (cost x.l y.l : Int) 0 w) := by
  have F := Lib.hid (fault_two x y w hx hy 22)
  have h0 : lf [x, y] = 0 := by
    rcases lf_two x y with h | h
    · exact h.1
    · exact absurd ⟨hox, hoy⟩ h.2
  rw [h0] at F
  have hb := balloc (Below.refl w.heap.size w) (.cells #[.slice x.a x.l.length x.cap, .slice y.a y.l.length y.cap] 22)
  have CM := Lib.hid (common x.a x.cap x.l y.a y.cap y.l _ (SlAt.next hx hb) (SlAt.next hy hb) hox.1 hoy.1)
  have hce := cost_eq x.l y.l
  have h1 := lcs_left x.l y.l
  have h8 := hox.1
  have h9 := hoy.1
  clear h0 hx hy hox hoy hb
  generalize cost x.l y.l = c at *
  generalize lcs x.l y.l = v at *
  generalize x.l.length = n at *
  generalize y.l.length = m at *
  have r1 : IntKind.i64.wrap ((n : Int) + (m : Int)) = (n : Int) + (m : Int) := IntWalk.i64_in _ (by omega)
  have r2 : IntKind.i64.wrap (2 * (v : Int)) = 2 * (v : Int) := IntWalk.i64_in _ (by omega)
  have r3 : IntKind.i64.wrap ((n : Int) + (m : Int) - 2 * (v : Int)) = (c : Int) := by rw [show (n : Int) + (m : Int) - 2 * (v : Int) = (c : Int) by omega]; exact IntWalk.i64_in _ (by omega)
  go_enter Try.func13, Try.ntmps13
  go_wp2_with fail
  refine F.out.mono ?_
  rintro e w1 ⟨rfl, rfl⟩
  go_wp2_with fail
  refine CM.out.mono ?_
  rintro e w2 ⟨rfl, hb2⟩
  have B2 := Lib.hid (bstep (balloc (Below.refl _ _) _) hb2)
  clear hb2
  go_wp2_with fail
  go_ret2
  exact ⟨rfl, B2.out⟩
end Go.Proofs.Ytcknmaimkodaeaa.DiffR
