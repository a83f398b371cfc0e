/-
  Package diff: Cost, Steps.
-/
import Derived.Test.YtokfnajgjhkepaaDiffScript
import Derived.Test.YtokfnajgjhkepaaDiffSize
namespace Go.Proofs.Ytokfnajgjhkepaa.DiffP
open Go.RowKit Kit LineM StrM EditM DiffM DiffA NumR DiffR HistM

/-- the call of tooLarge at two lists -/
theorem large_two (x y : Sv) (w : World) (hx : x.has w) (hy : y.has w) (t : TypeId) : Calls Try.prog 32 #[.slice (some ⟨w.heap.size, 0, none⟩) 2 2] (w.alloc (.cells #[.slice x.a x.l.length x.cap, .slice y.a y.l.length y.cap] t)) (BoPost (tl [x, y]) (w.alloc (.cells #[.slice x.a x.l.length x.cap, .slice y.a y.l.length y.cap] t))) :=
  tooLarge _ 2 [x, y] _ (two_at w x y t) (fun s hs => by
    have hb := balloc (Below.refl w.heap.size w) (.cells #[.slice x.a x.l.length x.cap, .slice y.a y.l.length y.cap] t)
    rcases List.mem_cons.1 hs with rfl | hs
    · exact SlAt.next hx hb
    · rw [List.mem_singleton] at hs; subst hs; exact SlAt.next hy hb) (by simp)
theorem many_two (x y : Sv) (w : World) (t : TypeId) : Calls Try.prog 40 #[.slice (some ⟨w.heap.size, 0, none⟩) 2 2] (w.alloc (.cells #[.slice x.a x.l.length x.cap, .slice y.a y.l.length y.cap] t)) (BoPost (tm [x, y]) (w.alloc (.cells #[.slice x.a x.l.length x.cap, .slice y.a y.l.length y.cap] t))) :=
  tooMany _ 2 [x, y] _ (two_at w x y t) (by simp)
theorem tl_two {x y : Sv} (hx : okL x.l) (hy : okL y.l) : tl [x, y] = false := tl_ok (fun s hs => by
  rcases List.mem_cons.1 hs with rfl | hs
  · exact hx
  · rw [List.mem_singleton] at hs; subst hs; exact hy)
set_option maxHeartbeats 1000000 in
theorem costF_no (x y : Sv) (w : World) (hx : x.has w) (hy : y.has w) (h : lf [x, y] = 1) : Calls Try.prog 19 #[.slice x.a x.l.length x.cap, .slice y.a y.l.length y.cap] w (NcPost 0 1 w) := by
  have F := Lib.hid (large_two x y w hx hy 22)
  rw [(tl_lf _).2 h] at F
  clear h hx hy
  go_enter Try.func19, Try.ntmps19
  go_wp2_with fail
  refine F.out.mono ?_
  rintro e w1 ⟨rfl, rfl⟩
  go_wp2_with fail
  go_ret2
  exact ⟨rfl, balloc (Below.refl _ _) _⟩
set_option maxHeartbeats 1000000 in
theorem costF (x y : Sv) (w : World) (hx : x.has w) (hy : y.has w) (hox : okL x.l) (hoy : okL y.l) : Calls Try.prog 19 #[.slice x.a x.l.length x.cap, .slice y.a y.l.length y.cap] w (NcPost (DiffM.cost x.l y.l : Int) 0 w) := by
  have F := Lib.hid (large_two x y w hx hy 22)
  rw [tl_two hox hoy] at F
  have hb := balloc (Below.refl w.heap.size w) (.cells #[.slice x.a x.l.length x.cap, .slice y.a y.l.length y.cap] 22)
  have CS := Lib.hid (costs x.a x.cap x.l y.a y.cap y.l _ (SlAt.next hx hb) (SlAt.next hy hb) hox.1 hoy.1)
  obtain ⟨c, hc⟩ : ∃ c, DiffM.cost x.l y.l = c := ⟨_, rfl⟩
  have HC := Lib.hid hc
  rw [hc]
  clear hx hy hox hoy hb hc
  generalize x.l.length = n at *
  generalize y.l.length = m at *
  go_enter Try.func19, Try.ntmps19
  go_wp2_with fail
  refine F.out.mono ?_
  rintro e w1 ⟨rfl, rfl⟩
  go_wp2_with fail
  refine CS.out.mono ?_
  rintro e w2 ⟨tb, rb, d, rfl, htab, hd⟩
  have B2 := Lib.hid (bstep (balloc (Below.refl _ _) _) htab.bel)
  have t0 := htab.row 0 (Nat.le_refl _) (by omega)
  have s0 := htab.cell 0 0 (Nat.le_refl _) (by omega) (by omega)
  rw [hd 0 0 (by omega) (by omega), List.drop_zero, List.drop_zero, HC.out] at s0
  have y0 : (0 : Int) < ((n + 1 : Nat) : Int) := by omega
  have y1 : (0 : Int) < ((m + 1 : Nat) : Int) := by omega
  clear htab hd CS F HC
  generalize rb 0 = r0 at *
  go_wp2_with fail
  go_ret2
  exact ⟨rfl, B2.out⟩
set_option maxHeartbeats 1000000 in
theorem stepsF_no (x y : Sv) (w : World) (hx : x.has w) (hy : y.has w) (h : lf [x, y] = 1) : Calls Try.prog 21 #[.slice x.a x.l.length x.cap, .slice y.a y.l.length y.cap] w (SpPost [] 1 w) := by
  have F := Lib.hid (large_two x y w hx hy 22)
  rw [(tl_lf _).2 h] at F
  clear h hx hy
  go_enter Try.func21, Try.ntmps21
  go_wp2_with fail
  refine F.out.mono ?_
  rintro e w1 ⟨rfl, rfl⟩
  go_wp2_with fail
  go_ret2
  exact ⟨_, rfl, SlV.nil _, balloc (Below.refl _ _) _⟩
set_option maxHeartbeats 1000000 in
theorem stepsF (x y : Sv) (w : World) (hx : x.has w) (hy : y.has w) (hox : okL x.l) (hoy : okL y.l) : Calls Try.prog 21 #[.slice x.a x.l.length x.cap, .slice y.a y.l.length y.cap] w (SpPost (comb (kinds x.l y.l)) 0 w) := by
  have F := Lib.hid (large_two x y w hx hy 22)
  rw [tl_two hox hoy] at F
  have hb := balloc (Below.refl w.heap.size w) (.cells #[.slice x.a x.l.length x.cap, .slice y.a y.l.length y.cap] 22)
  have SC := Lib.hid (script x.a x.cap x.l y.a y.cap y.l _ (SlAt.next hx hb) (SlAt.next hy hb) hox.1 hoy.1)
  clear hx hy hox hoy hb
  generalize comb (kinds x.l y.l) = R at *
  generalize x.l.length = n at *
  generalize y.l.length = m at *
  go_enter Try.func21, Try.ntmps21
  go_wp2_with fail
  refine F.out.mono ?_
  rintro e w1 ⟨rfl, rfl⟩
  go_wp2_with fail
  refine SC.out.mono ?_
  rintro e w2 ⟨v, rfl, hro⟩
  have FIN : Hid (SlV 2 pc w2 v R ∧ Below w.heap.size w w2) := Lib.hid ⟨hro.sl pc_len, bstep (balloc (Below.refl _ _) _) hro.bel⟩
  clear hro SC F
  go_wp2_with fail
  go_ret2
  exact ⟨_, rfl, FIN.out.1, FIN.out.2⟩
end Go.Proofs.Ytokfnajgjhkepaa.DiffP
