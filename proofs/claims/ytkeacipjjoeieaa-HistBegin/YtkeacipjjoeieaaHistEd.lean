/-
  fustiankeep.histed: Play at deeds that are within the limits.
-/
import Derived.Test.YtkeacipjjoeieaaHistKeep
import Derived.Test.YtkeacipjjoeieaaHistPlay
namespace Go.Proofs.Ytkeacipjjoeieaa.HistK
open Go.RowKit Kit EditM HistM HistC

theorem playV (t : Bs) (l : List DeedM) (v : Value) (w : World) (hv : DdsV w v l) (hok : ∀ d ∈ l, d.ed.ok) (ht : t.length ≤ 600) (h80 : l.length ≤ 80) :
    Calls Try.prog 9 #[.string (str t), v] w (PlPost t l w) := by
  obtain ⟨a, cap, rfl, _, ha, _⟩ := hv
  exact play t l a cap w ha hok ht h80
def two : List DeedM := [⟨1, ⟨0, 0, ⟨#[120]⟩⟩⟩, ⟨3, ⟨0, 0, ⟨#[]⟩⟩⟩]
theorem two_texts : (TL.start [97]).texts two = [[120, 97], [97]] := by decide
theorem two_ok : ∀ d ∈ two, d.ed.ok := by
  intro d hd
  simp [two] at hd
  rcases hd with rfl | rfl <;> exact ⟨by decide, by decide, by decide, by decide, by decide⟩
theorem two_at (w : World) : DdsAt (w.alloc (.cells #[.int .i64 1, .int .i64 0, .int .i64 0, .string ⟨#[120]⟩, .int .i64 3, .int .i64 0, .int .i64 0, .string ⟨#[]⟩] 45)) (some ⟨w.heap.size, 0, none⟩) two := by
  refine ⟨fun i o hi => ⟨w.heap.size, 0, rfl, by simp, fun j hj => ?_⟩⟩
  rw [cells_new]
  rcases i with _ | _ | i
  · cases hi
    rcases j with _ | _ | _ | _ | j
    all_goals first | rfl | omega
  · cases hi
    rcases j with _ | _ | _ | _ | j
    all_goals first | rfl | omega
  · simp [two] at hi
def HdPost (t : Bs) (l : List DeedM) (w : World) (x : Ending) (w' : World) : Prop := ∃ a1 c1 a2 c2, x = .returned (.tuple #[.slice a1 l.length c1, .slice a2 l.length c2, .bool true]) ∧ Row w' (.slice a1 l.length c1) (((TL.start t).texts l).map strV) ∧ Row w' (.slice a2 l.length c2) (((TL.start t).codes l).map intV) ∧ Below w.heap.size w w'
set_option maxRecDepth 100000 in
set_option maxHeartbeats 2000000 in
theorem histed (t : Bs) (l : List DeedM) (v : Value) (w : World) (hv : DdsV w v l) (hok : ∀ d ∈ l, d.ed.ok) (ht : t.length ≤ 600) (h80 : l.length ≤ 80) :
    Calls Try.prog 16 #[.string (str t), v] w (HdPost t l w) := by
  obtain ⟨i0, hi, hz0, hz1, hz2⟩ := info_parts infoDeed
  have HI := Lib.hid (And.intro hi (And.intro hz0 (And.intro hz1 hz2)))
  clear hi hz0 hz1 hz2
  have PL := Lib.hid (fun W u (hu : DdsV W u l) => playV t l u W hu hok ht h80)
  have PT := Lib.hid (fun (W : World) (cap : Nat) => play [97] two (some ⟨W.heap.size, 0, none⟩) cap _ (two_at W) two_ok (by decide) (by decide))
  have HV := Lib.hid hv
  obtain ⟨al, cl, rfl, _, _, _⟩ := hv
  have NT : Hid ((((TL.start t).texts l).map strV).length = l.length) := Lib.hid (by rw [List.length_map, TL.texts_len])
  have NC : Hid ((((TL.start t).codes l).map intV).length = l.length) := Lib.hid (by rw [List.length_map, TL.codes_len])
  have T2 : Hid (((TL.start [97]).texts two).map strV = [.string ⟨#[120, 97]⟩, .string ⟨#[97]⟩]) := Lib.hid (by rw [two_texts]; rfl)
  have C2 : Hid (((TL.start [97]).codes two).length = 2) := Lib.hid (TL.codes_len _ _)
  rw [show str [97] = ⟨#[97]⟩ from rfl, show two.length = 2 from rfl] at PT
  clear hok ht
  unfold HdPost
  obtain ⟨T, hT⟩ : ∃ T, T = str t := ⟨_, rfl⟩
  rw [← hT] at PL ⊢
  clear hT
  obtain ⟨n, hn⟩ : ∃ n, n = l.length := ⟨_, rfl⟩
  rw [← hn] at HV NT NC h80 ⊢
  have HN := Lib.hid hn
  clear hn
  go_enter Try.func16, Try.ntmps16
  go_wp2_with (at_builtin; refine wpList_copyO DeedM.cs_len DeedM.cs_one (by omega) rfl _ _ 22 rfl 45 i0 _ 40 Try.underlying22 HI.out.1 HI.out.2.1 HI.out.2.2.1 HI.out.2.2.2 rfl rfl _ rfl l HV.out (by rw [← HN.out]; unfold maxLen; omega) (by rw [← HN.out]; omega) ?_; intro v1 w1 hv1; have V1 := Lib.hid (hv1.sl DeedM.cs_len); have B1 := Lib.hid hv1.bel; clear hv1)
  refine (PL.out _ _ V1.out).mono ?_
  rintro x w2 ⟨tv, cv, rfl, htv, hcv, hb⟩
  have TV := Lib.hid htv
  have CV := Lib.hid hcv
  have B2 := Lib.hid (bstep B1.out hb)
  obtain ⟨a1, c1, rfl, _⟩ := htv
  obtain ⟨a2, c2, rfl, _⟩ := hcv
  rw [NT.out] at TV ⊢
  rw [NC.out] at CV ⊢
  clear hb PL V1 B1
  go_wp2_with fail
  refine (PT.out w2 2).mono ?_
  rintro x w3 ⟨tv, cv, rfl, htv, hcv, hb⟩
  have B3 : Hid (Below w2.heap.size w2 w3) := Lib.hid (bstep (balloc (Below.refl _ _) _) hb)
  rw [T2.out] at htv
  obtain ⟨a3, c3, rfl, h3⟩ := htv
  obtain ⟨a4, c4, rfl, _⟩ := hcv
  obtain ⟨b, off, rfl, hlt, hc⟩ := h3 (by simp)
  have d0 := hc 0 (by simp)
  have d1 := hc 1 (by simp)
  simp at d0 d1
  rw [List.length_map, C2.out]
  simp only [List.length_cons, List.length_nil]
  clear hb h3 hc PT
  go_wp2_with fail
  go_quiet (fail)
  go_wp2_with fail
  refine bodyPost_ret (v := .tuple #[.slice a1 n c1, .slice a2 n c2, .bool true]) (by simp [results, Try.results16, go_sem]) rfl ⟨a1, c1, a2, c2, rfl, TV.out.next (bdrewN B3.out _), CV.out.next (bdrewN B3.out _), bdrewN (bstep B2.out B3.out) _⟩

end Go.Proofs.Ytkeacipjjoeieaa.HistK
