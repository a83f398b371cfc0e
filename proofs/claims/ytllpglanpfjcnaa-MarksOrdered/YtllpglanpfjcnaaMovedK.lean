/-
  fustiankeep.moved: the marks that valid edits move.
-/
import Derived.Test.YtllpglanpfjcnaaMarkMove2
import Derived.Test.YtllpglanpfjcnaaEditInfo
import Derived.Test.YtllpglanpfjcnaaCopyV
import Derived.Shelf.RegionOpenPlain
namespace Go.Proofs.Ytllpglanpfjcnaa.MarkK
open Go.RowKit Kit EditM MarkM MarkC EditC

theorem bad_no {ms : List MkM} {n : Int} (h0 : 0 ≤ n) (h1 : n ≤ 600) (h : ∀ m ∈ ms, m.in_ n) : badIn ms n = false := by
  unfold badIn
  rw [anyOut_iff.2 h, decide_eq_false (show ¬ n < 0 by omega), decide_eq_false (show ¬ 600 < n by omega)]; rfl
def MoveV (w : World) (L : List MkM) (e : Ending) (w' : World) : Prop := ∃ v, e = .returned (.tuple #[v, .int .i64 0]) ∧ MksV w' v L ∧ Below w.heap.size w w'
theorem moveV (n : Int) (ms : List MkM) (v : Value) (l : List EdM) (u : Value) (w : World) (hv : MksV w v ms) (hu : EdsV w u l) (h60 : ms.length ≤ 60) (l60 : l.length ≤ 60) (hok : ∀ e ∈ l, e.ok) (h0 : 0 ≤ n) (h1 : n ≤ 600) (hin : ∀ m ∈ ms, m.in_ n) (hc : szC l n = 0) :
    Calls Try.prog 11 #[.int .i64 n, v, u] w (MoveV w (ms.map (mvd l))) := by
  obtain ⟨a, cap, rfl, _, ha, _⟩ := hv
  obtain ⟨b, bcap, rfl, _, hb, _⟩ := hu
  have hbad := bad_no h0 h1 hin
  have hcode : mvCode ms l n = 0 := by unfold mvCode; rw [hbad]; exact hc
  refine (move_ok n ms a cap l b bcap w ha h60 hb hok l60 hbad).mono ?_
  rintro e w' ⟨x, rfl, h2, h3⟩
  rw [hcode] at h2 ⊢
  rcases h2 with ⟨_, h2⟩ | ⟨h2, _⟩
  · exact ⟨x, rfl, h2, h3⟩
  · exact absurd rfl h2
theorem oneM (w : World) (m : MkM) : MksV (w.alloc (.cells #[.int .i64 m.at_, .bool m.right] 28)) (.slice (some ⟨w.heap.size, 0, none⟩) 1 1) [m] := by
  refine ⟨_, _, rfl, by simp, ⟨fun i o hi => ⟨w.heap.size, 0, rfl, by simp, fun j hj => ?_⟩⟩, .inr ⟨_, _, rfl, by simp⟩⟩
  have hi0 : i = 0 := by
    have := (List.getElem?_eq_some_iff.1 hi).1
    simpa using this
  subst hi0
  simp at hi; subst hi
  rw [show (0 + 0 * 2 + j) = j by omega, cells_new]
  simp [MkM.cs]
theorem oneE (w : World) (e : EdM) : EdsV (w.alloc (.cells #[.int .i64 e.at_, .int .i64 e.cut, .string e.put] 50)) (.slice (some ⟨w.heap.size, 0, none⟩) 1 1) [e] := by
  refine ⟨_, _, rfl, by simp, ⟨fun i o hi => ⟨w.heap.size, 0, rfl, by simp, fun j hj => ?_⟩⟩, .inr ⟨_, _, rfl, by simp⟩⟩
  have hi0 : i = 0 := by
    have := (List.getElem?_eq_some_iff.1 hi).1
    simpa using this
  subst hi0
  simp at hi; subst hi
  rw [show (0 + 0 * 3 + j) = j by omega, cells_new]
  simp [EdM.cs]
def eAB : EdM := ⟨0, 0, ⟨#[97, 98]⟩⟩
theorem moveB (w : World) : Calls Try.prog 11 #[.int .i64 3, .slice (some ⟨w.heap.size, 0, none⟩) 1 1, .slice (some ⟨w.heap.size + 1, 0, none⟩) 1 1] ((w.alloc (.cells #[.int .i64 2, .bool false] 28)).alloc (.cells #[.int .i64 0, .int .i64 0, .string ⟨#[97, 98]⟩] 50)) (MoveV w [⟨4, false⟩]) := by
  have h1 := oneM w ⟨2, false⟩
  have h2 := oneE (w.alloc (.cells #[.int .i64 2, .bool false] 28)) eAB
  have hz : (w.alloc (.cells #[.int .i64 2, .bool false] 28)).heap.size = w.heap.size + 1 := by simp
  rw [hz] at h2
  refine (moveV 3 [⟨2, false⟩] _ [eAB] _ _ (h1.next (balloc (Below.refl _ _) _)) h2 (by simp) (by simp) (fun e he => ?_) (by omega) (by omega) (fun m hm => ?_) (by decide +kernel)).mono ?_
  · simp at he; subst he
    exact ⟨by simp [eAB], by simp [eAB], by simp [eAB], by simp [eAB], by simp [eAB, ByteArray.size]⟩
  · simp at hm; subst hm
    exact ⟨by simp, by simp⟩
  · rintro e w' ⟨v, rfl, h3, h4⟩
    exact ⟨v, rfl, h3, bstep (balloc (balloc (Below.refl _ _) _) _) h4⟩

def MovedPost (w : World) (L : List MkM) (n : Nat) (e : Ending) (w' : World) : Prop := ∃ a cap, e = .returned (.tuple #[.slice a n cap, .bool true]) ∧ (L.length = n ∧ MksV w' (.slice a n cap) L) ∧ MksAt w' a L ∧ Below w.heap.size w w'
set_option maxRecDepth 100000 in
set_option maxHeartbeats 4000000 in
theorem moved (n : Int) (ms : List MkM) (v : Value) (l : List EdM) (u : Value) (w : World) (hv : MksV w v ms) (hu : EdsV w u l) (h60 : ms.length ≤ 60) (l60 : l.length ≤ 60) (hok : ∀ e ∈ l, e.ok) (h0 : 0 ≤ n) (h1 : n ≤ 600) (hin : ∀ m ∈ ms, m.in_ n) (hc : szC l n = 0) :
    Calls Try.prog 21 #[.int .i64 n, v, u] w (MovedPost w (ms.map (mvd l)) ms.length) := by
  have M := Lib.hid (fun W v u (hv : MksV W v ms) (hu : EdsV W u l) => moveV n ms v l u W hv hu h60 l60 hok h0 h1 hin hc)
  have MB := Lib.hid moveB
  obtain ⟨i0, hi, hz0, hz1, hz2⟩ := info_parts infoMark
  have HI := Lib.hid (And.intro hi (And.intro hz0 (And.intro hz1 hz2)))
  clear hi hz0 hz1 hz2
  obtain ⟨j0, hi, hz0, hz1, hz2⟩ := info_parts infoEdit
  have HJ := Lib.hid (And.intro hi (And.intro hz0 (And.intro hz1 hz2)))
  clear hi hz0 hz1 hz2 hok hin hc
  have V0 := Lib.hid hv
  have U0 := Lib.hid hu
  obtain ⟨va, vcap, rfl, _, _, _⟩ := hv
  clear hu
  have LM : Hid ((ms.map (mvd l)).length = ms.length) := Lib.hid (by simp)
  generalize ms.map (mvd l) = L at *
  have mixed : Try.prog.follows .mixedOrders = true := by kernel_rfl
  go_enter Try.func21, Try.ntmps21
  go_wp2_with (at_builtin; first
    | (refine wpList_copyV MkM.cs_len MkM.cs_one (by omega) rfl _ _ 22 rfl 28 i0 _ 16 Try.underlying22 HI.out.1 HI.out.2.1 HI.out.2.2.1 HI.out.2.2.2 rfl rfl _ rfl ms V0.out (by unfold maxLen; omega) (by omega) ?_; intro v1 w1 hv1 hb1; have V1 := Lib.hid hv1; have B1 := Lib.hid hb1; clear hv1 hb1)
    | (refine wpList_copyV EdM.cs_len EdM.cs_one (by omega) rfl _ _ 23 rfl 50 j0 _ 32 Try.underlying23 HJ.out.1 HJ.out.2.1 HJ.out.2.2.1 HJ.out.2.2.2 rfl rfl _ rfl l (U0.out.next B1.out) (by unfold maxLen; omega) (by omega) ?_; intro v2 w2 hv2 hb2; have V2 := Lib.hid hv2; have V1' := Lib.hid (V1.out.next hb2); have B2 := Lib.hid (bstep B1.out hb2); clear hv2 hb2 V1 B1))
  refine (M.out _ _ _ V1'.out V2.out).mono ?_
  rintro e w3 ⟨x, rfl, hx, hb3⟩
  have B3 := Lib.hid (bstep B2.out hb3)
  have X3 := Lib.hid hx
  clear hx hb3 B2 V1' V2 M V0 U0
  go_wp2_with fail
  refine (MB.out _).mono ?_
  rintro e w4 ⟨y, rfl, hy, hb4⟩
  have B4 := Lib.hid (bstep B3.out hb4)
  have xv := X3.out.next hb4
  have xv2 := xv
  obtain ⟨a, cap, rfl, _, ha, _⟩ := xv2
  rw [LM.out] at xv
  have XA := Lib.hid ha
  have XV := Lib.hid xv
  clear xv
  obtain ⟨b, bcap, rfl, _, hb, _⟩ := hy
  obtain ⟨g, off, rfl, hg, c0, _⟩ := MksAt.get hb (i := 0) rfl
  rw [Nat.zero_mul, Nat.add_zero] at c0
  rw [LM.out]
  clear ha hb4 X3 B3 MB hb hg
  generalize ms.length = N at *
  have e1 : ((N : Int) == (N : Int)) = true := by simp
  go_wp2_with fail
  go_big_region_o
  go_wp2_with fail
  go_ret2
  exact ⟨a, cap, rfl, ⟨LM.out, SlV.next XV.out ((Below.refl _ _).drew)⟩, SlAt.next XA.out ((Below.refl _ _).drew), bdrew B4.out⟩

end Go.Proofs.Ytllpglanpfjcnaa.MarkK
