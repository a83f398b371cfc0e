/-
  Package hist: apply (one edit of the text).
-/
import Derived.Test.YtkeacipjjoeieaaHistAt
import Derived.Test.YtkeacipjjoeieaaEditApplyV
namespace Go.Proofs.Ytkeacipjjoeieaa.HistC
open Go.RowKit Kit EditM EditC EditK HistM

def ApPost (k : Nat) (t : ByteArray) (w : World) (x : Ending) (w' : World) : Prop := x = .returned (.tuple #[]) ∧ ∃ w1, Below w.heap.size w w1 ∧ w' = w1.setCell ⟨k, 0, none⟩ (.string t)
set_option maxRecDepth 100000 in
set_option maxHeartbeats 1000000 in
theorem apply (k : Nat) (t : ByteArray) (e : EdM) (vb vc vd : Value) (w : World) (hb : B4 k (.string t) vb vc vd w) (eok : e.ok) (hf : e.fits t.data.toList) :
    Calls Try.prog 31 #[.pointer (some ⟨k, 0, none⟩), .agg #[.int .i64 e.at_, .int .i64 e.cut, .string e.put]] w (ApPost k (str (e.step t.data.toList)) w) := by
  have AP := Lib.hid (fun W (hW : Below (w.heap.size + 2) (((w.alloc (.cells #[.int .i64 e.at_, .int .i64 e.cut, .string e.put] 43)).alloc (.cells #[.int .i64 e.at_, .int .i64 e.cut, .string e.put] 43))) W) => applyV t [e] (.slice (some ⟨w.heap.size + 1, 0, none⟩) 1 1) W (by
    have := (one_at (w.alloc (.cells #[.int .i64 e.at_, .int .i64 e.cut, .string e.put] 43)) e).next (w' := W) (by simpa using hW)
    simpa using this) (by simpa using eok) (by simp) (by have := hf.t6; rwa [size_list] at this) (by simp only [apC, if_pos hf.fault]))
  rw [show apT [e] t.data.toList = e.step t.data.toList from rfl] at AP
  generalize str (e.step t.data.toList) = t' at *
  have BX := Lib.hid ((hb.next (balloc (Below.refl _ _) (.cells #[.int .i64 e.at_, .int .i64 e.cut, .string e.put] 43))).next (balloc (Below.refl _ _) (.cells #[.int .i64 e.at_, .int .i64 e.cut, .string e.put] 43)))
  obtain ⟨lt, c0, c1, c2, c3, fr⟩ := hb
  have fr0 := fr 0
  have kne : ¬ k = w.heap.size := by omega
  clear hf eok fr c1 c2 c3
  obtain ⟨a, c, p⟩ := e
  dsimp only at *
  have mixed : Try.prog.follows .mixedOrders = true := by kernel_rfl
  go_enter Try.func31, Try.ntmps31
  go_wp2_with fail
  go_region_with (first | (refine (AP.out _ (Below.drew (Below.refl _ _))).mono ?_; rintro e w3 ⟨rfl, hk3⟩; have HK := Lib.hid hk3; obtain ⟨lt3, c03, _, _, _, fr3⟩ := (BX.out.next (Below.drew (Below.refl _ _))).next hk3; have fr30 := fr3 0; clear hk3 fr3) | (refine (AP.out _ (Below.refl _ _)).mono ?_; rintro e w3 ⟨rfl, hk3⟩; have HK := Lib.hid hk3; obtain ⟨lt3, c03, _, _, _, fr3⟩ := BX.out.next hk3; have fr30 := fr3 0; clear hk3 fr3))
  all_goals
    go_wp2_with fail
    go_end0
    refine ⟨rfl, _, ?_, rfl⟩
    first
      | exact bstep (balloc (balloc (Below.refl _ _) _) _) HK.out
      | exact bstep (balloc (balloc (Below.refl _ _) _) _).drew HK.out

end Go.Proofs.Ytkeacipjjoeieaa.HistC
