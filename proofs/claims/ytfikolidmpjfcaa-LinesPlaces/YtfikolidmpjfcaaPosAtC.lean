/-
  Package pos: what At answers within a text.
-/
import Derived.Test.YtfikolidmpjfcaaPosOfC
namespace Go.Proofs.Ytfikolidmpjfcaa.PosOfC
open Go.RowKit PosM Kit StrC

theorem take_size (s : ByteArray) {n : Nat} (hn : n ≤ s.size) : (s.extract 0 n).size = n := by
  rw [ByteArray.size_extract]; omega
theorem take_list (s : ByteArray) (n : Nat) : (s.extract 0 n).data.toList = s.data.toList.take n := by
  rw [Lib.extract_data]; simp
theorem of_take (s : ByteArray) (n : Nat) (w : World) (hs : s.size ≤ maxLen) (hn : n ≤ s.size) :
    Calls Try.prog 23 #[.string (s.extract 0 n)] w fun e w' => e = .returned (posV n (lns (s.data.toList.take n)) (col (s.data.toList.take n))) ∧ Below w.heap.size w w' := by
  have h := of (s.extract 0 n) w (by rw [take_size s hn]; omega)
  rw [take_size s hn, take_list] at h
  exact h
set_option maxHeartbeats 400000 in
theorem at_yes (s : ByteArray) (n : Nat) (w : World) (hs : s.size ≤ maxLen) (hn : n ≤ s.size) :
    Calls Try.prog 22 #[.string s, .int .i64 n] w fun e w' => e = .returned (.tuple #[posV n (lns (s.data.toList.take n)) (col (s.data.toList.take n)), .int .i64 0]) ∧ Below w.heap.size w w' := by
  have hs' := hs
  unfold maxLen at hs'
  have g1 : decide ((n : Int) < 0) = false := by simp
  have g2 : decide (s.size < n) = false := by simp; omega
  go_enter Try.func22, Try.ntmps22
  go_wp2_with (go_at_call 23; refine (of_take s n _ hs hn).mono ?_; rintro e w' ⟨rfl, hb⟩; obtain ⟨hc, hf, _⟩ := bfacts hb; have zz := hb.size; simp at zz; have z0 : w.heap.size < w'.heap.size := (by omega); clear zz)
  refine bodyPost_ret (v := .tuple #[posV n (lns (s.data.toList.take n)) (col (s.data.toList.take n)), .int .i64 0]) (by simp [results, Try.results22, go_sem, *]) rfl ⟨rfl, ?_⟩
  repeat (first | exact Below.refl _ _ | refine balloc ?_ _ | refine Below.setCell ?_ (by simp) _ | refine bstep ?_ (by assumption) | refine Below.drew ?_)

end Go.Proofs.Ytfikolidmpjfcaa.PosOfC
