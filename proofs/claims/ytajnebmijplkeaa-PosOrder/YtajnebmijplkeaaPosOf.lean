/-
  Package pos: what Of and At answer, in the code and in the document's answer, and the laws PosOfs, PosAts.
-/
import Derived.Test.YtajnebmijplkeaaPosMay
import Derived.Test.YtajnebmijplkeaaStr
namespace Go.Proofs.Ytajnebmijplkeaa.PosC
open Go.ChangeShapes Go.WideShapes Go.ChangeAt Go.RowKit PosM Kit StrC

/-- the extent of a text, as a value -/
abbrev posV (b l c : Int) : Value := .agg #[.int .i64 b, .int .i64 l, .int .i64 c]

set_option maxHeartbeats 400000 in
theorem of (s : ByteArray) (w : World) (hs : s.size ≤ maxLen) :
    Calls Try.prog 11 #[.string s] w fun e w' => e = .returned (posV s.size (lns s.data.toList) (col s.data.toList)) ∧ Below w.heap.size w w' := by
  have hcl := col_len s.data.toList
  have hlen : s.data.toList.length = s.size := by simp
  rw [hlen] at hcl
  have hs' := hs
  unfold maxLen at hs'
  go_enter Try.func11, Try.ntmps11
  go_wp2_with (first | (go_at_call 23; refine (lastIndex _ _ hs).mono ?_; rintro e w' ⟨rfl, rfl⟩) | (go_at_call 24; refine (count _ _).mono ?_; rintro e w' ⟨rfl, rfl⟩))
  have e1 : (s.size : Int) - ((s.size : Int) - 1 - col s.data.toList + 1) = col s.data.toList := by omega
  refine bodyPost_ret (v := posV s.size (lns s.data.toList) (col s.data.toList)) (by simp [results, Try.results11, go_sem, e1]) rfl ⟨rfl, ?_⟩
  repeat (first | exact Below.refl _ _ | refine balloc ?_ _ | refine Below.setCell ?_ (by simp; omega) _ | refine bstep ?_ (by assumption) | refine Below.drew ?_)

theorem take_snoc (s : ByteArray) (k : Nat) (h : k < s.size) : s.data.toList.take (k + 1) = s.data.toList.take k ++ [s[k]] := by
  rw [List.take_succ_eq_append_getElem (by simpa using h)]; rfl

set_option maxHeartbeats 1000000 in
theorem refOf (s : ByteArray) (w : World) (hs : s.size ≤ maxLen) :
    Calls Try.prog 12 #[.string s] w fun e w' => e = .returned (posV s.size (lns s.data.toList) (col s.data.toList)) ∧ Below w.heap.size w w' := by
  unfold maxLen at hs
  go_enter Try.func12, Try.ntmps12
  go_wp2
  go_loopw [4] (fun i wr => ∃ k : Nat, k ≤ s.size ∧ i = .int .i64 k ∧ wr = (w.alloc (.cells #[.int .i64 0, .int .i64 0, .int .i64 0] 23)).alloc (.cells #[.int .i64 k, .int .i64 (lns (s.data.toList.take k)), .int .i64 (col (s.data.toList.take k))] 23)) (fun i _ => s.size - (intOf i).toNat)
  case atStart => exact ⟨0, Nat.zero_le _, rfl, by simp [lns, col]⟩
  case round =>
    obtain ⟨k, hk, rfl, rfl⟩ := hrel
    by_cases hlt : k < s.size
    · have h1 := lns_snoc (s.data.toList.take k) s[k]
      have h2 := col_snoc (s.data.toList.take k) s[k]
      rw [← take_snoc s k hlt] at h1 h2
      have h3 := lns_col_le (s.data.toList.take k)
      rw [List.length_take] at h3
      have b1 : lns (s.data.toList.take k) ≤ k := by omega
      have b2 : col (s.data.toList.take k) ≤ k := by omega
      by_cases hc : s[k] = 10
      · have hb : ((s[k].toNat : Int) == 10) = true := by rw [hc]; rfl
        rw [if_pos hc] at h1 h2
        have H := Lib.hid (And.intro h1 h2)
        clear h1 h2 h3 hc
        go_wp2
        refine ⟨⟨k + 1, by omega, by go_num, ?_⟩, by simp [intOf]; omega⟩
        rw [H.out.1, H.out.2]; simp
      · have hb : ((s[k].toNat : Int) == 10) = false := byte_ne hc
        rw [if_neg hc] at h1 h2
        have H := Lib.hid (And.intro h1 h2)
        clear h1 h2 h3 hc
        go_wp2
        refine ⟨⟨k + 1, by omega, by go_num, ?_⟩, by simp [intOf]; omega⟩
        rw [H.out.1, H.out.2]; simp
    · have e1 : s.data.toList.take k = s.data.toList := List.take_of_length_le (by simp; omega)
      have e2 : k = s.size := by omega
      subst e2
      rw [e1]
      clear e1
      go_wp2
      refine bodyPost_ret (v := posV s.size (lns s.data.toList) (col s.data.toList)) (by simp [results, Try.results12, go_sem]) rfl ⟨rfl, ?_⟩
      repeat (first | exact Below.refl _ _ | refine balloc ?_ _ | refine Below.setCell ?_ (by simp; omega) _ | refine bstep ?_ (by assumption) | refine Below.drew ?_)

set_option maxHeartbeats 400000 in
theorem posOfs (s : ByteArray) (w : World) (hs : s.size ≤ maxLen) : Calls Try.prog 3 #[.string s] w fun e w' => e = .returned (.bool true) ∧ Below w.heap.size w w' := by
  go_enter Try.func3, Try.ntmps3
  go_wp2_with (first | (go_at_call 11; refine (of _ _ hs).mono ?_; rintro e w' ⟨rfl, hb⟩) | (go_at_call 12; refine (refOf _ _ hs).mono ?_; rintro e w' ⟨rfl, hb⟩))
  go_ret
  refine ⟨by simp, ?_⟩
  repeat (first | exact Below.refl _ _ | refine balloc ?_ _ | refine Below.setCell ?_ (by simp; omega) _ | refine bstep ?_ (by assumption) | refine Below.drew ?_)

theorem take_size (s : ByteArray) {n : Nat} (hn : n ≤ s.size) : (s.extract 0 n).size = n := by
  rw [ByteArray.size_extract]; omega
theorem take_list (s : ByteArray) (n : Nat) : (s.extract 0 n).data.toList = s.data.toList.take n := by
  rw [Lib.extract_data]; simp

theorem of_take (s : ByteArray) (n : Nat) (w : World) (hs : s.size ≤ maxLen) (hn : n ≤ s.size) :
    Calls Try.prog 11 #[.string (s.extract 0 n)] w fun e w' => e = .returned (posV n (lns (s.data.toList.take n)) (col (s.data.toList.take n))) ∧ Below w.heap.size w w' := by
  have h := of (s.extract 0 n) w (by rw [take_size s hn]; omega)
  rw [take_size s hn, take_list] at h
  exact h
theorem refOf_take (s : ByteArray) (n : Nat) (w : World) (hs : s.size ≤ maxLen) (hn : n ≤ s.size) :
    Calls Try.prog 12 #[.string (s.extract 0 n)] w fun e w' => e = .returned (posV n (lns (s.data.toList.take n)) (col (s.data.toList.take n))) ∧ Below w.heap.size w w' := by
  have h := refOf (s.extract 0 n) w (by rw [take_size s hn]; omega)
  rw [take_size s hn, take_list] at h
  exact h

set_option maxHeartbeats 400000 in
theorem at_yes (s : ByteArray) (n : Nat) (w : World) (hs : s.size ≤ maxLen) (hn : n ≤ s.size) :
    Calls Try.prog 17 #[.string s, .int .i64 n] w fun e w' => e = .returned (.tuple #[posV n (lns (s.data.toList.take n)) (col (s.data.toList.take n)), .int .i64 0]) ∧ Below w.heap.size w w' := by
  have hs' := hs
  unfold maxLen at hs'
  have g1 : decide ((n : Int) < 0) = false := by simp
  have g2 : decide (s.size < n) = false := by simp; omega
  go_enter Try.func17, Try.ntmps17
  go_wp2_with (go_at_call 11; refine (of_take s n _ hs hn).mono ?_; rintro e w' ⟨rfl, hb⟩; obtain ⟨hc, hf, _⟩ := bfacts hb; have zz := hb.size; simp at zz; have z0 : w.heap.size < w'.heap.size := (by omega); clear zz)
  refine bodyPost_ret (v := .tuple #[posV n (lns (s.data.toList.take n)) (col (s.data.toList.take n)), .int .i64 0]) (by simp [results, Try.results17, go_sem, *]) rfl ⟨rfl, ?_⟩
  repeat (first | exact Below.refl _ _ | refine balloc ?_ _ | refine Below.setCell ?_ (by simp) _ | refine bstep ?_ (by assumption) | refine Below.drew ?_)

set_option maxHeartbeats 400000 in
theorem at_no (s : ByteArray) (n : Int) (w : World) (hs : s.size ≤ maxLen) (hn : n < 0 ∨ (s.size : Int) < n) :
    Calls Try.prog 17 #[.string s, .int .i64 n] w fun e w' => e = .returned (.tuple #[posV 0 0 0, .int .i64 2]) ∧ Below w.heap.size w w' := by
  unfold maxLen at hs
  rcases hn with h | h
  · have g1 : decide (n < 0) = true := by simpa using h
    go_enter Try.func17, Try.ntmps17
    go_wp2
    refine bodyPost_ret (v := .tuple #[posV 0 0 0, .int .i64 2]) (by simp [results, Try.results17, go_sem]) rfl ⟨rfl, ?_⟩
    repeat (first | exact Below.refl _ _ | refine balloc ?_ _ | refine Below.setCell ?_ (by simp) _)
  · have g1 : decide (n < 0) = false := by simp; omega
    have g2 : decide ((s.size : Int) < n) = true := by simpa using h
    go_enter Try.func17, Try.ntmps17
    go_wp2
    refine bodyPost_ret (v := .tuple #[posV 0 0 0, .int .i64 2]) (by simp [results, Try.results17, go_sem]) rfl ⟨rfl, ?_⟩
    repeat (first | exact Below.refl _ _ | refine balloc ?_ _ | refine Below.setCell ?_ (by simp) _)

set_option maxHeartbeats 400000 in
theorem refAt_yes (s : ByteArray) (n : Nat) (w : World) (hs : s.size ≤ maxLen) (hn : n ≤ s.size) :
    Calls Try.prog 18 #[.string s, .int .i64 n] w fun e w' => e = .returned (.tuple #[posV n (lns (s.data.toList.take n)) (col (s.data.toList.take n)), .int .i64 0]) ∧ Below w.heap.size w w' := by
  have hs' := hs
  unfold maxLen at hs'
  have g1 : decide ((n : Int) < 0) = false := by simp
  have g2 : decide (s.size < n) = false := by simp; omega
  go_enter Try.func18, Try.ntmps18
  go_wp2_with (go_at_call 12; refine (refOf_take s n _ hs hn).mono ?_; rintro e w' ⟨rfl, hb⟩; obtain ⟨hc, hf, _⟩ := bfacts hb; have zz := hb.size; simp at zz; have z0 : w.heap.size < w'.heap.size := (by omega); clear zz)
  refine bodyPost_ret (v := .tuple #[posV n (lns (s.data.toList.take n)) (col (s.data.toList.take n)), .int .i64 0]) (by simp [results, Try.results18, go_sem, *]) rfl ⟨rfl, ?_⟩
  repeat (first | exact Below.refl _ _ | refine balloc ?_ _ | refine Below.setCell ?_ (by simp) _ | refine bstep ?_ (by assumption) | refine Below.drew ?_)

set_option maxHeartbeats 400000 in
theorem refAt_no (s : ByteArray) (n : Int) (w : World) (hs : s.size ≤ maxLen) (hn : n < 0 ∨ (s.size : Int) < n) :
    Calls Try.prog 18 #[.string s, .int .i64 n] w fun e w' => e = .returned (.tuple #[posV 0 0 0, .int .i64 2]) ∧ Below w.heap.size w w' := by
  unfold maxLen at hs
  rcases hn with h | h
  · have g1 : decide (n < 0) = true := by simpa using h
    go_enter Try.func18, Try.ntmps18
    go_wp2
    refine bodyPost_ret (v := .tuple #[posV 0 0 0, .int .i64 2]) (by simp [results, Try.results18, go_sem]) rfl ⟨rfl, ?_⟩
    repeat (first | exact Below.refl _ _ | refine balloc ?_ _ | refine Below.setCell ?_ (by simp) _)
  · have g1 : decide (n < 0) = false := by simp; omega
    have g2 : decide ((s.size : Int) < n) = true := by simpa using h
    go_enter Try.func18, Try.ntmps18
    go_wp2
    refine bodyPost_ret (v := .tuple #[posV 0 0 0, .int .i64 2]) (by simp [results, Try.results18, go_sem]) rfl ⟨rfl, ?_⟩
    repeat (first | exact Below.refl _ _ | refine balloc ?_ _ | refine Below.setCell ?_ (by simp) _)

set_option maxHeartbeats 1000000 in
theorem posAts (s : ByteArray) (n : Int) (w : World) (hs : s.size ≤ maxLen) (_hn : (Lit.int .i64 n).wf = true) : Calls Try.prog 6 #[.string s, .int .i64 n] w fun e w' => e = .returned (.bool true) ∧ Below w.heap.size w w' := by
  by_cases h : n < 0 ∨ (s.size : Int) < n
  · go_enter Try.func6, Try.ntmps6
    go_wp2_with fail
    refine (at_no _ _ _ hs h).mono ?_
    rintro e w1 ⟨rfl, hb⟩; obtain ⟨hc, hf, _⟩ := bfacts hb
    go_wp2_with fail
    refine (refAt_no _ _ _ hs h).mono ?_
    rintro e w2 ⟨rfl, hb2⟩; obtain ⟨hc2, hf2, _⟩ := bfacts hb2; have zz := hb2.size; simp at zz
    have z3 : w1.heap.size < w2.heap.size := by omega
    go_wp2_with fail
    go_ret
    refine ⟨rfl, ?_⟩
    repeat (first | exact Below.refl _ _ | refine balloc ?_ _ | refine Below.setCell ?_ (by simp; omega) _ | refine bstep ?_ (by assumption) | refine Below.drew ?_)
  · obtain ⟨k, rfl⟩ := Int.eq_ofNat_of_zero_le (show 0 ≤ n by omega)
    have hk : k ≤ s.size := by omega
    clear h
    go_enter Try.func6, Try.ntmps6
    go_wp2_with fail
    refine (at_yes _ _ _ hs hk).mono ?_
    rintro e w1 ⟨rfl, hb⟩; obtain ⟨hc, hf, _⟩ := bfacts hb
    go_wp2_with fail
    refine (refAt_yes _ _ _ hs hk).mono ?_
    rintro e w2 ⟨rfl, hb2⟩; obtain ⟨hc2, hf2, _⟩ := bfacts hb2; have zz := hb2.size; simp at zz
    have z3 : w1.heap.size < w2.heap.size := by omega
    go_wp2_with fail
    go_ret
    refine ⟨rfl, ?_⟩
    repeat (first | exact Below.refl _ _ | refine balloc ?_ _ | refine Below.setCell ?_ (by simp; omega) _ | refine bstep ?_ (by assumption) | refine Below.drew ?_)

end Go.Proofs.Ytajnebmijplkeaa.PosC
