/-
  Package pos: what Find answers, in the code and in the document's answer.
-/
import Derived.Test.YtajnebmijplkeaaPosOf
namespace Go.Proofs.Ytajnebmijplkeaa.PosC
open Go.ChangeShapes Go.WideShapes Go.ChangeAt Go.RowKit PosM Kit StrC

/-- where a line begins -/
def lineAt (l : List UInt8) : Nat → Nat
  | 0 => 0
  | k + 1 => lineAt l k + first (l.drop (lineAt l k)) + 1

theorem lineAt_next (l : List UInt8) {k : Nat} (hk : k < lns l) (h1 : lineAt l k ≤ l.length) (h2 : lns (l.take (lineAt l k)) = k) (_h3 : col (l.take (lineAt l k)) = 0) :
    lineAt l k + first (l.drop (lineAt l k)) < l.length := by
  have hf := first_le (l.drop (lineAt l k))
  rw [List.length_drop] at hf
  by_cases e : lineAt l k + first (l.drop (lineAt l k)) = l.length
  · have := last_line l h1 e; omega
  · omega
theorem lineAt_spec (l : List UInt8) : ∀ k, k ≤ lns l → lineAt l k ≤ l.length ∧ lns (l.take (lineAt l k)) = k ∧ col (l.take (lineAt l k)) = 0
  | 0, _ => by simp [lineAt, lns, col]
  | k + 1, hk => by
    obtain ⟨h1, h2, h3⟩ := lineAt_spec l k (by omega)
    have hlt := lineAt_next l (by omega) h1 h2 h3
    have hn := next_line l h3 hlt
    simp only [lineAt]
    exact ⟨by omega, by rw [hn.1, h2], hn.2⟩
theorem lineAt_last (l : List UInt8) : first (l.drop (lineAt l (lns l))) = l.length - lineAt l (lns l) := by
  obtain ⟨h1, h2, h3⟩ := lineAt_spec l (lns l) (Nat.le_refl _)
  have hf := first_le (l.drop (lineAt l (lns l)))
  rw [List.length_drop] at hf
  by_cases e : lineAt l (lns l) + first (l.drop (lineAt l (lns l))) < l.length
  · have hn := next_line l h3 e
    have := take_split l (show lineAt l (lns l) + first (l.drop (lineAt l (lns l))) + 1 ≤ l.length by omega)
    rw [List.take_length] at this
    have h4 : lns l = lns (l.take (lineAt l (lns l) + first (l.drop (lineAt l (lns l))) + 1)) + lns ((l.drop (lineAt l (lns l) + first (l.drop (lineAt l (lns l))) + 1)).take (l.length - (lineAt l (lns l) + first (l.drop (lineAt l (lns l))) + 1))) := by
      rw [← lns_append, ← this]
    omega
  · omega

theorem drop_size (s : ByteArray) (n : Nat) : (s.extract n s.size).size = s.size - n := by
  rw [ByteArray.size_extract]; omega
theorem drop_list (s : ByteArray) (n : Nat) : (s.extract n s.size).data.toList = s.data.toList.drop n := by
  rw [Lib.extract_data]; exact List.take_of_length_le (by simp)

theorem index_drop (s : ByteArray) (n : Nat) (w : World) :
    Calls Try.prog 32 #[.string (s.extract n s.size), .string ⟨#[10]⟩] w fun e w' => e = .returned (.int .i64 (feed (s.data.toList.drop n))) ∧ w = w' := by
  have h := index (s.extract n s.size) w
  rw [drop_list] at h
  exact h

theorem feed_yes {l : List UInt8} (h : first l < l.length) : feed l = first l := by simp [feed, h]
theorem feed_no {l : List UInt8} (h : ¬ first l < l.length) : feed l = -1 := by simp [feed, h]

set_option maxHeartbeats 400000 in
theorem lineLength (s : ByteArray) (n : Nat) (w : World) :
    Calls Try.prog 27 #[.string (s.extract n s.size)] w fun e w' => e = .returned (.int .i64 (first (s.data.toList.drop n))) ∧ w = w' := by
  have hf := first_le (s.data.toList.drop n)
  rw [List.length_drop] at hf
  have hlen : s.data.toList.length = s.size := by simp
  by_cases h : first (s.data.toList.drop n) < (s.data.toList.drop n).length
  · have e := feed_yes h
    have hI : ∀ w, Calls Try.prog 32 #[.string (s.extract n s.size), .string ⟨#[10]⟩] w fun e w' => e = .returned (.int .i64 (first (s.data.toList.drop n))) ∧ w = w' := fun w => by
      have h := index_drop s n w
      rw [e] at h; exact h
    have HI := Lib.hid hI
    clear hI e h
    go_enter Try.func27, Try.ntmps27
    go_wp2_with fail
    refine (HI.out _).mono ?_
    rintro e w' ⟨rfl, rfl⟩
    go_wp2
    go_ret
    exact ⟨rfl, rfl⟩
  · have e := feed_no h
    have hI : ∀ w, Calls Try.prog 32 #[.string (s.extract n s.size), .string ⟨#[10]⟩] w fun e w' => e = .returned (.int .i64 (-1)) ∧ w = w' := fun w => by
      have h := index_drop s n w
      rw [e] at h; exact h
    have HI := Lib.hid hI
    have HF : Hid (first (s.data.toList.drop n) = s.size - n) := by
      rw [List.length_drop, hlen] at h; show _ = _; omega
    clear hI e h
    go_enter Try.func27, Try.ntmps27
    go_wp2_with fail
    refine (HI.out _).mono ?_
    rintro e w' ⟨rfl, rfl⟩
    go_wp2
    go_ret
    exact ⟨ret_int (by rw [HF.out]), rfl⟩

set_option maxHeartbeats 1000000 in
theorem lineStart_yes (s : ByteArray) (L : Nat) (w : World) (hs : s.size ≤ maxLen) (hL : L ≤ lns s.data.toList) :
    Calls Try.prog 26 #[.string s, .int .i64 L] w fun e w' => e = .returned (.tuple #[.int .i64 (lineAt s.data.toList L), .bool true]) ∧ w = w' := by
  unfold maxLen at hs
  have hlen : s.data.toList.length = s.size := by simp
  have hll := lns_col_le s.data.toList
  rw [hlen] at hll
  have HLEN := Lib.hid hlen
  clear hlen
  go_enter Try.func26, Try.ntmps26
  go_wp2
  go_loop [6, 9] (fun st i => ∃ k : Nat, k ≤ L ∧ i = .int .i64 k ∧ st = .int .i64 (lineAt s.data.toList k)) (fun _ i => L - (intOf i).toNat)
  case atStart => exact ⟨0, Nat.zero_le _, rfl, rfl⟩
  case round =>
    obtain ⟨k, hk, rfl, rfl⟩ := hrel
    obtain ⟨h1, h2, h3⟩ := lineAt_spec s.data.toList k (by omega)
    rw [HLEN.out] at h1
    by_cases hlt : k < L
    · have hn := lineAt_next s.data.toList (by omega) (by rw [HLEN.out]; exact h1) h2 h3
      rw [HLEN.out] at hn
      have e : feed (s.data.toList.drop (lineAt s.data.toList k)) = first (s.data.toList.drop (lineAt s.data.toList k)) := feed_yes (by rw [List.length_drop, HLEN.out]; omega)
      have hI := fun w => index_drop s (lineAt s.data.toList k) w
      rw [e] at hI
      have HI := Lib.hid hI
      have HN : Hid (lineAt s.data.toList (k + 1) = lineAt s.data.toList k + first (s.data.toList.drop (lineAt s.data.toList k)) + 1) := rfl
      clear hI e h2 h3
      generalize lineAt s.data.toList k = st at *
      generalize first (s.data.toList.drop st) = f at *
      go_wp2_with fail
      refine (HI.out _).mono ?_
      rintro e w' ⟨rfl, rfl⟩
      go_wp2
      go_round
      case rel => exact ⟨k + 1, by omega, by go_num, congrArg (Value.int IntKind.i64) (by rw [HN.out]; omega)⟩
      case measure => simp [intOf]; omega
    · have e : k = L := by omega
      subst e
      clear h2 h3
      go_wp2
      go_ret2
      exact ⟨rfl, rfl⟩

set_option maxHeartbeats 1000000 in
theorem lineStart_no (s : ByteArray) (L : Nat) (w : World) (hs : s.size ≤ maxLen) (hL : lns s.data.toList < L) (hL2 : (L : Int) ≤ 9223372036854775807) :
    Calls Try.prog 26 #[.string s, .int .i64 L] w fun e w' => e = .returned (.tuple #[.int .i64 0, .bool false]) ∧ w = w' := by
  unfold maxLen at hs
  have hlen : s.data.toList.length = s.size := by simp
  have hll := lns_col_le s.data.toList
  rw [hlen] at hll
  have HLEN := Lib.hid hlen
  clear hlen
  go_enter Try.func26, Try.ntmps26
  go_wp2
  go_loop [6, 9] (fun st i => ∃ k : Nat, k ≤ lns s.data.toList ∧ i = .int .i64 k ∧ st = .int .i64 (lineAt s.data.toList k)) (fun _ i => L - (intOf i).toNat)
  case atStart => exact ⟨0, Nat.zero_le _, rfl, rfl⟩
  case round =>
    obtain ⟨k, hk, rfl, rfl⟩ := hrel
    obtain ⟨h1, h2, h3⟩ := lineAt_spec s.data.toList k (by omega)
    rw [HLEN.out] at h1
    by_cases hlt : k < lns s.data.toList
    · have hn := lineAt_next s.data.toList (by omega) (by rw [HLEN.out]; exact h1) h2 h3
      rw [HLEN.out] at hn
      have e : feed (s.data.toList.drop (lineAt s.data.toList k)) = first (s.data.toList.drop (lineAt s.data.toList k)) := feed_yes (by rw [List.length_drop, HLEN.out]; omega)
      have hI := fun w => index_drop s (lineAt s.data.toList k) w
      rw [e] at hI
      have HI := Lib.hid hI
      have HN : Hid (lineAt s.data.toList (k + 1) = lineAt s.data.toList k + first (s.data.toList.drop (lineAt s.data.toList k)) + 1) := rfl
      have hkL : k < L := by omega
      clear hI e h2 h3
      generalize lineAt s.data.toList k = st at *
      generalize first (s.data.toList.drop st) = f at *
      go_wp2_with fail
      refine (HI.out _).mono ?_
      rintro e w' ⟨rfl, rfl⟩
      go_wp2
      go_round
      case rel => exact ⟨k + 1, by omega, by go_num, congrArg (Value.int IntKind.i64) (by rw [HN.out]; omega)⟩
      case measure => simp [intOf]; omega
    · have ek : k = lns s.data.toList := by omega
      have hfl := lineAt_last s.data.toList
      rw [← ek, HLEN.out] at hfl
      have e : feed (s.data.toList.drop (lineAt s.data.toList k)) = -1 := feed_no (by rw [List.length_drop, HLEN.out]; omega)
      have hI := fun w => index_drop s (lineAt s.data.toList k) w
      rw [e] at hI
      have HI := Lib.hid hI
      have hkL : k < L := by omega
      clear hI e h2 h3 hfl ek
      generalize lineAt s.data.toList k = st at *
      go_wp2_with fail
      refine (HI.out _).mono ?_
      rintro e w' ⟨rfl, rfl⟩
      go_wp2
      go_ret2
      exact ⟨rfl, rfl⟩

set_option maxHeartbeats 400000 in
theorem find_yes (s : ByteArray) (L c : Nat) (w : World) (hs : s.size ≤ maxLen) (hL : L ≤ lns s.data.toList) (hc : c ≤ first (s.data.toList.drop (lineAt s.data.toList L))) :
    Calls Try.prog 19 #[.string s, .int .i64 L, .int .i64 c] w fun e w' => e = .returned (.tuple #[.int .i64 (lineAt s.data.toList L + c : Nat), .int .i64 0]) ∧ w = w' := by
  obtain ⟨h1, _, _⟩ := lineAt_spec s.data.toList L hL
  have hf := first_le (s.data.toList.drop (lineAt s.data.toList L))
  have hlen : s.data.toList.length = s.size := by simp
  rw [List.length_drop, hlen] at hf
  rw [hlen] at h1
  have HS := Lib.hid (lineStart_yes s L w hs hL)
  have HLL := Lib.hid (lineLength s (lineAt s.data.toList L) w)
  have hs' := hs
  unfold maxLen at hs'
  have g1 : decide ((L : Int) < 0) = false := by simp
  have g2 : decide ((c : Int) < 0) = false := by simp
  clear hlen
  generalize lineAt s.data.toList L = st at *
  generalize first (s.data.toList.drop st) = f at *
  go_enter Try.func19, Try.ntmps19
  go_wp2_with fail
  refine HS.out.mono ?_
  rintro e w' ⟨rfl, rfl⟩
  go_wp2_with fail
  refine HLL.out.mono ?_
  rintro e w' ⟨rfl, rfl⟩
  go_wp2
  go_ret2
  exact ⟨by simp, rfl⟩

set_option maxHeartbeats 400000 in
theorem find_none (s : ByteArray) (L c : Nat) (w : World) (hs : s.size ≤ maxLen) (hL : L ≤ lns s.data.toList) (hc : first (s.data.toList.drop (lineAt s.data.toList L)) < c) :
    Calls Try.prog 19 #[.string s, .int .i64 L, .int .i64 c] w fun e w' => e = .returned (.tuple #[.int .i64 0, .int .i64 7]) ∧ w = w' := by
  obtain ⟨h1, h2, h3⟩ := lineAt_spec s.data.toList L hL
  have hlen : s.data.toList.length = s.size := by simp
  rw [hlen] at h1
  have HS := Lib.hid (lineStart_yes s L w hs hL)
  have HLL := Lib.hid (lineLength s (lineAt s.data.toList L) w)
  have hs' := hs
  unfold maxLen at hs'
  have g1 : decide ((L : Int) < 0) = false := by simp
  have g2 : decide ((c : Int) < 0) = false := by simp
  clear hlen h2 h3
  generalize lineAt s.data.toList L = st at *
  generalize first (s.data.toList.drop st) = f at *
  go_enter Try.func19, Try.ntmps19
  go_wp2_with fail
  refine HS.out.mono ?_
  rintro e w' ⟨rfl, rfl⟩
  go_wp2_with fail
  refine HLL.out.mono ?_
  rintro e w' ⟨rfl, rfl⟩
  go_wp2
  go_ret2
  exact ⟨rfl, rfl⟩

set_option maxHeartbeats 400000 in
theorem find_range (s : ByteArray) (L c : Int) (w : World) (hs : s.size ≤ maxLen) (h : L < 0 ∨ c < 0 ∨ (lns s.data.toList : Int) < L) (hL2 : L ≤ 9223372036854775807) :
    Calls Try.prog 19 #[.string s, .int .i64 L, .int .i64 c] w fun e w' => e = .returned (.tuple #[.int .i64 0, .int .i64 2]) ∧ w = w' := by
  by_cases h1 : L < 0
  · have g1 : decide (L < 0) = true := by simpa using h1
    go_enter Try.func19, Try.ntmps19
    go_wp2_with fail
    go_ret2
    exact ⟨rfl, rfl⟩
  · have g1 : decide (L < 0) = false := by simpa using h1
    by_cases h2 : c < 0
    · have g2 : decide (c < 0) = true := by simpa using h2
      go_enter Try.func19, Try.ntmps19
      go_wp2_with fail
      go_ret2
      exact ⟨rfl, rfl⟩
    · have g2 : decide (c < 0) = false := by simpa using h2
      obtain ⟨k, rfl⟩ := Int.eq_ofNat_of_zero_le (show 0 ≤ L by omega)
      have HS := Lib.hid (lineStart_no s k w hs (by omega) hL2)
      clear h1 h
      go_enter Try.func19, Try.ntmps19
      go_wp2_with fail
      refine HS.out.mono ?_
      rintro e w' ⟨rfl, rfl⟩
      go_wp2
      go_ret2
      exact ⟨rfl, rfl⟩

end Go.Proofs.Ytajnebmijplkeaa.PosC
