/-
  The document: WordsFind; when a text is one indexed word.
-/
import Derived.Test.YtedlgobpoifnfaaRefLetter
import Derived.Test.YtedlgobpoifnfaaWordFind
namespace Go.Proofs.Ytedlgobpoifnfaa.WordR
open Go.RowKit Kit WordM LineM WordC Go.Shelf

theorem wat_le (s : List UInt8) (i : Nat) : (wat s i).length ≤ s.length - i := by
  unfold wat
  split
  · simp
  · split
    · simp
    · unfold runAt
      have h := (List.takeWhile_prefix (p := letB) (l := s.drop i)).length_le
      simpa using h
/-- a text is one indexed word if the word at its beginning is all of it -/
theorem isWord_iff (l : List UInt8) : isWord l = true ↔ l ≠ [] ∧ wat l 0 = l := by
  constructor
  · intro h
    unfold isWord lastIs at h
    cases hl : (occ l).getLast? with
    | none => rw [hl] at h; cases h
    | some p =>
      rw [hl] at h
      have hp := List.mem_of_getLast? hl
      obtain ⟨i, hi, rfl, hne⟩ := (mem_occ l p).1 hp
      have e : wat l i = l := of_decide_eq_true h
      have hle := wat_le l i
      rw [e] at hle hne
      have : l.length ≠ 0 := fun h0 => hne (List.eq_nil_of_length_eq_zero h0)
      obtain rfl : i = 0 := by omega
      exact ⟨hne, e⟩
  · rintro ⟨hne, e⟩
    have h0 : l.length ≠ 0 := fun h0 => hne (List.eq_nil_of_length_eq_zero h0)
    have hst := wat_start l 0 (.inl rfl)
    have hlen : (wat l 0).length ≤ 12 := wat_len l 0
    rw [e] at hlen
    have hrun : runAt l 0 = l := by
      rw [e] at hst
      split at hst
      · exact absurd hst hne
      · exact hst.symm
    have hall : ∀ i, 0 ≤ i → i < l.length → letAt l i = true := by
      intro i _ hi
      rw [letAt_get l hi]
      have ht : l.takeWhile letB = l := by simpa [runAt] using hrun
      have : ∀ x ∈ l, letB x = true := by
        intro x hx
        have := List.all_takeWhile (p := letB) (l := l)
        rw [ht, List.all_eq_true] at this
        exact this x hx
      exact this _ (List.getElem_mem hi)
    have hw := occTo_word l 0 l.length (by omega) (Nat.le_refl _) (.inl rfl) hall (letAt_end l (Nat.le_refl _))
    rw [occTo_last, if_pos ⟨by omega, by omega⟩] at hw
    unfold isWord
    rw [hw]
    have := lastIs_snoc (occTo l 0) 0 (List.take (l.length - 0) (List.drop 0 l)) l
    simpa using this
theorem pos_step (s : List UInt8) (k : Nat) (q : List UInt8) (hq : q ≠ []) : pos (occTo s (k + 1)) q = pos (occTo s k) q ++ (if wat s k = q then [(k : Int)] else []) := by
  show pos (occTo s k ++ one s k) q = _
  by_cases h : wat s k = []
  · rw [one_none h, List.append_nil, if_neg (by rw [h]; exact fun e => hq e.symm), List.append_nil]
  · rw [one_some h, pos_snoc]

set_option maxHeartbeats 1000000 in
theorem wfind_form (s q : ByteArray) (w : World) (hq : q.size ≤ 140737488351232) (h : isWord q.data.toList = false) :
    Calls Try.prog 13 #[.string s, .string q] w (IsPost w [] 4) := by
  have W := Lib.hid (wordAt q 0 w hq (by omega))
  by_cases hz : q.data.toList = []
  · have hb : q.toList.isEmpty = true := by rw [Lib.toList_data, hz]; rfl
    clear h hz
    go_enter Try.func13, Try.ntmps13
    go_wp2_with fail
    go_ret2
    exact ⟨_, rfl, IK.nil (Below.refl _ _)⟩
  · have hb : q.toList.isEmpty = false := by rw [Lib.toList_data]; simpa using hz
    have hne : ((bs (wat q.data.toList 0)).toList == q.toList) = false := by
      rw [eq_bs]
      apply decide_eq_false
      intro e
      rw [(isWord_iff _).2 ⟨hz, e⟩] at h
      cases h
    clear h hz
    generalize bs (wat q.data.toList 0) = x at *
    go_enter Try.func13, Try.ntmps13
    go_wp2_with (go_at_call 26; refine W.out.mono ?_; rintro e w1 ⟨rfl, rfl⟩)
    go_ret2
    exact ⟨_, rfl, IK.nil (Below.refl _ _)⟩
set_option maxHeartbeats 1000000 in
theorem wfind_size (s q : ByteArray) (w : World) (hq : q.size ≤ 140737488351232) (h : isWord q.data.toList = true) (hs : 600 < s.size) :
    Calls Try.prog 13 #[.string s, .string q] w (IsPost w [] 1) := by
  have W := Lib.hid (wordAt q 0 w hq (by omega))
  obtain ⟨hz, e⟩ := (isWord_iff _).1 h
  have hb : q.toList.isEmpty = false := by rw [Lib.toList_data]; simpa using hz
  have hne : ((bs (wat q.data.toList 0)).toList == q.toList) = true := by rw [eq_bs]; exact decide_eq_true e
  clear h hz e
  generalize bs (wat q.data.toList 0) = x at *
  go_enter Try.func13, Try.ntmps13
  go_wp2_with (go_at_call 26; refine W.out.mono ?_; rintro e w1 ⟨rfl, rfl⟩)
  go_ret2
  exact ⟨_, rfl, IK.nil (Below.refl _ _)⟩
set_option maxRecDepth 100000 in
set_option maxHeartbeats 2000000 in
theorem wfind (s q : ByteArray) (w : World) (hq : q.size ≤ 140737488351232) (h : isWord q.data.toList = true) (hs : s.size ≤ 600) :
    Calls Try.prog 13 #[.string s, .string q] w (IsPost w (pos (occ s.data.toList) q.data.toList) 0) := by
  obtain ⟨i0, hi, hz0, hz1, hz2⟩ := info_parts infoInt
  have HI := Lib.hid (And.intro hi (And.intro hz0 (And.intro hz1 hz2)))
  clear hi hz0 hz1 hz2
  have W := Lib.hid (wordAt q 0 w hq (by omega))
  have WA := Lib.hid (fun k w (hk : k ≤ s.size) => wordAt s k w (by omega) hk)
  obtain ⟨hz, e⟩ := (isWord_iff _).1 h
  have hb : q.toList.isEmpty = false := by rw [Lib.toList_data]; simpa using hz
  have hne : ((bs (wat q.data.toList 0)).toList == q.toList) = true := by rw [eq_bs]; exact decide_eq_true e
  have HZ := Lib.hid hz
  clear h hz e
  generalize bs (wat q.data.toList 0) = x at *
  go_enter Try.func13, Try.ntmps13
  go_wp2_with (go_at_call 26; refine W.out.mono ?_; rintro e w1 ⟨rfl, rfl⟩)
  clear hne hb W
  go_loopw [6, 21] (fun vo vi wr => ∃ k : Nat, k ≤ s.size ∧ vi = .int .i64 (k : Int) ∧ Hid (IK w (pos (occTo s.data.toList k) q.data.toList) vo wr)) (fun _ vi _ => s.size - (intOf vi).toNat)
  case atStart => exact ⟨0, by omega, rfl, Lib.hid (IK.nil (Below.refl _ _))⟩
  case round =>
    obtain ⟨k, hk, rfl, HK⟩ := hrel
    by_cases hlt : k < s.size
    · have HS := Lib.hid (pos_step s.data.toList k q.data.toList HZ.out)
      have r1 : IntKind.i64.wrap ((k : Int) + 1) = (k : Int) + 1 := IntWalk.i64_in _ (by omega)
      by_cases hc : wat s.data.toList k = q.data.toList
      · have hne : ((bs (wat s.data.toList k)).toList == q.toList) = true := by rw [eq_bs]; exact decide_eq_true hc
        rw [if_pos hc] at HS
        have hL : (pos (occTo s.data.toList k) q.data.toList).length ≤ 600 := Nat.le_trans (pos_len _ _) (Nat.le_trans (occTo_len _ _) (by omega))
        have HW := Lib.hid (WA.out k wr hk)
        clear hc
        generalize bs (wat s.data.toList k) = y at *
        generalize pos (occTo s.data.toList k) q.data.toList = L at *
        have hsz := HK.out.bel.size
        have HROW := Lib.hid (HK.out.row)
        go_wp2_with (first
          | (go_at_call 26; refine HW.out.mono ?_; rintro e w1 ⟨rfl, rfl⟩)
          | (at_builtin; refine wpList_append_lies _ rfl _ _ 28 rfl w.heap.size 3 i0 _ 1 8 Try.underlying28 HI.out.1 HI.out.2.1 HI.out.2.2.1 HI.out.2.2.2 rfl (by decide) _ L.length (flatC ic L) rfl (HROW.out.alloc _) ⟨wr.heap.size, 0, none⟩ 1 1 [.int .i64 (k : Int)] rfl rfl (cell_one_new _ _ _) (by simp [Value.oneCell']) (by omega) (by unfold maxLen; omega) (by omega) (by simp; omega) _ rfl ?_; intro g cap w1 hown1 hgrow1 _ _))
        go_roundw
        case rel => exact ⟨k + 1, by omega, by go_num, Lib.hid ⟨by rw [HS.out, List.length_append, flatC_append]; exact hown1, bgrow (balloc HK.out.bel _) (HROW.out.alloc _) hgrow1⟩⟩
        case measure => simp [intOf]; omega
      · have hne : ((bs (wat s.data.toList k)).toList == q.toList) = false := by rw [eq_bs]; exact decide_eq_false hc
        rw [if_neg hc, List.append_nil] at HS
        have HW := Lib.hid (WA.out k wr hk)
        clear hc
        generalize bs (wat s.data.toList k) = y at *
        go_wp2_with (go_at_call 26; refine HW.out.mono ?_; rintro e w1 ⟨rfl, rfl⟩)
        go_roundw
        case rel => exact ⟨k + 1, by omega, by go_num, Lib.hid (by rw [HS.out]; exact HK.out)⟩
        case measure => simp [intOf]; omega
    · have HF : Hid (IK w (pos (occ s.data.toList) q.data.toList) (Value.int .i64 0) wr ∨ True) := Lib.hid (.inr trivial)
      clear HF
      have e1 : k = s.data.toList.length := by simp; omega
      rw [e1] at HK
      clear e1
      go_wp2_with fail
      go_ret2
      exact ⟨_, rfl, HK.out⟩
end Go.Proofs.Ytedlgobpoifnfaa.WordR
