/-
  The document's answers: editMade.
-/
import Derived.Test.YtedlgobpoifnfaaChecked
import Derived.Test.YtedlgobpoifnfaaEditMath
import Derived.WalkSpells
import Derived.Lib.Strings
namespace Go.Proofs.Ytedlgobpoifnfaa.EditR
open Go.RowKit Kit EditM

/-- what has been made behind i rounds -/
def pm (t : Bs) (a c : Nat) (p : Bs) (i : Nat) : Bs := if i ≤ a then t.take i else t.take a ++ p ++ (t.take i).drop (a + c)
theorem pm_zero (t : Bs) (a c : Nat) (p : Bs) : pm t a c p 0 = [] := by simp [pm]
theorem pm_end (t : Bs) (a c : Nat) (p : Bs) (h : a + c ≤ t.length) : pm t a c p (t.length + 1) = made t a c p := by
  unfold pm made; rw [if_neg (by omega), List.take_of_length_le (by omega : t.length ≤ t.length + 1)]
theorem pm_low {t : Bs} {a c : Nat} {p : Bs} {i : Nat} (h : i < a) (hl : i < t.length) : pm t a c p (i + 1) = pm t a c p i ++ [t[i]] := by
  unfold pm; rw [if_pos (by omega), if_pos (by omega), List.take_succ_eq_append_getElem hl]
theorem pm_at {t : Bs} {a c : Nat} {p : Bs} (_hl : a + c ≤ t.length) (h : a = t.length ∨ 0 < c) : pm t a c p (a + 1) = pm t a c p a ++ p := by
  unfold pm; rw [if_neg (by omega), if_pos (by omega)]
  rw [List.drop_eq_nil_of_le (by simp; omega), List.append_nil]
theorem pm_at0 {t : Bs} {a : Nat} {p : Bs} (hl : a < t.length) : pm t a 0 p (a + 1) = pm t a 0 p a ++ p ++ [t[a]] := by
  unfold pm; rw [if_neg (by omega), if_pos (by omega), List.take_succ_eq_append_getElem hl, List.drop_append]
  rw [List.drop_eq_nil_of_le (by rw [List.length_take]; omega)]
  simp [List.length_take, Nat.min_eq_left (Nat.le_of_lt hl)]
theorem pm_mid {t : Bs} {a c : Nat} {p : Bs} {i : Nat} (h : a < i) (h2 : i < a + c ∨ t.length ≤ i) : pm t a c p (i + 1) = pm t a c p i := by
  unfold pm; rw [if_neg (by omega), if_neg (by omega)]
  rcases h2 with h2 | h2
  · rw [List.drop_eq_nil_of_le (by simp; omega), List.drop_eq_nil_of_le (by simp; omega)]
  · rw [List.take_of_length_le (by omega : t.length ≤ i + 1), List.take_of_length_le (by omega : t.length ≤ i)]
theorem pm_high {t : Bs} {a c : Nat} {p : Bs} {i : Nat} (h : a < i) (h2 : a + c ≤ i) (hl : i < t.length) : pm t a c p (i + 1) = pm t a c p i ++ [t[i]] := by
  unfold pm; rw [if_neg (by omega), if_neg (by omega), List.take_succ_eq_append_getElem hl, List.drop_append]
  have e : a + c - (t.take i).length = 0 := by rw [List.length_take, Nat.min_eq_left (Nat.le_of_lt hl)]; omega
  rw [e, List.drop_zero, ← List.append_assoc]
theorem pm_len (t : Bs) (a c : Nat) (p : Bs) (i : Nat) : (pm t a c p i).length ≤ 2 * t.length + p.length := by
  unfold pm; split
  · simp; omega
  · simp; omega
theorem one_str (t : ByteArray) (i : Nat) (h : i < t.data.toList.length) : t.extract i (i + 1) = str [t.data.toList[i]] := by
  apply ByteArray.ext
  apply Array.toList_inj.1
  rw [Lib.extract_data, list_str]
  have : i + 1 - i = 1 := by omega
  rw [this, List.drop_eq_getElem_cons h]
  rfl

set_option maxRecDepth 100000 in
set_option maxHeartbeats 4000000 in
theorem editMade (t s : ByteArray) (a c : Nat) (w : World) (h : a + c ≤ t.size) (h3 : t.size ≤ 600) (hs : s.size ≤ 600) :
    Calls Try.prog 35 #[.string t, .agg #[.int .i64 (a : Int), .int .i64 (c : Int), .string s]] w fun e w' => e = .returned (.string (str (made t.data.toList a c s.data.toList))) ∧ Below w.heap.size w w' := by
  have hz : t.data.toList.length = t.size := size_list t
  have HE := Lib.hid (pm_end t.data.toList a c s.data.toList (by rw [hz]; exact h))
  have HZ := Lib.hid hz
  clear hz
  go_enter Try.func35, Try.ntmps35
  go_wp2_with fail
  go_loop [5, 6] (fun o i => ∃ (k : Nat) (so : ByteArray), k ≤ t.size + 1 ∧ i = .int .i64 (k : Int) ∧ o = .string so ∧ so = str (pm t.data.toList a c s.data.toList k)) (fun _ i => t.size + 1 - (intOf i).toNat)
  case atStart => exact ⟨0, ⟨#[]⟩, by omega, rfl, rfl, by rw [pm_zero]; rfl⟩
  case round =>
    obtain ⟨k, so, hk, rfl, rfl, hso⟩ := hrel
    have HSO := Lib.hid hso
    have hsz : so.size ≤ 1800 := by
      rw [hso, size_str]
      have := pm_len t.data.toList a c s.data.toList k
      rw [HZ.out, size_list] at this
      omega
    clear hso
    have nx : Hid (∀ (L : Bs) (u : ByteArray), pm t.data.toList a c s.data.toList (k + 1) = pm t.data.toList a c s.data.toList k ++ L → u = str L → so ++ u = str (pm t.data.toList a c s.data.toList (k + 1))) := Lib.hid fun L u h1 h2 => by
      rw [h1, HSO.out, h2, str_append]
    have hn1 : ¬ 9223372036854775807 < so.size + s.size := by omega
    have hn2 : ¬ 9223372036854775807 < so.size + 1 := by omega
    have hn3 : ¬ 9223372036854775807 < so.size + s.size + 1 := by omega
    by_cases hlt : k ≤ t.size
    · by_cases h1 : k < a
      · have O := Lib.hid (nx.out _ _ (pm_low h1 (by rw [HZ.out]; omega)) (one_str t k (by rw [HZ.out]; omega)))
        have g1 : ((k : Int) == (a : Int)) = false := by simp; omega
        have g2 : k < t.size := by omega
        go_wp2
        go_round
        case rel => exact ⟨k + 1, _, by omega, by go_num, rfl, O.out⟩
        case measure => simp [intOf]; omega
      · by_cases h2 : k = a
        · subst h2
          by_cases h4 : k < t.size
          · by_cases h5 : c = 0
            · have O : Hid (so ++ s ++ t.extract k (k + 1) = str (pm t.data.toList k c s.data.toList (k + 1))) := by
                show _ = _
                rw [h5] at HSO ⊢
                rw [pm_at0 (by rw [HZ.out]; omega), HSO.out, one_str t k (by rw [HZ.out]; omega), ← str_append, ← str_append, str_list]
              have g1 : ((k : Int) == (k : Int)) = true := by simp
              have g4 : (k : Int) + (c : Int) ≤ (k : Int) := by omega
              have g5 : (c : Int) ≤ 0 := by omega
              have g6 : k + c ≤ k := by omega
              clear h5
              go_wp2
              go_round
              case rel => exact ⟨k + 1, _, by omega, by go_num, rfl, O.out⟩
              case measure => simp [intOf]; omega
            · have O := Lib.hid (nx.out _ s (pm_at (by rw [HZ.out]; exact h) (.inr (by omega))) (str_list s).symm)
              have g1 : ((k : Int) == (k : Int)) = true := by simp
              have g2 : 0 < c := by omega
              go_wp2
              go_round
              case rel => exact ⟨k + 1, _, by omega, by go_num, rfl, O.out⟩
              case measure => simp [intOf]; omega
          · have O := Lib.hid (nx.out _ s (pm_at (by rw [HZ.out]; exact h) (.inl (by rw [HZ.out]; omega))) (str_list s).symm)
            have g1 : ((k : Int) == (k : Int)) = true := by simp
            go_wp2
            go_round
            case rel => exact ⟨k + 1, _, by omega, by go_num, rfl, O.out⟩
            case measure => simp [intOf]; omega
        · have g1 : ((k : Int) == (a : Int)) = false := by simp; omega
          have g3 : a < k := by omega
          by_cases h4 : k < t.size
          · by_cases h5 : k < a + c
            · have O : Hid (so = str (pm t.data.toList a c s.data.toList (k + 1))) := by
                show _ = _
                rw [pm_mid g3 (.inl h5)]; exact HSO.out
              go_wp2
              go_round
              case rel => exact ⟨k + 1, _, by omega, by go_num, rfl, O.out⟩
              case measure => simp [intOf]; omega
            · have O := Lib.hid (nx.out _ _ (pm_high g3 (by omega) (by rw [HZ.out]; omega)) (one_str t k (by rw [HZ.out]; omega)))
              have h6 : a + c ≤ k := by omega
              go_wp2
              go_round
              case rel => exact ⟨k + 1, _, by omega, by go_num, rfl, O.out⟩
              case measure => simp [intOf]; omega
          · have O : Hid (so = str (pm t.data.toList a c s.data.toList (k + 1))) := by
              show _ = _
              rw [pm_mid g3 (.inr (by rw [HZ.out]; omega))]; exact HSO.out
            go_wp2
            go_round
            case rel => exact ⟨k + 1, _, by omega, by go_num, rfl, O.out⟩
            case measure => simp [intOf]; omega
    · obtain rfl : k = t.size + 1 := by omega
      have O : Hid (so = str (made t.data.toList a c s.data.toList)) := by
        show _ = _
        rw [← HE.out, HZ.out]; exact HSO.out
      go_wp2
      go_ret
      exact ⟨ret_str O.out, balloc (Below.refl _ _) _⟩

end Go.Proofs.Ytedlgobpoifnfaa.EditR
