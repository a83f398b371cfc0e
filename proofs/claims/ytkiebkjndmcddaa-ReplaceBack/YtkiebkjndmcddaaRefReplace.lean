/-
  The document: FindReplace.
-/
import Derived.Test.YtkiebkjndmcddaaRefHits
import Derived.Test.YtkiebkjndmcddaaRepMath
namespace Go.Proofs.Ytkiebkjndmcddaa.FindR
open Go.RowKit Kit FindM LineM EditM

theorem stands_drop {t f : Bs} {a : Nat} (h : a ≤ t.length) : stands (t.drop a) f 0 = stands t f a := by
  unfold stands
  rw [List.drop_zero, List.length_drop]
  congr 1
  simp only [eq_iff_iff]
  constructor <;> rintro ⟨h1, h2⟩ <;> exact ⟨by omega, h2⟩
/-- what is made so far: o, behind c replacements, at place a -/
def RepI (f p t : Bs) (o : Bs) (c a : Nat) : Prop :=
  c + (rep f p (t.drop a)).2 = (rep f p t).2 ∧ (o ++ (rep f p (t.drop a)).1 = (rep f p t).1 ∨ (600 < o.length ∧ 600 < (rep f p t).1.length)) ∧ o.length ≤ 600 + p.length + a ∧ c ≤ a
theorem repI_start (f p t : Bs) : RepI f p t [] 0 0 := ⟨by simp, .inl (by simp), by simp, Nat.le_refl _⟩
theorem RepI.hit {f p t o : Bs} {c a : Nat} (h : RepI f p t o c a) (ha : a ≤ t.length) (hf : f ≠ []) (hs : stands t f a = true) (ho : o.length ≤ 600) : RepI f p t (o ++ p) (c + 1) (a + f.length) := by
  obtain ⟨h1, h2, h3, h4⟩ := h
  have hl : 0 < f.length := List.length_pos_iff.2 hf
  have e := rep_hit (p := p) hf ((stands_drop ha).trans hs)
  rw [List.drop_drop] at e
  rw [e] at h1 h2
  refine ⟨by simp only at h1; omega, ?_, by rw [List.length_append]; omega, by omega⟩
  rcases h2 with h2 | ⟨h2, h5⟩
  · left; rw [List.append_assoc]; exact h2
  · omega
theorem RepI.over {f p t o : Bs} {c a : Nat} (h : RepI f p t o c a) (ha : a ≤ t.length) (hf : f ≠ []) (hs : stands t f a = true) (ho : ¬ o.length ≤ 600) : RepI f p t o (c + 1) (a + f.length) := by
  obtain ⟨h1, h2, h3, h4⟩ := h
  have hl : 0 < f.length := List.length_pos_iff.2 hf
  have e := rep_hit (p := p) hf ((stands_drop ha).trans hs)
  rw [List.drop_drop] at e
  rw [e] at h1 h2
  refine ⟨by simp only at h1; omega, .inr ⟨by omega, ?_⟩, by omega, by omega⟩
  rcases h2 with h2 | ⟨_, h5⟩
  · rw [← h2, List.length_append]; omega
  · exact h5
theorem RepI.miss {f p t o : Bs} {c a : Nat} (h : RepI f p t o c a) (ha : a < t.length) (hs : stands t f a = false) : RepI f p t (o ++ (t.drop a).take 1) c (a + 1) := by
  obtain ⟨h1, h2, h3, h4⟩ := h
  have e0 : t.drop a = t[a] :: t.drop (a + 1) := (List.getElem_cons_drop ha).symm
  have hs0 := (stands_drop (Nat.le_of_lt ha)).trans hs
  rw [e0] at hs0
  have e := rep_miss (p := p) hs0
  rw [e0, e] at h1 h2
  rw [e0]
  refine ⟨h1, ?_, by rw [List.length_append]; simp; omega, by omega⟩
  rcases h2 with h2 | ⟨h2, h5⟩
  · left; rw [List.append_assoc]; exact h2
  · right; exact ⟨by rw [List.length_append]; omega, h5⟩
theorem RepI.done {f p t o : Bs} {c : Nat} (h : RepI f p t o c t.length) : c = (rep f p t).2 ∧ (o = (rep f p t).1 ∨ (600 < o.length ∧ 600 < (rep f p t).1.length)) := by
  obtain ⟨h1, h2, _⟩ := h
  rw [List.drop_eq_nil_of_le (Nat.le_refl _), rep_nil] at h1 h2
  exact ⟨by simpa using h1, by simpa using h2⟩
/-- the answer: a text, a number, a code -/
def RpPost (w : World) (s : Bs) (n c : Int) (e : Ending) (w' : World) : Prop := e = .returned (.tuple #[.string (str s), .int .i64 n, .int .i64 c]) ∧ Below w.heap.size w w'
theorem ret_rp {a b : ByteArray} {m n c : Int} (h : a = b) (h2 : m = n) : Ending.returned (.tuple #[.string a, .int .i64 m, .int .i64 c]) = .returned (.tuple #[.string b, .int .i64 n, .int .i64 c]) := by rw [h, h2]
/-- all of it: too long, or made -/
structure RpFin (w : World) (R : Bs × Nat) (e : Ending) (w' : World) : Prop where
  big : 600 < R.1.length → RpPost w [] 0 1 e w'
  ok : R.1.length ≤ 600 → RpPost w R.1 R.2 0 e w'
set_option maxHeartbeats 1000000 in
theorem findReplace_no (t f p : ByteArray) (w : World) (h : ffault t.size f.size ≠ 0) : Calls Try.prog 18 #[.string t, .string f, .string p] w (RpPost w [] 0 (ffault t.size f.size)) := by
  have F := Lib.hid (findFault t f w)
  have hb : (ffault t.size f.size == 0) = false := by simpa using h
  have hc := ffault_cases t.size f.size
  clear h
  generalize ffault t.size f.size = c at *
  go_enter Try.func18, Try.ntmps18
  go_wp2_with (go_at_call 25; refine F.out.mono ?_; rintro e w1 ⟨rfl, rfl⟩)
  go_ret3
  exact ⟨rfl, Below.refl _ _⟩
set_option maxRecDepth 100000 in
set_option maxHeartbeats 2000000 in
theorem findReplace (t f p : ByteArray) (w : World) (h : ffault t.size f.size = 0) (hp : p.size ≤ 140737488351232) :
    Calls Try.prog 18 #[.string t, .string f, .string p] w (RpFin w (rep f.data.toList p.data.toList t.data.toList)) := by
  obtain ⟨ht, hf, hf0⟩ := ffault_ok h
  have F := Lib.hid (findFault t f w)
  rw [h] at F
  have ST := Lib.hid (fun (k : Nat) W (hk : k ≤ t.size) => standsAt t f (k : Int) W hf (by omega) (by omega))
  simp only [stn_nat] at ST
  have LT := Lib.hid (size_list t)
  have LP := Lib.hid (size_list p)
  have LF := Lib.hid (size_list f)
  have FN : Hid (f.data.toList ≠ []) := Lib.hid (fun e => by have := size_list f; rw [e] at this; simp at this; omega)
  clear h
  go_enter Try.func18, Try.ntmps18
  go_wp2_with (go_at_call 25; refine F.out.mono ?_; rintro e w1 ⟨rfl, rfl⟩)
  go_loopw [10, 11, 12] (fun vo vn vi wr => ∃ (o : ByteArray) (c a : Nat), a ≤ t.size ∧ vo = .string o ∧ vn = .int .i64 (c : Int) ∧ vi = .int .i64 (a : Int) ∧ Hid (RepI f.data.toList p.data.toList t.data.toList o.data.toList c a) ∧ Hid (Below w.heap.size w wr)) (fun _ _ vi _ => t.size - (intOf vi).toNat)
  case atStart => exact ⟨⟨#[]⟩, 0, 0, by omega, rfl, rfl, rfl, Lib.hid (repI_start _ _ _), Lib.hid (Below.refl _ _)⟩
  case round =>
    obtain ⟨o, c, a, ha, rfl, rfl, rfl, HR, HB⟩ := hrel
    have LO := Lib.hid (size_list o)
    have hos : o.size ≤ 600 + p.size + a := by have := HR.out.2.2.1; rw [LO.out, LP.out] at this; exact this
    have hc : c ≤ a := HR.out.2.2.2
    by_cases hlt : a < t.size
    · have HW := Lib.hid (ST.out a wr (by omega))
      cases hs : stands t.data.toList f.data.toList a
      · rw [hs] at HW
        have q1 : (a : Int) ≤ (a : Int) + 1 := by omega
        have q2 : (a : Int) + 1 ≤ (t.size : Int) := by omega
        have q3 : (a : Int) < (t.size : Int) := by omega
        have q4 : ((a : Int) + 1).toNat = a + 1 := by omega
        have q5 : a + 1 ≤ t.size := by omega
        have r1 : IntKind.i64.wrap ((a : Int) + 1) = (a : Int) + 1 := IntWalk.i64_in _ (by omega)
        have HX : Hid (RepI f.data.toList p.data.toList t.data.toList (o ++ t.extract a (a + 1)).data.toList c (a + 1)) := Lib.hid (by
          have := HR.out.miss (by rw [LT.out]; exact hlt) hs
          rw [ByteArray.data_append, Array.toList_append, Lib.extract_data, show a + 1 - a = 1 by omega]
          exact this)
        clear HR hs
        go_wp2_with (go_at_call 26; refine HW.out.mono ?_; rintro e w1 ⟨rfl, rfl⟩)
        go_roundw
        case rel => exact ⟨_, c, a + 1, by omega, rfl, rfl, by go_num, HX, HB⟩
        case measure => simp [intOf]; omega
      · rw [hs] at HW
        have r1 : IntKind.i64.wrap ((c : Int) + 1) = (c : Int) + 1 := IntWalk.i64_in _ (by omega)
        have r2 : IntKind.i64.wrap ((a : Int) + (f.size : Int)) = (a : Int) + (f.size : Int) := IntWalk.i64_in _ (by omega)
        have hfa : a + f.size ≤ t.size := by have := (stands_iff.1 hs).1; rw [LF.out, LT.out] at this; exact this
        by_cases ho : o.size ≤ 600
        · have q1 : decide ((o.size : Int) ≤ 600) = true := decide_eq_true (by omega)
          have HX : Hid (RepI f.data.toList p.data.toList t.data.toList (o ++ p).data.toList (c + 1) (a + f.size)) := Lib.hid (by
            have := HR.out.hit (by rw [LT.out]; exact ha) FN.out hs (by rw [LO.out]; exact ho)
            rw [LF.out] at this
            rw [ByteArray.data_append, Array.toList_append]
            exact this)
          clear HR hs
          go_wp2_with (go_at_call 26; refine HW.out.mono ?_; rintro e w1 ⟨rfl, rfl⟩)
          go_roundw
          case rel => exact ⟨_, c + 1, a + f.size, by omega, rfl, by go_num, by go_num, HX, HB⟩
          case measure => simp [intOf]; omega
        · have q1 : decide ((o.size : Int) ≤ 600) = false := decide_eq_false (by omega)
          have HX : Hid (RepI f.data.toList p.data.toList t.data.toList o.data.toList (c + 1) (a + f.size)) := Lib.hid (by
            have := HR.out.over (by rw [LT.out]; exact ha) FN.out hs (by rw [LO.out]; exact ho)
            rw [LF.out] at this
            exact this)
          clear HR hs
          go_wp2_with (go_at_call 26; refine HW.out.mono ?_; rintro e w1 ⟨rfl, rfl⟩)
          go_roundw
          case rel => exact ⟨_, c + 1, a + f.size, by omega, rfl, by go_num, by go_num, HX, HB⟩
          case measure => simp [intOf]; omega
    · have e1 : a = t.data.toList.length := by rw [LT.out]; omega
      rw [e1] at HR
      obtain ⟨e2, h3⟩ := HR.out.done
      have e3 : o.data.toList.length = o.size := LO.out
      have E := Lib.hid e2
      clear HR e1 e2
      by_cases ho : 600 < o.size
      · have h4 : 600 < (rep f.data.toList p.data.toList t.data.toList).1.length := by
          rcases h3 with h3 | h3
          · rw [← h3, e3]; exact ho
          · exact h3.2
        have H4 := Lib.hid h4
        clear h3 h4
        go_wp2_with fail
        go_ret3
        exact ⟨fun _ => ⟨rfl, HB.out⟩, fun h => absurd h (Nat.not_le.2 H4.out)⟩
      · have h5 : o.data.toList = (rep f.data.toList p.data.toList t.data.toList).1 := by
          rcases h3 with h3 | h3
          · exact h3
          · omega
        have h6 : (rep f.data.toList p.data.toList t.data.toList).1.length ≤ 600 := by rw [← h5, e3]; omega
        have H5 := Lib.hid h5
        have H6 := Lib.hid h6
        clear h3 h5 h6
        have q1 : ¬ (600 : Int) < (o.size : Int) := by omega
        go_wp2_with fail
        go_ret3
        exact ⟨fun h => absurd h (Nat.not_lt.2 H6.out), fun _ => ⟨ret_rp (by rw [← H5.out, str_list]) (by rw [← E.out]), HB.out⟩⟩
end Go.Proofs.Ytkiebkjndmcddaa.FindR
