/-
  Two edits that do not clash, in both orders. On plain data.
-/
import Derived.Test.YtkckhjljindgmaaEditOver
import Derived.Lib.Strings
namespace Go.Proofs.Ytkckhjljindgmaa.EditK
open Go.RowKit Kit EditM EditC

theorem split_at (t : Bs) (k : Nat) (h : k ≤ t.length) : ∃ A B, t = A ++ B ∧ A.length = k := ⟨t.take k, t.drop k, (List.take_append_drop k t).symm, by rw [List.length_take]; omega⟩
theorem made_at {t A B C : Bs} {x c : Nat} (P : Bs) (h : t = A ++ B ++ C) (hx : x = A.length) (hc : c = B.length) : made t x c P = A ++ P ++ C := by
  subst hx hc h
  unfold made
  have e1 : List.take A.length (A ++ B ++ C) = A := by rw [List.append_assoc]; exact List.take_left
  have e2 : List.drop (A.length + B.length) (A ++ B ++ C) = C := by rw [← List.length_append]; exact List.drop_left
  rw [e1, e2]
theorem made_ins {t A C : Bs} {x : Nat} (P : Bs) (h : t = A ++ C) (hx : x = A.length) : made t x 0 P = A ++ P ++ C := made_at (B := []) P (by rw [h]; simp) hx rfl
theorem clash_symm (a b : EdM) : clash a b = clash b a := by
  unfold clash
  rw [Int.max_comm, Int.min_comm]
  cases decide (max b.at_ a.at_ < min (b.at_ + b.cut) (a.at_ + a.cut)) <;> simp [Bool.or_comm]
theorem clash_no {a b : EdM} (h : clash a b = false) : ¬ max a.at_ b.at_ < min (a.at_ + a.cut) (b.at_ + b.cut) ∧ ¬ (0 < a.put.size ∧ b.at_ < a.at_ ∧ a.at_ < b.at_ + b.cut) ∧ ¬ (0 < b.put.size ∧ a.at_ < b.at_ ∧ b.at_ < a.at_ + a.cut) := by
  unfold clash at h
  simp only [Bool.or_eq_false_iff, Bool.and_eq_false_iff, decide_eq_false_iff_not] at h
  omega
theorem less_flip : ∀ x y : List UInt8, Op.bytesLess y x = (!Op.bytesLess x y && !(x == y))
  | [], [] => by simp [Op.bytesLess]
  | [], _ :: _ => by simp [Op.bytesLess]
  | _ :: _, [] => by simp [Op.bytesLess]
  | a :: x, b :: y => by
    have ih := less_flip x y
    simp only [Op.bytesLess]
    have e1 : (a :: x == b :: y) = (a == b && x == y) := rfl
    rw [e1, ih]
    by_cases hab : a = b
    · subst hab; simp
    · have hba : ¬ b = a := fun h => hab h.symm
      by_cases h : a < b
      · have h2 : ¬ b < a := fun h3 => by rw [UInt8.lt_iff_toNat_lt] at h h3; omega
        simp [hba, h, h2]
      · have h2 : b < a := by
          rw [UInt8.lt_iff_toNat_lt] at h ⊢
          have : a.toNat ≠ b.toNat := fun e => hab (UInt8.toNat_inj.1 e)
          omega
        simp [hab, h, h2]
theorem str_of_list {a b : ByteArray} (h : a.toList = b.toList) : a = b := by
  rw [Lib.toList_data, Lib.toList_data] at h
  rw [← str_list a, ← str_list b, h]

/-- both orders are valid and make the same -/
structure Comm (t : Bs) (a b : EdM) : Prop where
  fa : (moved a b).fits (b.step t)
  fb : (moved b a).fits (a.step t)
  same : (moved a b).step (b.step t) = (moved b a).step (a.step t)
theorem Comm.symm {t : Bs} {a b : EdM} (h : Comm t a b) : Comm t b a := ⟨h.fb, h.fa, h.same.symm⟩

section
variable {t : Bs} {x y c d : Nat} {P Q : ByteArray}
theorem fits_mk {t : Bs} {x c : Nat} {P : ByteArray} (h1 : x + c ≤ t.length) (h2 : t.length + P.size ≤ 600) : (⟨(x : Int), (c : Int), P⟩ : EdM).fits t := ⟨by show (0 : Int) ≤ (x : Int); omega, by show (0 : Int) ≤ (c : Int); omega, by show (c : Int) ≤ _ - (x : Int); omega, by show (t.length : Int) - (c : Int) + (P.size : Int) ≤ 600; omega, by omega⟩
theorem step_mk (t : Bs) (x c : Nat) (P : ByteArray) : (⟨(x : Int), (c : Int), P⟩ : EdM).step t = made t x c P.data.toList := by
  unfold EdM.step; simp only [Int.toNat_natCast]
theorem moved_mk (x c y d : Nat) (P Q : ByteArray) (z : Nat) (h : placed (y : Int) (d : Int) Q.size (x : Int) (behind ⟨(x : Int), (c : Int), P⟩ ⟨(y : Int), (d : Int), Q⟩) = (z : Int)) : moved ⟨(x : Int), (c : Int), P⟩ ⟨(y : Int), (d : Int), Q⟩ = ⟨(z : Int), (c : Int), P⟩ := by
  unfold moved; dsimp only; rw [h]

theorem comm_lt (hl : t.length ≤ 60) (hP : P.size ≤ 8) (hQ : Q.size ≤ 8) (hx : x + c ≤ t.length) (hy : y + d ≤ t.length) (h : x < y)
    (n1 : ¬ max (x : Int) (y : Int) < min ((x : Int) + (c : Int)) ((y : Int) + (d : Int))) (n3 : ¬ (0 < Q.size ∧ (x : Int) < (y : Int) ∧ (y : Int) < (x : Int) + (c : Int))) :
    Comm t ⟨(x : Int), (c : Int), P⟩ ⟨(y : Int), (d : Int), Q⟩ := by
  have m1 : moved ⟨(x : Int), (c : Int), P⟩ ⟨(y : Int), (d : Int), Q⟩ = ⟨(x : Int), (c : Int), P⟩ := moved_mk _ _ _ _ _ _ x (by unfold placed; rw [if_pos (by omega)])
  by_cases hxy : x + c ≤ y
  · have m2 : moved ⟨(y : Int), (d : Int), Q⟩ ⟨(x : Int), (c : Int), P⟩ = ⟨((y + P.size - c : Nat) : Int), (d : Int), Q⟩ := moved_mk _ _ _ _ _ _ _ (by unfold placed; rw [if_neg (by omega), if_neg (by omega)]; omega)
    obtain ⟨A, t1, rfl, hA⟩ := split_at t x (by omega)
    rw [List.length_append] at hl hx hy
    obtain ⟨B, t2, rfl, hB⟩ := split_at t1 c (by omega)
    rw [List.length_append] at hl hx hy
    obtain ⟨C, t3, rfl, hC⟩ := split_at t2 (y - x - c) (by omega)
    rw [List.length_append] at hl hx hy
    obtain ⟨D, E, rfl, hD⟩ := split_at t3 d (by omega)
    rw [List.length_append] at hl hx hy
    have s1 : made (A ++ (B ++ (C ++ (D ++ E)))) y d Q.data.toList = (A ++ B ++ C) ++ Q.data.toList ++ E := made_at _ (by simp) (by simp; omega) hD.symm
    have s2 : made (A ++ (B ++ (C ++ (D ++ E)))) x c P.data.toList = A ++ P.data.toList ++ (C ++ D ++ E) := made_at _ (by simp) hA.symm hB.symm
    have hPl : P.data.toList.length = P.size := size_list P
    have hQl : Q.data.toList.length = Q.size := size_list Q
    refine ⟨?_, ?_, ?_⟩
    · rw [m1, step_mk, s1]
      exact fits_mk (by simp only [List.length_append]; omega) (by simp only [List.length_append]; omega)
    · rw [m2, step_mk, s2]
      exact fits_mk (by simp only [List.length_append]; omega) (by simp only [List.length_append]; omega)
    · rw [m1, m2, step_mk, step_mk, step_mk, step_mk, s1, s2]
      rw [made_at (A := A) (B := B) (C := C ++ Q.data.toList ++ E) P.data.toList (by simp) hA.symm hB.symm]
      rw [made_at (A := A ++ P.data.toList ++ C) (B := D) (C := E) Q.data.toList (by simp) (by simp only [List.length_append]; omega) hD.symm]
      simp
  · obtain rfl : d = 0 := by omega
    have hQ0 : Q.size = 0 := by omega
    have hQn : Q.data.toList = [] := List.eq_nil_of_length_eq_zero (by rw [size_list]; exact hQ0)
    have hbh : behind ⟨(y : Int), ((0 : Nat) : Int), Q⟩ ⟨(x : Int), (c : Int), P⟩ = false := by
      have : ¬ (y : Int) = (x : Int) := by omega
      unfold behind; simp; omega
    have m2 : moved ⟨(y : Int), ((0 : Nat) : Int), Q⟩ ⟨(x : Int), (c : Int), P⟩ = ⟨(x : Int), ((0 : Nat) : Int), Q⟩ := moved_mk _ _ _ _ _ _ _ (by rw [hbh]; unfold placed; rw [if_neg (by omega), if_pos (by omega)]; simp)
    have nop : ∀ (u : Bs) (k : Nat), made u k 0 Q.data.toList = u := by
      intro u k; unfold made; rw [hQn, List.append_nil, Nat.add_zero, List.take_append_drop]
    refine ⟨?_, ?_, ?_⟩
    · rw [m1, step_mk, nop]; exact fits_mk hx (by omega)
    · rw [m2, step_mk]
      have := made_length (p := P.data.toList) hx
      rw [size_list] at this
      exact fits_mk (by omega) (by omega)
    · rw [m1, m2, step_mk, step_mk, step_mk, step_mk, nop, nop]

/-- an insertion ahead of a removal at the same place -/
theorem comm_cut (hl : t.length ≤ 60) (hP : P.size ≤ 8) (hQ : Q.size ≤ 8) (hx : x + c ≤ t.length) (hc : 0 < c) : Comm t ⟨(x : Int), (c : Int), P⟩ ⟨(x : Int), ((0 : Nat) : Int), Q⟩ := by
  have b1 : behind ⟨(x : Int), (c : Int), P⟩ ⟨(x : Int), ((0 : Nat) : Int), Q⟩ = true := by unfold behind; simp; exact .inl hc
  have b2 : behind ⟨(x : Int), ((0 : Nat) : Int), Q⟩ ⟨(x : Int), (c : Int), P⟩ = false := by
    have : ¬ (c : Int) = 0 := by omega
    unfold behind; simp; omega
  have m1 : moved ⟨(x : Int), (c : Int), P⟩ ⟨(x : Int), ((0 : Nat) : Int), Q⟩ = ⟨((x + Q.size : Nat) : Int), (c : Int), P⟩ := moved_mk _ _ _ _ _ _ _ (by rw [b1]; unfold placed; rw [if_neg (by omega), if_pos (by omega)]; simp)
  have m2 : moved ⟨(x : Int), ((0 : Nat) : Int), Q⟩ ⟨(x : Int), (c : Int), P⟩ = ⟨(x : Int), ((0 : Nat) : Int), Q⟩ := moved_mk _ _ _ _ _ _ _ (by rw [b2]; unfold placed; rw [if_neg (by omega), if_pos (by omega)]; simp)
  obtain ⟨A, t1, rfl, hA⟩ := split_at t x (by omega)
  rw [List.length_append] at hl hx
  obtain ⟨B, C, rfl, hB⟩ := split_at t1 c (by omega)
  rw [List.length_append] at hl hx
  have hPl : P.data.toList.length = P.size := size_list P
  have hQl : Q.data.toList.length = Q.size := size_list Q
  have s1 : made (A ++ (B ++ C)) x 0 Q.data.toList = A ++ Q.data.toList ++ (B ++ C) := made_at (B := []) _ (by simp) hA.symm rfl
  have s2 : made (A ++ (B ++ C)) x c P.data.toList = A ++ P.data.toList ++ C := made_at _ (by simp) hA.symm hB.symm
  refine ⟨?_, ?_, ?_⟩
  · rw [m1, step_mk, s1]
    exact fits_mk (by simp only [List.length_append]; omega) (by simp only [List.length_append]; omega)
  · rw [m2, step_mk, s2]
    exact fits_mk (by simp only [List.length_append]; omega) (by simp only [List.length_append]; omega)
  · rw [m1, m2, step_mk, step_mk, step_mk, step_mk, s1, s2]
    rw [made_at (A := A ++ Q.data.toList) (B := B) (C := C) P.data.toList (by simp) (by simp only [List.length_append]; omega) hB.symm]
    rw [made_ins (A := A) (C := P.data.toList ++ C) Q.data.toList (List.append_assoc _ _ _) hA.symm]
    simp

/-- two insertions at one place -/
theorem comm_ins (hl : t.length ≤ 60) (hP : P.size ≤ 8) (hQ : Q.size ≤ 8) (hx : x ≤ t.length) : Comm t ⟨(x : Int), ((0 : Nat) : Int), P⟩ ⟨(x : Int), ((0 : Nat) : Int), Q⟩ := by
  obtain ⟨A, C, rfl, hA⟩ := split_at t x (by omega)
  rw [List.length_append] at hl hx
  have hPl : P.data.toList.length = P.size := size_list P
  have hQl : Q.data.toList.length = Q.size := size_list Q
  have s1 : made (A ++ C) x 0 Q.data.toList = A ++ Q.data.toList ++ C := made_at (B := []) _ (by simp) hA.symm rfl
  have s2 : made (A ++ C) x 0 P.data.toList = A ++ P.data.toList ++ C := made_at (B := []) _ (by simp) hA.symm rfl
  have bh : ∀ (P Q : ByteArray), behind ⟨(x : Int), ((0 : Nat) : Int), P⟩ ⟨(x : Int), ((0 : Nat) : Int), Q⟩ = (!Op.bytesLess P.toList Q.toList && !(P.toList == Q.toList)) := by
    intro P Q; unfold behind; simp
  have pl : ∀ (P Q : ByteArray) (r : Bool), placed (x : Int) ((0 : Nat) : Int) Q.size (x : Int) r = ((if r then x + Q.size else x : Nat) : Int) := by
    intro P Q r; unfold placed; rw [if_neg (by omega), if_pos (by omega)]; cases r <;> simp
  have mv : ∀ (P Q : ByteArray) (r : Bool), behind ⟨(x : Int), ((0 : Nat) : Int), P⟩ ⟨(x : Int), ((0 : Nat) : Int), Q⟩ = r → moved ⟨(x : Int), ((0 : Nat) : Int), P⟩ ⟨(x : Int), ((0 : Nat) : Int), Q⟩ = ⟨((if r then x + Q.size else x : Nat) : Int), ((0 : Nat) : Int), P⟩ := by
    intro P Q r h; exact moved_mk _ _ _ _ _ _ _ (by rw [h]; exact pl P Q r)
  have q1 : made (A ++ Q.data.toList ++ C) (x + Q.size) 0 P.data.toList = A ++ Q.data.toList ++ P.data.toList ++ C := made_at (A := A ++ Q.data.toList) (B := []) (C := C) _ (by simp) (by simp only [List.length_append]; omega) rfl
  have q2 : made (A ++ Q.data.toList ++ C) x 0 P.data.toList = A ++ P.data.toList ++ Q.data.toList ++ C := by
    rw [made_ins (A := A) (C := Q.data.toList ++ C) P.data.toList (List.append_assoc _ _ _) hA.symm]; simp
  have q3 : made (A ++ P.data.toList ++ C) (x + P.size) 0 Q.data.toList = A ++ P.data.toList ++ Q.data.toList ++ C := made_at (A := A ++ P.data.toList) (B := []) (C := C) _ (by simp) (by simp only [List.length_append]; omega) rfl
  have q4 : made (A ++ P.data.toList ++ C) x 0 Q.data.toList = A ++ Q.data.toList ++ P.data.toList ++ C := by
    rw [made_ins (A := A) (C := P.data.toList ++ C) Q.data.toList (List.append_assoc _ _ _) hA.symm]; simp
  have key : ∀ r1 r2, behind ⟨(x : Int), ((0 : Nat) : Int), P⟩ ⟨(x : Int), ((0 : Nat) : Int), Q⟩ = r1 → behind ⟨(x : Int), ((0 : Nat) : Int), Q⟩ ⟨(x : Int), ((0 : Nat) : Int), P⟩ = r2 → (r1 = !r2 ∨ P = Q) → Comm (A ++ C) ⟨(x : Int), ((0 : Nat) : Int), P⟩ ⟨(x : Int), ((0 : Nat) : Int), Q⟩ := by
    intro r1 r2 h1 h2 h
    refine ⟨?_, ?_, ?_⟩
    · rw [mv P Q r1 h1, step_mk, s1]
      refine fits_mk ?_ (by simp only [List.length_append]; omega)
      cases r1 <;> simp <;> omega
    · rw [mv Q P r2 h2, step_mk, s2]
      refine fits_mk ?_ (by simp only [List.length_append]; omega)
      cases r2 <;> simp <;> omega
    · rw [mv P Q r1 h1, mv Q P r2 h2, step_mk, step_mk, step_mk, step_mk, s1, s2]
      rcases h with rfl | rfl
      · cases r2
        · simp only [Bool.not_false, if_true, Bool.false_eq_true, if_false]; rw [q1, q4]
        · simp only [Bool.not_true, if_true, Bool.false_eq_true, if_false]; rw [q2, q3]
      · rw [h1] at h2; rw [h2]
  by_cases hPQ : P = Q
  · exact key _ _ rfl rfl (.inr hPQ)
  · refine key _ _ rfl rfl (.inl ?_)
    rw [bh, bh]
    have ne1 : (P.toList == Q.toList) = false := by simp only [beq_eq_false_iff_ne]; exact fun h => hPQ (str_of_list h)
    have ne2 : (Q.toList == P.toList) = false := by simp only [beq_eq_false_iff_ne]; exact fun h => hPQ (str_of_list h).symm
    rw [ne1, ne2]
    rw [less_flip P.toList Q.toList, ne1]
    cases Op.bytesLess P.toList Q.toList <;> rfl
end

theorem comm (t : Bs) (a b : EdM) (hl : t.length ≤ 60) (ha : a.fits t) (hb : b.fits t) (hP : a.put.size ≤ 8) (hQ : b.put.size ≤ 8) (h : clash a b = false) : Comm t a b := by
  obtain ⟨n1, n2, n3⟩ := clash_no h
  have hx := ha.nat
  have hy := hb.nat
  obtain ⟨a1, a2, _, _, _⟩ := ha
  obtain ⟨b1, b2, _, _, _⟩ := hb
  obtain ⟨x, c, P⟩ := a
  obtain ⟨y, d, Q⟩ := b
  dsimp only at *
  obtain ⟨x, rfl⟩ := Int.eq_ofNat_of_zero_le a1
  obtain ⟨c, rfl⟩ := Int.eq_ofNat_of_zero_le a2
  obtain ⟨y, rfl⟩ := Int.eq_ofNat_of_zero_le b1
  obtain ⟨d, rfl⟩ := Int.eq_ofNat_of_zero_le b2
  simp only [Int.toNat_natCast] at hx hy
  by_cases h1 : x < y
  · exact comm_lt hl hP hQ hx hy h1 n1 n3
  · by_cases h2 : y < x
    · exact (comm_lt hl hQ hP hy hx h2 (by omega) n2).symm
    · obtain rfl : x = y := by omega
      by_cases h3 : 0 < c
      · obtain rfl : d = 0 := by omega
        exact comm_cut hl hP hQ hx h3
      · obtain rfl : c = 0 := by omega
        by_cases h4 : 0 < d
        · exact (comm_cut hl hQ hP hy h4).symm
        · obtain rfl : d = 0 := by omega
          exact comm_ins hl hP hQ (by omega)

end Go.Proofs.Ytkckhjljindgmaa.EditK
