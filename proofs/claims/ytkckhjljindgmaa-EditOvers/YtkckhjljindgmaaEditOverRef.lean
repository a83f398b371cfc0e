/-
  The document's answer: EditOver, its small functions; the plain side of it.
-/
import Derived.Test.YtkckhjljindgmaaEditOver
import Derived.Test.YtkckhjljindgmaaEditFaultRef
import Derived.Lib.Strings
namespace Go.Proofs.Ytkckhjljindgmaa.EditR
open Go.RowKit Kit EditM EditC

theorem less_flip : ∀ x y : List UInt8, Op.bytesLess y x = (!Op.bytesLess x y && !(x == y))
  | [], [] => by simp [Op.bytesLess]
  | [], _ :: _ => by simp [Op.bytesLess]
  | _ :: _, [] => by simp [Op.bytesLess]
  | a :: x, b :: y => by
    have ih := less_flip x y
    simp only [Op.bytesLess]
    have e1 : (a :: x == b :: y) = (a == b && x == y) := rfl
    rw [e1, ih]
    by_cases hab : a = b
    · subst hab; simp
    · have hba : ¬ b = a := fun h => hab h.symm
      by_cases h : a < b
      · have h2 : ¬ b < a := fun h3 => by rw [UInt8.lt_iff_toNat_lt] at h h3; omega
        simp [hba, h, h2]
      · have h2 : b < a := by
          rw [UInt8.lt_iff_toNat_lt] at h ⊢
          have : a.toNat ≠ b.toNat := fun e => hab (UInt8.toNat_inj.1 e)
          omega
        simp [hab, h, h2]

/-- a byte is removed -/
def cutB (e : EdM) (i : Int) : Bool := decide (e.at_ ≤ i) && decide (i < e.at_ + e.cut)
def doesB (e : EdM) : Bool := decide (0 < e.cut) || (!e.put.toList.isEmpty)
theorem cutB_iff {e : EdM} {i : Int} : cutB e i = true ↔ e.at_ ≤ i ∧ i < e.at_ + e.cut := by simp [cutB]

set_option maxHeartbeats 1000000 in
theorem cuts (e : EdM) (i : Int) (w : World) (a0 : 0 ≤ e.at_) (a1 : e.at_ ≤ 600) (c0 : 0 ≤ e.cut) (c1 : e.cut ≤ 600) :
    Calls Try.prog 43 #[.agg #[.int .i64 e.at_, .int .i64 e.cut, .string e.put], .int .i64 i] w fun x w' => x = .returned (.bool (cutB e i)) ∧ Below w.heap.size w w' := by
  by_cases h1 : e.at_ ≤ i
  · by_cases h2 : i < e.at_ + e.cut
    · have E : Hid (cutB e i = true) := Lib.hid (cutB_iff.2 ⟨h1, h2⟩)
      go_enter Try.func43, Try.ntmps43
      go_wp2
      go_ret
      exact ⟨ret_bool E.out.symm, balloc (Below.refl _ _) _⟩
    · have E : Hid (cutB e i = false) := Lib.hid (by simp [cutB]; omega)
      go_enter Try.func43, Try.ntmps43
      go_wp2
      go_ret
      exact ⟨ret_bool E.out.symm, balloc (Below.refl _ _) _⟩
  · have E : Hid (cutB e i = false) := Lib.hid (by simp [cutB]; omega)
    go_enter Try.func43, Try.ntmps43
    go_wp2
    go_ret
    exact ⟨ret_bool E.out.symm, balloc (Below.refl _ _) _⟩

set_option maxHeartbeats 1000000 in
theorem does (e : EdM) (w : World) :
    Calls Try.prog 42 #[.agg #[.int .i64 e.at_, .int .i64 e.cut, .string e.put]] w fun x w' => x = .returned (.bool (doesB e)) ∧ Below w.heap.size w w' := by
  by_cases h1 : 0 < e.cut
  · have E : Hid (doesB e = true) := Lib.hid (by simp [doesB, h1])
    go_enter Try.func42, Try.ntmps42
    go_wp2
    go_ret
    exact ⟨ret_bool E.out.symm, balloc (Below.refl _ _) _⟩
  · have E : Hid (doesB e = !e.put.toList.isEmpty) := Lib.hid (by simp [doesB, h1])
    have g1 : decide (0 < e.cut) = false := by simpa using h1
    go_enter Try.func42, Try.ntmps42
    go_wp2
    go_ret
    exact ⟨ret_bool E.out.symm, balloc (Below.refl _ _) _⟩

/-- the document's three ways to clash at one byte -/
def hitA (a b : EdM) (i : Int) : Bool := cutB a i && cutB b i
def hitB (a b : EdM) (i : Int) : Bool := !a.put.toList.isEmpty && (a.at_ == i) && cutB b (i - 1) && cutB b i
def hit (a b : EdM) (i : Int) : Bool := hitA a b i || (hitB a b i || hitB b a i)
theorem empty_iff (s : ByteArray) : s.toList.isEmpty = true ↔ s.size = 0 := by
  rw [Lib.toList_data, List.isEmpty_iff_length_eq_zero]; simp
theorem hitA_iff {a b : EdM} {i : Int} : hitA a b i = true ↔ (a.at_ ≤ i ∧ i < a.at_ + a.cut) ∧ (b.at_ ≤ i ∧ i < b.at_ + b.cut) := by simp [hitA, cutB]
theorem hitB_iff {a b : EdM} {i : Int} : hitB a b i = true ↔ (0 < a.put.size ∧ a.at_ = i) ∧ (b.at_ ≤ i - 1 ∧ i - 1 < b.at_ + b.cut) ∧ (b.at_ ≤ i ∧ i < b.at_ + b.cut) := by
  have h : (!a.put.toList.isEmpty) = true ↔ 0 < a.put.size := by
    have := empty_iff a.put
    cases h : a.put.toList.isEmpty
    · rw [h] at this
      have h1 : ¬ a.put.size = 0 := fun e => by simpa using this.2 e
      exact ⟨fun _ => by omega, fun _ => rfl⟩
    · have := this.1 h
      exact ⟨fun h => by simp at h, fun h => by omega⟩
  simp only [hitB, Bool.and_eq_true, cutB_iff, h, beq_iff_eq, and_assoc]
theorem hit_iff {a b : EdM} {i : Int} : hit a b i = true ↔ hitA a b i = true ∨ hitB a b i = true ∨ hitB b a i = true := by simp [hit]
theorem clash_iff {a b : EdM} : clash a b = true ↔ max a.at_ b.at_ < min (a.at_ + a.cut) (b.at_ + b.cut) ∨ (0 < a.put.size ∧ b.at_ < a.at_ ∧ a.at_ < b.at_ + b.cut) ∨ (0 < b.put.size ∧ a.at_ < b.at_ ∧ b.at_ < a.at_ + a.cut) := by
  simp [clash, and_assoc, or_assoc]
theorem hit_clash {a b : EdM} {i : Int} (h : hit a b i = true) : clash a b = true := by
  rw [hit_iff, hitA_iff, hitB_iff, hitB_iff] at h
  rw [clash_iff]
  omega
theorem clash_hit {a b : EdM} (h : clash a b = true) : ∃ i : Int, (a.at_ ≤ i ∨ b.at_ ≤ i) ∧ (i < a.at_ + a.cut ∨ i < b.at_ + b.cut) ∧ hit a b i = true := by
  rw [clash_iff] at h
  rcases h with h | h | h
  · refine ⟨max a.at_ b.at_, by omega, by omega, ?_⟩
    rw [hit_iff, hitA_iff]; omega
  · refine ⟨a.at_, by omega, by omega, ?_⟩
    rw [hit_iff, hitB_iff]; omega
  · refine ⟨b.at_, by omega, by omega, ?_⟩
    rw [hit_iff, hitB_iff (a := b)]; omega
theorem does_iff {a : EdM} : doesB a = true ↔ 0 < a.cut ∨ 0 < a.put.size := by
  have := empty_iff a.put
  cases h : a.put.toList.isEmpty
  · rw [h] at this
    have h1 : ¬ a.put.size = 0 := fun e => by simpa using this.2 e
    simp only [doesB, h, Bool.or_eq_true, decide_eq_true_eq, Bool.not_false]
    exact ⟨fun _ => .inr (by omega), fun _ => .inr trivial⟩
  · have := this.1 h
    simp only [doesB, h, Bool.or_eq_true, decide_eq_true_eq, Bool.not_true]
    exact ⟨fun h => .inl (by simpa using h), fun h => .inl (by omega)⟩
theorem clash_does {a b : EdM} (h : clash a b = true) : doesB a = true ∧ doesB b = true := by
  rw [clash_iff] at h
  rw [does_iff, does_iff]
  omega

end Go.Proofs.Ytkckhjljindgmaa.EditR
