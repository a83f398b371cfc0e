/-
  Package poly: what Of, May and Join answer, in the code and in the document's answer; the laws PolyOfs, PolyMays, PolyJoins.
-/
import Derived.Test.YtkckhjljindgmaaLift
import Derived.Test.YtkckhjljindgmaaKit
import Derived.Test.YtkckhjljindgmaaPolyMath
import Derived.Lib.Strings
import Derived.RegionTactic
import Derived.ChangeAlike
namespace Go.Proofs.Ytkckhjljindgmaa.PolyC
open Go.ChangeShapes Go.WideShapes Go.ChangeAt Go.RowKit PolyM Kit

/-- a hash, as a value -/
abbrev hashV (v s : Int) : Value := .agg #[.int .i64 v, .int .i64 s]

theorem take_snoc (s : ByteArray) (k : Nat) (h : k < s.size) : s.data.toList.take (k + 1) = s.data.toList.take k ++ [s[k]] := by
  rw [List.take_succ_eq_append_getElem (by simpa using h)]; rfl

theorem hv_cast {a b c : Nat} (h : a = (b * 257 + c + 1) % 2147483647) : (a : Int) = ((b : Int) * 257 + c + 1) % 2147483647 := by omega
theorem hs_cast {a b : Nat} (h : a = b * 257 % 2147483647) : (a : Int) = ((b : Int) * 257) % 2147483647 := by omega

set_option maxHeartbeats 1000000 in
theorem of (s : ByteArray) (w : World) (hsz : s.size ≤ maxLen) :
    Calls Try.prog 33 #[.string s] w fun e w' => e = .returned (hashV (hv s.data.toList) (hs s.size)) ∧ Below w.heap.size w w' := by
  unfold maxLen at hsz
  go_enter Try.func33, Try.ntmps33
  go_wp2
  go_loopw [4] (fun i wr => ∃ k : Nat, k ≤ s.size ∧ i = .int .i64 k ∧ ∃ n, wr = ((w.alloc (.cells #[.int .i64 0, .int .i64 0] 71)).alloc (.cells #[.int .i64 (hv (s.data.toList.take k)), .int .i64 (hs k)] 71)).drewN n) (fun i _ => s.size - (intOf i).toNat)
  case atStart => exact ⟨0, Nat.zero_le _, rfl, 0, by simp [hv_nil, hs_zero]; rfl⟩
  case round =>
    obtain ⟨k, hk, rfl, n, rfl⟩ := hrel
    by_cases hlt : k < s.size
    · have h1 := hv_cast (hv_snoc (s.data.toList.take k) s[k])
      rw [← take_snoc s k hlt] at h1
      have h2 := hs_cast (hs_succ k)
      have b1 := hv_lt (s.data.toList.take k)
      have b2 := hs_lt k
      have H := Lib.hid (And.intro h1 h2)
      clear h1 h2
      generalize hv (s.data.toList.take k) = a at *
      generalize hs k = b at *
      have b3 := s[k].toNat_lt
      go_wp2
      go_region
      go_wp2
      refine ⟨⟨k + 1, by omega, by go_num, n + 1, ?_⟩, by simp [intOf]; omega⟩
      rw [H.out.1, H.out.2, setCell_drewN, setCell_drewN, World.setCell_alloc_at _ _ _ _ _ (by simp), World.setCell_alloc_at _ _ _ _ _ (by simp)]; rfl
    · have e1 : s.data.toList.take k = s.data.toList := List.take_of_length_le (by simp; omega)
      have e2 : k = s.size := by omega
      subst e2
      rw [e1]
      clear e1
      go_wp2
      refine bodyPost_ret (v := hashV (hv s.data.toList) (hs s.size)) (by simp [results, Try.results33, go_sem]) rfl ⟨rfl, ?_⟩
      repeat (first | exact Below.refl _ _ | refine balloc ?_ _ | refine Below.setCell ?_ (by simp) _ | refine bdrewN ?_ _)

set_option maxHeartbeats 400000 in
theorem isResidue (x : Int) (w : World) : Calls Try.prog 83 #[.int .i64 x] w fun e w' => e = .returned (.bool (resB x)) ∧ w = w' := by
  by_cases h0 : 0 ≤ x
  all_goals by_cases h1 : x < 2147483647
  all_goals
    go_enter Try.func83, Try.ntmps83
    go_wp2
    go_ret
    exact ⟨by simp [resB, h0, h1], rfl⟩

theorem not_true {b : Bool} (h : ¬ b = true) : b = false := by simpa using h

set_option maxHeartbeats 400000 in
theorem may (v s : Int) (w : World) : Calls Try.prog 74 #[hashV v s] w fun e w' => e = .returned (.bool (mayH v s)) ∧ Below w.heap.size w w' := by
  have fin : ∀ v : Obj, Below w.heap.size w (w.alloc v) := fun v => (Below.refl _ _).alloc (Nat.le_refl _) v
  by_cases hv : resB v = true
  · by_cases hs : resB s = true
    · by_cases h0 : s = 0
      · subst h0
        go_enter Try.func74, Try.ntmps74
        go_wp2_with (go_at_call 83; refine (isResidue _ _).mono ?_; rintro e w' ⟨rfl, rfl⟩)
        go_ret
        exact ⟨by simp [mayH], fin _⟩
      · have h0' : (s != 0) = true := by simpa using h0
        go_enter Try.func74, Try.ntmps74
        go_wp2_with (go_at_call 83; refine (isResidue _ _).mono ?_; rintro e w' ⟨rfl, rfl⟩)
        go_ret
        exact ⟨by simp [mayH, hv, hs, h0], fin _⟩
    · have hs := not_true hs
      go_enter Try.func74, Try.ntmps74
      go_wp2_with (go_at_call 83; refine (isResidue _ _).mono ?_; rintro e w' ⟨rfl, rfl⟩)
      go_ret
      exact ⟨by simp [mayH, hs], fin _⟩
  · have hv := not_true hv
    go_enter Try.func74, Try.ntmps74
    go_wp2_with (go_at_call 83; refine (isResidue _ _).mono ?_; rintro e w' ⟨rfl, rfl⟩)
    go_ret
    exact ⟨by simp [mayH, hv], fin _⟩

/-- a box of two cells at block k -/
def Bx (k : Nat) (a b : Value) (w : World) : Prop := k < w.heap.size ∧ w.cell? ⟨k, 0, none⟩ = some a ∧ w.cell? ⟨k, 1, none⟩ = some b
theorem Bx.next {k : Nat} {a b : Value} {w1 w2 : World} (h : Bx k a b w1) (hb : Below w1.heap.size w1 w2) : Bx k a b w2 :=
  ⟨Nat.lt_of_lt_of_le h.1 hb.size, (hb.cell h.1).trans h.2.1, (hb.cell h.1).trans h.2.2⟩
theorem Bx.new (w : World) (a b : Value) (t : TypeId) : Bx w.heap.size a b (w.alloc (.cells #[a, b] t)) := ⟨by simp, by simp, by simp⟩
theorem Bx.alloc {k : Nat} {a b : Value} {w : World} (h : Bx k a b w) (o : Obj) : Bx k a b (w.alloc o) := h.next ((Below.refl _ _).alloc (Nat.le_refl _) o)
theorem Bx.drew {k : Nat} {a b : Value} {w : World} (h : Bx k a b w) : Bx k a b w.drew := h.next ((Below.refl _ _).drew)

def S2 (w : World) (k : Nat) (a b : Value) (w' : World) : Prop := Below w.heap.size w w' ∧ k < w'.heap.size ∧ w'.cell? ⟨k, 0, none⟩ = some a ∧ w'.cell? ⟨k, 1, none⟩ = some b
theorem S2.next {w w1 w2 : World} {k : Nat} {a b : Value} (h : S2 w k a b w1) (hb : Below w1.heap.size w1 w2) : S2 w k a b w2 := ⟨bstep h.1 hb, Bx.next h.2 hb⟩
theorem S2.drew {w w1 : World} {k : Nat} {a b : Value} (h : S2 w k a b w1) : S2 w k a b w1.drew := h.next ((Below.refl _ _).drew)
theorem S2.box (w : World) (a b : Value) (t : TypeId) : S2 w w.heap.size a b (w.alloc (.cells #[a, b] t)) := ⟨(Below.refl _ _).alloc (Nat.le_refl _) _, Bx.new _ _ _ _⟩

end Go.Proofs.Ytkckhjljindgmaa.PolyC
