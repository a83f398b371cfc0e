/-
  Package poly: what Of answers.
-/
import Derived.Test.YtdiogfhbgmkajaaLift
import Derived.Test.YtdiogfhbgmkajaaKit
import Derived.Test.YtdiogfhbgmkajaaPolyMath
import Derived.Lib.Strings
import Derived.RegionTactic
import Derived.ChangeAlike
namespace Go.Proofs.Ytdiogfhbgmkajaa.PolyC
open Go.ChangeShapes Go.WideShapes Go.ChangeAt Go.RowKit PolyM Kit

/-- a hash, as a value -/
abbrev hashV (v s : Int) : Value := .agg #[.int .i64 v, .int .i64 s]

theorem take_snoc (s : ByteArray) (k : Nat) (h : k < s.size) : s.data.toList.take (k + 1) = s.data.toList.take k ++ [s[k]] := by
  rw [List.take_succ_eq_append_getElem (by simpa using h)]; rfl

theorem hv_cast {a b c : Nat} (h : a = (b * 257 + c + 1) % 2147483647) : (a : Int) = ((b : Int) * 257 + c + 1) % 2147483647 := by omega
theorem hs_cast {a b : Nat} (h : a = b * 257 % 2147483647) : (a : Int) = ((b : Int) * 257) % 2147483647 := by omega

set_option maxHeartbeats 1000000 in
theorem of (s : ByteArray) (w : World) (hsz : s.size ≤ maxLen) :
    Calls Try.prog 56 #[.string s] w fun e w' => e = .returned (hashV (hv s.data.toList) (hs s.size)) ∧ Below w.heap.size w w' := by
  unfold maxLen at hsz
  go_enter Try.func56, Try.ntmps56
  go_wp2
  go_loopw [4] (fun i wr => ∃ k : Nat, k ≤ s.size ∧ i = .int .i64 k ∧ ∃ n, wr = ((w.alloc (.cells #[.int .i64 0, .int .i64 0] 81)).alloc (.cells #[.int .i64 (hv (s.data.toList.take k)), .int .i64 (hs k)] 81)).drewN n) (fun i _ => s.size - (intOf i).toNat)
  case atStart => exact ⟨0, Nat.zero_le _, rfl, 0, by simp [hv_nil, hs_zero]; rfl⟩
  case round =>
    obtain ⟨k, hk, rfl, n, rfl⟩ := hrel
    by_cases hlt : k < s.size
    · have h1 := hv_cast (hv_snoc (s.data.toList.take k) s[k])
      rw [← take_snoc s k hlt] at h1
      have h2 := hs_cast (hs_succ k)
      have b1 := hv_lt (s.data.toList.take k)
      have b2 := hs_lt k
      have H := Lib.hid (And.intro h1 h2)
      clear h1 h2
      generalize hv (s.data.toList.take k) = a at *
      generalize hs k = b at *
      have b3 := s[k].toNat_lt
      go_wp2
      go_region
      go_wp2
      refine ⟨⟨k + 1, by omega, by go_num, n + 1, ?_⟩, by simp [intOf]; omega⟩
      rw [H.out.1, H.out.2, setCell_drewN, setCell_drewN, World.setCell_alloc_at _ _ _ _ _ (by simp), World.setCell_alloc_at _ _ _ _ _ (by simp)]; rfl
    · have e1 : s.data.toList.take k = s.data.toList := List.take_of_length_le (by simp; omega)
      have e2 : k = s.size := by omega
      subst e2
      rw [e1]
      clear e1
      go_wp2
      refine bodyPost_ret (v := hashV (hv s.data.toList) (hs s.size)) (by simp [results, Try.results56, go_sem]) rfl ⟨rfl, ?_⟩
      repeat (first | exact Below.refl _ _ | refine balloc ?_ _ | refine Below.setCell ?_ (by simp) _ | refine bdrewN ?_ _)

/-- a box of two cells at block k -/
def Bx (k : Nat) (a b : Value) (w : World) : Prop := k < w.heap.size ∧ w.cell? ⟨k, 0, none⟩ = some a ∧ w.cell? ⟨k, 1, none⟩ = some b
theorem Bx.next {k : Nat} {a b : Value} {w1 w2 : World} (h : Bx k a b w1) (hb : Below w1.heap.size w1 w2) : Bx k a b w2 :=
  ⟨Nat.lt_of_lt_of_le h.1 hb.size, (hb.cell h.1).trans h.2.1, (hb.cell h.1).trans h.2.2⟩
theorem Bx.new (w : World) (a b : Value) (t : TypeId) : Bx w.heap.size a b (w.alloc (.cells #[a, b] t)) := ⟨by simp, by simp, by simp⟩
theorem Bx.alloc {k : Nat} {a b : Value} {w : World} (h : Bx k a b w) (o : Obj) : Bx k a b (w.alloc o) := h.next ((Below.refl _ _).alloc (Nat.le_refl _) o)
theorem Bx.drew {k : Nat} {a b : Value} {w : World} (h : Bx k a b w) : Bx k a b w.drew := h.next ((Below.refl _ _).drew)

def S2 (w : World) (k : Nat) (a b : Value) (w' : World) : Prop := Below w.heap.size w w' ∧ k < w'.heap.size ∧ w'.cell? ⟨k, 0, none⟩ = some a ∧ w'.cell? ⟨k, 1, none⟩ = some b
theorem S2.next {w w1 w2 : World} {k : Nat} {a b : Value} (h : S2 w k a b w1) (hb : Below w1.heap.size w1 w2) : S2 w k a b w2 := ⟨bstep h.1 hb, Bx.next h.2 hb⟩
theorem S2.drew {w w1 : World} {k : Nat} {a b : Value} (h : S2 w k a b w1) : S2 w k a b w1.drew := h.next ((Below.refl _ _).drew)
theorem S2.box (w : World) (a b : Value) (t : TypeId) : S2 w w.heap.size a b (w.alloc (.cells #[a, b] t)) := ⟨(Below.refl _ _).alloc (Nat.le_refl _) _, Bx.new _ _ _ _⟩

/-- a hash of a text is given as a list -/
theorem of_list (s : ByteArray) (w : World) (hsz : s.size ≤ maxLen) :
    Calls Try.prog 56 #[.string s] w fun e w' => e = .returned (hashV (hv s.data.toList) (hs s.data.toList.length)) ∧ Below w.heap.size w w' := by
  have := of s w hsz
  have e : s.data.toList.length = s.size := by simp
  rw [e]; exact this

theorem field0 (a b : Value) (w : World) : (Instr.field 81 (.agg #[a, b]) 0).run Try.prog w = .ok a w := by kernel_rfl

end Go.Proofs.Ytdiogfhbgmkajaa.PolyC
