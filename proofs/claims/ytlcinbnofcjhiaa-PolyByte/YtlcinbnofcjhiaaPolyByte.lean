/-
  Package poly: the law PolyByte.
-/
import Derived.Test.YtlcinbnofcjhiaaPolyParts
import Derived.WalkSpells
import Derived.Laws.IdiomStrings
namespace Go.Proofs.Ytlcinbnofcjhiaa.PolyC
open Go.ChangeShapes Go.WideShapes Go.ChangeAt Go.RowKit PolyM Kit

theorem conv1 (c : UInt8) (w : World) (b : Nat) (h : w.cell? ⟨b, 0, none⟩ = some (.int .u8 (c.toNat : Int))) :
    (convert 36 9 (.slice (some ⟨b, 0, none⟩) 1 1)).run Try.prog w = .ok (.string ⟨#[c]⟩) w :=
  run_convert_bytes_back w 36 9 5 ⟨b, 0, none⟩ 1 [c] Try.underlying36 Try.underlying5 Try.underlying9 (fun j hj => by
    obtain rfl : j = 0 := by simpa using hj
    exact h)

theorem toL (a b : ByteArray) : (a ++ b).data.toList = a.data.toList ++ b.data.toList := by simp [ByteArray.data_append]
theorem eqB (x y : UInt8) : ((x.toNat : Int) == y.toNat) = decide (x = y) := by
  by_cases h : x = y
  · subst h; simp
  · have : x.toNat ≠ y.toNat := fun e => h (UInt8.toNat_inj.1 e)
    simp [h]; omega

set_option maxHeartbeats 1000000 in
theorem polyByte_big (a b : ByteArray) (x y : Int) (m : ByteArray) (w : World) (h : 300 < a.size ∨ 300 < b.size ∨ 300 < m.size) :
    Calls Try.prog 8 #[.string a, .string b, .int .u8 x, .int .u8 y, .string m] w fun e w' => e = .returned (.bool true) ∧ Below w.heap.size w w' := by
  have OL := Lib.hid one_letter
  have hfl := field0
  by_cases h1 : 300 < a.size
  · go_enter Try.func8, Try.ntmps8
    go_wp2_with fail
    refine (OL.out _).mono ?_
    rintro e w' ⟨rfl, hb⟩
    go_wp2
    go_ret
    exact ⟨rfl, hb⟩
  · by_cases h2 : 300 < b.size
    · go_enter Try.func8, Try.ntmps8
      go_wp2_with fail
      refine (OL.out _).mono ?_
      rintro e w' ⟨rfl, hb⟩
      go_wp2
      go_ret
      exact ⟨rfl, hb⟩
    · have h3 : 300 < m.size := by omega
      go_enter Try.func8, Try.ntmps8
      go_wp2_with fail
      refine (OL.out _).mono ?_
      rintro e w' ⟨rfl, hb⟩
      go_wp2
      go_ret
      exact ⟨rfl, hb⟩

set_option maxHeartbeats 1000000 in
theorem polyByte_small (a b : ByteArray) (x y : UInt8) (m : ByteArray) (w : World) (h1 : a.size ≤ 300) (h2 : b.size ≤ 300) (h3 : m.size ≤ 300) :
    Calls Try.prog 8 #[.string a, .string b, .int .u8 x.toNat, .int .u8 y.toNat, .string m] w fun e w' => e = .returned (.bool true) ∧ Below w.heap.size w w' := by
  have OL := Lib.hid one_letter
  have hfl := field0
  have sz1 : ∀ c : UInt8, (⟨#[c]⟩ : ByteArray).size = 1 := fun _ => rfl
  have li1 : ∀ c : UInt8, (⟨#[c]⟩ : ByteArray).data.toList = [c] := fun _ => rfl
  have o1 := fun w => of_list (a ++ ⟨#[x]⟩ ++ b) w (by rw [ByteArray.size_append, ByteArray.size_append, sz1]; unfold maxLen; omega)
  have o2 := fun w => of_list (a ++ ⟨#[y]⟩ ++ b) w (by rw [ByteArray.size_append, ByteArray.size_append, sz1]; unfold maxLen; omega)
  have o3 := fun w => of_list (⟨#[x]⟩ ++ ⟨#[y]⟩) w (by rw [ByteArray.size_append, sz1, sz1]; unfold maxLen; omega)
  have o4 := fun w => of_list (⟨#[y]⟩ ++ ⟨#[x]⟩) w (by rw [ByteArray.size_append, sz1, sz1]; unfold maxLen; omega)
  rw [toL, toL, li1] at o1 o2
  rw [toL, li1, li1] at o3 o4
  have e1 : (hv (a.data.toList ++ [x] ++ b.data.toList) = hv (a.data.toList ++ [y] ++ b.data.toList)) ↔ x = y := ⟨byte_seen _ _ _ _, fun h => by rw [h]⟩
  have e2 : (hv ([x] ++ [y]) = hv ([y] ++ [x])) ↔ x = y := ⟨turn_seen _ _, fun h => by rw [h]⟩
  have l1 : (a.data.toList ++ [x] ++ b.data.toList).length = (a.data.toList ++ [y] ++ b.data.toList).length := by simp
  have l2 : ([x] ++ [y]).length = ([y] ++ [x]).length := rfl
  rw [l1] at o1
  rw [l2] at o3
  generalize hs (a.data.toList ++ [y] ++ b.data.toList).length = t1 at *
  generalize hs ([y] ++ [x]).length = t2 at *
  generalize hv (a.data.toList ++ [x] ++ b.data.toList) = u1 at *
  generalize hv (a.data.toList ++ [y] ++ b.data.toList) = u2 at *
  generalize hv ([x] ++ [y]) = u3 at *
  generalize hv ([y] ++ [x]) = u4 at *
  have f1 : ((u1 : Int) == u2) = decide (x = y) := by rw [Bool.eq_iff_iff]; simp only [beq_iff_eq, decide_eq_true_eq, Int.natCast_inj]; exact e1
  have f2 : ((u3 : Int) == u4) = decide (x = y) := by rw [Bool.eq_iff_iff]; simp only [beq_iff_eq, decide_eq_true_eq, Int.natCast_inj]; exact e2
  have f3 := eqB x y
  have O1 := Lib.hid o1
  have O2 := Lib.hid o2
  have O3 := Lib.hid o3
  have O4 := Lib.hid o4
  have c1 := conv1 x (w.alloc (.cells #[.int .u8 x.toNat] 5)) w.heap.size (by simp)
  have c2 := conv1 y ((w.alloc (.cells #[.int .u8 x.toNat] 5)).alloc (.cells #[.int .u8 y.toNat] 5)) (w.heap.size + 1) (by simp)
  clear o1 o2 o3 o4 e1 e2 l1 l2 sz1 li1
  obtain ⟨r, hr⟩ : ∃ r, r = decide (x = y) := ⟨_, rfl⟩
  rw [← hr] at f1 f2 f3
  clear hr
  cases r
  all_goals
    go_enter Try.func8, Try.ntmps8
    go_wp2_with fail
    refine (O1.out _).mono ?_
    rintro e w1 ⟨rfl, hb1⟩
    go_wp2_with fail
    refine (O2.out _).mono ?_
    rintro e w2 ⟨rfl, hb2⟩
    go_wp2_with fail
    refine (O3.out _).mono ?_
    rintro e w3 ⟨rfl, hb3⟩
    go_wp2_with fail
    refine (O4.out _).mono ?_
    rintro e w4 ⟨rfl, hb4⟩
    go_wp2_with fail
    refine (OL.out _).mono ?_
    rintro e w5 ⟨rfl, hb5⟩
    go_wp2
    go_ret
    refine ⟨rfl, ?_⟩
    repeat (first | exact Below.refl _ _ | refine balloc ?_ _ | refine bstep ?_ (by assumption) | refine Below.drew ?_)

theorem byte_of {x : Int} (h : (Lit.int .u8 x).wf = true) : ∃ c : UInt8, x = (c.toNat : Int) := by
  have h' : 0 ≤ x ∧ x < 256 := by
    have h1 : IntKind.u8.min = 0 := by decide
    have h2 : IntKind.u8.max = 255 := by decide
    simp only [Lit.wf, Bool.and_eq_true, decide_eq_true_eq, h1, h2] at h
    omega
  refine ⟨UInt8.ofNat x.toNat, ?_⟩
  rw [UInt8.toNat_ofNat']
  omega

theorem polyByte (a b : ByteArray) (x y : Int) (m : ByteArray) (w : World) (hx : (Lit.int .u8 x).wf = true) (hy : (Lit.int .u8 y).wf = true) :
    Calls Try.prog 8 #[.string a, .string b, .int .u8 x, .int .u8 y, .string m] w fun e w' => e = .returned (.bool true) ∧ Below w.heap.size w w' := by
  by_cases h : 300 < a.size ∨ 300 < b.size ∨ 300 < m.size
  · exact polyByte_big a b x y m w h
  · obtain ⟨x, rfl⟩ := byte_of hx
    obtain ⟨y, rfl⟩ := byte_of hy
    exact polyByte_small a b x y m w (by omega) (by omega) (by omega)
theorem polyByte' (a b : ByteArray) (x y : Int) (m : ByteArray) (w : World) (_ : a.size ≤ maxLen) (_ : b.size ≤ maxLen) (hx : (Lit.int .u8 x).wf = true) (hy : (Lit.int .u8 y).wf = true) (_ : m.size ≤ maxLen) :
    Calls Try.prog 8 #[.string a, .string b, .int .u8 x, .int .u8 y, .string m] w fun e w' => e = .returned (.bool true) ∧ Below w.heap.size w w' := polyByte a b x y m w hx hy

end Go.Proofs.Ytlcinbnofcjhiaa.PolyC
