/-
  The law EditRest.
-/
import Derived.Test.YtkckhjljindgmaaEditKeep
import Derived.Test.YtkckhjljindgmaaChanges
import Derived.Lib.Strings
import Derived.Deep.QuietTactic
import Derived.BigQuiet
namespace Go.Proofs.Ytkckhjljindgmaa.EditK
open Go.RowKit Kit EditM EditC ChgM Txt Lift

theorem apC_one {e : EdM} {t : Bs} (h : e.fits t) : apC [e] t = 0 := by simp only [apC, if_pos h.fault]
theorem apT_one (e : EdM) (t : Bs) : apT [e] t = e.step t := rfl
theorem ext_list (s : ByteArray) (i j : Nat) : (s.extract i j).data.toList = (s.data.toList.drop i).take (j - i) := by rw [Lib.extract_data]
theorem bytes_ext {a b : ByteArray} (h : a.data.toList = b.data.toList) : a = b := by
  apply ByteArray.ext; exact Array.toList_inj.1 h

theorem rest_math (s p : ByteArray) (a c : Nat) (h : a + c ≤ s.size) : ∃ t : ByteArray, t = str (made s.data.toList a c p.data.toList) ∧ t.size = s.size - c + p.size ∧ t.extract 0 a = s.extract 0 a ∧
    t.extract (a + p.size) t.size = s.extract (a + c) s.size ∧ t.extract a (a + p.size) = p := by
  refine ⟨_, rfl, ?_, ?_, ?_, ?_⟩
  · rw [size_str, made_length (by rw [size_list]; exact h), size_list, size_list]
  · apply bytes_ext
    rw [ext_list, ext_list, list_str, made]
    simp only [List.drop_zero, Nat.sub_zero, List.append_assoc]
    rw [List.take_append, List.length_take, size_list, Nat.min_eq_left (by omega), Nat.sub_self, List.take_zero, List.append_nil, List.take_take, Nat.min_self]
  · apply bytes_ext
    rw [ext_list, ext_list, list_str, size_str, made_length (by rw [size_list]; exact h), size_list, size_list, made]
    have e1 : (s.data.toList.take a ++ p.data.toList).length = a + p.size := by rw [List.length_append, List.length_take, size_list, size_list, Nat.min_eq_left (by omega)]
    rw [← e1, List.drop_left, e1]
    rw [List.take_of_length_le (by rw [List.length_drop, size_list]; omega), List.take_of_length_le (by rw [List.length_drop, size_list]; omega)]
  · apply bytes_ext
    rw [ext_list, list_str, made, List.append_assoc]
    have e1 : (s.data.toList.take a).length = a := by rw [List.length_take, size_list, Nat.min_eq_left (by omega)]
    conv => lhs; rw [show List.drop a (s.data.toList.take a ++ (p.data.toList ++ s.data.toList.drop (a + c))) = p.data.toList ++ s.data.toList.drop (a + c) by
      conv => lhs; arg 1; rw [← e1]
      exact List.drop_left]
    have e2 : a + p.size - a = p.data.toList.length := by rw [size_list]; omega
    rw [e2, List.take_left]

theorem one_at' (w : World) (o : Obj) (e : EdM) : EdsV ((w.alloc o).alloc (.cells #[.int .i64 e.at_, .int .i64 e.cut, .string e.put] 23)) (.slice (some ⟨w.heap.size + 1, 0, none⟩) 1 1) [e] := by
  have := one_at (w.alloc o) e
  simpa using this

set_option maxRecDepth 100000 in
set_option maxHeartbeats 4000000 in
theorem editRest (a0 : Option Addr) (len0 cap0 : Nat) (z0 : List Int) (c : ChgM) (w : World) (hz : IsRow .i64 w a0 len0 cap0 z0) (hc : c.has w) :
    Calls Try.prog 12 #[.slice a0 len0 cap0, .agg #[.int .i64 c.at_, .int .i64 c.cut, .slice c.ta c.tlen c.tcap]] w fun e w' => e = .returned (.bool true) ∧ Below w.heap.size w w' := by
  have TO := Lib.hid (fun W (hW : Below w.heap.size w W) => textOf a0 len0 cap0 z0 80 W (isRow_next hz hW) (by omega))
  have hs80 : (textS ((z0.take len0).take 80)).size ≤ 80 := by rw [textS_size]; simp only [List.length_take]; omega
  generalize textS ((z0.take len0).take 80) = s at *
  have EO := Lib.hid (fun W (hW : Below w.heap.size w W) => editOf c (s.size : Int) W (hc.next hW) (by omega) (by omega))
  have FT := edOf_fits c s.data.toList (by rw [size_list]; omega)
  have OK := edOf_ok c (n := (s.size : Int)) (by omega) (by omega)
  rw [size_list] at FT
  obtain ⟨e, he⟩ : ∃ e, e = edOf c (s.size : Int) := ⟨_, rfl⟩
  rw [← he] at EO FT OK
  have ED := Lib.hid (fun W v (hv : EdsV W v [e]) => edited s [e] v W hv (fun x hx => by simp at hx; rw [hx]; exact OK) (by simp) (by omega) (apC_one FT))
  have hp8 : e.put.size ≤ 8 := by rw [he]; exact c.put_size
  obtain ⟨f1, f2, f3, f4, f5⟩ := FT
  rw [size_list] at f3
  have AT := Lib.hid (show apT [e] s.data.toList = made s.data.toList e.at_.toNat e.cut.toNat e.put.data.toList from rfl)
  rw [AT.out] at ED
  clear he hc hz AT OK f4 f5
  obtain ⟨a, cc, p⟩ := e
  dsimp only at *
  obtain ⟨a, rfl⟩ := Int.eq_ofNat_of_zero_le f1
  obtain ⟨cc, rfl⟩ := Int.eq_ofNat_of_zero_le f2
  simp only [Int.toNat_natCast] at ED
  obtain ⟨t, ht, t1, t2, t3, t4⟩ := rest_math s p a cc (by omega)
  rw [← ht] at ED
  clear ht f1 f2
  have OA := Lib.hid (fun (W : World) (o : Obj) => one_at' W o ⟨(a : Int), (cc : Int), p⟩)
  have T2 := Lib.hid t2
  have T3 := Lib.hid t3
  have T4 := Lib.hid t4
  have TS := Lib.hid t1
  clear t1 t2 t3 t4
  go_enter Try.func12, Try.ntmps12
  go_wp2_with fail
  refine (TO.out _ (balloc (Below.refl _ _) _)).mono ?_
  rintro e w1 ⟨rfl, rfl⟩
  go_wp2_with fail
  refine (EO.out _ (balloc (Below.refl _ _) _)).mono ?_
  rintro e w2 ⟨rfl, hb2⟩
  have B2 := Lib.hid (bstep (balloc (Below.refl _ _) _) hb2)
  clear hb2 TO EO
  go_wp2_with fail
  refine (ED.out _ _ (OA.out _ _)).mono ?_
  rintro e w3 ⟨rfl, hb3⟩
  have x0 : w3.cell? ⟨w2.heap.size, 0, none⟩ = some (.int .i64 (a : Int)) := keep hb3 (by simp; try omega) (by simp)
  have x1 : w3.cell? ⟨w2.heap.size, 1, none⟩ = some (.int .i64 (cc : Int)) := keep hb3 (by simp; try omega) (by simp)
  have x2 : w3.cell? ⟨w2.heap.size, 2, none⟩ = some (.string p) := keep hb3 (by simp; try omega) (by simp)
  have B3 := Lib.hid (bstep (balloc (balloc B2.out _) _) hb3)
  clear hb3 ED OA B2
  obtain ⟨b, hbn⟩ : ∃ b : Nat, b + a + cc = s.size := ⟨s.size - a - cc, by omega⟩
  obtain ⟨q, hq⟩ : ∃ q : Nat, q = a + p.size := ⟨_, rfl⟩
  obtain ⟨r, hr⟩ : ∃ r : Nat, r = a + cc := ⟨_, rfl⟩
  have TSz := TS.out
  rw [← hq] at T3 T4
  rw [← hr] at T3
  have e1 : (s.size : Int) - (a : Int) - (cc : Int) = (b : Int) := by omega
  have e2 : IntKind.i64.wrap ((t.size : Int) - (b : Int)) = (q : Int) := (IntWalk.i64_in _ (by omega)).trans (by omega)
  have e3 : IntKind.i64.wrap ((s.size : Int) - (b : Int)) = (r : Int) := (IntWalk.i64_in _ (by omega)).trans (by omega)
  have e4 : IntKind.i64.wrap ((a : Int) + (p.size : Int)) = (q : Int) := (IntWalk.i64_in _ (by omega)).trans (by omega)
  have e5 : IntKind.i64.wrap ((s.size : Int) + (p.size : Int)) = (s.size : Int) + (p.size : Int) := IntWalk.i64_in _ (by omega)
  have e6 : IntKind.i64.wrap ((s.size : Int) + (p.size : Int) - (cc : Int)) = (t.size : Int) := (IntWalk.i64_in _ (by omega)).trans (by omega)
  have n1 : q ≤ t.size := by omega
  have n2 : r ≤ s.size := by omega
  have n3 : a ≤ q := by omega
  have n4 : a ≤ t.size := by omega
  have n5 : a ≤ s.size := by omega
  clear TSz hbn hq hr f3 TS
  have t2 := T2.out
  have t3 := T3.out
  have t4 := T4.out
  go_wp2_with fail
  go_quiet (fail)
  go_wp2_with fail
  go_ret
  exact ⟨rfl, bdrewN B3.out _⟩

end Go.Proofs.Ytkckhjljindgmaa.EditK
