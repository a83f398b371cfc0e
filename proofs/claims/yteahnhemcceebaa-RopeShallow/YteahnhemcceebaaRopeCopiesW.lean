/-
  The law RopeCopies.
-/
import Derived.Test.YteahnhemcceebaaRopeKeep
import Derived.Test.YteahnhemcceebaaTexts
namespace Go.Proofs.Yteahnhemcceebaa.KeepC
open Go.RowKit Kit RopeM RopeC Txt Lift

theorem cellsNew (w : World) (cs : Array Value) (t : TypeId) (j : Nat) : (w.alloc (.cells cs t)).cell? ⟨w.heap.size, j, none⟩ = cs[j]? := by
  have : (w.alloc (.cells cs t)).heap[w.heap.size]? = some (.cells cs t (0, 0)) := World.alloc_heap_new w _
  unfold World.cell?
  simp only [this]
  rfl
/-- a literal list of operations -/
theorem ops_new (w : World) (l : List OpM) (cs : Array Value) (h : cs.toList = opCells l) : OpsV (w.alloc (.cells cs 50)) (.slice (some ⟨w.heap.size, 0, none⟩) l.length l.length) l := by
  refine ⟨_, _, rfl, Nat.le_refl _, ⟨fun i o hi => ⟨w.heap.size, 0, rfl, by simp, ?_⟩⟩, .inr ⟨_, _, rfl⟩⟩
  have k : ∀ j, j < 6 → (w.alloc (.cells cs 50)).cell? ⟨w.heap.size, 0 + i * 6 + j, none⟩ = o.cells.toList[j]? := by
    intro j hj
    rw [Nat.zero_add, cellsNew, ← opCells_get l i o j hi hj, ← h]
    simp
  exact ⟨k 0 (by omega), k 1 (by omega), k 2 (by omega), k 3 (by omega), k 4 (by omega), k 5 (by omega)⟩
theorem code_ok {o : OpM} {ts : Tx} (h1 : 1 ≤ o.kind) (h5 : o.kind ≤ 5) (ha : o.kind ≠ 1 → has o.a ts.length = true) (hb : o.kind = 2 → has o.b ts.length = true) (hr : inR o ts = true) (hl : ts.length < 60) (hn : (newT o ts).length ≤ 600) : code o ts = 0 := by
  unfold code
  rw [if_neg (by omega), if_neg, if_neg, if_neg (by rw [hr]; simp), if_neg (by omega), if_neg (by omega)]
  · rintro ⟨h, h'⟩; rw [hb h] at h'; cases h'
  · rintro ⟨h, h'⟩; rw [ha h] at h'; cases h'
theorem next_ok {o : OpM} {ts : Tx} (h : code o ts = 0) : nextT o ts = ts ++ [newT o ts] := by unfold nextT; rw [if_pos h]
theorem cop_two (l : List UInt8) : cop (cop l 2) 2 = cop l 4 := by simp [cop]
theorem copies (s : ByteArray) (k : Nat) (hk : k ≤ 4) (hs : s.size ≤ 60) :
    texts [⟨1, s, 0, 0, 0, 0⟩, ⟨5, ⟨#[]⟩, 0, 0, 0, (k : Int)⟩, ⟨5, ⟨#[]⟩, 0, 0, 0, 2⟩, ⟨5, ⟨#[]⟩, 2, 0, 0, 2⟩, ⟨5, ⟨#[]⟩, 0, 0, 0, 4⟩] [] = [s.data.toList, cop s.data.toList k, cop s.data.toList 2, cop s.data.toList 4, cop s.data.toList 4] := by
  have hl : s.data.toList.length = s.size := by simp
  have hm : ∀ j, j ≤ 4 → (cop s.data.toList j).length ≤ 600 := by
    intro j hj
    rw [cop_length, hl]
    have : j * s.size ≤ 4 * 60 := Nat.mul_le_mul hj hs
    omega
  generalize hsd : s.data.toList = l at *
  have n1 : nextT ⟨1, s, 0, 0, 0, 0⟩ [] = [l] := by
    rw [next_ok]
    · simp [newT, hsd]
    · exact code_ok (by simp) (by simp) (by simp) (by simp) (by simp [inR]) (by simp) (by simp [newT, hsd]; omega)
  have n2 : nextT ⟨5, ⟨#[]⟩, 0, 0, 0, (k : Int)⟩ [l] = [l, cop l k] := by
    rw [next_ok]
    · simp [newT, nth]
    · exact code_ok (by simp) (by simp) (by simp [has]) (by simp) (by simp [inR]; omega) (by simp) (by simp [newT, nth]; exact hm k hk)
  have n3 : nextT ⟨5, ⟨#[]⟩, 0, 0, 0, 2⟩ [l, cop l k] = [l, cop l k, cop l 2] := by
    rw [next_ok]
    · simp [newT, nth]
    · exact code_ok (by simp) (by simp) (by simp [has]) (by simp) (by simp [inR]) (by simp) (by simp [newT, nth]; exact hm 2 (by omega))
  have n4 : nextT ⟨5, ⟨#[]⟩, 2, 0, 0, 2⟩ [l, cop l k, cop l 2] = [l, cop l k, cop l 2, cop l 4] := by
    rw [next_ok]
    · simp [newT, nth, cop_two]
    · exact code_ok (by simp) (by simp) (by simp [has]) (by simp) (by simp [inR]) (by simp) (by simp [newT, nth, cop_two]; exact hm 4 (by omega))
  have n5 : nextT ⟨5, ⟨#[]⟩, 0, 0, 0, 4⟩ [l, cop l k, cop l 2, cop l 4] = [l, cop l k, cop l 2, cop l 4, cop l 4] := by
    rw [next_ok]
    · simp [newT, nth]
    · exact code_ok (by simp) (by simp) (by simp [has]) (by simp) (by simp [inR]) (by simp) (by simp [newT, nth]; exact hm 4 (by omega))
  unfold texts; rw [n1]
  unfold texts; rw [n2]
  unfold texts; rw [n3]
  unfold texts; rw [n4]
  unfold texts; rw [n5]
  rfl

theorem catStr (a b : List UInt8) : (⟨a.toArray⟩ : ByteArray) ++ (⟨b.toArray⟩ : ByteArray) = ⟨(a ++ b).toArray⟩ := by apply ByteArray.ext; simp

set_option maxRecDepth 100000 in
set_option maxHeartbeats 2000000 in
theorem ropeCopies (ta : Option Addr) (tlen tcap : Nat) (zs : List Int) (x : Int) (w : World) (hrow : IsRow .i64 w ta tlen tcap zs) (_hx : (Lit.int .i64 x).wf = true) :
    Calls Try.prog 10 #[.slice ta tlen tcap, .int .i64 x] w fun e w' => e = .returned (.bool true) ∧ Below w.heap.size w w' := by
  have TO := Lib.hid (textOf ta tlen tcap zs 60 w hrow (by omega))
  have PK := Lib.hid (picked x 5 w (by omega) (by omega))
  obtain ⟨k, hk⟩ := Int.eq_ofNat_of_zero_le (Int.emod_nonneg x (show (5 : Int) ≠ 0 by omega))
  have lk := Int.emod_lt_of_pos x (show (0 : Int) < 5 by omega)
  rw [hk] at PK lk
  have hs60 : (textS ((zs.take tlen).take 60)).size ≤ 60 := by rw [textS_size]; simp only [List.length_take]; omega
  generalize textS ((zs.take tlen).take 60) = s at *
  have hcp := copies s k (by omega) hs60
  have RO : Hid (∀ W : World, Calls Try.prog 20 #[.slice (some ⟨W.heap.size, 0, none⟩) 5 5] (W.alloc (.cells #[.int .i64 1, .string s, .int .i64 0, .int .i64 0, .int .i64 0, .int .i64 0, .int .i64 5, .string ⟨#[]⟩, .int .i64 0, .int .i64 0, .int .i64 0, .int .i64 (k : Int), .int .i64 5, .string ⟨#[]⟩, .int .i64 0, .int .i64 0, .int .i64 0, .int .i64 2, .int .i64 5, .string ⟨#[]⟩, .int .i64 2, .int .i64 0, .int .i64 0, .int .i64 2, .int .i64 5, .string ⟨#[]⟩, .int .i64 0, .int .i64 0, .int .i64 0, .int .i64 4] 50)) fun e w' => ∃ g off cap, e = .returned (.tuple #[.slice (some ⟨g, off, none⟩) 5 cap, .bool true]) ∧
      w'.cell? ⟨g, off + 1, none⟩ = some (.string ⟨(cop s.data.toList k).toArray⟩) ∧ w'.cell? ⟨g, off + 3, none⟩ = some (.string ⟨(cop s.data.toList 4).toArray⟩) ∧ w'.cell? ⟨g, off + 4, none⟩ = some (.string ⟨(cop s.data.toList 4).toArray⟩) ∧ Below W.heap.size W w') := Lib.hid (by
    intro W
    refine (roped _ [⟨1, s, 0, 0, 0, 0⟩, ⟨5, ⟨#[]⟩, 0, 0, 0, (k : Int)⟩, ⟨5, ⟨#[]⟩, 0, 0, 0, 2⟩, ⟨5, ⟨#[]⟩, 2, 0, 0, 2⟩, ⟨5, ⟨#[]⟩, 0, 0, 0, 4⟩] _ (ops_new W _ _ rfl) (by simp)).mono ?_
    rintro e w' ⟨tv, rfl, hr, hb⟩
    rw [hcp] at hr
    obtain ⟨⟨a, cap, rfl, h⟩, -⟩ := hr
    obtain ⟨g, off, rfl, _, hc⟩ := h (by simp)
    exact ⟨g, off, cap, rfl, hc 1 (by simp), hc 3 (by simp), hc 4 (by simp), bstep (balloc (Below.refl _ _) _) hb⟩)
  have hlen : s.data.toList.length ≤ 60 := by have : s.data.toList.length = s.size := by simp
                                              omega
  have hsz : s.size = s.data.toList.length := by simp
  have hss : s = ⟨s.data.toList.toArray⟩ := by simp
  clear hrow hk hcp
  generalize hl : s.data.toList = l at *
  have HSS := Lib.hid hss
  clear hss hl
  go_enter Try.func10, Try.ntmps10
  go_wp2_with fail
  refine PK.out.mono ?_
  rintro e w1 ⟨rfl, rfl⟩
  go_wp2_with fail
  refine TO.out.mono ?_
  rintro e w1 ⟨rfl, rfl⟩
  clear TO PK
  go_wp2_with fail
  refine (RO.out _).mono ?_
  rintro e w1 ⟨g, off, cap, rfl, c1, c3, c4, hb⟩
  have HB := Lib.hid hb
  clear hb RO
  generalize h4 : (⟨(cop l 4).toArray⟩ : ByteArray) = s4 at *
  generalize h1 : (⟨(cop l k).toArray⟩ : ByteArray) = s1 at *
  have H1 := Lib.hid h1
  clear h4 h1
  go_upto_region 4 with fail
  go_quiet (fail)
  go_wp2_with fail
  go_loopw [9, 10] (fun o m wr => ∃ j : Nat, j ≤ k ∧ m = .int .i64 (j : Int) ∧ o = .string ⟨(cop l j).toArray⟩ ∧ wr = w1.drewN nq) (fun _ m _ => k - (intOf m).toNat)
  case atStart => exact ⟨0, by omega, rfl, rfl, rfl⟩
  case round =>
    obtain ⟨j, hj, rfl, rfl, rfl⟩ := hrel
    by_cases hjk : j < k
    · have hzj : (⟨(cop l j).toArray⟩ : ByteArray).size ≤ 240 := by
        have e : (⟨(cop l j).toArray⟩ : ByteArray).size = (cop l j).length := by simp [ByteArray.size]
        rw [e, cop_length]
        have : j * l.length ≤ 4 * 60 := Nat.mul_le_mul (by omega) hlen
        omega
      have hnl : ¬ 9223372036854775807 < (⟨(cop l j).toArray⟩ : ByteArray).size + s.size := by omega
      have HSC := Lib.hid (show (⟨(cop l j).toArray⟩ : ByteArray) ++ s = ⟨(cop l (j + 1)).toArray⟩ by rw [HSS.out, catStr, cop])
      generalize (⟨(cop l j).toArray⟩ : ByteArray) = sj at *
      go_wp2_with fail
      go_roundw
      case rel => exact ⟨j + 1, by omega, rfl, by rw [HSC.out], trivial⟩
      case measure => simp [intOf]; omega
    · obtain rfl : j = k := by omega
      rw [H1.out]
      go_wp2_with fail
      go_ret
      exact ⟨by simp, bdrewN HB.out _⟩

end Go.Proofs.Yteahnhemcceebaa.KeepC
