/-
  Package rope: what measureOf answers.
-/
import Derived.Test.YtkckhjljindgmaaRopeText
import Derived.Test.YtkckhjljindgmaaInts
import Derived.Test.YtkckhjljindgmaaBoxes
import Derived.Test.YtkckhjljindgmaaPosJoinC
import Derived.Test.YtkckhjljindgmaaPosOfC
import Derived.Test.YtkckhjljindgmaaPolyJoinC
namespace Go.Proofs.Ytkckhjljindgmaa.RopeC
open Go.RowKit Go.Shelf Kit RopeM PosM PolyM

abbrev posL (l : List UInt8) : Value := .agg #[.int .i64 (l.length : Int), .int .i64 (lns l : Int), .int .i64 (col l : Int)]
abbrev hashL (l : List UInt8) : Value := .agg #[.int .i64 (hv l : Int), .int .i64 (hs l.length : Int)]

/-- pos.Of, of a text -/
theorem posOf (s : ByteArray) (w : World) (hs : s.size ≤ 600) : Calls Try.prog 32 #[.string s] w fun e w' => e = .returned (posL s.data.toList) ∧ Below w.heap.size w w' := by
  have := PosOfC.of s w (by unfold maxLen; omega)
  have e : s.data.toList.length = s.size := by simp
  unfold posL
  rw [e]; exact this
theorem polyOf (s : ByteArray) (w : World) (hs : s.size ≤ 600) : Calls Try.prog 33 #[.string s] w fun e w' => e = .returned (hashL s.data.toList) ∧ Below w.heap.size w w' :=
  PolyC.of_list s w (by unfold maxLen; omega)
theorem posJoin (a b : List UInt8) (w : World) (h : a.length + b.length ≤ 1099511627776) : Calls Try.prog 56 #[posL a, posL b] w fun e w' => e = .returned (.tuple #[posL (a ++ b), .int .i64 0]) ∧ Below w.heap.size w w' := by
  have h1 := mayB_of a (by omega)
  have h2 := mayB_of b (by omega)
  have h3 := mayB_of (a ++ b) (by rw [List.length_append]; omega)
  have e1 : ((a ++ b).length : Int) = (a.length : Int) + (b.length : Int) := by rw [List.length_append]; omega
  have e2 : (lns (a ++ b) : Int) = (lns a : Int) + (lns b : Int) := by rw [lns_append]; omega
  have e3 : (col (a ++ b) : Int) = PosC.colJ (col a) (lns b) (col b) := by
    unfold PosC.colJ
    rw [col_append]
    by_cases h0 : lns b = 0
    · rw [if_pos h0, if_pos (by omega), col_of_lns_zero h0]; omega
    · rw [if_neg h0, if_neg (by omega)]
  rw [e1, e2, e3] at h3
  have ok : PosC.okJ a.length (lns a) (col a) b.length (lns b) (col b) = true := by
    unfold PosC.okJ
    rw [h1, h2, h3]; rfl
  unfold posL
  rw [e1, e2, e3]
  exact PosC.join_ok ok
theorem polyJoin (a b : List UInt8) (w : World) : Calls Try.prog 57 #[hashL a, hashL b] w fun e w' => e = .returned (.tuple #[hashL (a ++ b), .int .i64 0]) ∧ Below w.heap.size w w' := PolyC.join_of a b w

set_option maxRecDepth 100000 in
set_option maxHeartbeats 2000000 in
theorem measureOf_in (n : Nat) (hn : 3 ≤ n) (t : RT) (w : World) (ht : RopeAt w t) (hm : t.len ≤ 600) :
    CallsIn Fence.wide n Try.prog 47 #[t.ptr] w fun e W' => e = .returned (.tuple #[posL t.txt, hashL t.txt]) ∧ Below w.heap.size w W' := by
  have h1 : 1 ≤ n := by omega
  have hN := leavesS_length ht.1
  have hu := Under.of_lies ht.2
  have hbl := bytesOf_leaves t hm
  have O0 := Lib.hid (fun W => posOf ⟨#[]⟩ W (by decide))
  have H0 := Lib.hid (fun W => polyOf ⟨#[]⟩ W (by decide))
  rw [show t.ptr = .pointer t.addr from rfl]
  refine callsIn_of_wp_marks Try.func47 rfl trivial ?_ rfl
  simp only [Try.ntmps47, List.size_toArray, List.length_cons, List.length_nil, Nat.reduceAdd, Nat.reduceSub, Array.replicate_succ, Array.replicate_zero, List.push_toArray, List.append_toArray, List.nil_append, List.cons_append]
  gi_wp2_with fail
  refine ⟨trivial, (callsIn_wide.2 (O0.out _)).mono ?_⟩
  rintro e w1 ⟨rfl, hb1⟩
  gi_wp2_with fail
  refine ⟨trivial, (callsIn_wide.2 (H0.out _)).mono ?_⟩
  rintro e w2 ⟨rfl, hb2⟩
  gi_wp2_with fail
  refine ⟨trivial, (leavesOf_in (n - 1) _ _).mono ?_⟩
  rintro e w' ⟨rfl, rfl⟩
  gi_wp2_with fail
  have bp := (B3.new w2 (.int .i64 0) (.int .i64 (lns [] : Int)) (.int .i64 (col [] : Int)) 68)
  have bh := (B2.new (w2.alloc (.cells #[.int .i64 0, .int .i64 (lns [] : Int), .int .i64 (col [] : Int)] 68)) (.int .i64 (hv [] : Int)) (.int .i64 (hs 0 : Int)) 71)
  rw [World.size_alloc] at bh
  have rp := (((B3.new w (.int .i64 0) (.int .i64 0) (.int .i64 0) 68).alloc (.cells #[.int .i64 0, .int .i64 0] 71)).next hb1).next hb2
  have rh := (B2.new (w.alloc (.cells #[.int .i64 0, .int .i64 0, .int .i64 0] 68)) (.int .i64 0) (.int .i64 0) 71)
  rw [World.size_alloc] at rh
  have rh := (rh.next hb1).next hb2
  have bN := Boxed.new ((w2.alloc (.cells #[.int .i64 0, .int .i64 (lns [] : Int), .int .i64 (col [] : Int)] 68)).alloc (.cells #[.int .i64 (hv [] : Int), .int .i64 (hs 0 : Int)] 71)) 87 (.pointer t.addr)
  rw [World.size_alloc, World.size_alloc] at bN
  have hB2 : Below w.heap.size w w2 := bstep (bstep (balloc (balloc (Below.refl _ _) _) _) hb1) hb2
  have hB0 : Below w.heap.size w (((w2.alloc (.cells #[.int .i64 0, .int .i64 (lns [] : Int), .int .i64 (col [] : Int)] 68)).alloc (.cells #[.int .i64 (hv [] : Int), .int .i64 (hs 0 : Int)] 71)).alloc (.cells #[.pointer t.addr] 87)) := balloc (balloc (balloc hB2 _) _) _
  have hz := hB2.size
  have hz1 : w.heap.size + 1 < w2.heap.size := rh.lt
  have hx : w2.heap.size ≠ w2.heap.size + 1 := by omega
  have hy : w2.heap.size + 1 ≠ w2.heap.size := by omega
  clear hb1 hb2 O0 H0
  refine wpIn_rangeFunc_ownG rfl h1 (gf := 70) (lb := #[.pointer (some ⟨w2.heap.size + 1 + 1, 0, none⟩)]) rfl trivial (enters_of Try.func70 (by kernel_rfl) rfl)
    (leaves_stops (n - 1) (w2.heap.size + 1 + 1) w.heap.size t _ (by simp) (by simp; omega) bN.cell (ht.next hB0) hu hm) belowK_t (belowK_b (by simp; omega)) (Below.refl _ _) (fun _ => rfl)
    (fun pre W => B3 w2.heap.size (.int .i64 ((bytesOf pre).length : Int)) (.int .i64 (lns (bytesOf pre) : Int)) (.int .i64 (col (bytesOf pre) : Int)) W ∧ B2 (w2.heap.size + 1) (.int .i64 (hv (bytesOf pre) : Int)) (.int .i64 (hs (bytesOf pre).length : Int)) W ∧ B3 w.heap.size (.int .i64 0) (.int .i64 0) (.int .i64 0) W ∧ B2 (w.heap.size + 1) (.int .i64 0) (.int .i64 0) W ∧ Below w.heap.size w W)
    (fun _ _ _ => False)
    (OwnFrom.and (Own.from (B3.own _ (fun pre => .int .i64 ((bytesOf pre).length : Int)) (fun pre => .int .i64 (lns (bytesOf pre) : Int)) (fun pre => .int .i64 (col (bytesOf pre) : Int))) _)
      (OwnFrom.and (Own.from (B2.own _ (fun pre => .int .i64 (hv (bytesOf pre) : Int)) (fun pre => .int .i64 (hs (bytesOf pre).length : Int))) _)
        (OwnFrom.and (Own.from (B3.own _ (fun _ => .int .i64 0) (fun _ => .int .i64 0) (fun _ => .int .i64 0)) _)
          (OwnFrom.and (Own.from (B2.own _ (fun _ => .int .i64 0) (fun _ => .int .i64 0)) _) (ownFrom_below (Nat.le_refl _) (by simp; omega))))))
    (fun _ _ _ _ _ hs _ _ => hs)
    ⟨(bp.alloc _).alloc _, bh.alloc _, ((rp.alloc _).alloc _).alloc _, ((rh.alloc _).alloc _).alloc _, hB0⟩
    (fun x => { tmps := #[.pointer t.addr, undef, .pointer (some ⟨w.heap.size, 0, none⟩), .pointer (some ⟨w.heap.size + 1, 0, none⟩), .pointer (some ⟨w2.heap.size, 0, none⟩), .pointer (some ⟨w2.heap.size + 1, 0, none⟩), .string x.1, posL [], hashL [], .pointer t.addr, .func (.func 70) #[] #[.pointer (some ⟨w2.heap.size + 1 + 1, 0, none⟩)], .string x.1, undef, undef, undef, undef, undef, undef, undef, undef, undef, undef, undef, undef, undef, undef, undef, undef], defers := [] }) ?assign ?body ?done ?stop
  case assign =>
    intro l x W K hK
    have hsem := @Oper.semAt_some
    gi_wp2
    exact hK
  case body =>
    rintro l pre x W ⟨i1, i2, i3, i4, hB⟩ hlt
    have hd : 1 ≤ n - 1 - 1 := by omega
    have hsem := @Oper.semAt_some
    have hmx : Try.prog.follows .mixedOrders = true := by kernel_rfl
    have hsz := bytesOf_length pre
    have hx2 := x.2
    have hxl : x.1.data.toList.length = x.1.size := by simp
    have OF := Lib.hid (fun W => posOf x.1 W hx2)
    have HF := Lib.hid (fun W => polyOf x.1 W hx2)
    have PJ := Lib.hid (fun W => posJoin (bytesOf pre) x.1.data.toList W (by omega))
    have HJ := Lib.hid (fun W => polyJoin (bytesOf pre) x.1.data.toList W)
    rw [← bytesOf_snoc] at PJ HJ
    have hpn : bytesOf (pre ++ [x]) = bytesOf (pre ++ [x]) := rfl
    generalize hpn' : bytesOf (pre ++ [x]) = lnew at PJ HJ hpn
    have HPN := Lib.hid hpn'
    clear hpn hpn'
    generalize bytesOf pre = lold at *
    generalize x.1.data.toList = lx at *
    generalize x.1 = xs at *
    have LT := Lib.hid hlt
    clear hlt hsz hx2 hxl
    have hI := Lib.hid (show _ ∧ _ ∧ _ ∧ _ ∧ _ from ⟨i1, i2, i3, i4, hB⟩)
    have I1 := Lib.hid (i1.next (Below.refl _ _).drew)
    obtain ⟨p0, p1, p2, p3, p4, p5, p6⟩ := i1
    clear i2 i3 i4 hB
    gi_wp2_with fail
    refine wpIn_mono (Q := fun e a' w' => e = .normal ∧ a' = { tmps := #[.pointer t.addr, undef, .pointer (some ⟨w.heap.size, 0, none⟩), .pointer (some ⟨w.heap.size + 1, 0, none⟩), .pointer (some ⟨w2.heap.size, 0, none⟩), .pointer (some ⟨w2.heap.size + 1, 0, none⟩), .string xs, posL [], hashL [], .pointer t.addr, .func (.func 70) #[] #[.pointer (some ⟨w2.heap.size + 1 + 1, 0, none⟩)], .string xs, .tuple #[posL lnew, .int .i64 0], posL lold, .string xs, posL lx, .tuple #[posL lnew, .int .i64 0], posL lnew, .int .i64 0, undef, undef, undef, undef, undef, undef, undef, undef, undef], defers := [] } ∧ Hid (∃ W2, Below W.heap.size W W2 ∧ w' = ((W2.setCell ⟨w2.heap.size, 0, none⟩ (.int .i64 (lnew.length : Int))).setCell ⟨w2.heap.size, 1, none⟩ (.int .i64 (lns lnew : Int))).setCell ⟨w2.heap.size, 2, none⟩ (.int .i64 (col lnew : Int)))) ?r4 ?c4
    case r4 =>
      gi_region_with_o (first
        | (refine ⟨trivial, ?_⟩; gi_at_call 32; refine (CallsIn.inRound l (callsIn_wide.2 (OF.out _))).mono ?_; rintro e W1 ⟨rfl, hb1⟩; have I2 := Lib.hid (I1.out.next hb1); obtain ⟨x0, x1, x2, x3, y1, y2, y3⟩ := I2.out)
        | (refine ⟨trivial, ?_⟩; gi_at_call 56; refine (CallsIn.inRound l (callsIn_wide.2 (PJ.out _))).mono ?_; rintro e W2 ⟨rfl, hb2⟩; obtain ⟨z0, z1, z2, z3, t1, t2, t3⟩ := I2.out.next hb2))
      all_goals exact ⟨rfl, rfl, Lib.hid ⟨_, bstep (bstep ((Below.refl _ _).drew) hb1) hb2, rfl⟩⟩
    case c4 =>
      rintro _ _ _ ⟨rfl, rfl, hh⟩
      obtain ⟨W2, hW2, rfl⟩ := hh.out
      have J : Hid (B3 w2.heap.size (.int .i64 (lnew.length : Int)) (.int .i64 (lns lnew : Int)) (.int .i64 (col lnew : Int)) (((W2.setCell ⟨w2.heap.size, 0, none⟩ (.int .i64 (lnew.length : Int))).setCell ⟨w2.heap.size, 1, none⟩ (.int .i64 (lns lnew : Int))).setCell ⟨w2.heap.size, 2, none⟩ (.int .i64 (col lnew : Int))) ∧
        B2 (w2.heap.size + 1) (.int .i64 (hv lold : Int)) (.int .i64 (hs lold.length : Int)) (((W2.setCell ⟨w2.heap.size, 0, none⟩ (.int .i64 (lnew.length : Int))).setCell ⟨w2.heap.size, 1, none⟩ (.int .i64 (lns lnew : Int))).setCell ⟨w2.heap.size, 2, none⟩ (.int .i64 (col lnew : Int))) ∧
        B3 w.heap.size (.int .i64 0) (.int .i64 0) (.int .i64 0) (((W2.setCell ⟨w2.heap.size, 0, none⟩ (.int .i64 (lnew.length : Int))).setCell ⟨w2.heap.size, 1, none⟩ (.int .i64 (lns lnew : Int))).setCell ⟨w2.heap.size, 2, none⟩ (.int .i64 (col lnew : Int))) ∧
        B2 (w.heap.size + 1) (.int .i64 0) (.int .i64 0) (((W2.setCell ⟨w2.heap.size, 0, none⟩ (.int .i64 (lnew.length : Int))).setCell ⟨w2.heap.size, 1, none⟩ (.int .i64 (lns lnew : Int))).setCell ⟨w2.heap.size, 2, none⟩ (.int .i64 (col lnew : Int))) ∧
        KeepsOthers W (((W2.setCell ⟨w2.heap.size, 0, none⟩ (.int .i64 (lnew.length : Int))).setCell ⟨w2.heap.size, 1, none⟩ (.int .i64 (lns lnew : Int))).setCell ⟨w2.heap.size, 2, none⟩ (.int .i64 (col lnew : Int))) ∧
        Below w.heap.size W (((W2.setCell ⟨w2.heap.size, 0, none⟩ (.int .i64 (lnew.length : Int))).setCell ⟨w2.heap.size, 1, none⟩ (.int .i64 (lns lnew : Int))).setCell ⟨w2.heap.size, 2, none⟩ (.int .i64 (col lnew : Int))) ∧ Below w.heap.size w W) := Lib.hid (by
        obtain ⟨i1, i2, i3, i4, hB⟩ := hI.out
        have j3 : w.heap.size ≠ w2.heap.size := by omega
        have j4 : w.heap.size + 1 ≠ w2.heap.size := by omega
        refine ⟨(i1.next hW2).set _ _ _, (((i2.next hW2).other hy _).other hy _).other hy _, (((i3.next hW2).other j3 _).other j3 _).other j3 _, (((i4.next hW2).other j4 _).other j4 _).other j4 _,
          (((KeepsOthers.of_grownBy (below_grows hW2) (fun j o e => by cases e)).trans (KeepsOthers.setCell _ _ _)).trans (KeepsOthers.setCell _ _ _)).trans (KeepsOthers.setCell _ _ _), ?_, hB⟩
        exact (((hW2.mono hB.size).setCell (p := ⟨w2.heap.size, 0, none⟩) hz _).setCell (p := ⟨w2.heap.size, 1, none⟩) hz _).setCell (p := ⟨w2.heap.size, 2, none⟩) hz _)
      clear hh hW2 hI I1 p0 p1 p2 p3 p4 p5 p6 OF PJ
      generalize (((W2.setCell ⟨w2.heap.size, 0, none⟩ (.int .i64 (lnew.length : Int))).setCell ⟨w2.heap.size, 1, none⟩ (.int .i64 (lns lnew : Int))).setCell ⟨w2.heap.size, 2, none⟩ (.int .i64 (col lnew : Int))) = W3 at *
      have J1 := Lib.hid (J.out.2.1.next (Below.refl _ _).drew)
      obtain ⟨p0, p1, p2, p4, p5⟩ := J.out.2.1
      gi_wp2_with fail
      refine wpIn_mono (Q := fun e a' w' => e = .normal ∧ a' = { tmps := #[.pointer t.addr, undef, .pointer (some ⟨w.heap.size, 0, none⟩), .pointer (some ⟨w.heap.size + 1, 0, none⟩), .pointer (some ⟨w2.heap.size, 0, none⟩), .pointer (some ⟨w2.heap.size + 1, 0, none⟩), .string xs, posL [], hashL [], .pointer t.addr, .func (.func 70) #[] #[.pointer (some ⟨w2.heap.size + 1 + 1, 0, none⟩)], .string xs, .tuple #[posL lnew, .int .i64 0], posL lold, .string xs, posL lx, .tuple #[posL lnew, .int .i64 0], posL lnew, .int .i64 0, .tuple #[hashL lnew, .int .i64 0], hashL lold, .string xs, hashL lx, .tuple #[hashL lnew, .int .i64 0], hashL lnew, .int .i64 0, undef, undef], defers := [] } ∧ Hid (∃ W2, Below W3.heap.size W3 W2 ∧ w' = (W2.setCell ⟨w2.heap.size + 1, 0, none⟩ (.int .i64 (hv lnew : Int))).setCell ⟨w2.heap.size + 1, 1, none⟩ (.int .i64 (hs lnew.length : Int)))) ?r5 ?c5
      case r5 =>
        gi_region_with_o (first
          | (refine ⟨trivial, ?_⟩; gi_at_call 33; refine (CallsIn.inRound l (callsIn_wide.2 (HF.out _))).mono ?_; rintro e W1 ⟨rfl, hb1⟩; have I2 := Lib.hid (J1.out.next hb1); obtain ⟨x0, x1, x2, y1, y2⟩ := I2.out)
          | (refine ⟨trivial, ?_⟩; gi_at_call 57; refine (CallsIn.inRound l (callsIn_wide.2 (HJ.out _))).mono ?_; rintro e W2 ⟨rfl, hb2⟩; obtain ⟨z0, z1, z2, t1, t2⟩ := I2.out.next hb2))
        all_goals exact ⟨rfl, rfl, Lib.hid ⟨_, bstep (bstep ((Below.refl _ _).drew) hb1) hb2, rfl⟩⟩
      case c5 =>
        rintro _ _ _ ⟨rfl, rfl, hh⟩
        obtain ⟨W4, hW4, rfl⟩ := hh.out
        have FIN : Hid (KeepsFrom (((w2.alloc (.cells #[.int .i64 0, .int .i64 (lns [] : Int), .int .i64 (col [] : Int)] 68)).alloc (.cells #[.int .i64 (hv [] : Int), .int .i64 (hs 0 : Int)] 71)).alloc (.cells #[.pointer t.addr] 87)).heap.size W ((W4.setCell ⟨w2.heap.size + 1, 0, none⟩ (.int .i64 (hv lnew : Int))).setCell ⟨w2.heap.size + 1, 1, none⟩ (.int .i64 (hs lnew.length : Int))) ∧
            Below w.heap.size W ((W4.setCell ⟨w2.heap.size + 1, 0, none⟩ (.int .i64 (hv lnew : Int))).setCell ⟨w2.heap.size + 1, 1, none⟩ (.int .i64 (hs lnew.length : Int))) ∧
            B3 w2.heap.size (.int .i64 ((bytesOf (pre ++ [x])).length : Int)) (.int .i64 (lns (bytesOf (pre ++ [x])) : Int)) (.int .i64 (col (bytesOf (pre ++ [x])) : Int)) ((W4.setCell ⟨w2.heap.size + 1, 0, none⟩ (.int .i64 (hv lnew : Int))).setCell ⟨w2.heap.size + 1, 1, none⟩ (.int .i64 (hs lnew.length : Int))) ∧
            B2 (w2.heap.size + 1) (.int .i64 (hv (bytesOf (pre ++ [x])) : Int)) (.int .i64 (hs (bytesOf (pre ++ [x])).length : Int)) ((W4.setCell ⟨w2.heap.size + 1, 0, none⟩ (.int .i64 (hv lnew : Int))).setCell ⟨w2.heap.size + 1, 1, none⟩ (.int .i64 (hs lnew.length : Int))) ∧
            B3 w.heap.size (.int .i64 0) (.int .i64 0) (.int .i64 0) ((W4.setCell ⟨w2.heap.size + 1, 0, none⟩ (.int .i64 (hv lnew : Int))).setCell ⟨w2.heap.size + 1, 1, none⟩ (.int .i64 (hs lnew.length : Int))) ∧
            B2 (w.heap.size + 1) (.int .i64 0) (.int .i64 0) ((W4.setCell ⟨w2.heap.size + 1, 0, none⟩ (.int .i64 (hv lnew : Int))).setCell ⟨w2.heap.size + 1, 1, none⟩ (.int .i64 (hs lnew.length : Int))) ∧
            Below w.heap.size w ((W4.setCell ⟨w2.heap.size + 1, 0, none⟩ (.int .i64 (hv lnew : Int))).setCell ⟨w2.heap.size + 1, 1, none⟩ (.int .i64 (hs lnew.length : Int)))) := Lib.hid (by
          obtain ⟨i1, i2, i3, i4, i5, i6, i7⟩ := J.out
          have j1 : w2.heap.size ≠ w2.heap.size + 1 := by omega
          have j3 : w.heap.size ≠ w2.heap.size + 1 := by omega
          have j4 : w.heap.size + 1 ≠ w2.heap.size + 1 := by omega
          have hzz : w.heap.size ≤ w2.heap.size + 1 := by omega
          have hbb : Below w.heap.size W ((W4.setCell ⟨w2.heap.size + 1, 0, none⟩ (.int .i64 (hv lnew : Int))).setCell ⟨w2.heap.size + 1, 1, none⟩ (.int .i64 (hs lnew.length : Int))) := i6.trans (((hW4.mono (Nat.le_trans i7.size i6.size)).setCell (p := ⟨w2.heap.size + 1, 0, none⟩) hzz _).setCell (p := ⟨w2.heap.size + 1, 1, none⟩) hzz _)
          rw [HPN.out]
          exact ⟨(i5.trans (((KeepsOthers.of_grownBy (below_grows hW4) (fun j o e => by cases e)).trans (KeepsOthers.setCell _ _ _)).trans (KeepsOthers.setCell _ _ _))).from _, hbb,
            ((i1.next hW4).other j1 _).other j1 _, (i2.next hW4).set _ _, ((i3.next hW4).other j3 _).other j3 _, ((i4.next hW4).other j4 _).other j4 _, i7.trans hbb⟩)
        gi_wp2
        exact FIN.out
  case done =>
    rintro D ys W hD rfl ⟨i1, i2, i3, i4, hB⟩ hK
    rw [hbl] at i1 i2
    have HD : w.heap.size ≤ D := by simp at hD; omega
    have hI := Lib.hid (show _ ∧ _ ∧ _ ∧ _ ∧ _ ∧ _ from ⟨i1, i2, i3, i4, hB, hK⟩)
    obtain ⟨p0, p1, p2, p3, p4, p5, p6⟩ := i1
    obtain ⟨q0, q1, q2, q4, q5⟩ := i2
    obtain ⟨r0, r1, r2, r3, r4, r5, r6⟩ := i3
    obtain ⟨s0, s1, s2, s4, s5⟩ := i4
    clear hB hK
    gi_wp2_with fail
    gi_region
    have FIN : Hid (B3 w.heap.size (.int .i64 (t.txt.length : Int)) (.int .i64 (lns t.txt : Int)) (.int .i64 (col t.txt : Int)) (((((W.setCell ⟨w.heap.size, 0, none⟩ (.int .i64 (t.txt.length : Int))).setCell ⟨w.heap.size, 1, none⟩ (.int .i64 (lns t.txt : Int))).setCell ⟨w.heap.size, 2, none⟩ (.int .i64 (col t.txt : Int))).setCell ⟨w.heap.size + 1, 0, none⟩ (.int .i64 (hv t.txt : Int))).setCell ⟨w.heap.size + 1, 1, none⟩ (.int .i64 (hs t.txt.length : Int))).drew ∧ B2 (w.heap.size + 1) (.int .i64 (hv t.txt : Int)) (.int .i64 (hs t.txt.length : Int)) (((((W.setCell ⟨w.heap.size, 0, none⟩ (.int .i64 (t.txt.length : Int))).setCell ⟨w.heap.size, 1, none⟩ (.int .i64 (lns t.txt : Int))).setCell ⟨w.heap.size, 2, none⟩ (.int .i64 (col t.txt : Int))).setCell ⟨w.heap.size + 1, 0, none⟩ (.int .i64 (hv t.txt : Int))).setCell ⟨w.heap.size + 1, 1, none⟩ (.int .i64 (hs t.txt.length : Int))).drew ∧ ((((((W.setCell ⟨w.heap.size, 0, none⟩ (.int .i64 (t.txt.length : Int))).setCell ⟨w.heap.size, 1, none⟩ (.int .i64 (lns t.txt : Int))).setCell ⟨w.heap.size, 2, none⟩ (.int .i64 (col t.txt : Int))).setCell ⟨w.heap.size + 1, 0, none⟩ (.int .i64 (hv t.txt : Int))).setCell ⟨w.heap.size + 1, 1, none⟩ (.int .i64 (hs t.txt.length : Int))).drew).heap[D]? = some (.deferred (some [])) ∧ Below w.heap.size w (((((W.setCell ⟨w.heap.size, 0, none⟩ (.int .i64 (t.txt.length : Int))).setCell ⟨w.heap.size, 1, none⟩ (.int .i64 (lns t.txt : Int))).setCell ⟨w.heap.size, 2, none⟩ (.int .i64 (col t.txt : Int))).setCell ⟨w.heap.size + 1, 0, none⟩ (.int .i64 (hv t.txt : Int))).setCell ⟨w.heap.size + 1, 1, none⟩ (.int .i64 (hs t.txt.length : Int))).drew) := Lib.hid (by
      obtain ⟨_, _, i3, i4, hB, hK⟩ := hI.out
      have j1 : w.heap.size ≠ w.heap.size + 1 := by omega
      have j2 : w.heap.size + 1 ≠ w.heap.size := by omega
      have hzz : w.heap.size ≤ w.heap.size + 1 := by omega
      refine ⟨(((i3.set _ _ _).other j1 _).other j1 _).next (Below.refl _ _).drew, (((((i4.other j2 _).other j2 _).other j2 _).set _ _)).next (Below.refl _ _).drew, ?_, ?_⟩
      · exact (((((KeepsOthers.setCell _ _ _).trans (KeepsOthers.setCell _ _ _)).trans (KeepsOthers.setCell _ _ _)).trans (KeepsOthers.setCell _ _ _)).trans (KeepsOthers.setCell _ _ _)).same D _ hK rfl
      · exact (((((hB.setCell (p := ⟨w.heap.size, 0, none⟩) (Nat.le_refl _) _).setCell (p := ⟨w.heap.size, 1, none⟩) (Nat.le_refl _) _).setCell (p := ⟨w.heap.size, 2, none⟩) (Nat.le_refl _) _).setCell (p := ⟨w.heap.size + 1, 0, none⟩) hzz _).setCell (p := ⟨w.heap.size + 1, 1, none⟩) hzz _).drew)
    clear hI p0 p1 p2 p3 p4 p5 p6 q0 q1 q2 q4 q5 r0 r1 r2 r3 r4 r5 r6 s0 s1 s2 s4 s5
    generalize (((((W.setCell ⟨w.heap.size, 0, none⟩ (.int .i64 (t.txt.length : Int))).setCell ⟨w.heap.size, 1, none⟩ (.int .i64 (lns t.txt : Int))).setCell ⟨w.heap.size, 2, none⟩ (.int .i64 (col t.txt : Int))).setCell ⟨w.heap.size + 1, 0, none⟩ (.int .i64 (hv t.txt : Int))).setCell ⟨w.heap.size + 1, 1, none⟩ (.int .i64 (hs t.txt.length : Int))).drew = W5 at *
    generalize htx : t.txt = tx at *
    have hK5 := FIN.out.2.2.1
    gi_wp2
    have g3 := (B3.own (β := Unit) w.heap.size (fun _ => .int .i64 (tx.length : Int)) (fun _ => .int .i64 (lns tx : Int)) (fun _ => .int .i64 (col tx : Int))).putObj (s := ()) (.deferred none) FIN.out.1 hK5 rfl
    have g2 := (B2.own (β := Unit) (w.heap.size + 1) (fun _ => .int .i64 (hv tx : Int)) (fun _ => .int .i64 (hs tx.length : Int))).putObj (s := ()) (.deferred none) FIN.out.2.1 hK5 rfl
    refine ⟨by simp, .inl ⟨_, _, rfl, run_takeDeferred hK5, ?_⟩⟩
    obtain ⟨_, g30, g31, g32, _, _, _⟩ := g3
    obtain ⟨_, g20, g21, _, _⟩ := g2
    exact ⟨.tuple #[posL tx, hashL tx], by simp [results, Try.results47, go_sem, *], by rw [htx], FIN.out.2.2.2.trans (belowK_b (w := w) (Nat.le_refl _) W5 D _ _ HD hK5 rfl rfl)⟩
  case stop =>
    rintro D c pre W _ _ h _
    exact h.elim

/-- measureOf -/
theorem measureOf (t : RT) (w : World) (ht : RopeAt w t) (hm : t.len ≤ 600) :
    Calls Try.prog 47 #[t.ptr] w fun e w' => e = .returned (.tuple #[posL t.txt, hashL t.txt]) ∧ Below w.heap.size w w' :=
  (callsIn_wide (n := 3)).1 (measureOf_in 3 (by omega) t w ht hm)

end Go.Proofs.Ytkckhjljindgmaa.RopeC
