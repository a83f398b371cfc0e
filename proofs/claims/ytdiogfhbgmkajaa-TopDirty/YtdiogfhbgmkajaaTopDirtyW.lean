/-
  The law TopDirty, walked.
-/
import Derived.Test.YtdiogfhbgmkajaaSpansFollowW
import Derived.Test.YtdiogfhbgmkajaaSpanWiden
import Derived.Test.YtdiogfhbgmkajaaPolyLinesC
import Derived.Test.YtdiogfhbgmkajaaSameT
namespace Go.Proofs.Ytdiogfhbgmkajaa.WideM
open PosM EditM
theorem made_take {t : Bs} {a c : Nat} {p : Bs} (h : a + c ≤ t.length) {x : Nat} (hx : x ≤ a) : (made t a c p).take x = t.take x := by
  have e1 : (t.take a).length = a := by rw [List.length_take]; omega
  unfold made
  rw [List.append_assoc, List.take_append_of_le_length (by omega), List.take_take, Nat.min_eq_left hx]
theorem made_drop {t : Bs} {a c : Nat} {p : Bs} (h : a + c ≤ t.length) : (made t a c p).drop (a + p.length) = t.drop (a + c) := by
  have e1 : (t.take a).length = a := by rw [List.length_take]; omega
  unfold made
  rw [List.drop_append_of_le_length (by rw [List.length_append, e1]; omega), List.drop_of_length_le (by rw [List.length_append, e1]; omega), List.nil_append]
theorem wl_made {t : Bs} {a c : Nat} {p : Bs} (h : a + c ≤ t.length) : wl (made t a c p) a = wl t a := by unfold wl; rw [made_take h (Nat.le_refl _)]
theorem wh_drop (l : Bs) {x : Nat} (h : x ≤ l.length) : wh l x = x + (if first (l.drop x) < (l.drop x).length then first (l.drop x) + 1 else (l.drop x).length) := by
  unfold wh
  split
  · omega
  · rw [List.length_drop]; omega
theorem take_made {t : Bs} {a c : Nat} {p : Bs} (h : a + c ≤ t.length) : (made t a c p).take (wl (made t a c p) a) = t.take (wl t a) := by
  rw [wl_made h]
  exact made_take h (by unfold wl; omega)
theorem drop_made {t : Bs} {a c : Nat} {p : Bs} (h : a + c ≤ t.length) : (made t a c p).drop (wh (made t a c p) (a + p.length)) = t.drop (wh t (a + c)) := by
  have hl := made_length (p := p) h
  rw [wh_drop t h, wh_drop (made t a c p) (x := a + p.length) (by omega), made_drop h]
  generalize (if first (t.drop (a + c)) < (t.drop (a + c)).length then first (t.drop (a + c)) + 1 else (t.drop (a + c)).length) = d
  have h1 : (made t a c p).drop (a + p.length + d) = ((made t a c p).drop (a + p.length)).drop d := by rw [List.drop_drop]
  have h2 : t.drop (a + c + d) = (t.drop (a + c)).drop d := by rw [List.drop_drop]
  rw [h1, h2, made_drop h]
end Go.Proofs.Ytdiogfhbgmkajaa.WideM
namespace Go.Proofs.Ytdiogfhbgmkajaa.SpanK
open Go.RowKit Kit SpanM SpanC SpanR Lift Txt ChgM EditM EditK WideM

theorem shi_nil (a c k : Nat) : atts [] (shiS [] a c k) = if k = 0 then [] else [⟨(a : Int), (a : Int) + k⟩] := by
  show att [] ⟨(a : Int), (a : Int) + k⟩ = _
  by_cases h : k = 0
  · rw [if_pos h, att_emp (by unfold Emp; dsimp only; omega)]
  · rw [if_neg h, att_nil (by unfold Emp; dsimp only; omega)]
theorem isE {l : List UInt8} (h : l.length = 0) : l.isEmpty = true := by
  cases l with
  | nil => rfl
  | cons x l => simp at h
theorem isNE {l : List UInt8} (h : l.length ≠ 0) : l.isEmpty = false := by
  cases l with
  | nil => exact absurd rfl h
  | cons x l => rfl
theorem valid_nil {n : Nat} (h : n ≤ 600) : Valid n [] := ⟨by omega, by omega, by simp, by simp, .nil⟩
set_option maxRecDepth 100000 in
set_option maxHeartbeats 8000000 in
theorem topDirty (a0 : Option Addr) (len0 cap0 : Nat) (z0 : List Int) (c : ChgM) (w : World) (hz : IsRow .i64 w a0 len0 cap0 z0) (hc : c.has w) :
    Calls Try.prog 14 #[.slice a0 len0 cap0, .agg #[.int .i64 c.at_, .int .i64 c.cut, .slice c.ta c.tlen c.tcap]] w fun e w' => e = .returned (.bool true) ∧ Below w.heap.size w w' := by
  obtain ⟨wc, hwc⟩ : ∃ wc, wc = w.alloc (.cells #[.int .i64 c.at_, .int .i64 c.cut, .slice c.ta c.tlen c.tcap] 50) := ⟨_, rfl⟩
  have BC : Hid (Below w.heap.size w wc) := Lib.hid (by rw [hwc]; exact balloc (Below.refl _ _) _)
  have XC : Hid (B3 w.heap.size (.int .i64 c.at_) (.int .i64 c.cut) (.slice c.ta c.tlen c.tcap) wc) := Lib.hid (by rw [hwc]; exact B3.new _ _ _ _ _)
  have TO := Lib.hid (textOf a0 len0 cap0 z0 100 wc (isRow_next hz BC.out) (by omega))
  have hts : (textS ((z0.take len0).take 100)).size ≤ 100 := by rw [textS_size]; simp only [List.length_take]; omega
  generalize textS ((z0.take len0).take 100) = s at *
  have EO := Lib.hid (editOf c (s.size : Int) wc (hc.next BC.out) (by omega) (by omega))
  obtain ⟨F1, F2, F3, F4, F5, F6⟩ := edOf_facts c (n := (s.size : Int)) (by omega)
  have OK := edOf_ok c (n := (s.size : Int)) (by omega) (by omega)
  generalize edOf c (s.size : Int) = ed at *
  have AP := Lib.hid (fun W v (h : EdsV W v [ed]) => applyV s [ed] v W h (by simpa using OK) (by simp) (by omega) (by
    show (if ed.fault s.data.toList = 0 then _ else _) = (0 : Int)
    have : ed.fault s.data.toList = 0 := by
      unfold EdM.fault
      rw [size_list]
      exact fault_zero.2 ⟨by omega, by omega, F1, F3, by omega, by omega⟩
    rw [if_pos this]; rfl))
  rw [show apT [ed] s.data.toList = made s.data.toList ed.at_.toNat ed.cut.toNat ed.put.data.toList from rfl] at AP
  clear hz hc OK
  obtain ⟨a, k, p⟩ := ed
  dsimp only at *
  obtain ⟨a, rfl⟩ := Int.eq_ofNat_of_zero_le F1
  obtain ⟨k, rfl⟩ := Int.eq_ofNat_of_zero_le F3
  simp only [Int.toNat_natCast] at AP
  have hak : a + k ≤ s.size := by omega
  have hak' : a + k ≤ s.data.toList.length := by rw [size_list]; exact hak
  obtain ⟨t, ht⟩ : ∃ t, t = str (made s.data.toList a k p.data.toList) := ⟨_, rfl⟩
  have htl : t.data.toList = made s.data.toList a k p.data.toList := by rw [ht, list_str]
  have hm : t.size + k = s.size + p.size := by
    rw [ht, size_str, made_length hak', size_list, size_list]; omega
  have W1 := Lib.hid (fun W => widen_ok t a (a + p.size) W (by omega) (by omega) (by omega))
  have W2 := Lib.hid (fun W => widen_ok s a (a + k) W (by omega) (by omega) (by omega))
  have LSs := (wl_ls s.data.toList (lo := a) (by rw [size_list]; omega)).le
  have LSt := (wl_ls t.data.toList (lo := a) (by rw [size_list]; omega)).le
  have LEs := wh_le s.data.toList (hi := a + k) hak'
  have LEt := wh_le t.data.toList (hi := a + p.size) (by rw [size_list]; omega)
  have les := LEs.le
  have let' := LEt.le
  rw [size_list] at les let'
  have ETK := take_made (p := p.data.toList) hak'
  have EDR := drop_made (p := p.data.toList) hak'
  rw [← htl] at ETK EDR
  rw [size_list] at EDR
  have L1 := Lib.hid (fun W => LinesC.lines (s.extract 0 (wl s.data.toList a)) W (by rw [StrB.take_size s (by omega)]; omega))
  have L2 := Lib.hid (fun W => LinesC.lines (t.extract 0 (wl t.data.toList a)) W (by rw [StrB.take_size t (by omega)]; omega))
  have L3 := Lib.hid (fun W => LinesC.lines (s.extract (wh s.data.toList (a + k)) s.size) W (by rw [StrB.drop_size]; omega))
  have L4 := Lib.hid (fun W => LinesC.lines (t.extract (wh t.data.toList (a + p.size)) t.size) W (by rw [StrB.drop_size]; omega))
  rw [StrB.take_list] at L1 L2
  rw [StrB.drop_list] at L3 L4
  rw [ETK] at L2
  rw [EDR] at L4
  rw [← ht] at AP
  clear ht htl ETK EDR LEs LEt hak'
  have C1 := LinesM.cut_ne (s.data.toList.take (wl s.data.toList a))
  have C2 := LinesM.cut_ne (s.data.toList.drop (wh s.data.toList (a + k)))
  have D1 := LinesM.cut_length (s.data.toList.take (wl s.data.toList a))
  have D2 := LinesM.cut_length (s.data.toList.drop (wh s.data.toList (a + k)))
  have D3 : PosM.lns (s.data.toList.take (wl s.data.toList a)) ≤ 600 := by
    unfold PosM.lns; refine Nat.le_trans List.count_le_length ?_; rw [List.length_take, size_list]; omega
  have D4 : PosM.lns (s.data.toList.drop (wh s.data.toList (a + k))) ≤ 600 := by
    unfold PosM.lns; refine Nat.le_trans List.count_le_length ?_; rw [List.length_drop, size_list]; omega
  have q1 : 0 < ((LinesM.cut (s.data.toList.take (wl s.data.toList a))).map fun x => (PolyM.hv x : Int)).length := by rw [List.length_map]; exact List.length_pos_iff.2 C1
  have q2 : 0 < ((LinesM.cut (s.data.toList.drop (wh s.data.toList (a + k)))).map fun x => (PolyM.hv x : Int)).length := by rw [List.length_map]; exact List.length_pos_iff.2 C2
  have q3 : ((LinesM.cut (s.data.toList.take (wl s.data.toList a))).map fun x => (PolyM.hv x : Int)).length ≤ 601 := by rw [List.length_map]; omega
  have q4 : ((LinesM.cut (s.data.toList.drop (wh s.data.toList (a + k)))).map fun x => (PolyM.hv x : Int)).length ≤ 601 := by rw [List.length_map]; omega
  clear C1 C2 D1 D2 D3 D4
  generalize ((LinesM.cut (s.data.toList.take (wl s.data.toList a))).map fun x => (PolyM.hv x : Int)) = zp at *
  generalize ((LinesM.cut (s.data.toList.drop (wh s.data.toList (a + k)))).map fun x => (PolyM.hv x : Int)) = zu at *
  generalize wl s.data.toList a = ws at *
  generalize wl t.data.toList a = wt at *
  generalize wh s.data.toList (a + k) = hs at *
  generalize wh t.data.toList (a + p.size) = ht at *
  have SP := Lib.hid (fun v1 v2 W h1 h2 => SameT.same v1 v2 zp W h1 h2 (by unfold maxLen; omega))
  have SU := Lib.hid (fun v1 v2 W h1 h2 => SameT.same v1 v2 zu W h1 h2 (by unfold maxLen; omega))
  have OA := Lib.hid (fun (W : World) (o : Obj) => one_at' W o ⟨(a : Int), (k : Int), p⟩)
  have SH := Lib.hid (fun W => shiftV (p := p) (valid_nil (show s.size ≤ 600 by omega)) (by simp) hak (by omega) (.slice none 0 0) W (SlV.nil _))
  rw [shi_nil] at SH
  dsimp only at *
  have rk : IntKind.i64.wrap ((a : Int) + (k : Int)) = (a : Int) + (k : Int) := IntWalk.i64_in _ (by omega)
  have rp : IntKind.i64.wrap ((a : Int) + (p.size : Int)) = (a : Int) + (p.size : Int) := IntWalk.i64_in _ (by omega)
  go_enter Try.func14, Try.ntmps14
  go_wp2_with fail
  rw [← hwc]
  clear hwc
  refine TO.out.mono ?_
  rintro e w0 ⟨rfl, rfl⟩
  obtain ⟨_, c0, c1, c2, _, _, _⟩ := XC.out
  clear TO
  go_wp2_with fail
  refine EO.out.mono ?_
  rintro e w2 ⟨rfl, hb2⟩
  have B2 := Lib.hid (bstep BC.out hb2)
  clear hb2 EO BC XC c0 c1 c2
  go_wp2_with fail
  refine (AP.out _ _ (OA.out _ _)).mono ?_
  rintro e w3 ⟨rfl, hb3⟩
  have X3 := Lib.hid (((B3.new w2 (.int .i64 (a : Int)) (.int .i64 (k : Int)) (.string p) 33).alloc (.cells #[.int .i64 (a : Int), .int .i64 (k : Int), .string p] 33)).next hb3)
  have B3' := Lib.hid (bstep (balloc (balloc B2.out (.cells #[.int .i64 (a : Int), .int .i64 (k : Int), .string p] 33)) (.cells #[.int .i64 (a : Int), .int .i64 (k : Int), .string p] 33)) hb3)
  clear hb3 AP OA B2
  generalize w2.heap.size = eb at *
  obtain ⟨_, x0, x1, x2, _, _, _⟩ := X3.out
  go_wp2_with fail
  refine (SH.out _).mono ?_
  rintro e w4 ⟨v4, rfl, hk4⟩
  have X4 := Lib.hid (X3.out.next hk4.bel)
  have B4 := Lib.hid (bstep B3'.out hk4.bel)
  obtain ⟨a4, c4, rfl⟩ := hk4.slice
  clear hk4 SH X3 B3' x0 x1 x2
  obtain ⟨_, x0, x1, x2, _, _, _⟩ := X4.out
  by_cases hp0 : p.size = 0
  · rw [if_pos hp0]
    have l0 : ([] : List SpM).length = 0 := rfl
    have hpe : p.toList.isEmpty = true := by rw [Lib.toList_data]; exact isE (by rw [size_list]; exact hp0)
    rw [l0]
    clear hp0
    go_wp2_with fail
    refine (W1.out _).mono ?_
    rintro e w5 ⟨rfl, hb5⟩
    have X5 := Lib.hid ((X4.out.alloc (.cells #[.int .i64 (a : Int), .int .i64 ((a : Int) + (p.size : Int))] 25)).next hb5)
    have X5' := Lib.hid (X5.out.alloc (.cells #[.int .i64 (wt : Int), .int .i64 (ht : Int)] 25))
    have Y5 := Lib.hid (B2.new w5 (.int .i64 (wt : Int)) (.int .i64 (ht : Int)) 25)
    have B5 := Lib.hid (balloc (bstep (balloc B4.out (.cells #[.int .i64 (a : Int), .int .i64 ((a : Int) + (p.size : Int))] 25)) hb5) (.cells #[.int .i64 (wt : Int), .int .i64 (ht : Int)] 25))
    clear hb5 X4 B4 x0 x1 x2 W1
    obtain ⟨el, x0, x1, x2, _, _, _⟩ := X5.out
    have ne5 : eb ≠ w5.heap.size := by omega
    dsimp only at *
    go_wp2_with fail
    refine (W2.out _).mono ?_
    rintro e w6 ⟨rfl, hb6⟩
    have Y6 := Lib.hid (Y5.out.next hb6)
    have Z6 := Lib.hid (B2.new w6 (.int .i64 (ws : Int)) (.int .i64 (hs : Int)) 25)
    have Y6' := Lib.hid (Y6.out.alloc (.cells #[.int .i64 (ws : Int), .int .i64 (hs : Int)] 25))
    have B6 := Lib.hid (balloc (bstep B5.out hb6) (.cells #[.int .i64 (ws : Int), .int .i64 (hs : Int)] 25))
    have ne6 : w5.heap.size ≠ w6.heap.size := by have := Y6.out.lt; omega
    clear hb6 X5 X5' Y5 Y6 B5 W2 x0 x1 x2 el
    generalize w5.heap.size = yb at *
    obtain ⟨_, y0, y1, _, _⟩ := Y6'.out
    obtain ⟨_, z0, z1, _, _⟩ := Z6.out
    dsimp only at *
    go_wp2_with fail
    generalize w6.alloc (.cells #[.int .i64 (ws : Int), .int .i64 (hs : Int)] 25) = wq at *
    generalize w6.heap.size = zb at *
    refine (L1.out _).mono ?_
    rintro e w7 ⟨v7, rfl, hr7, hb7⟩
    have P7 := Lib.hid hr7
    have Y7 := Lib.hid (Y6'.out.next hb7)
    have Z7 := Lib.hid (Z6.out.next hb7)
    have B7 := Lib.hid (bstep B6.out hb7)
    clear hr7 hb7 Y6' Z6 B6 L1 y0 y1 z0 z1
    obtain ⟨_, y0, y1, _, _⟩ := Y7.out
    go_wp2_with fail
    refine (L2.out _).mono ?_
    rintro e w8 ⟨v8, rfl, hr8, hb8⟩
    have Q8 := Lib.hid hr8
    have P8 := Lib.hid (P7.out.next hb8)
    have Y8 := Lib.hid (Y7.out.next hb8)
    have Z8 := Lib.hid (Z7.out.next hb8)
    have B8 := Lib.hid (bstep B7.out hb8)
    clear hr8 hb8 Y7 Z7 B7 P7 L2 y0 y1
    obtain ⟨_, z0, z1, _, _⟩ := Z8.out
    go_wp2_with fail
    refine (L3.out _).mono ?_
    rintro e w9 ⟨v9, rfl, hr9, hb9⟩
    have U9 := Lib.hid hr9
    have P9 := Lib.hid (P8.out.next hb9)
    have Q9 := Lib.hid (Q8.out.next hb9)
    have Y9 := Lib.hid (Y8.out.next hb9)
    have B9 := Lib.hid (bstep B8.out hb9)
    clear hr9 hb9 Y8 Z8 B8 P8 Q8 L3 z0 z1
    obtain ⟨_, y0, y1, _, _⟩ := Y9.out
    go_wp2_with fail
    refine (L4.out _).mono ?_
    rintro e w10 ⟨v10, rfl, hr10, hb10⟩
    have P10 := Lib.hid (P9.out.next hb10)
    have Q10 := Lib.hid (Q9.out.next hb10)
    have U10 := Lib.hid (U9.out.next hb10)
    have V10 := Lib.hid hr10
    have B10 := Lib.hid (bstep B9.out hb10)
    clear hr10 hb10 Y9 B9 P9 Q9 U9 L4 y0 y1
    have SP' := Lib.hid (SP.out v7 v8 w10 P10.out Q10.out)
    have SU' := Lib.hid (fun W (hW : Below w10.heap.size w10 W) => SU.out v9 v10 W (U10.out.next hW) (V10.out.next hW))
    obtain ⟨a7, c7, rfl, _⟩ := P10.out
    obtain ⟨a9, c9, rfl, _⟩ := U10.out
    simp only [List.length_map] at SP' SU' ⊢
    clear P10 Q10 U10 V10 SP SU
    obtain ⟨lp, hlp⟩ : ∃ lp, lp = zp.length := ⟨_, rfl⟩
    obtain ⟨lu, hlu⟩ : ∃ lu, lu = zu.length := ⟨_, rfl⟩
    rw [← hlp] at q1 q3 SP' ⊢
    rw [← hlu] at q2 q4 SU' ⊢
    clear hlp hlu
    have g1 : (0 : Int) < (lp : Int) := by omega
    have g2 : (0 : Int) < (lu : Int) := by omega
    go_wp2_with fail
    refine SP'.out.mono ?_
    rintro e w11 ⟨rfl, hb11⟩
    have B11 := Lib.hid (bstep B10.out hb11)
    have SU'' := Lib.hid (SU'.out w11 hb11)
    clear hb11 SP' SU' B10
    go_wp2_with fail
    refine SU''.out.mono ?_
    rintro e w12 ⟨rfl, hb12⟩
    have B12 := Lib.hid (bstep B11.out hb12)
    clear hb12 SU'' B11
    go_wp2_with fail
    go_ret
    exact ⟨by first | rfl | simp, B12.out⟩
  · rw [if_neg hp0]
    have l0 : ([⟨(a : Int), (a : Int) + (p.size : Int)⟩] : List SpM).length = 1 := rfl
    have hpe : p.toList.isEmpty = false := by rw [Lib.toList_data]; exact isNE (by rw [size_list]; exact hp0)
    rw [l0]
    clear hp0
    go_wp2_with fail
    refine (W1.out _).mono ?_
    rintro e w5 ⟨rfl, hb5⟩
    have X5 := Lib.hid ((X4.out.alloc (.cells #[.int .i64 (a : Int), .int .i64 ((a : Int) + (p.size : Int))] 25)).next hb5)
    have X5' := Lib.hid (X5.out.alloc (.cells #[.int .i64 (wt : Int), .int .i64 (ht : Int)] 25))
    have Y5 := Lib.hid (B2.new w5 (.int .i64 (wt : Int)) (.int .i64 (ht : Int)) 25)
    have B5 := Lib.hid (balloc (bstep (balloc B4.out (.cells #[.int .i64 (a : Int), .int .i64 ((a : Int) + (p.size : Int))] 25)) hb5) (.cells #[.int .i64 (wt : Int), .int .i64 (ht : Int)] 25))
    clear hb5 X4 B4 x0 x1 x2 W1
    obtain ⟨el, x0, x1, x2, _, _, _⟩ := X5.out
    have ne5 : eb ≠ w5.heap.size := by omega
    dsimp only at *
    go_wp2_with fail
    refine (W2.out _).mono ?_
    rintro e w6 ⟨rfl, hb6⟩
    have Y6 := Lib.hid (Y5.out.next hb6)
    have Z6 := Lib.hid (B2.new w6 (.int .i64 (ws : Int)) (.int .i64 (hs : Int)) 25)
    have Y6' := Lib.hid (Y6.out.alloc (.cells #[.int .i64 (ws : Int), .int .i64 (hs : Int)] 25))
    have B6 := Lib.hid (balloc (bstep B5.out hb6) (.cells #[.int .i64 (ws : Int), .int .i64 (hs : Int)] 25))
    have ne6 : w5.heap.size ≠ w6.heap.size := by have := Y6.out.lt; omega
    clear hb6 X5 X5' Y5 Y6 B5 W2 x0 x1 x2 el
    generalize w5.heap.size = yb at *
    obtain ⟨_, y0, y1, _, _⟩ := Y6'.out
    obtain ⟨_, z0, z1, _, _⟩ := Z6.out
    dsimp only at *
    go_wp2_with fail
    generalize w6.alloc (.cells #[.int .i64 (ws : Int), .int .i64 (hs : Int)] 25) = wq at *
    generalize w6.heap.size = zb at *
    refine (L1.out _).mono ?_
    rintro e w7 ⟨v7, rfl, hr7, hb7⟩
    have P7 := Lib.hid hr7
    have Y7 := Lib.hid (Y6'.out.next hb7)
    have Z7 := Lib.hid (Z6.out.next hb7)
    have B7 := Lib.hid (bstep B6.out hb7)
    clear hr7 hb7 Y6' Z6 B6 L1 y0 y1 z0 z1
    obtain ⟨_, y0, y1, _, _⟩ := Y7.out
    go_wp2_with fail
    refine (L2.out _).mono ?_
    rintro e w8 ⟨v8, rfl, hr8, hb8⟩
    have Q8 := Lib.hid hr8
    have P8 := Lib.hid (P7.out.next hb8)
    have Y8 := Lib.hid (Y7.out.next hb8)
    have Z8 := Lib.hid (Z7.out.next hb8)
    have B8 := Lib.hid (bstep B7.out hb8)
    clear hr8 hb8 Y7 Z7 B7 P7 L2 y0 y1
    obtain ⟨_, z0, z1, _, _⟩ := Z8.out
    go_wp2_with fail
    refine (L3.out _).mono ?_
    rintro e w9 ⟨v9, rfl, hr9, hb9⟩
    have U9 := Lib.hid hr9
    have P9 := Lib.hid (P8.out.next hb9)
    have Q9 := Lib.hid (Q8.out.next hb9)
    have Y9 := Lib.hid (Y8.out.next hb9)
    have B9 := Lib.hid (bstep B8.out hb9)
    clear hr9 hb9 Y8 Z8 B8 P8 Q8 L3 z0 z1
    obtain ⟨_, y0, y1, _, _⟩ := Y9.out
    go_wp2_with fail
    refine (L4.out _).mono ?_
    rintro e w10 ⟨v10, rfl, hr10, hb10⟩
    have P10 := Lib.hid (P9.out.next hb10)
    have Q10 := Lib.hid (Q9.out.next hb10)
    have U10 := Lib.hid (U9.out.next hb10)
    have V10 := Lib.hid hr10
    have B10 := Lib.hid (bstep B9.out hb10)
    clear hr10 hb10 Y9 B9 P9 Q9 U9 L4 y0 y1
    have SP' := Lib.hid (SP.out v7 v8 w10 P10.out Q10.out)
    have SU' := Lib.hid (fun W (hW : Below w10.heap.size w10 W) => SU.out v9 v10 W (U10.out.next hW) (V10.out.next hW))
    obtain ⟨a7, c7, rfl, _⟩ := P10.out
    obtain ⟨a9, c9, rfl, _⟩ := U10.out
    simp only [List.length_map] at SP' SU' ⊢
    clear P10 Q10 U10 V10 SP SU
    obtain ⟨lp, hlp⟩ : ∃ lp, lp = zp.length := ⟨_, rfl⟩
    obtain ⟨lu, hlu⟩ : ∃ lu, lu = zu.length := ⟨_, rfl⟩
    rw [← hlp] at q1 q3 SP' ⊢
    rw [← hlu] at q2 q4 SU' ⊢
    clear hlp hlu
    have g1 : (0 : Int) < (lp : Int) := by omega
    have g2 : (0 : Int) < (lu : Int) := by omega
    go_wp2_with fail
    refine SP'.out.mono ?_
    rintro e w11 ⟨rfl, hb11⟩
    have B11 := Lib.hid (bstep B10.out hb11)
    have SU'' := Lib.hid (SU'.out w11 hb11)
    clear hb11 SP' SU' B10
    go_wp2_with fail
    refine SU''.out.mono ?_
    rintro e w12 ⟨rfl, hb12⟩
    have B12 := Lib.hid (bstep B11.out hb12)
    clear hb12 SU'' B11
    go_wp2_with fail
    go_ret
    exact ⟨by first | rfl | simp, B12.out⟩
end Go.Proofs.Ytdiogfhbgmkajaa.SpanK
