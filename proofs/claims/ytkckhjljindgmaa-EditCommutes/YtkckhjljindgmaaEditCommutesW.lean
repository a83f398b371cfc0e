/-
  The law EditCommutes.
-/
import Derived.Test.YtkckhjljindgmaaEditComm
import Derived.Test.YtkckhjljindgmaaEditRestW
namespace Go.Proofs.Ytkckhjljindgmaa.EditK
open Go.RowKit Kit EditM EditC ChgM Txt Lift

/-- the box of an edit -/
def Bx (k : Nat) (e : EdM) (W : World) : Prop := B3 k (.int .i64 e.at_) (.int .i64 e.cut) (.string e.put) W
theorem Bx.next {k : Nat} {e : EdM} {W W' : World} (h : Bx k e W) (hb : Below W.heap.size W W') : Bx k e W' := B3.next h hb
theorem Bx.new (W : World) (e : EdM) : Bx W.heap.size e (W.alloc (.cells #[.int .i64 e.at_, .int .i64 e.cut, .string e.put] 23)) := B3.new _ _ _ _ _
theorem two_at (w : World) (e f : EdM) : EdsV (w.alloc (.cells #[.int .i64 e.at_, .int .i64 e.cut, .string e.put, .int .i64 f.at_, .int .i64 f.cut, .string f.put] 23)) (.slice (some ⟨w.heap.size, 0, none⟩) 2 2) [e, f] := by
  refine ⟨_, _, rfl, by simp, ⟨fun i o hi => ⟨w.heap.size, 0, rfl, by simp, fun j hj => ?_⟩⟩, .inr ⟨_, _, rfl, by simp⟩⟩
  have hi2 : i < 2 := by
    have := (List.getElem?_eq_some_iff.1 hi).1
    simpa using this
  rw [Nat.zero_add, cells_new]
  match i, hi2 with
  | 0, _ =>
    simp at hi; subst hi
    match j, hj with
    | 0, _ => rfl
    | 1, _ => rfl
    | 2, _ => rfl
  | 1, _ =>
    simp at hi; subst hi
    match j, hj with
    | 0, _ => rfl
    | 1, _ => rfl
    | 2, _ => rfl
theorem over_clash {n : Int} {a b : EdM} (ha : flt n a = 0) (hb : flt n b = 0) (h : clash a b = true) : overC n a b = 10 ∧ overR n a b = eZ := by
  have h1 : overC n a b = 10 := by unfold overC; rw [if_neg (by simpa using ha), if_neg (by simpa using hb), if_pos h]
  exact ⟨h1, by unfold overR; rw [h1, if_neg (by decide)]⟩
theorem over_fine {t : Bs} {a b : EdM} (ha : a.fits t) (hb : b.fits t) (h : clash a b = false) (hm : (moved a b).fits (b.step t)) : overC t.length a b = 0 ∧ overR t.length a b = moved a b := by
  have e : ((b.step t).length : Int) = (t.length : Int) - b.cut + b.put.size := by
    rw [hb.len]
    have := hb.nat
    obtain ⟨h1, h2, _, _, _⟩ := hb
    omega
  have h0 : flt ((t.length : Int) - b.cut + b.put.size) (moved a b) = 0 := by
    rw [← e]; exact hm.fault
  have h1 : overC t.length a b = 0 := by unfold overC; rw [if_neg (fun h => h ha.fault), if_neg (fun h => h hb.fault), if_neg (by rw [h]; simp), h0]
  exact ⟨h1, by unfold overR; rw [h1, if_pos rfl]⟩
def oA : EdM := ⟨0, 2, ⟨#[]⟩⟩
def oB : EdM := ⟨1, 2, ⟨#[]⟩⟩
theorem oA_ok : oA.ok := ⟨by simp [oA], by simp [oA], by simp [oA], by simp [oA], by simp [oA, ByteArray.size]⟩
theorem oB_ok : oB.ok := ⟨by simp [oB], by simp [oB], by simp [oB], by simp [oB], by simp [oB, ByteArray.size]⟩
theorem overX (w : World) : Calls Try.prog 22 #[.int .i64 3, .agg #[.int .i64 0, .int .i64 2, .string ⟨#[]⟩], .agg #[.int .i64 1, .int .i64 2, .string ⟨#[]⟩]] w fun e w' => e = .returned (.tuple #[.agg #[.int .i64 0, .int .i64 0, .string ⟨#[]⟩], .int .i64 10]) ∧ Below w.heap.size w w' := by
  have := over 3 oA oB w oA_ok oB_ok
  obtain ⟨h1, h2⟩ := over_clash (n := 3) (a := oA) (b := oB) (by decide) (by decide) (by decide)
  rw [h1, h2] at this
  exact this
theorem apC_two {e f : EdM} {t : Bs} (h : e.fits t) (h2 : f.fits (e.step t)) : apC [e, f] t = 0 := by simp only [apC, if_pos h.fault, if_pos h2.fault]
theorem moved_ok {a b : EdM} {t : Bs} (h : (moved a b).fits t) (ha : a.ok) : (moved a b).ok := by
  obtain ⟨h1, h2, h3, h4, h5⟩ := h
  exact ⟨by omega, by omega, ha.c0, ha.c1, ha.p⟩

set_option maxRecDepth 100000 in
set_option maxHeartbeats 4000000 in
theorem editCommutes (a0 : Option Addr) (len0 cap0 : Nat) (z0 : List Int) (c d : ChgM) (w : World) (hz : IsRow .i64 w a0 len0 cap0 z0) (hc : c.has w) (hd : d.has w) :
    Calls Try.prog 10 #[.slice a0 len0 cap0, .agg #[.int .i64 c.at_, .int .i64 c.cut, .slice c.ta c.tlen c.tcap], .agg #[.int .i64 d.at_, .int .i64 d.cut, .slice d.ta d.tlen d.tcap]] w fun e w' => e = .returned (.bool true) ∧ Below w.heap.size w w' := by
  have TO := Lib.hid (fun W (hW : Below w.heap.size w W) => textOf a0 len0 cap0 z0 60 W (isRow_next hz hW) (by omega))
  have hs60 : (textS ((z0.take len0).take 60)).size ≤ 60 := by rw [textS_size]; simp only [List.length_take]; omega
  generalize textS ((z0.take len0).take 60) = s at *
  have EC := Lib.hid (fun W (hW : Below w.heap.size w W) => editOf c (s.size : Int) W (hc.next hW) (by omega) (by omega))
  have ED := Lib.hid (fun W (hW : Below w.heap.size w W) => editOf d (s.size : Int) W (hd.next hW) (by omega) (by omega))
  have FC := edOf_fits c s.data.toList (by rw [size_list]; omega)
  have FD := edOf_fits d s.data.toList (by rw [size_list]; omega)
  have OC := edOf_ok c (n := (s.size : Int)) (by omega) (by omega)
  have OD := edOf_ok d (n := (s.size : Int)) (by omega) (by omega)
  rw [size_list] at FC FD
  have pc : (edOf c (s.size : Int)).put.size ≤ 8 := c.put_size
  have pd : (edOf d (s.size : Int)).put.size ≤ 8 := d.put_size
  generalize edOf c (s.size : Int) = x at *
  generalize edOf d (s.size : Int) = y at *
  have O1 := Lib.hid (fun W => over (s.size : Int) x y W OC OD)
  have O2 := Lib.hid (fun W => over (s.size : Int) y x W OD OC)
  have OX := Lib.hid (fun W => overX W)
  have hsl : s.data.toList.length = s.size := size_list s
  obtain ⟨code, p, q, h1, h2, h3, h4, hcase⟩ : ∃ (code : Int) (p q : EdM), overC (s.size : Int) x y = code ∧ overR (s.size : Int) x y = p ∧ overC (s.size : Int) y x = code ∧ overR (s.size : Int) y x = q ∧
      (code = 10 ∨ (code = 0 ∧ ∃ u : ByteArray, (∀ W v, EdsV W v [y, p] → Calls Try.prog 26 #[.string s, v] W fun e w' => e = .returned (.tuple #[.string u, .bool true]) ∧ Below W.heap.size W w') ∧
        (∀ W v, EdsV W v [x, q] → Calls Try.prog 26 #[.string s, v] W fun e w' => e = .returned (.tuple #[.string u, .bool true]) ∧ Below W.heap.size W w'))) := by
    have fx : flt (s.size : Int) x = 0 := by have := FC.fault; unfold EdM.fault at this; rw [hsl] at this; exact this
    have fy : flt (s.size : Int) y = 0 := by have := FD.fault; unfold EdM.fault at this; rw [hsl] at this; exact this
    cases hcl : clash x y
    · have hcl2 : clash y x = false := by rw [clash_symm]; exact hcl
      have cm := comm s.data.toList x y (by rw [hsl]; exact hs60) FC FD pc pd hcl
      obtain ⟨e1, e2⟩ := over_fine FC FD hcl cm.fa
      obtain ⟨e3, e4⟩ := over_fine FD FC hcl2 cm.fb
      rw [hsl] at e1 e2 e3 e4
      refine ⟨0, moved x y, moved y x, e1, e2, e3, e4, .inr ⟨rfl, str ((moved x y).step (y.step s.data.toList)), ?_, ?_⟩⟩
      · intro W v hv
        exact edited s [y, moved x y] v W hv (fun e he => by
          simp only [List.mem_cons, List.not_mem_nil, or_false] at he
          rcases he with rfl | rfl
          · exact OD
          · exact moved_ok cm.fa OC) (by simp) (by omega) (apC_two FD cm.fa)
      · intro W v hv
        rw [cm.same]
        exact edited s [x, moved y x] v W hv (fun e he => by
          simp only [List.mem_cons, List.not_mem_nil, or_false] at he
          rcases he with rfl | rfl
          · exact OC
          · exact moved_ok cm.fb OD) (by simp) (by omega) (apC_two FC cm.fb)
    · have hcl2 : clash y x = true := by rw [clash_symm]; exact hcl
      obtain ⟨e1, e2⟩ := over_clash fx fy hcl
      obtain ⟨e3, e4⟩ := over_clash fy fx hcl2
      exact ⟨10, eZ, eZ, e1, e2, e3, e4, .inl rfl⟩
  rw [h1, h2] at O1
  rw [h3, h4] at O2
  have HCASE := Lib.hid hcase
  clear h1 h2 h3 h4 hcase hsl FC FD OC OD pc pd hz hc hd
  have HC : Hid (∀ W, Below ((w.alloc (.cells #[.int .i64 c.at_, .int .i64 c.cut, .slice c.ta c.tlen c.tcap] 49)).alloc (.cells #[.int .i64 d.at_, .int .i64 d.cut, .slice d.ta d.tlen d.tcap] 49)).heap.size ((w.alloc (.cells #[.int .i64 c.at_, .int .i64 c.cut, .slice c.ta c.tlen c.tcap] 49)).alloc (.cells #[.int .i64 d.at_, .int .i64 d.cut, .slice d.ta d.tlen d.tcap] 49)) W → B3 (w.heap.size + 1) (.int .i64 d.at_) (.int .i64 d.cut) (.slice d.ta d.tlen d.tcap) W) := Lib.hid fun W hW => by
    have := (B3.new (w.alloc (.cells #[.int .i64 c.at_, .int .i64 c.cut, .slice c.ta c.tlen c.tcap] 49)) (.int .i64 d.at_) (.int .i64 d.cut) (.slice d.ta d.tlen d.tcap) 49).next hW
    simpa using this
  go_enter Try.func10, Try.ntmps10
  go_wp2_with fail
  refine (TO.out _ (balloc (balloc (Below.refl _ _) _) _)).mono ?_
  rintro e w1 ⟨rfl, rfl⟩
  go_wp2_with fail
  refine (EC.out _ (balloc (balloc (Below.refl _ _) _) _)).mono ?_
  rintro e w1 ⟨rfl, hb1⟩
  have B1 := Lib.hid (bstep (balloc (balloc (Below.refl _ _) _) _) hb1)
  obtain ⟨l0, k0, k1, k2, _, _, _⟩ := HC.out _ hb1
  clear hb1 TO EC HC
  go_upto_region 3 with fail
  have X1 := Lib.hid (And.intro (Bx.new w1 x) (balloc B1.out (.cells #[.int .i64 x.at_, .int .i64 x.cut, .string x.put] 23)))
  have q0 := Nat.ne_of_lt l0
  go_wp2_with fail
  refine (ED.out _ X1.out.2).mono ?_
  rintro e w2 ⟨rfl, hb2⟩
  have X2 := Lib.hid (And.intro (X1.out.1.next hb2) (bstep X1.out.2 hb2))
  clear hb2 X1 B1 l0 k0 k1 k2 q0 ED
  generalize w1.heap.size = kx at *
  go_upto_region 4 with fail
  have X3 : Hid (Bx kx x (w2.alloc (.cells #[.int .i64 y.at_, .int .i64 y.cut, .string y.put] 23)) ∧ Bx w2.heap.size y (w2.alloc (.cells #[.int .i64 y.at_, .int .i64 y.cut, .string y.put] 23)) ∧ Below w.heap.size w (w2.alloc (.cells #[.int .i64 y.at_, .int .i64 y.cut, .string y.put] 23))) := Lib.hid ⟨X2.out.1.next (balloc (Below.refl _ _) _), Bx.new _ _, balloc X2.out.2 _⟩
  clear X2
  generalize w2.alloc (.cells #[.int .i64 y.at_, .int .i64 y.cut, .string y.put] 23) = W3 at *
  generalize w2.heap.size = ky at *
  obtain ⟨⟨l0, x0, x1, x2, _, _, _⟩, ⟨l1, y0, y1, y2, _, _, _⟩, _⟩ := X3.out
  go_wp2_with fail
  refine (O1.out _).mono ?_
  rintro e w4 ⟨rfl, hb4⟩
  have X4 := Lib.hid (And.intro (X3.out.1.next hb4) (And.intro (X3.out.2.1.next hb4) (bstep X3.out.2.2 hb4)))
  clear hb4 X3 l0 x0 x1 x2 l1 y0 y1 y2 O1
  go_upto_region 5 with fail
  have X5 : Hid ((Bx kx x (w4.alloc (.cells #[.int .i64 p.at_, .int .i64 p.cut, .string p.put] 23)) ∧ Bx ky y (w4.alloc (.cells #[.int .i64 p.at_, .int .i64 p.cut, .string p.put] 23))) ∧ Bx w4.heap.size p (w4.alloc (.cells #[.int .i64 p.at_, .int .i64 p.cut, .string p.put] 23)) ∧ Below w.heap.size w (w4.alloc (.cells #[.int .i64 p.at_, .int .i64 p.cut, .string p.put] 23))) := Lib.hid ⟨⟨X4.out.1.next (balloc (Below.refl _ _) _), X4.out.2.1.next (balloc (Below.refl _ _) _)⟩, Bx.new _ _, balloc X4.out.2.2 _⟩
  clear X4
  generalize w4.alloc (.cells #[.int .i64 p.at_, .int .i64 p.cut, .string p.put] 23) = W5 at *
  generalize w4.heap.size = kp at *
  obtain ⟨⟨⟨l0, x0, x1, x2, _, _, _⟩, l1, y0, y1, y2, _, _, _⟩, _⟩ := X5.out
  go_wp2_with fail
  refine (O2.out _).mono ?_
  rintro e w6 ⟨rfl, hb6⟩
  have X6 := Lib.hid (And.intro (And.intro (X5.out.1.1.next hb6) (X5.out.1.2.next hb6)) (And.intro (X5.out.2.1.next hb6) (bstep X5.out.2.2 hb6)))
  clear hb6 X5 l0 x0 x1 x2 l1 y0 y1 y2 O2
  go_upto_region 6 with fail
  have X7 : Hid (((Bx kx x (w6.alloc (.cells #[.int .i64 q.at_, .int .i64 q.cut, .string q.put] 23)) ∧ Bx ky y (w6.alloc (.cells #[.int .i64 q.at_, .int .i64 q.cut, .string q.put] 23))) ∧ Bx kp p (w6.alloc (.cells #[.int .i64 q.at_, .int .i64 q.cut, .string q.put] 23))) ∧ Bx w6.heap.size q (w6.alloc (.cells #[.int .i64 q.at_, .int .i64 q.cut, .string q.put] 23)) ∧ Below w.heap.size w (w6.alloc (.cells #[.int .i64 q.at_, .int .i64 q.cut, .string q.put] 23))) := Lib.hid ⟨⟨⟨X6.out.1.1.next (balloc (Below.refl _ _) _), X6.out.1.2.next (balloc (Below.refl _ _) _)⟩, X6.out.2.1.next (balloc (Below.refl _ _) _)⟩, Bx.new _ _, balloc X6.out.2.2 _⟩
  clear X6
  generalize w6.alloc (.cells #[.int .i64 q.at_, .int .i64 q.cut, .string q.put] 23) = W7 at *
  generalize w6.heap.size = kq at *
  go_wp2_with fail
  refine (OX.out _).mono ?_
  rintro e w8 ⟨rfl, hb8⟩
  have hb9 := bstep hb8 (balloc (Below.refl _ _) (.cells #[.int .i64 0, .int .i64 0, .string ⟨#[]⟩] 23))
  go_upto_region 7 with fail
  have X8 : Hid (((Bx kx x _ ∧ Bx ky y _) ∧ Bx kp p _) ∧ Bx kq q _ ∧ Below w.heap.size w (w8.alloc (.cells #[.int .i64 0, .int .i64 0, .string ⟨#[]⟩] 23))) := Lib.hid ⟨⟨⟨X7.out.1.1.1.next hb9, X7.out.1.1.2.next hb9⟩, X7.out.1.2.next hb9⟩, X7.out.2.1.next hb9, bstep X7.out.2.2 hb9⟩
  clear hb8 hb9 X7 OX
  generalize w8.alloc (.cells #[.int .i64 0, .int .i64 0, .string ⟨#[]⟩] 23) = W8 at *
  rcases HCASE.out with rfl | ⟨rfl, u, hu1, hu2⟩
  · have BB := Lib.hid X8.out.2.2
    clear X8 HCASE
    go_wp2_with fail
    go_ret
    exact ⟨rfl, BB.out⟩
  · have U1 := Lib.hid hu1
    have U2 := Lib.hid hu2
    clear hu1 hu2 HCASE
    obtain ⟨⟨⟨⟨l0, x0, x1, x2, _, _, _⟩, l1, y0, y1, y2, _, _, _⟩, l2, p0, p1, p2, _, _, _⟩, _⟩ := X8.out
    have TW := Lib.hid (fun (W : World) => two_at W y p)
    have TV := Lib.hid (fun (W : World) => two_at W x q)
    go_wp2_with fail
    refine (U1.out _ _ (TW.out _)).mono ?_
    rintro e w9 ⟨rfl, hb9⟩
    have hbb := bstep (balloc (Below.refl _ _) _) hb9
    have X9 := Lib.hid (And.intro (X8.out.1.1.1.next hbb) (And.intro (X8.out.2.1.next hbb) (bstep X8.out.2.2 hbb)))
    clear hb9 hbb X8 l0 x0 x1 x2 l1 y0 y1 y2 l2 p0 p1 p2 U1 TW
    obtain ⟨⟨l0, x0, x1, x2, _, _, _⟩, ⟨l1, y0, y1, y2, _, _, _⟩, _⟩ := X9.out
    go_wp2_with fail
    refine (U2.out _ _ (TV.out _)).mono ?_
    rintro e w10 ⟨rfl, hb10⟩
    have BB := Lib.hid (bstep (balloc X9.out.2.2 _) hb10)
    clear hb10 X9 l0 x0 x1 x2 l1 y0 y1 y2 U2 TV
    go_wp2_with fail
    go_ret
    exact ⟨rfl, BB.out⟩

end Go.Proofs.Ytkckhjljindgmaa.EditK
