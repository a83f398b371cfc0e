/-
  The document: WordsUpdate.
-/
import Derived.Test.YtedlgobpoifnfaaRefAll
import Derived.Test.YtedlgobpoifnfaaRefSameW
import Derived.Test.YtedlgobpoifnfaaWordUpdate
import Derived.Test.YtedlgobpoifnfaaEditFaultRef
import Derived.Test.YtedlgobpoifnfaaEditMadeRef
namespace Go.Proofs.Ytedlgobpoifnfaa.WordR
open Go.RowKit Kit WordM LineM EditM WordC

set_option maxHeartbeats 1000000 in
theorem wupd_size (s : ByteArray) (va : Value) (e : EdM) (w : World) (h : 600 < s.size) : Calls Try.prog 16 #[.string s, va, .agg #[.int .i64 e.at_, .int .i64 e.cut, .string e.put]] w (WcPost w [] 1) := by
  have A := Lib.hid (fun W => wall_size s W h)
  go_enter Try.func16, Try.ntmps16
  go_wp2_with (go_at_call 10; refine (A.out _).mono ?_; rintro e1 w1 ⟨v1, rfl, _, hb1⟩)
  go_ret2
  exact ⟨_, rfl, WsV.nil _, (balloc (Below.refl _ _) _).trans (hb1.mono (by simp))⟩
theorem same_ix (s : ByteArray) (hs : s.size ≤ 600) (va : Value) (m : List (List UInt8 × List Int)) (w : World) (hm : WsW w va m) (v1 : Value) (w1 : World) (h1 : WsV w1 v1 (ix s.data.toList)) (hb : Below w.heap.size w w1) :
    Calls Try.prog 11 #[v1, va] w1 fun e w' => e = .returned (.bool (decide (ix s.data.toList = m))) ∧ Below w1.heap.size w1 w' := by
  have hs' : s.data.toList.length ≤ 600 := by simpa using hs
  exact sameWords v1 va (ix s.data.toList) m w1 h1.weak (hm.next hb) (Nat.le_trans (ix_len _) hs') (fun p hp => Nat.le_trans (ix_places _ p hp) hs')
set_option maxHeartbeats 2000000 in
theorem wupd_form (s : ByteArray) (va : Value) (m : List (List UInt8 × List Int)) (e : EdM) (w : World) (hm : WsW w va m) (hs : s.size ≤ 600) (h : m ≠ ix s.data.toList) :
    Calls Try.prog 16 #[.string s, va, .agg #[.int .i64 e.at_, .int .i64 e.cut, .string e.put]] w (WcPost w [] 4) := by
  obtain ⟨w0, hw0⟩ : ∃ w0, w0 = w.alloc (.cells #[.int .i64 e.at_, .int .i64 e.cut, .string e.put] 34) := ⟨_, rfl⟩
  have B0 : Hid (Below w.heap.size w w0) := Lib.hid (by rw [hw0]; exact balloc (Below.refl _ _) _)
  have IX := Lib.hid (wall s w0 hs)
  have EQ := Lib.hid (fun v1 w1 h1 hb => same_ix s hs va m w0 (hm.next B0.out) v1 w1 h1 hb)
  rw [decide_eq_false (fun e => h e.symm)] at EQ
  subst hw0
  clear hm h
  go_enter Try.func16, Try.ntmps16
  go_wp2_with (first
    | (go_at_call 10; have _t := EQ; clear _t; refine IX.out.mono ?_; rintro e1 w1 ⟨v1, rfl, hv1, hb1⟩; have E1 := Lib.hid (EQ.out v1 w1 hv1 hb1); have B1 := Lib.hid (B0.out.trans (hb1.mono B0.out.size)); clear EQ hv1 hb1)
    | (go_at_call 11; refine E1.out.mono ?_; rintro e2 w2 ⟨rfl, hb2⟩))
  go_ret2
  exact ⟨_, rfl, WsV.nil _, bstep B1.out hb2⟩
theorem made_of (s : ByteArray) (e : EdM) (hf : e.fits s.data.toList) (hs : s.size ≤ 600) (W : World) :
    Calls Try.prog 35 #[.string s, .agg #[.int .i64 e.at_, .int .i64 e.cut, .string e.put]] W fun e' w' => e' = .returned (.string (str (e.step s.data.toList))) ∧ Below W.heap.size W w' := by
  have hn := hf.nat
  have hz := size_list s
  obtain ⟨h1, h2, h3, h4, h5⟩ := hf
  have := EditR.editMade s e.put e.at_.toNat e.cut.toNat W (by omega) hs (by omega)
  have e1 : ((e.at_.toNat : Nat) : Int) = e.at_ := by omega
  have e2 : ((e.cut.toNat : Nat) : Int) = e.cut := by omega
  rw [e1, e2] at this
  exact this
set_option maxRecDepth 100000 in
set_option maxHeartbeats 4000000 in
theorem wupd_edit (s : ByteArray) (va : Value) (e : EdM) (w : World) (hm : WsW w va (ix s.data.toList)) (hok : e.ok) (hs : s.size ≤ 600) :
    Calls Try.prog 16 #[.string s, va, .agg #[.int .i64 e.at_, .int .i64 e.cut, .string e.put]] w (WcPost w (if e.fault s.data.toList = 0 then ix (e.step s.data.toList) else []) (e.fault s.data.toList)) := by
  obtain ⟨w0, hw0⟩ : ∃ w0, w0 = w.alloc (.cells #[.int .i64 e.at_, .int .i64 e.cut, .string e.put] 34) := ⟨_, rfl⟩
  have B0 : Hid (Below w.heap.size w w0) := Lib.hid (by rw [hw0]; exact balloc (Below.refl _ _) _)
  have HB : Hid (B3 w.heap.size (.int .i64 e.at_) (.int .i64 e.cut) (.string e.put) w0) := Lib.hid (by rw [hw0]; exact B3.new _ _ _ _ _)
  have IX := Lib.hid (wall s w0 hs)
  have EQ := Lib.hid (fun v1 w1 h1 hb => same_ix s hs va _ w0 (hm.next B0.out) v1 w1 h1 hb)
  have e1 : decide (ix s.data.toList = ix s.data.toList) = true := decide_eq_true rfl
  rw [e1] at EQ
  have FA := Lib.hid (fun W => EditR.fault_ref s.size e.at_ e.cut e.put W hok.a1 hok.c1 hok.p)
  have ef : EditM.fault s.size e.at_ e.cut e.put.size = e.fault s.data.toList := by
    unfold EdM.fault
    rw [size_list]
  rw [ef] at FA
  subst hw0
  clear hm e1 ef
  by_cases hf : e.fault s.data.toList = 0
  · have hfit := EdM.fits_of hf
    have hlen := hfit.len6
    have MD := Lib.hid (fun W => made_of s e hfit hs W)
    rw [hf] at FA
    rw [if_pos hf, hf]
    have IX2 := Lib.hid (fun W => wall (str (e.step s.data.toList)) W (by rw [size_str]; exact hlen))
    rw [list_str] at IX2
    clear hf hfit hlen
    generalize ix (e.step s.data.toList) = R at *
    generalize str (e.step s.data.toList) = s2 at *
    go_enter Try.func16, Try.ntmps16
    go_wp2_with (first
      | (go_at_call 10; have _t := EQ; clear _t; refine IX.out.mono ?_; rintro e1 w1 ⟨v1, rfl, hv1, hb1⟩; have E1 := Lib.hid (EQ.out v1 w1 hv1 hb1); have B1 := Lib.hid (B0.out.trans (hb1.mono B0.out.size)); have HB1 := Lib.hid (HB.out.next hb1); clear EQ hv1 hb1)
      | (go_at_call 11; refine E1.out.mono ?_; rintro e2 w2 ⟨rfl, hb2⟩; have B2 := Lib.hid (bstep B1.out hb2); have HB2 := Lib.hid (HB1.out.next hb2); obtain ⟨lb, c0, c1, c2, _, _, _⟩ := HB2.out; clear hb2)
      | (go_at_call 34; refine (FA.out _).mono ?_; rintro e3 w3 ⟨rfl, hb3⟩; have B3' := Lib.hid (bstep B2.out hb3); obtain ⟨lb3, c03, c13, c23, _, _, _⟩ := HB2.out.next hb3; clear hb3)
      | (go_at_call 35; refine (MD.out _).mono ?_; rintro e4 w4 ⟨rfl, hb4⟩; have B4 := Lib.hid (bstep B3'.out hb4); clear hb4)
      | (go_at_call 10; refine (IX2.out _).mono ?_; rintro e5 w5 ⟨v5, rfl, hv5, hb5⟩))
    go_ret2
    exact ⟨_, rfl, hv5, bstep B4.out hb5⟩
  · have hc := fault_cases s.data.toList.length e.at_ e.cut e.put.size
    rw [if_neg hf]
    have hc' : e.fault s.data.toList = 1 ∨ e.fault s.data.toList = 2 := by
      rcases hc with h | h | h
      · exact absurd h hf
      · exact .inl h
      · exact .inr h
    have hb : (e.fault s.data.toList == 0) = false := by simpa using hf
    clear hc hf
    generalize e.fault s.data.toList = c at *
    go_enter Try.func16, Try.ntmps16
    go_wp2_with (first
      | (go_at_call 10; have _t := EQ; clear _t; refine IX.out.mono ?_; rintro e1 w1 ⟨v1, rfl, hv1, hb1⟩; have E1 := Lib.hid (EQ.out v1 w1 hv1 hb1); have B1 := Lib.hid (B0.out.trans (hb1.mono B0.out.size)); have HB1 := Lib.hid (HB.out.next hb1); clear EQ hv1 hb1)
      | (go_at_call 11; refine E1.out.mono ?_; rintro e2 w2 ⟨rfl, hb2⟩; have B2 := Lib.hid (bstep B1.out hb2); have HB2 := Lib.hid (HB1.out.next hb2); obtain ⟨lb, c0, c1, c2, _, _, _⟩ := HB2.out; clear hb2)
      | (go_at_call 34; refine (FA.out _).mono ?_; rintro e3 w3 ⟨rfl, hb3⟩; have B3' := Lib.hid (bstep B2.out hb3); clear hb3))
    go_ret2
    exact ⟨_, rfl, WsV.nil _, B3'.out⟩
end Go.Proofs.Ytedlgobpoifnfaa.WordR
