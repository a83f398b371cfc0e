/-
  Package words: Update.
-/
import Derived.Test.YtedlgobpoifnfaaWordAll
import Derived.Test.YtedlgobpoifnfaaWordSame
import Derived.Test.YtedlgobpoifnfaaEditApplyV
namespace Go.Proofs.Ytedlgobpoifnfaa.WordC
open Go.RowKit Kit WordM LineM EditM EditC

theorem apR_one (e : EdM) (t : Bs) : apR [e] t = if e.fault t = 0 then e.step t else [] := by
  unfold apR
  by_cases h : e.fault t = 0
  · simp [apC, apT, h]
  · simp [apC, h]
theorem apC_one (e : EdM) (t : Bs) : apC [e] t = e.fault t := by
  unfold apC
  by_cases h : e.fault t = 0
  · rw [if_pos h, h]; rfl
  · rw [if_neg h]
set_option maxHeartbeats 1000000 in
theorem upd_size (s : ByteArray) (va : Value) (e : EdM) (w : World) (h : 600 < s.size) : Calls Try.prog 15 #[.string s, va, .agg #[.int .i64 e.at_, .int .i64 e.cut, .string e.put]] w (WcPost w [] 1) := by
  go_enter Try.func15, Try.ntmps15
  go_wp2_with fail
  go_ret2
  exact ⟨_, rfl, WsV.nil _, balloc (Below.refl _ _) _⟩
theorem eq_ix (s : ByteArray) (hs : s.size ≤ 600) (va : Value) (m : List (List UInt8 × List Int)) (w : World) (hm : WsW w va m) (hml : ∀ p ∈ m, p.2.length ≤ maxLen) (v1 : Value) (w1 : World) (h1 : WsV w1 v1 (ix s.data.toList)) (hb : Below w.heap.size w w1) :
    Calls Try.prog 32 #[va, v1, .func (.func 33) #[] #[]] w1 fun e w' => e = .returned (.bool (decide (m = ix s.data.toList))) ∧ Below w1.heap.size w1 w' :=
  equalFunc va v1 m (ix s.data.toList) w1 (hm.next hb) h1.weak (Nat.le_trans (ix_len _) (by simpa using hs)) hml
set_option maxHeartbeats 2000000 in
theorem upd_form (s : ByteArray) (va : Value) (m : List (List UInt8 × List Int)) (e : EdM) (w : World) (hm : WsW w va m) (hml : ∀ p ∈ m, p.2.length ≤ maxLen) (hs : s.size ≤ 600) (h : m ≠ ix s.data.toList) :
    Calls Try.prog 15 #[.string s, va, .agg #[.int .i64 e.at_, .int .i64 e.cut, .string e.put]] w (WcPost w [] 4) := by
  obtain ⟨w0, hw0⟩ : ∃ w0, w0 = w.alloc (.cells #[.int .i64 e.at_, .int .i64 e.cut, .string e.put] 34) := ⟨_, rfl⟩
  have B0 : Hid (Below w.heap.size w w0) := Lib.hid (by rw [hw0]; exact balloc (Below.refl _ _) _)
  have IX := Lib.hid (index_ix s w0 hs)
  have EQ := Lib.hid (fun v1 w1 h1 hb => eq_ix s hs va m w0 (hm.next B0.out) hml v1 w1 h1 hb)
  rw [decide_eq_false h] at EQ
  subst hw0
  clear hm hml h
  go_enter Try.func15, Try.ntmps15
  go_wp2_with (first
    | (go_at_call 25; have _t := EQ; clear _t; refine IX.out.mono ?_; rintro e1 w1 ⟨v1, rfl, hv1, hb1⟩; have E1 := Lib.hid (EQ.out v1 w1 hv1 hb1); have B1 := Lib.hid (B0.out.trans (hb1.mono B0.out.size)); clear EQ hv1 hb1)
    | (go_at_call 32; refine E1.out.mono ?_; rintro e2 w2 ⟨rfl, hb2⟩))
  go_ret2
  exact ⟨_, rfl, WsV.nil _, bstep B1.out hb2⟩
set_option maxRecDepth 100000 in
set_option maxHeartbeats 4000000 in
/-- what follows where the index is the text's -/
theorem upd_edit (s : ByteArray) (va : Value) (e : EdM) (w : World) (hm : WsW w va (ix s.data.toList)) (hok : e.ok) (hs : s.size ≤ 600) :
    Calls Try.prog 15 #[.string s, va, .agg #[.int .i64 e.at_, .int .i64 e.cut, .string e.put]] w (WcPost w (if e.fault s.data.toList = 0 then ix (e.step s.data.toList) else []) (e.fault s.data.toList)) := by
  have hml : ∀ p ∈ ix s.data.toList, p.2.length ≤ maxLen := fun p hp => by
    have := ix_places _ p hp
    unfold maxLen
    simp at this
    omega
  obtain ⟨w0, hw0⟩ : ∃ w0, w0 = w.alloc (.cells #[.int .i64 e.at_, .int .i64 e.cut, .string e.put] 34) := ⟨_, rfl⟩
  have B0 : Hid (Below w.heap.size w w0) := Lib.hid (by rw [hw0]; exact balloc (Below.refl _ _) _)
  have HB : Hid (B3 w.heap.size (.int .i64 e.at_) (.int .i64 e.cut) (.string e.put) w0) := Lib.hid (by rw [hw0]; exact B3.new _ _ _ _ _)
  have IX := Lib.hid (index_ix s w0 hs)
  have EQ := Lib.hid (fun v1 w1 h1 hb => eq_ix s hs va _ w0 (hm.next B0.out) hml v1 w1 h1 hb)
  have e1 : decide (ix s.data.toList = ix s.data.toList) = true := decide_eq_true rfl
  rw [e1] at EQ
  have AP := Lib.hid (fun (W : World) => apply s [e] (some ⟨W.heap.size, 0, none⟩) 1 (W.alloc (.cells #[.int .i64 e.at_, .int .i64 e.cut, .string e.put] 34)) (by
    obtain ⟨a, cap, h1, _, h2, _⟩ := EditK.one_at W e
    cases h1
    exact h2) (fun x hx => by simp at hx; subst hx; exact hok) (by simp) hs)
  rw [apR_one, apC_one] at AP
  subst hw0
  clear hm hml e1
  by_cases hf : e.fault s.data.toList = 0
  · have hfit := EdM.fits_of hf
    have hlen := hfit.len6
    rw [if_pos hf, hf] at AP
    rw [if_pos hf, hf]
    have IX2 := Lib.hid (fun W => index_ix (str (e.step s.data.toList)) W (by rw [size_str]; exact hlen))
    rw [list_str] at IX2
    clear hf hfit hlen
    generalize ix (e.step s.data.toList) = R at *
    generalize str (e.step s.data.toList) = s2 at *
    go_enter Try.func15, Try.ntmps15
    go_wp2_with (first
      | (go_at_call 25; have _t := EQ; clear _t; refine IX.out.mono ?_; rintro e1 w1 ⟨v1, rfl, hv1, hb1⟩; have E1 := Lib.hid (EQ.out v1 w1 hv1 hb1); have B1 := Lib.hid (B0.out.trans (hb1.mono B0.out.size)); have HB1 := Lib.hid (HB.out.next hb1); clear EQ hv1 hb1)
      | (go_at_call 32; refine E1.out.mono ?_; rintro e2 w2 ⟨rfl, hb2⟩; have B2 := Lib.hid (bstep B1.out hb2); obtain ⟨lb, c0, c1, c2, _, _, _⟩ := HB1.out.next hb2; clear hb2)
      | (go_at_call 20; refine (AP.out _).mono ?_; rintro e3 w3 ⟨rfl, hb3⟩; have B3' := Lib.hid (bstep (balloc B2.out _) hb3); clear hb3)
      | (go_at_call 25; refine (IX2.out _).mono ?_; rintro e4 w4 ⟨v4, rfl, hv4, hb4⟩))
    go_ret2
    exact ⟨_, rfl, hv4, bstep B3'.out hb4⟩
  · have hc := fault_cases s.data.toList.length e.at_ e.cut e.put.size
    rw [if_neg hf] at AP
    rw [if_neg hf]
    have hc' : e.fault s.data.toList = 1 ∨ e.fault s.data.toList = 2 := by
      rcases hc with h | h | h
      · exact absurd h hf
      · exact .inl h
      · exact .inr h
    have hb : (e.fault s.data.toList == 0) = false := by simpa using hf
    clear hc hf
    generalize e.fault s.data.toList = c at *
    go_enter Try.func15, Try.ntmps15
    go_wp2_with (first
      | (go_at_call 25; have _t := EQ; clear _t; refine IX.out.mono ?_; rintro e1 w1 ⟨v1, rfl, hv1, hb1⟩; have E1 := Lib.hid (EQ.out v1 w1 hv1 hb1); have B1 := Lib.hid (B0.out.trans (hb1.mono B0.out.size)); have HB1 := Lib.hid (HB.out.next hb1); clear EQ hv1 hb1)
      | (go_at_call 32; refine E1.out.mono ?_; rintro e2 w2 ⟨rfl, hb2⟩; have B2 := Lib.hid (bstep B1.out hb2); obtain ⟨lb, c0, c1, c2, _, _, _⟩ := HB1.out.next hb2; clear hb2)
      | (go_at_call 20; refine (AP.out _).mono ?_; rintro e3 w3 ⟨rfl, hb3⟩; have B3' := Lib.hid (bstep (balloc B2.out _) hb3); clear hb3))
    go_ret2
    exact ⟨_, rfl, WsV.nil _, B3'.out⟩
end Go.Proofs.Ytedlgobpoifnfaa.WordC
