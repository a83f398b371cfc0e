/-
  Package pos: what the document's Find answers, and the law PosFinds.
-/
import Derived.Test.YtajnebmijplkeaaPosFind
namespace Go.Proofs.Ytajnebmijplkeaa.PosC
open Go.ChangeShapes Go.WideShapes Go.ChangeAt Go.RowKit PosM Kit StrC

/-- a field of a struct value -/
theorem field1 (v0 v1 v2 : Value) (w : World) : (Instr.field 23 (.agg #[v0, v1, v2]) 1).run Try.prog w = .ok v1 w := by kernel_rfl

set_option maxHeartbeats 400000 in
theorem refFind_range (s : ByteArray) (L c : Int) (w : World) (hs : s.size ≤ maxLen) (h : L < 0 ∨ c < 0 ∨ (lns s.data.toList : Int) < L) :
    Calls Try.prog 20 #[.string s, .int .i64 L, .int .i64 c] w fun e w' => e = .returned (.tuple #[.int .i64 0, .int .i64 2]) ∧ Below w.heap.size w w' := by
  by_cases h1 : L < 0
  · have g1 : decide (L < 0) = true := by simpa using h1
    go_enter Try.func20, Try.ntmps20
    go_wp2_with fail
    go_ret2
    exact ⟨rfl, Below.refl _ _⟩
  · have g1 : decide (L < 0) = false := by simpa using h1
    by_cases h2 : c < 0
    · have g2 : decide (c < 0) = true := by simpa using h2
      go_enter Try.func20, Try.ntmps20
      go_wp2_with fail
      go_ret2
      exact ⟨rfl, Below.refl _ _⟩
    · have g2 : decide (c < 0) = false := by simpa using h2
      have g3 : decide ((lns s.data.toList : Int) < L) = true := by simp; omega
      clear h1 h
      have hfl := field1
      go_enter Try.func20, Try.ntmps20
      go_wp2_with fail
      refine (refOf s w hs).mono ?_
      rintro e w' ⟨rfl, hb⟩
      go_wp2_with fail
      go_ret2
      exact ⟨rfl, hb⟩

/-- the place is asked for: a line and a column -/
def At (l : List UInt8) (L c k : Nat) : Prop := lns (l.take k) = L ∧ col (l.take k) = c

set_option maxHeartbeats 1000000 in
theorem refFind_yes (s : ByteArray) (L c at' : Nat) (w : World) (hs : s.size ≤ maxLen) (hL : L ≤ lns s.data.toList) (ha : at' ≤ s.size) (h : At s.data.toList L c at') :
    Calls Try.prog 20 #[.string s, .int .i64 L, .int .i64 c] w fun e w' => e = .returned (.tuple #[.int .i64 at', .int .i64 0]) ∧ Below w.heap.size w w' := by
  have hlen : s.data.toList.length = s.size := by simp
  have hu : ∀ k, k ≤ s.size → At s.data.toList L c k → k = at' := fun k hk hK => pos_inj s.data.toList (by omega) (by omega) (hK.1.trans h.1.symm) (hK.2.trans h.2.symm)
  have HU := Lib.hid hu
  have HA := Lib.hid h
  have hs' := hs
  unfold maxLen at hs'
  have g1 : decide ((L : Int) < 0) = false := by simp
  have g2 : decide ((c : Int) < 0) = false := by simp
  have g3 : decide (lns s.data.toList < L) = false := by simp; omega
  clear hlen hu h
  have hfl := field1
  go_enter Try.func20, Try.ntmps20
  go_wp2_with fail
  refine (refOf s w hs).mono ?_
  rintro e w1 ⟨rfl, hb1⟩
  go_wp2_with fail
  go_loopw [8] (fun i wr => ∃ k : Nat, k ≤ at' ∧ i = .int .i64 k ∧ Below w.heap.size w wr) (fun i _ => at' + 1 - (intOf i).toNat)
  case atStart => exact ⟨0, Nat.zero_le _, rfl, hb1⟩
  case round =>
    obtain ⟨k, hk, rfl, hbr⟩ := hrel
    have hk2 : k ≤ s.size := by omega
    by_cases hlt : k < at'
    · have hne : ¬ At s.data.toList L c k := fun hK => by have := HU.out k hk2 hK; omega
      have HO := Lib.hid (fun w => refOf_take s k w hs hk2)
      by_cases hl : lns (s.data.toList.take k) = L
      · have hcn : ¬ col (s.data.toList.take k) = c := fun e => hne ⟨hl, e⟩
        have t1 : (((lns (s.data.toList.take k) : Nat) : Int) == (L : Int)) = true := by simp [hl]
        have t2 : (((col (s.data.toList.take k) : Nat) : Int) == (c : Int)) = false := by simp; omega
        clear hl hcn hne
        go_wp2_with fail
        refine (HO.out _).mono ?_
        rintro e w2 ⟨rfl, hb2⟩
        go_wp2
        refine ⟨⟨k + 1, by omega, by go_num, ?_⟩, by simp [intOf]; omega⟩
        exact balloc (bstep hbr hb2) _
      · have t1 : (((lns (s.data.toList.take k) : Nat) : Int) == (L : Int)) = false := by simp; omega
        clear hl hne
        go_wp2_with fail
        refine (HO.out _).mono ?_
        rintro e w2 ⟨rfl, hb2⟩
        go_wp2
        refine ⟨⟨k + 1, by omega, by go_num, ?_⟩, by simp [intOf]; omega⟩
        exact balloc (bstep hbr hb2) _
    · have e : k = at' := by omega
      subst e
      have t1 : (((lns (s.data.toList.take k) : Nat) : Int) == (L : Int)) = true := by simp [HA.out.1]
      have t2 : (((col (s.data.toList.take k) : Nat) : Int) == (c : Int)) = true := by simp [HA.out.2]
      have HO := Lib.hid (fun w => refOf_take s k w hs hk2)
      go_wp2_with fail
      refine (HO.out _).mono ?_
      rintro e w2 ⟨rfl, hb2⟩
      go_wp2
      go_ret2
      exact ⟨rfl, balloc (bstep hbr hb2) _⟩

set_option maxHeartbeats 1000000 in
theorem refFind_none (s : ByteArray) (L c : Nat) (w : World) (hs'' : s.size ≤ 140737488351232) (hs : s.size ≤ maxLen) (hL : L ≤ lns s.data.toList) (h : ∀ k, k ≤ s.size → ¬ At s.data.toList L c k) :
    Calls Try.prog 20 #[.string s, .int .i64 L, .int .i64 c] w fun e w' => e = .returned (.tuple #[.int .i64 0, .int .i64 7]) ∧ Below w.heap.size w w' := by
  have HU := Lib.hid h
  have g1 : decide ((L : Int) < 0) = false := by simp
  have g2 : decide ((c : Int) < 0) = false := by simp
  have g3 : decide (lns s.data.toList < L) = false := by simp; omega
  clear h
  have hfl := field1
  go_enter Try.func20, Try.ntmps20
  go_wp2_with fail
  refine (refOf s w hs).mono ?_
  rintro e w1 ⟨rfl, hb1⟩
  go_wp2_with fail
  go_loopw [8] (fun i wr => ∃ k : Nat, k ≤ s.size + 1 ∧ i = .int .i64 k ∧ Below w.heap.size w wr) (fun i _ => s.size + 1 - (intOf i).toNat)
  case atStart => exact ⟨0, Nat.zero_le _, rfl, hb1⟩
  case round =>
    obtain ⟨k, hk, rfl, hbr⟩ := hrel
    by_cases hk2 : k ≤ s.size
    · have hne := HU.out k hk2
      have HO := Lib.hid (fun w => refOf_take s k w hs hk2)
      by_cases hl : lns (s.data.toList.take k) = L
      · have hcn : ¬ col (s.data.toList.take k) = c := fun e => hne ⟨hl, e⟩
        have t1 : (((lns (s.data.toList.take k) : Nat) : Int) == (L : Int)) = true := by simp [hl]
        have t2 : (((col (s.data.toList.take k) : Nat) : Int) == (c : Int)) = false := by simp; omega
        clear hl hcn hne
        go_wp2_with fail
        refine (HO.out _).mono ?_
        rintro e w2 ⟨rfl, hb2⟩
        go_wp2
        refine ⟨⟨k + 1, by omega, by go_num, ?_⟩, by simp [intOf]; omega⟩
        exact balloc (bstep hbr hb2) _
      · have t1 : (((lns (s.data.toList.take k) : Nat) : Int) == (L : Int)) = false := by simp; omega
        clear hl hne
        go_wp2_with fail
        refine (HO.out _).mono ?_
        rintro e w2 ⟨rfl, hb2⟩
        go_wp2
        refine ⟨⟨k + 1, by omega, by go_num, ?_⟩, by simp [intOf]; omega⟩
        exact balloc (bstep hbr hb2) _
    · go_wp2_with fail
      go_ret2
      exact ⟨rfl, hbr⟩

set_option maxHeartbeats 1000000 in
theorem posFinds (s : ByteArray) (L c : Int) (w : World) (hr : s.size ≤ 140737488351232) (wL : (Lit.int .i64 L).wf = true) (_wc : (Lit.int .i64 c).wf = true) : Calls Try.prog 7 #[.string s, .int .i64 L, .int .i64 c] w fun e w' => e = .returned (.bool true) ∧ Below w.heap.size w w' := by
  have hs : s.size ≤ maxLen := by unfold maxLen; omega
  have hL2 : L ≤ 9223372036854775807 := by
    have : -9223372036854775808 ≤ L ∧ L ≤ 9223372036854775807 := by simpa [Lit.wf, IntKind.min, IntKind.max, IntKind.signed, IntKind.bits] using wL
    exact this.2
  by_cases h : L < 0 ∨ c < 0 ∨ (lns s.data.toList : Int) < L
  · have H1 := Lib.hid (fun w => find_range s L c w hs h hL2)
    have H2 := Lib.hid (fun w => refFind_range s L c w hs h)
    clear h hL2
    go_enter Try.func7, Try.ntmps7
    go_wp2_with fail
    refine (H1.out _).mono ?_
    rintro e w1 ⟨rfl, rfl⟩
    go_wp2_with fail
    refine (H2.out _).mono ?_
    rintro e w2 ⟨rfl, hb2⟩
    go_wp2
    go_ret
    exact ⟨rfl, hb2⟩
  · obtain ⟨L, rfl⟩ := Int.eq_ofNat_of_zero_le (show 0 ≤ L by omega)
    obtain ⟨c, rfl⟩ := Int.eq_ofNat_of_zero_le (show 0 ≤ c by omega)
    have hL : L ≤ lns s.data.toList := by omega
    clear h
    obtain ⟨h1, h2, h3⟩ := lineAt_spec s.data.toList L hL
    have hlen : s.data.toList.length = s.size := by simp
    by_cases hc : c ≤ first (s.data.toList.drop (lineAt s.data.toList L))
    · have hf := first_le (s.data.toList.drop (lineAt s.data.toList L))
      rw [List.length_drop] at hf
      have hat : lineAt s.data.toList L + c ≤ s.data.toList.length := by omega
      have hA : At s.data.toList L c (lineAt s.data.toList L + c) := (place_iff s.data.toList h1 h2 h3 hat).2 ⟨rfl, hc⟩
      have H1 := Lib.hid (fun w => find_yes s L c w hs hL hc)
      have H2 := Lib.hid (fun w => refFind_yes s L c (lineAt s.data.toList L + c) w hs hL (by omega) hA)
      clear h1 h2 h3 hc hf hA hat hlen
      generalize lineAt s.data.toList L + c = n at *
      go_enter Try.func7, Try.ntmps7
      go_wp2_with fail
      refine (H1.out _).mono ?_
      rintro e w1 ⟨rfl, rfl⟩
      go_wp2_with fail
      refine (H2.out _).mono ?_
      rintro e w2 ⟨rfl, hb2⟩
      go_wp2
      go_ret
      exact ⟨by simp, hb2⟩
    · have hN : ∀ k, k ≤ s.size → ¬ At s.data.toList L c k := fun k hk hA => hc ((place_iff s.data.toList h1 h2 h3 (by omega)).1 hA).2
      have H1 := Lib.hid (fun w => find_none s L c w hs hL (by omega))
      have H2 := Lib.hid (fun w => refFind_none s L c w hr hs hL hN)
      clear h1 h2 h3 hc hN hlen
      go_enter Try.func7, Try.ntmps7
      go_wp2_with fail
      refine (H1.out _).mono ?_
      rintro e w1 ⟨rfl, rfl⟩
      go_wp2_with fail
      refine (H2.out _).mono ?_
      rintro e w2 ⟨rfl, hb2⟩
      go_wp2
      go_ret
      exact ⟨by simp, hb2⟩

end Go.Proofs.Ytajnebmijplkeaa.PosC
