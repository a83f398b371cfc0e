/-
  slices.SortStableFunc at []int, with the comparison that marks.sorted hands in, at the row 0, 1, 2 ..
-/
import Derived.Test.YtllpglanpfjcnaaSortMid
namespace Go.Proofs.Ytllpglanpfjcnaa.SortC
open Go.RowKit Kit SortM

/-- the k-th block of s places is sorted, and holds its own numbers -/
def Bl (lt : Nat → Nat → Prop) (s n k : Nat) (d : Nat → Nat) : Prop := Srt lt (k * s) (min (k * s + s) n) d ∧ ∀ i, k * s ≤ i → i < min (k * s + s) n → k * s ≤ d i ∧ d i < k * s + s
section
variable {lt : Nat → Nat → Prop} {s n k : Nat} {d d1 : Nat → Nat}
theorem Bl.keep {a b : Nat} (h : Bl lt s n k d) (hm : Moved a b d d1) (hk : k * s + s ≤ a ∨ b ≤ k * s) : Bl lt s n k d1 := by
  have e : ∀ i, k * s ≤ i → i < min (k * s + s) n → d1 i = d i := fun i h1 h2 => hm.out (by omega)
  exact ⟨h.1.eq e, fun i h1 h2 => by rw [e i h1 h2]; exact h.2 i h1 h2⟩
theorem Bl.void (h : n ≤ k * s) : Bl lt s n k d := ⟨fun i j h1 h2 h3 => by omega, fun i h1 h2 => by omega⟩
theorem mul_step {k c : Nat} (h : k < c) (s : Nat) : k * s + s ≤ c * s := by
  have := Nat.mul_le_mul_right s (Nat.succ_le_of_lt h)
  rw [Nat.succ_mul] at this
  exact this

/-- the first loop: c blocks are sorted -/
structure L1 (lt : Nat → Nat → Prop) (n c : Nat) (d : Nat → Nat) : Prop where
  bl : ∀ k, k < c → Bl lt 20 n k d
  rest : ∀ i, c * 20 ≤ i → d i = i
  mv : Moved 0 n (fun i => i) d
theorem L1.next {c : Nat} (h : L1 lt n c d) (hb : c * 20 + 20 ≤ n) (hm : Moved (c * 20) (c * 20 + 20) d d1) (hs : Srt lt (c * 20) (c * 20 + 20) d1) : L1 lt n (c + 1) d1 := by
  refine ⟨fun k hk => ?_, fun i hi => ?_, h.mv.trans (hm.mono (Nat.zero_le _) hb)⟩
  · by_cases e : k = c
    · subst e
      refine ⟨by rw [Nat.min_eq_left hb]; exact hs, fun i h1 h2 => ?_⟩
      exact hm.all (p := fun x => k * 20 ≤ x ∧ x < k * 20 + 20) (fun j h3 h4 => by rw [h.rest j h3]; exact ⟨h3, h4⟩) i h1 (by omega)
    · exact (h.bl k (by omega)).keep hm (.inl (mul_step (by omega) 20))
  · rw [hm.out (by omega)]; exact h.rest i (by omega)
/-- the second loop: all blocks of s places are sorted -/
structure L2 (lt : Nat → Nat → Prop) (n s : Nat) (d : Nat → Nat) : Prop where
  bl : ∀ k, Bl lt s n k d
  mv : Moved 0 n (fun i => i) d
theorem L1.last {c : Nat} (h : L1 lt n c d) (hc : c * 20 ≤ n) (hb : n < c * 20 + 20) (hm : Moved (c * 20) n d d1) (hs : Srt lt (c * 20) n d1) : L2 lt n 20 d1 := by
  refine ⟨fun k => ?_, h.mv.trans (hm.mono (Nat.zero_le _) (Nat.le_refl _))⟩
  rcases Nat.lt_trichotomy k c with e | e | e
  · exact (h.bl k e).keep hm (.inl (mul_step e 20))
  · subst e
    refine ⟨by rw [Nat.min_eq_right (by omega)]; exact hs, fun i h1 h2 => ?_⟩
    exact hm.all (p := fun x => k * 20 ≤ x ∧ x < k * 20 + 20) (fun j h3 h4 => by rw [h.rest j h3]; omega) i h1 (by omega)
  · exact Bl.void (by omega)
/-- the third loop: c blocks of 2 s places are sorted, and the others of s places -/
structure L3 (lt : Nat → Nat → Prop) (n s c : Nat) (d : Nat → Nat) : Prop where
  two : ∀ k, k < c → Bl lt (2 * s) n k d
  one : ∀ k, 2 * c ≤ k → Bl lt s n k d
  mv : Moved 0 n (fun i => i) d
theorem L3.start (h : L2 lt n s d) : L3 lt n s 0 d := ⟨fun k hk => by omega, fun k _ => h.bl k, h.mv⟩
theorem m0 (c s : Nat) : 2 * c * s = c * (2 * s) := by rw [Nat.mul_comm 2 c, Nat.mul_assoc]
theorem m1 (c s : Nat) : (2 * c + 1) * s = c * (2 * s) + s := by rw [Nat.succ_mul, m0]
theorem L3.din {c m : Nat} (h : L3 lt n s c d) (hb : c * (2 * s) + s ≤ n) (hm : m = min (c * (2 * s) + 2 * s) n) : MergeIn lt (c * (2 * s)) (c * (2 * s) + s) m d := by
  have A := h.one (2 * c) (Nat.le_refl _)
  have B := h.one (2 * c + 1) (by omega)
  unfold Bl at A B
  rw [m0] at A
  rw [m1] at B
  rw [Nat.min_eq_left hb] at A
  rw [show c * (2 * s) + s + s = c * (2 * s) + 2 * s by omega, ← hm] at B
  exact ⟨A.1, B.1, fun i j h1 h2 h3 h4 => by
    have := (A.2 i h1 h2).2
    have := (B.2 j h3 h4).1
    omega⟩
theorem L3.loc {c m : Nat} (h : L3 lt n s c d) (hm : m = min (c * (2 * s) + 2 * s) n) : ∀ i, c * (2 * s) ≤ i → i < m → c * (2 * s) ≤ d i ∧ d i < c * (2 * s) + 2 * s := by
  have A := h.one (2 * c) (Nat.le_refl _)
  have B := h.one (2 * c + 1) (by omega)
  unfold Bl at A B
  rw [m0] at A
  rw [m1] at B
  intro i h1 h2
  by_cases e : i < c * (2 * s) + s
  · have := A.2 i h1 (by omega); omega
  · have := B.2 i (by omega) (by omega); omega
theorem L3.next {c : Nat} (h : L3 lt n s c d) (hb : c * (2 * s) + 2 * s ≤ n) (hm : Moved (c * (2 * s)) (c * (2 * s) + 2 * s) d d1) (hs : Srt lt (c * (2 * s)) (c * (2 * s) + 2 * s) d1) : L3 lt n s (c + 1) d1 := by
  refine ⟨fun k hk => ?_, fun k hk => ?_, h.mv.trans (hm.mono (Nat.zero_le _) hb)⟩
  · by_cases e : k = c
    · subst e
      refine ⟨by rw [Nat.min_eq_left hb]; exact hs, fun i h1 h2 => ?_⟩
      exact hm.all (p := fun x => k * (2 * s) ≤ x ∧ x < k * (2 * s) + 2 * s) (h.loc (by rw [Nat.min_eq_left hb])) i h1 (by omega)
    · exact (h.two k (by omega)).keep hm (.inl (mul_step (by omega) _))
  · refine (h.one k (by omega)).keep hm (.inr ?_)
    have := Nat.mul_le_mul_right s hk
    rw [m0, Nat.succ_mul] at this
    exact this
theorem L3.last {c : Nat} (h : L3 lt n s c d) (hc : c * (2 * s) ≤ n) (hb : n < c * (2 * s) + 2 * s) (hm : Moved (c * (2 * s)) n d d1) (hs : Srt lt (c * (2 * s)) n d1) : L2 lt n (2 * s) d1 := by
  refine ⟨fun k => ?_, h.mv.trans (hm.mono (Nat.zero_le _) (Nat.le_refl _))⟩
  rcases Nat.lt_trichotomy k c with e | e | e
  · exact (h.two k e).keep hm (.inl (mul_step e _))
  · subst e
    refine ⟨by rw [Nat.min_eq_right (by omega)]; exact hs, fun i h1 h2 => ?_⟩
    exact hm.all (p := fun x => k * (2 * s) ≤ x ∧ x < k * (2 * s) + 2 * s) (h.loc (by rw [Nat.min_eq_right (by omega)])) i h1 (by omega)
  · have := mul_step e (2 * s)
    exact Bl.void (by omega)
theorem L3.alone {c : Nat} (h : L3 lt n s c d) (hb : n ≤ c * (2 * s) + s) : Srt lt (c * (2 * s)) n d := by
  have A := h.one (2 * c) (Nat.le_refl _)
  unfold Bl at A
  rw [m0, Nat.min_eq_right hb] at A
  exact A.1
theorem L2.done (h : L2 lt n s d) (hs : n ≤ s) : Moved 0 n (fun i => i) d ∧ Srt lt 0 n d := by
  have A := (h.bl 0).1
  rw [show min (0 * s + s) n = n by omega, Nat.zero_mul] at A
  exact ⟨h.mv, A⟩
end

set_option maxRecDepth 100000 in
set_option maxHeartbeats 4000000 in
theorem stable {cf : Nat → Nat → Int} {lt : Nat → Nat → Prop} (O : Ord cf lt) (w0 : World) (blk n cap : Nat) (pv qv : Value) (w : World) (h : SR w0 blk n (fun i => i) w) (HC : CmpOk pv qv cf w0 blk n) (hn : n ≤ 1000000) :
    Calls Try.prog 51 #[.slice (some ⟨blk, 0, none⟩) n cap, .int .i64 (n : Int), .func (.func 48) #[] #[pv, qv]] w (SortPost lt w0 blk n 0 n (fun i => i)) := by
  have HS := Lib.hid h
  have INS := Lib.hid (fun a b d w h h1 h2 h3 => insertion O w0 blk n cap a b pv qv d w h HC h1 h2 hn h3)
  have MRG := Lib.hid (fun a m b d w h1 h2 h3 hr hin => symMerge O w0 blk n cap pv qv HC hn (b - a + 1) a m b d w (by omega) h1 h2 h3 hr hin)
  clear h HC O
  go_enter Try.func51, Try.ntmps51
  go_wp2_with fail
  go_loopw [7, 8] (fun va vb wr => ∃ (c a b : Nat) (d : Nat → Nat), va = .int .i64 (a : Int) ∧ vb = .int .i64 (b : Int) ∧ a ≤ n ∧ b ≤ a + 20 ∧ a + 20 ≤ b ∧ Hid (a = c * 20 ∧ L1 lt n c d ∧ SR w0 blk n d wr)) (fun va _ _ => n - (intOf va).toNat)
  case atStart => exact ⟨0, 0, 20, fun i => i, rfl, rfl, by omega, by omega, by omega, Lib.hid ⟨by omega, ⟨fun k hk => by omega, fun i _ => rfl, Moved.refl _ _ _⟩, HS.out⟩⟩
  case round =>
    obtain ⟨c, a, b, d, rfl, rfl, han, hb1, hb2, HK⟩ := hrel
    clear HS
    by_cases hlt : b ≤ n
    · have C := Lib.hid (INS.out a b d wr HK.out.2.2 (by omega) hlt (fun i j h1 h2 h3 => by rw [HK.out.2.1.rest i (by have := HK.out.1; omega), HK.out.2.1.rest j (by have := HK.out.1; omega)]; exact h2))
      go_wp2_with fail
      refine C.out.mono ?_
      rintro e w1 ⟨rfl, d1, hm1, hs1, hr1⟩
      have K2 : Hid (b = (c + 1) * 20 ∧ L1 lt n (c + 1) d1 ∧ SR w0 blk n d1 w1) := Lib.hid (by
        have e0 := HK.out.1
        have e1 : b = c * 20 + 20 := by omega
        rw [e1, e0] at hm1 hs1
        exact ⟨by omega, HK.out.2.1.next (by omega) hm1 hs1, hr1⟩)
      clear hm1 hs1 hr1 C HK INS MRG
      go_wp2_with fail
      go_roundw
      case rel => exact ⟨c + 1, b, b + 20, d1, rfl, by go_num, by omega, by omega, by omega, K2⟩
      case measure => simp [intOf]; omega
    · have C := Lib.hid (INS.out a n d wr HK.out.2.2 (by omega) (Nat.le_refl _) (fun i j h1 h2 h3 => by rw [HK.out.2.1.rest i (by have := HK.out.1; omega), HK.out.2.1.rest j (by have := HK.out.1; omega)]; exact h2))
      go_wp2_with fail
      refine C.out.mono ?_
      rintro e w1 ⟨rfl, d1, hm1, hs1, hr1⟩
      have K2 : Hid (L2 lt n 20 d1 ∧ SR w0 blk n d1 w1) := Lib.hid (by
        have e0 := HK.out.1
        rw [e0] at hm1 hs1
        exact ⟨HK.out.2.1.last (by omega) (by omega) hm1 hs1, hr1⟩)
      clear hm1 hs1 hr1 C HK INS
      go_wp2_with fail
      go_loopw [6] (fun vs wr => ∃ (s : Nat) (d : Nat → Nat), vs = .int .i64 (s : Int) ∧ 20 ≤ s ∧ s ≤ 2000000 ∧ Hid (L2 lt n s d ∧ SR w0 blk n d wr)) (fun vs _ => n - (intOf vs).toNat)
      case atStart => exact ⟨20, d1, rfl, by omega, by omega, K2⟩
      case round =>
        obtain ⟨s, ds, rfl, hs20, hs2, HL⟩ := hrel
        clear K2
        by_cases hsn : s < n
        · go_wp2_with fail
          go_loopw [7, 8] (fun va vb wr => ∃ (c a b : Nat) (d : Nat → Nat), va = .int .i64 (a : Int) ∧ vb = .int .i64 (b : Int) ∧ a ≤ n ∧ b ≤ a + 2 * s ∧ a + 2 * s ≤ b ∧ Hid (a = c * (2 * s) ∧ L3 lt n s c d ∧ SR w0 blk n d wr)) (fun va _ _ => n - (intOf va).toNat)
          case atStart => exact ⟨0, 0, 2 * s, ds, rfl, by go_num, by omega, by omega, by omega, Lib.hid ⟨by omega, L3.start HL.out.1, HL.out.2⟩⟩
          case round =>
            obtain ⟨c, a, b, d, rfl, rfl, han, hb1, hb2, HK⟩ := hrel
            clear HL
            obtain ⟨m, hm⟩ : ∃ m, m = a + s := ⟨_, rfl⟩
            have ez : (a : Int) + (s : Int) = (m : Int) := by omega
            have hm1 : m ≤ a + s := by omega
            have hm2 : a + s ≤ m := by omega
            have HM := Lib.hid hm
            clear hm
            by_cases hlt : b ≤ n
            · have DIN : MergeIn lt a m b d := by
                have e0 := HK.out.1
                have := HK.out.2.1.din (m := b) (by omega) (by omega)
                rw [← e0, ← HM.out] at this
                exact this
              have C := Lib.hid (MRG.out a m b d wr (by omega) (by omega) hlt HK.out.2.2 DIN)
              clear DIN
              go_wp2_with fail
              refine C.out.mono ?_
              rintro e w1 ⟨rfl, d1, hm1, hs1, hr1⟩
              have K2 : Hid (b = (c + 1) * (2 * s) ∧ L3 lt n s (c + 1) d1 ∧ SR w0 blk n d1 w1) := Lib.hid (by
                have e0 := HK.out.1
                have e1 : b = c * (2 * s) + 2 * s := by omega
                rw [e1, e0] at hm1 hs1
                exact ⟨by rw [Nat.succ_mul]; exact e1, HK.out.2.1.next (by omega) hm1 hs1, hr1⟩)
              clear hm1 hs1 hr1 C HK MRG HM
              go_wp2_with fail
              go_roundw
              case rel => exact ⟨c + 1, b, b + 2 * s, d1, rfl, by go_num, by omega, by omega, by omega, K2⟩
              case measure => simp [intOf]; omega
            · by_cases hmn : m < n
              · have DIN : MergeIn lt a m n d := by
                  have e0 := HK.out.1
                  have := HK.out.2.1.din (m := n) (by omega) (by omega)
                  rw [← e0, ← HM.out] at this
                  exact this
                have C := Lib.hid (MRG.out a m n d wr (by omega) (by omega) (Nat.le_refl _) HK.out.2.2 DIN)
                clear DIN
                go_wp2_with fail
                refine C.out.mono ?_
                rintro e w1 ⟨rfl, d1, hm1, hs1, hr1⟩
                have K2 : Hid (L2 lt n (s * 2) d1 ∧ SR w0 blk n d1 w1) := Lib.hid (by
                  have e0 := HK.out.1
                  rw [e0] at hm1 hs1
                  rw [Nat.mul_comm s 2]
                  exact ⟨HK.out.2.1.last (by omega) (by omega) hm1 hs1, hr1⟩)
                clear hm1 hs1 hr1 C HK MRG HM
                go_wp2_with fail
                go_roundw
                case rel => exact ⟨s * 2, d1, by go_num, by omega, by omega, K2⟩
                case measure => simp [intOf]; omega
              · have K2 : Hid (L2 lt n (s * 2) d ∧ SR w0 blk n d wr) := Lib.hid (by
                  have e0 := HK.out.1
                  rw [Nat.mul_comm s 2]
                  exact ⟨HK.out.2.1.last (by omega) (by omega) (Moved.refl _ _ _) (HK.out.2.1.alone (by omega)), HK.out.2.2⟩)
                clear HK MRG HM
                go_wp2_with fail
                go_roundw
                case rel => exact ⟨s * 2, d, by go_num, by omega, by omega, K2⟩
                case measure => simp [intOf]; omega
        · have FIN := Lib.hid (And.intro (HL.out.1.done (by omega)) HL.out.2)
          clear HL MRG
          go_wp2_with fail
          go_end0
          exact ⟨rfl, ds, FIN.out.1.1, FIN.out.1.2, FIN.out.2⟩

set_option maxRecDepth 100000 in
set_option maxHeartbeats 1000000 in
theorem sortStable {cf : Nat → Nat → Int} {lt : Nat → Nat → Prop} (O : Ord cf lt) (w0 : World) (blk n cap : Nat) (pv qv : Value) (w : World) (h : SR w0 blk n (fun i => i) w) (HC : CmpOk pv qv cf w0 blk n) (hn : n ≤ 1000000) :
    Calls Try.prog 47 #[.slice (some ⟨blk, 0, none⟩) n cap, .func (.func 48) #[] #[pv, qv]] w (SortPost lt w0 blk n 0 n (fun i => i)) := by
  have ST := Lib.hid (stable O w0 blk n cap pv qv w h HC hn)
  clear h HC O
  go_enter Try.func47, Try.ntmps47
  go_wp2_with fail
  refine ST.out.mono ?_
  rintro e w1 ⟨rfl, hw1⟩
  have HW := Lib.hid hw1
  clear hw1 ST
  go_wp2_with fail
  go_end0
  exact ⟨rfl, HW.out⟩

end Go.Proofs.Ytllpglanpfjcnaa.SortC
