/-
  The document's answer: SpansShift.
-/
import Derived.Test.YtdiogfhbgmkajaaRefSet2
import Derived.Test.YtdiogfhbgmkajaaSpanShift2
import Derived.Test.YtdiogfhbgmkajaaEditFaultRef
namespace Go.Proofs.Ytdiogfhbgmkajaa.SpanM
open Go.RowKit Kit
/-- the truths that the first i places give behind an edit -/
def shB (l : List SpM) (a c k : Nat) (i q : Nat) : Bool := if q < a then (decide (q < i) && inB l q) else if a + k ≤ q then (decide (q + c < i + k) && inB l ((q : Int) - k + c)) else false
theorem shB_skip {l : List SpM} {a c k i q : Nat} (h : inB l i = false ∨ (a ≤ i ∧ i < a + c)) : shB l a c k i q = shB l a c k (i + 1) q := by
  unfold shB
  split
  · rename_i h1
    by_cases e : q = i
    · subst e
      rcases h with h | h
      · simp [h]
      · omega
    · rw [show decide (q < i) = decide (q < i + 1) from decide_eq_decide.2 (by omega)]
  · split
    · rename_i h1 h2
      by_cases e : q + c = i + k
      · rcases h with h | h
        · rw [show (q : Int) - k + c = i by omega, h]; simp
        · omega
      · rw [show decide (q + c < i + k) = decide (q + c < i + 1 + k) from decide_eq_decide.2 (by omega)]
    · rfl
theorem shB_low {l : List SpM} {a c k i q : Nat} (h : inB l i = true) (hi : i < a) : (if q = i then true else shB l a c k i q) = shB l a c k (i + 1) q := by
  by_cases e : q = i
  · subst e
    rw [if_pos rfl]
    unfold shB
    rw [if_pos hi, h]; simp
  · rw [if_neg e]
    unfold shB
    split
    · rw [show decide (q < i) = decide (q < i + 1) from decide_eq_decide.2 (by omega)]
    · split
      · rw [show decide (q + c < i + k) = decide (q + c < i + 1 + k) from decide_eq_decide.2 (by omega)]
      · rfl
theorem shB_high {l : List SpM} {a c k i q : Nat} (h : inB l i = true) (hi : a + c ≤ i) : (if q = i + k - c then true else shB l a c k i q) = shB l a c k (i + 1) q := by
  by_cases e : q = i + k - c
  · rw [if_pos e]
    unfold shB
    rw [if_neg (by omega), if_pos (by omega), show (q : Int) - k + c = i by omega, h]
    simp; omega
  · rw [if_neg e]
    unfold shB
    split
    · rw [show decide (q < i) = decide (q < i + 1) from decide_eq_decide.2 (by omega)]
    · split
      · rw [show decide (q + c < i + k) = decide (q + c < i + 1 + k) from decide_eq_decide.2 (by omega)]
      · rfl
theorem shB_nil {l : List SpM} {a c k q : Nat} (_h : k = 0 ∨ True) : shB l a c k 0 q = false := by
  unfold shB
  split
  · simp
  · split
    · rename_i h1 h2
      rw [decide_eq_false (by omega)]; rfl
    · rfl
/-- all of them -/
def shA (l : List SpM) (a c k n q : Nat) : Bool := shB l a c k n q || (decide (a ≤ q) && decide (q < a + k))
theorem shA_runs {l : List SpM} {a c k n m : Nat} (hv : Valid n l) (hac : a + c ≤ n) (hm : m + c = n + k) : runs (shA l a c k n) m = atts [] (shiS l a c k) := by
  obtain ⟨w1, w2⟩ := shi_norm (a := (a : Int)) (c := (c : Int)) (k := (k : Int)) hv.norm (by omega)
  refine runs_eq w1 fun j => ?_
  rw [w2]
  constructor
  · rintro (⟨h1, h2⟩ | ⟨h1, h2⟩ | ⟨h1, h2⟩)
    · obtain ⟨y, hy, y1, y2⟩ := h2
      have hr := hv.rng y hy
      refine ⟨by omega, by omega, ?_⟩
      unfold shA shB
      rw [if_pos (by omega), show ((j.toNat : Nat) : Int) = j by omega, inB_iff.2 ⟨y, hy, y1, y2⟩]
      simp; left; omega
    · refine ⟨by omega, by omega, ?_⟩
      unfold shA
      rw [decide_eq_true (show a ≤ j.toNat by omega), decide_eq_true (show j.toNat < a + k by omega)]; simp
    · obtain ⟨y, hy, y1, y2⟩ := h2
      have hr := hv.rng y hy
      refine ⟨by omega, by omega, ?_⟩
      unfold shA shB
      rw [if_neg (by omega), if_pos (by omega), show ((j.toNat : Nat) : Int) = j by omega, inB_iff.2 ⟨y, hy, y1, y2⟩]
      simp; left; omega
  · rintro ⟨j0, j1, hb⟩
    unfold shA shB at hb
    rw [show ((j.toNat : Nat) : Int) = j by omega, Bool.or_eq_true] at hb
    rcases hb with hb | hb
    · split at hb
      · rw [Bool.and_eq_true] at hb
        exact .inl ⟨by omega, inB_iff.1 hb.2⟩
      · split at hb
        · rw [Bool.and_eq_true] at hb
          exact .inr (.inr ⟨by omega, inB_iff.1 hb.2⟩)
        · cases hb
    · simp at hb
      exact .inr (.inl (by omega))
end Go.Proofs.Ytdiogfhbgmkajaa.SpanM
namespace Go.Proofs.Ytdiogfhbgmkajaa.SpanR
open Go.RowKit Kit SpanM SpanC EditM

theorem placed_low {a c x : Int} {k : Nat} (h : x < a) : placed a c k x true = x := by unfold placed; rw [if_pos h]
/-- a row of truths that is only read -/
structure RD (blk n : Nat) (b : Nat → Bool) (W : World) : Prop where
  lt : blk < W.heap.size
  cell : ∀ i, i < n → W.cell? ⟨blk, i, none⟩ = some (.bool (b i))
theorem RD.next {blk n : Nat} {b : Nat → Bool} {W W' : World} (h : RD blk n b W) (hb : Below W.heap.size W W') : RD blk n b W' := ⟨Nat.lt_of_lt_of_le h.lt hb.size, fun i hi => (hb.cell (p := ⟨blk, i, none⟩) h.lt).trans (h.cell i hi)⟩
theorem RD.other {blk n : Nat} {b : Nat → Bool} {W : World} (h : RD blk n b W) {j o : Nat} (hj : blk ≠ j) (v : Value) : RD blk n b (W.setCell ⟨j, o, none⟩ v) := ⟨by rw [setZ]; exact h.lt, fun i hi => (setO (.inl hj) _).trans (h.cell i hi)⟩
set_option maxRecDepth 100000 in
set_option maxHeartbeats 4000000 in
theorem shift_ok_ref (n : Int) (l : List SpM) (al : Option Addr) (cap : Nat) (a c : Int) (p : ByteArray) (w : World) (hl : SpsAt w al l) (hv : Valid n l) (hf : fault n a c p.size = 0) (hp : p.size ≤ 140737488351232) (ha : a ≤ 9223372036854775807) (hc : c ≤ 9223372036854775807) (es : List SpM) (hes : es = atts [] (shiS l a c p.size)) (cd : Int) (hcd : cd = if 40 < es.length then 8 else 0) :
    Calls Try.prog 22 #[.int .i64 n, .slice al l.length cap, .agg #[.int .i64 a, .int .i64 c, .string p]] w (SetPost cd es w) := by
  obtain ⟨w0, hw0⟩ : ∃ w0, w0 = w.alloc (.cells #[.int .i64 a, .int .i64 c, .string p] 33) := ⟨_, rfl⟩
  have HL : Hid (SpsAt w0 al l) := Lib.hid (by rw [hw0]; exact hl.next (balloc (Below.refl _ _) _))
  have HB : Hid (B3 w.heap.size (.int .i64 a) (.int .i64 c) (.string p) w0) := Lib.hid (by rw [hw0]; exact B3.new _ _ _ _ _)
  have HW : Hid (Below w.heap.size w w0) := Lib.hid (by rw [hw0]; exact balloc (Below.refl _ _) _)
  have hws : w.heap.size < w0.heap.size := HB.out.lt
  have h40 := hv.len
  have MY := Lib.hid (may_ref n l al cap w0 HL.out (by omega))
  rw [mayB_yes hv] at MY
  have CK := Lib.hid (fun W => EditR.fault_ref n a c p W ha hc hp)
  rw [hf] at CK
  obtain ⟨f1, f2, f3, f4, f5, f6⟩ := fault_zero.1 hf
  obtain ⟨n, rfl⟩ := Int.eq_ofNat_of_zero_le f1
  obtain ⟨a, rfl⟩ := Int.eq_ofNat_of_zero_le f3
  obtain ⟨c, rfl⟩ := Int.eq_ofNat_of_zero_le f4
  obtain ⟨m, hm⟩ : ∃ m : Nat, m + c = n + p.size := ⟨n + p.size - c, by omega⟩
  have IS := Lib.hid (fun W (hW : Below w0.heap.size w0 W) => inSet n l al cap W (HL.out.next hW) hv)
  have EV : Hid (∀ (x : Int) W, 0 ≤ x → x ≤ 600 → Calls Try.prog 49 #[.agg #[.int .i64 (a : Int), .int .i64 (c : Int), .string p], .int .i64 x, .bool true] W fun e w' => e = .returned (.int .i64 (placed a c p.size x true)) ∧ Below W.heap.size W w') := Lib.hid fun x W h0 h1 => EditR.editPlace a c x p true W (by omega) (by omega) (by omega) (by omega) h0 (by omega) hp
  have RE := Lib.hid (shA_runs hv (show a + c ≤ n by omega) hm)
  rw [← hes] at RE
  have SO : Hid (∀ W blk, blk < W.heap.size → (∀ i, i < m → W.cell? ⟨blk, i, none⟩ = some (.bool (shA l a c p.size n i))) → Calls Try.prog 41 #[.slice (some ⟨blk, 0, none⟩) m m] W (SetPost cd es W)) := Lib.hid fun W blk hb hcc => by
    have := setOf m blk m (shA l a c p.size n) W hb hcc (by omega)
    rw [RE.out, ← hcd] at this
    exact this
  obtain ⟨N, hN⟩ : ∃ N, N = l.length := ⟨_, rfl⟩
  rw [← hN] at h40 MY IS ⊢
  have EB : Hid (∀ W, Below w0.heap.size w0 W → B3 w.heap.size (.int .i64 (a : Int)) (.int .i64 (c : Int)) (.string p) W) := Lib.hid fun W hW => HB.out.next hW
  obtain ⟨j0, hi, hz0, hz1, hz2⟩ := info_parts infoBool
  have HJ := Lib.hid (And.intro hi (And.intro hz0 (And.intro hz1 hz2)))
  clear hi hz0 hz1 hz2
  have hms : (n : Int) + (p.size : Int) - (c : Int) = (m : Int) := by omega
  have r1 : IntKind.i64.wrap ((n : Int) + (p.size : Int)) = (n : Int) + (p.size : Int) := IntWalk.i64_in _ (by omega)
  have r2 : IntKind.i64.wrap ((n : Int) + (p.size : Int) - (c : Int)) = (m : Int) := by rw [hms]; exact IntWalk.i64_in _ (by omega)
  have r3 : IntKind.i64.wrap (m : Int) = (m : Int) := IntWalk.i64_in _ (by omega)
  clear hl hN hv hf hes hcd HB RE HL
  go_enter Try.func22, Try.ntmps22
  go_wp2_with fail
  rw [← hw0]
  clear hw0
  refine MY.out.mono ?_
  rintro e w1 ⟨rfl, hb1⟩
  obtain ⟨_, d0, d1, d2, _, _, _⟩ := EB.out _ hb1
  have B1 := Lib.hid hb1
  clear hb1 MY
  go_wp2_with fail
  refine (CK.out _).mono ?_
  rintro e w2 ⟨rfl, hb2⟩
  have B2' := Lib.hid (bstep B1.out hb2)
  clear hb2 CK d0 d1 d2
  obtain ⟨_, d0, d1, d2, _, _, _⟩ := EB.out _ B2'.out
  go_wp2_with (refine wpList_make_full _ rfl _ _ 45 rfl w.heap.size 4 j0 _ 1 Try.underlying45 HJ.out.1 HJ.out.2.1 HJ.out.2.2.1 .i64 .i64 _ _ m rfl rfl rfl rfl (by rw [HJ.out.2.2.2]; omega) (by unfold maxLen; omega) (by have := HW.out.size; have := B2'.out.size; omega) ?_; intro w3 hown hgrow)
  have R0 := Lib.hid (RB.made (grows_below hgrow) hown)
  have BG := Lib.hid (grows_below hgrow)
  clear hown hgrow HJ
  have hb23 : w2.heap.size < w3.heap.size := R0.out.lt
  have hb02 : w0.heap.size ≤ w2.heap.size := B2'.out.size
  refine (IS.out _ (bstep B2'.out BG.out)).mono ?_
  rintro e w4 ⟨rfl, hr⟩
  have R1 : Hid (RB w2 w2.heap.size m (shB l a c p.size 0) w4 ∧ RD w3.heap.size n (fun j => inB l j) w4) := Lib.hid ⟨(R0.out.next hr.bel).congr fun q _ => (shB_nil (.inr trivial)).symm, hr.lt, hr.cell⟩
  clear hr R0 IS BG
  obtain ⟨blk, hblk⟩ : ∃ blk, blk = w2.heap.size := ⟨_, rfl⟩
  obtain ⟨blk2, hblk2⟩ : ∃ blk2, blk2 = w3.heap.size := ⟨_, rfl⟩
  clear d0 d1 d2
  go_wp2_with fail
  rw [← hblk] at hb23 hb02 R1 ⊢
  rw [← hblk2] at hb23 R1 ⊢
  have EC : Hid (∀ W, Below blk w2 W → B3 w.heap.size (.int .i64 (a : Int)) (.int .i64 (c : Int)) (.string p) W) := Lib.hid fun W hW => EB.out W (B2'.out.trans (hW.mono hb02))
  have FB : Hid (∀ W, Below blk w2 W → Below w.heap.size w W) := Lib.hid fun W hW => (HW.out.trans (B2'.out.mono HW.out.size)).trans (hW.mono (by have := HW.out.size; omega))
  clear hblk hblk2 EB B2' B1 HW
  go_loopw [36] (fun vi wr => ∃ i : Nat, i ≤ n ∧ vi = .int .i64 (i : Int) ∧ Hid (RB w2 blk m (shB l a c p.size i) wr ∧ RD blk2 n (fun j => inB l j) wr)) (fun vi _ => n - (intOf vi).toNat)
  case atStart => exact ⟨0, by omega, rfl, R1⟩
  case round =>
    obtain ⟨i, hi, rfl, HI⟩ := hrel
    clear R1
    obtain ⟨_, d0, d1, d2, _, _, _⟩ := EC.out _ HI.out.1.bel
    by_cases hlt : i < n
    · have ci := HI.out.2.cell i hlt
      have i1 : (i : Int) < (n : Int) := by omega
      have i2 : (0 : Int) ≤ (i : Int) := by omega
      have r4 : IntKind.i64.wrap ((a : Int) + (c : Int)) = (a : Int) + (c : Int) := IntWalk.i64_in _ (by omega)
      have PL := Lib.hid (fun W => EV.out (i : Int) W (by omega) (by omega))
      cases hin : inB l (i : Int)
      · rw [hin] at ci
        have FIN : Hid (RB w2 blk m (shB l a c p.size (i + 1)) wr ∧ RD blk2 n (fun j => inB l j) wr) := Lib.hid ⟨HI.out.1.congr fun q _ => shB_skip (.inl hin), HI.out.2⟩
        clear hin HI PL
        go_wp2_with fail
        go_roundw
        case rel => exact ⟨i + 1, by omega, by go_num, FIN⟩
        case measure => simp [intOf]; omega
      · rw [hin] at ci
        by_cases h1 : i < a
        · have hin2 : i < m := by omega
          rw [placed_low (by omega)] at PL
          have q1 : (i : Int) < (a : Int) := by omega
          have j1 : (i : Int) < (m : Int) := by omega
          have HIN := Lib.hid hin
          clear hin
          go_wp2_with fail
          refine (PL.out _).mono ?_
          rintro e w5 ⟨rfl, hb5⟩
          have sc := (HI.out.1.next hb5).cell i hin2
          have fz := (HI.out.1.next hb5).free i hin2
          have FIN : Hid (RB w2 blk m (shB l a c p.size (i + 1)) (w5.setCell ⟨blk, i, none⟩ (.bool true)) ∧ RD blk2 n (fun j => inB l j) (w5.setCell ⟨blk, i, none⟩ (.bool true))) := Lib.hid ⟨((HI.out.1.next hb5).set hin2 true).congr fun q _ => shB_low HIN.out h1, (HI.out.2.next hb5).other (by omega) _⟩
          generalize shB l a c p.size i i = bv at sc
          clear HI hb5 PL d0 d1 d2
          go_wp2_with fail
          go_roundw
          case rel => exact ⟨i + 1, by omega, by go_num, FIN⟩
          case measure => simp [intOf]; omega
        · have q1 : ¬ (i : Int) < (a : Int) := by omega
          by_cases h2 : a + c ≤ i
          · have q2 : (a : Int) + (c : Int) ≤ (i : Int) := by omega
            obtain ⟨x, hx⟩ : ∃ x, x = i + p.size - c := ⟨_, rfl⟩
            have hin2 : x < m := by omega
            rw [placed_behind (by omega) (by omega), show (i : Int) + (p.size : Int) - (c : Int) = (x : Int) by omega] at PL
            have j1 : (x : Int) < (m : Int) := by omega
            have j2 : (0 : Int) ≤ (x : Int) := by omega
            have HIN := Lib.hid hin
            have HX := Lib.hid hx
            clear hin hx
            go_wp2_with fail
            refine (PL.out _).mono ?_
            rintro e w5 ⟨rfl, hb5⟩
            have sc := (HI.out.1.next hb5).cell x hin2
            have fz := (HI.out.1.next hb5).free x hin2
            have FIN : Hid (RB w2 blk m (shB l a c p.size (i + 1)) (w5.setCell ⟨blk, x, none⟩ (.bool true)) ∧ RD blk2 n (fun j => inB l j) (w5.setCell ⟨blk, x, none⟩ (.bool true))) := Lib.hid ⟨((HI.out.1.next hb5).set hin2 true).congr fun q _ => (by rw [HX.out]; exact shB_high HIN.out h2), (HI.out.2.next hb5).other (by omega) _⟩
            generalize shB l a c p.size i x = bv at sc
            clear HI hb5 PL d0 d1 d2
            go_wp2_with fail
            go_roundw
            case rel => exact ⟨i + 1, by omega, by go_num, FIN⟩
            case measure => simp [intOf]; omega
          · have q2 : ¬ (a : Int) + (c : Int) ≤ (i : Int) := by omega
            have FIN : Hid (RB w2 blk m (shB l a c p.size (i + 1)) wr ∧ RD blk2 n (fun j => inB l j) wr) := Lib.hid ⟨HI.out.1.congr fun q _ => shB_skip (.inr (by omega)), HI.out.2⟩
            clear hin HI PL
            go_wp2_with fail
            go_roundw
            case rel => exact ⟨i + 1, by omega, by go_num, FIN⟩
            case measure => simp [intOf]; omega
    · obtain rfl : i = n := by omega
      have R2 : Hid (RB w2 blk m (fun q => shB l a c p.size i q || (decide (a ≤ q) && decide (q < a + 0))) wr) := Lib.hid (HI.out.1.congr fun q _ => by
        rw [show (decide (a ≤ q) && decide (q < a + 0)) = false by simp, Bool.or_false])
      clear HI
      go_wp2_with fail
      go_loopw [66] (fun vi wr => ∃ j : Nat, j ≤ p.size ∧ vi = .int .i64 (j : Int) ∧ Hid (RB w2 blk m (fun q => shB l a c p.size i q || (decide (a ≤ q) && decide (q < a + j))) wr)) (fun vi _ => p.size - (intOf vi).toNat)
      case atStart => exact ⟨0, by omega, rfl, R2⟩
      case round =>
        obtain ⟨j, hj, rfl, HI⟩ := hrel
        clear R2 d0 d1 d2
        obtain ⟨_, d0, d1, d2, _, _, _⟩ := EC.out _ HI.out.bel
        by_cases hlt : j < p.size
        · have hin2 : a + j < m := by omega
          have sc := HI.out.cell (a + j) hin2
          have fz := HI.out.free (a + j) hin2
          have j1 : (a : Int) + (j : Int) < (m : Int) := by omega
          have j2 : (0 : Int) ≤ (a : Int) + (j : Int) := by omega
          have j3 : ((a : Int) + (j : Int)).toNat = a + j := by omega
          have j4 : (j : Int) < (p.size : Int) := by omega
          have r5 : IntKind.i64.wrap ((a : Int) + (j : Int)) = (a : Int) + (j : Int) := IntWalk.i64_in _ (by omega)
          have FIN : Hid (RB w2 blk m (fun q => shB l a c p.size i q || (decide (a ≤ q) && decide (q < a + (j + 1)))) (wr.setCell ⟨blk, a + j, none⟩ (.bool true))) := Lib.hid ((HI.out.set hin2 true).congr fun q _ => by
            by_cases e : q = a + j
            · subst e; rw [if_pos rfl]; simp
            · rw [if_neg e]
              congr 2
              exact decide_eq_decide.2 (by omega))
          generalize (shB l a c p.size i (a + j) || (decide (a ≤ a + j) && decide (a + j < a + j))) = bv at sc
          clear HI
          go_wp2_with fail
          go_roundw
          case rel => exact ⟨j + 1, by omega, by go_num, FIN⟩
          case measure => simp [intOf]; omega
        · have hje : j = p.size := by omega
          have FIN : Hid (RB w2 blk m (shA l a c p.size i) wr) := Lib.hid (HI.out.congr fun q _ => by rw [hje]; rfl)
          have SS := Lib.hid (SO.out wr blk FIN.out.lt FIN.out.cell)
          have j4 : ¬ (j : Int) < (p.size : Int) := by omega
          clear HI SO hje
          go_wp2_with fail
          refine SS.out.mono ?_
          rintro e w6 ⟨v, rfl, hk6⟩
          have HV := Lib.hid (SpK.rebase hk6 (FB.out _ FIN.out.bel))
          clear hk6 SS
          go_wp2_with fail
          go_ret2
          exact ⟨v, rfl, HV.out⟩
end Go.Proofs.Ytdiogfhbgmkajaa.SpanR
