/-
  The document's answers: inSet, setOf.
-/
import Derived.Test.YtdiogfhbgmkajaaBoolRow
import Derived.Test.YtdiogfhbgmkajaaSpanAdd
import Derived.Laws.MakeOwn
import Derived.Laws.OwnMore
namespace Go.Proofs.Ytdiogfhbgmkajaa.SpanR
open Go.RowKit Kit SpanM SpanC

def InSetPost (w : World) (n : Nat) (l : List SpM) (e : Ending) (w' : World) : Prop := e = .returned (.slice (some ⟨w.heap.size, 0, none⟩) n n) ∧ RB w w.heap.size n (fun j => inB l j) w'
set_option maxRecDepth 100000 in
set_option maxHeartbeats 4000000 in
theorem inSet (n : Nat) (l : List SpM) (al : Option Addr) (cap : Nat) (w : World) (hl : SpsAt w al l) (hv : Valid n l) :
    Calls Try.prog 40 #[.int .i64 (n : Int), .slice al l.length cap] w (InSetPost w n l) := by
  have h600 := hv.n1
  have h40 := hv.len
  have HR := Lib.hid hv.rng
  have HL := Lib.hid hl
  obtain ⟨N, hN⟩ : ∃ N, N = l.length := ⟨_, rfl⟩
  have HN := Lib.hid hN
  rw [← hN] at h40 ⊢
  clear hl hv hN
  obtain ⟨j0, hi, hz0, hz1, hz2⟩ := info_parts infoBool
  have HJ := Lib.hid (And.intro hi (And.intro hz0 (And.intro hz1 hz2)))
  clear hi hz0 hz1 hz2
  go_enter Try.func40, Try.ntmps40
  go_wp2_with (refine wpList_make_full _ rfl _ _ 45 rfl w.heap.size 4 j0 _ 1 Try.underlying45 HJ.out.1 HJ.out.2.1 HJ.out.2.2.1 .i64 .i64 _ _ n rfl rfl rfl rfl (by rw [HJ.out.2.2.2]; omega) (by unfold maxLen; omega) (Nat.le_refl _) ?_; intro w1 hown hgrow)
  have R0 : Hid (RB w w.heap.size n (fun j => inB (l.take 0) j) w1) := Lib.hid ((RB.made (grows_below hgrow) hown).congr fun i _ => rfl)
  clear hown hgrow HJ
  obtain ⟨blk, hblk⟩ : ∃ blk, blk = w.heap.size := ⟨_, rfl⟩
  have HBK := Lib.hid hblk
  rw [← hblk] at R0 ⊢
  have hwb : w.heap.size ≤ blk := by omega
  clear hblk
  go_loopw [13] (fun vi wr => ∃ k : Nat, k ≤ N ∧ vi = .int .i64 (k : Int) ∧ Hid (RB w blk n (fun j => inB (l.take k) j) wr)) (fun vi _ => N - (intOf vi).toNat)
  case atStart => exact ⟨0, by omega, rfl, R0⟩
  case round =>
    obtain ⟨k, hk, rfl, HK⟩ := hrel
    clear R0
    by_cases hlt : k < N
    · obtain ⟨s, hs⟩ : ∃ s, l[k]? = some s := ⟨l[k]'(by have := HN.out; omega), by simp [← HN.out, hlt]⟩
      obtain ⟨g, off, rfl, hg, c0, c1⟩ := SpsAt.get (HL.out.next (HK.out.bel.mono (by omega))) hs
      obtain ⟨s0, s1, s2⟩ := HR.out s (List.mem_of_getElem? hs)
      have NX := Lib.hid (inB_next hs)
      have i1 : (k : Int) < (N : Int) := by omega
      have i2 : (0 : Int) ≤ (k : Int) := by omega
      have hbl := HK.out.lt
      obtain ⟨lo, hi⟩ := s
      dsimp only at *
      obtain ⟨lo, rfl⟩ := Int.eq_ofNat_of_zero_le s0
      obtain ⟨hi, rfl⟩ := Int.eq_ofNat_of_zero_le (show 0 ≤ hi by omega)
      have I0 : Hid (RB w blk n (fun j => inB (l.take k) j || (decide (lo ≤ j) && decide (j < lo))) (wr.alloc (.cells #[.int .i64 (lo : Int), .int .i64 (hi : Int)] 25)) ∧ B2 wr.heap.size (.int .i64 (lo : Int)) (.int .i64 (hi : Int)) (wr.alloc (.cells #[.int .i64 (lo : Int), .int .i64 (hi : Int)] 25))) := Lib.hid ⟨(HK.out.next (balloc (Below.refl _ _) _)).congr fun j _ => by
        have : (decide (lo ≤ j) && decide (j < lo)) = false := by simp
        rw [this, Bool.or_false], B2.new _ _ _ _⟩
      obtain ⟨ob, hob⟩ : ∃ ob, ob = wr.heap.size := ⟨_, rfl⟩
      have hne : ob ≠ blk := by omega
      clear HK hs
      go_wp2_with fail
      rw [← hob] at I0 ⊢
      clear hob hbl
      go_loopw [8] (fun vi wr => ∃ i : Nat, lo ≤ i ∧ i ≤ hi ∧ vi = .int .i64 (i : Int) ∧ Hid (RB w blk n (fun j => inB (l.take k) j || (decide (lo ≤ j) && decide (j < i))) wr ∧ B2 ob (.int .i64 (lo : Int)) (.int .i64 (hi : Int)) wr)) (fun vi _ => hi - (intOf vi).toNat)
      case atStart => exact ⟨lo, by omega, by omega, rfl, I0⟩
      case round =>
        obtain ⟨i, hi1, hi2, rfl, HI⟩ := hrel
        clear I0
        obtain ⟨bl, b0, b1, _, _⟩ := HI.out.2
        by_cases hil : i < hi
        · have hin : i < n := by omega
          have sc := HI.out.1.cell i hin
          have fz := HI.out.1.free i hin
          have j1 : (i : Int) < (n : Int) := by omega
          have j2 : (0 : Int) ≤ (i : Int) := by omega
          have FIN : Hid (RB w blk n (fun j => inB (l.take k) j || (decide (lo ≤ j) && decide (j < i + 1))) (wr.setCell ⟨blk, i, none⟩ (.bool true)) ∧ B2 ob (.int .i64 (lo : Int)) (.int .i64 (hi : Int)) (wr.setCell ⟨blk, i, none⟩ (.bool true))) := Lib.hid ⟨(HI.out.1.set hin true).congr fun j _ => by
            by_cases e : j = i
            · subst e
              simp; exact .inr hi1
            · rw [if_neg e]
              congr 2
              exact decide_eq_decide.2 (by omega), HI.out.2.other hne _⟩
          generalize (inB (l.take k) (i : Int) || (decide (lo ≤ i) && decide (i < i))) = bv at sc
          clear HI
          go_wp2_with fail
          go_roundw
          case rel => exact ⟨i + 1, by omega, by omega, by go_num, FIN⟩
          case measure => simp [intOf]; omega
        · obtain rfl : i = hi := by omega
          have FIN : Hid (RB w blk n (fun j => inB (l.take (k + 1)) j) wr) := Lib.hid (HI.out.1.congr fun j _ => by
            rw [NX.out]
            congr 2
            · exact decide_eq_decide.2 (by omega)
            · exact decide_eq_decide.2 (by omega))
          clear HI
          go_wp2_with fail
          go_roundw
          case rel => exact ⟨k + 1, by omega, by go_num, FIN⟩
          case measure => simp [intOf]; omega
    · obtain rfl : k = N := by omega
      have TK : Hid (l.take k = l) := Lib.hid (by rw [HN.out, List.take_length])
      rw [TK.out] at HK
      go_wp2_with fail
      go_ret
      exact ⟨by rw [HBK.out]; rfl, by rw [← HBK.out]; exact HK.out⟩

theorem att_app {l : List SpM} {s : SpM} (he : ¬ Emp s) (h : ∀ x ∈ l, x.hi < s.lo) : att l s = l ++ [s] := by
  rcases snoc_cases l with rfl | ⟨i, x, rfl⟩
  · exact att_nil he
  · exact att_more he (by have := h x (by simp); omega)
set_option maxRecDepth 100000 in
set_option maxHeartbeats 4000000 in
theorem setOf (n blk cap : Nat) (b : Nat → Bool) (w : World) (hb : blk < w.heap.size) (hc : ∀ i, i < n → w.cell? ⟨blk, i, none⟩ = some (.bool (b i))) (hn : n ≤ 1000) :
    Calls Try.prog 41 #[.slice (some ⟨blk, 0, none⟩) n cap] w (SetPost (if 40 < (runs b n).length then 8 else 0) (runs b n) w) := by
  have HC := Lib.hid hc
  obtain ⟨i0, hi, hz0, hz1, hz2⟩ := info_parts infoSpan
  have HI := Lib.hid (And.intro hi (And.intro hz0 (And.intro hz1 hz2)))
  clear hi hz0 hz1 hz2 hc
  obtain ⟨cd, hcd⟩ : ∃ cd : Int, cd = if 40 < (runs b n).length then 8 else 0 := ⟨_, rfl⟩
  have CD := Lib.hid hcd
  rw [← hcd]
  clear hcd
  go_enter Try.func41, Try.ntmps41
  go_wp2_with fail
  go_loopw [4, 9] (fun v vi wr => ∃ k : Nat, k ≤ n ∧ vi = .int .i64 (k : Int) ∧ Hid (SpK w (runs b k) v wr)) (fun _ vi _ => n - (intOf vi).toNat)
  case atStart => exact ⟨0, by omega, rfl, Lib.hid (SpK.nil (Below.refl _ _))⟩
  case round =>
    obtain ⟨k, hk, rfl, HK⟩ := hrel
    by_cases hlt : k < n
    · have ck : wr.cell? ⟨blk, k, none⟩ = some (.bool (b k)) := (HK.out.bel.cell (p := ⟨blk, k, none⟩) hb).trans (HC.out k hlt)
      have i1 : (k : Int) < (n : Int) := by omega
      have i2 : (0 : Int) ≤ (k : Int) := by omega
      have LK := runs_len b k
      have hzz : w.heap.size ≤ wr.heap.size := HK.out.bel.size
      have PV : Hid (∀ j, k = j + 1 → wr.cell? ⟨blk, j, none⟩ = some (.bool (b j))) := Lib.hid fun j hj => (HK.out.bel.cell (p := ⟨blk, j, none⟩) hb).trans (HC.out j (by omega))
      cases hbk : b k
      · rw [hbk] at ck
        have E : Hid (runs b (k + 1) = runs b k) := Lib.hid (by show (if b k then _ else _) = _; rw [hbk]; rfl)
        clear hbk PV
        go_wp2_with fail
        go_roundw
        case rel => exact ⟨k + 1, by omega, by go_num, Lib.hid (by rw [E.out]; exact HK.out)⟩
        case measure => simp [intOf]; omega
      · rw [hbk] at ck
        have E : Hid (runs b (k + 1) = att (runs b k) ⟨k, k + 1⟩) := Lib.hid (by show (if b k then _ else _) = _; rw [hbk]; rfl)
        clear hbk
        by_cases k0 : k = 0
        · have EA : Hid (att (runs b k) ⟨k, k + 1⟩ = runs b k ++ [⟨(k : Int), (k : Int) + 1⟩]) := Lib.hid (att_app (one_some k) fun x hx => by subst k0; simp [runs] at hx)
          have g0 : ¬ (0 : Int) < (k : Int) := by omega
          clear PV k0
          have E2 := Lib.hid (HK.out.next (balloc (Below.refl _ _) (.cells #[.int .i64 (k : Int), .int .i64 ((k : Int) + 1)] 25)))
          have HNEW := Lib.hid (cell_two_new wr (.int .i64 (k : Int)) (.int .i64 ((k : Int) + 1)) 25)
          generalize runs b k = es at *
          have HROW := Lib.hid E2.out.row
          clear HK
          obtain ⟨M, hM⟩ : ∃ M, M = es.length := ⟨_, rfl⟩
          have HM := Lib.hid hM
          rw [← hM] at HROW LK
          clear hM
          go_wp2_with (at_builtin; refine wpList_append_lies _ rfl _ _ 22 rfl w.heap.size 25 i0 _ 2 16 Try.underlying22 HI.out.1 HI.out.2.1 HI.out.2.2.1 HI.out.2.2.2 rfl (by decide) _ M (flatC SpM.cs es) rfl HROW.out ⟨wr.heap.size, 0, none⟩ 1 1 [.int .i64 (k : Int), .int .i64 ((k : Int) + 1)] rfl rfl HNEW.out (by simp [Value.oneCell']) (by omega) (by unfold maxLen; omega) (by omega) (by simp; omega) _ rfl ?_; intro g4 cap4 w4 hown4 hgrow4 hat4 hlt4; have FIN : Hid (SpK w (es ++ [⟨(k : Int), (k : Int) + 1⟩]) (.slice (some ⟨g4, 0, none⟩) (M + 1) cap4) w4) := Lib.hid ⟨by rw [flatC_append, flatC_one, List.length_append, ← HM.out]; exact hown4, bgrow E2.out.bel HROW.out hgrow4⟩; clear hown4 hgrow4 hat4 hlt4)
          go_roundw
          case rel => exact ⟨k + 1, by omega, by go_num, Lib.hid (by rw [E.out, EA.out]; exact FIN.out)⟩
          case measure => simp [intOf]; omega
        · obtain ⟨j, rfl⟩ : ∃ j, k = j + 1 := ⟨k - 1, by omega⟩
          have pv := PV.out j rfl
          have r1 : IntKind.i64.wrap (j : Int) = (j : Int) := IntWalk.i64_in _ (by omega)
          have j1 : (j : Int) < (n : Int) := by omega
          have j2 : (0 : Int) ≤ (j : Int) := by omega
          cases hbj : b j
          · rw [hbj] at pv
            have EA : Hid (att (runs b (j + 1)) ⟨(j + 1 : Nat), (j + 1 : Nat) + 1⟩ = runs b (j + 1) ++ [⟨((j + 1 : Nat) : Int), ((j + 1 : Nat) : Int) + 1⟩]) := Lib.hid (att_app (one_some _) fun x hx => (runs_hi b (j + 1)).2.2 j rfl hbj x hx)
            rw [show (((j + 1 : Nat) : Int)) = (j : Int) + 1 by omega] at EA E
            clear PV hbj
            have E2 := Lib.hid (HK.out.next (balloc (Below.refl _ _) (.cells #[.int .i64 ((j : Int) + 1), .int .i64 (((j : Int) + 1) + 1)] 25)))
            have HNEW := Lib.hid (cell_two_new wr (.int .i64 ((j : Int) + 1)) (.int .i64 (((j : Int) + 1) + 1)) 25)
            generalize runs b (j + 1) = es at *
            have HROW := Lib.hid E2.out.row
            clear HK
            obtain ⟨M, hM⟩ : ∃ M, M = es.length := ⟨_, rfl⟩
            have HM := Lib.hid hM
            rw [← hM] at HROW LK
            clear hM
            go_wp2_with (at_builtin; refine wpList_append_lies _ rfl _ _ 22 rfl w.heap.size 25 i0 _ 2 16 Try.underlying22 HI.out.1 HI.out.2.1 HI.out.2.2.1 HI.out.2.2.2 rfl (by decide) _ M (flatC SpM.cs es) rfl HROW.out ⟨wr.heap.size, 0, none⟩ 1 1 [.int .i64 ((j : Int) + 1), .int .i64 (((j : Int) + 1) + 1)] rfl rfl HNEW.out (by simp [Value.oneCell']) (by omega) (by unfold maxLen; omega) (by omega) (by simp; omega) _ rfl ?_; intro g4 cap4 w4 hown4 hgrow4 hat4 hlt4; have FIN : Hid (SpK w (es ++ [⟨((j : Int) + 1), ((j : Int) + 1) + 1⟩]) (.slice (some ⟨g4, 0, none⟩) (M + 1) cap4) w4) := Lib.hid ⟨by rw [flatC_append, flatC_one, List.length_append, ← HM.out]; exact hown4, bgrow E2.out.bel HROW.out hgrow4⟩; clear hown4 hgrow4 hat4 hlt4)
            go_roundw
            case rel => exact ⟨j + 1 + 1, by omega, by go_num, Lib.hid (by rw [E.out, EA.out]; exact FIN.out)⟩
            case measure => simp [intOf]; omega
          · rw [hbj] at pv
            obtain ⟨ini, x, e1, e2⟩ := (runs_hi b (j + 1)).2.1 j rfl hbj
            rw [e1] at HK LK E
            have E' : Hid (runs b (j + 1 + 1) = ini ++ [⟨x.lo, (j : Int) + 1 + 1⟩]) := Lib.hid (by
              rw [E.out, att_join (one_some _) (by rw [e2]; dsimp only; omega)]
              congr 3
              dsimp only; omega)
            clear PV hbj e1 E
            have ST : Hid (∀ g n' c, u4 = .slice (some ⟨g, 0, none⟩) n' c → SpK w (ini ++ [⟨x.lo, (j : Int) + 1 + 1⟩]) u4 (wr.setCell ⟨g, ini.length * 2 + 1, none⟩ (.int .i64 ((j : Int) + 1 + 1)))) := Lib.hid fun g n' c e => by
              have h := HK.out
              rw [e] at h ⊢
              have := (h.store (i := ini.length) (s := x) (by simp) ((j : Int) + 1 + 1)).1
              rw [set_last] at this
              exact this
            obtain ⟨g, c, rfl, hg1, hg2⟩ := HK.out.form (by simp)
            obtain ⟨k0', k1', kf⟩ := HK.out.cell (i := ini.length) (s := x) (by simp)
            rw [e2] at k1'
            have S2 := Lib.hid (ST.out g _ c rfl)
            simp only [List.length_append, List.length_cons, List.length_nil] at LK S2 ⊢
            obtain ⟨M, hM⟩ : ∃ M, M = ini.length := ⟨_, rfl⟩
            rw [← hM] at k0' k1' kf S2 LK ⊢
            have m1 : (M : Int) < ((M + 1 : Nat) : Int) := by omega
            have m2 : (0 : Int) ≤ (M : Int) := by omega
            have r2 : IntKind.i64.wrap (M : Int) = (M : Int) := IntWalk.i64_in _ (by omega)
            clear ST HK hM e2
            go_wp2_with fail
            go_roundw
            case rel => exact ⟨j + 1 + 1, by omega, by go_num, Lib.hid (by rw [E'.out]; exact S2.out)⟩
            case measure => simp [intOf]; omega
    · obtain rfl : k = n := by omega
      have LK := runs_len b k
      obtain ⟨a, c, rfl⟩ := HK.out.slice
      have HV := Lib.hid HK.out
      have HB := Lib.hid HK.out.bel
      clear HK
      generalize runs b k = es at *
      by_cases q : 40 < es.length
      · have C8 : cd = 8 := by rw [CD.out, if_pos q]
        subst C8
        clear CD
        obtain ⟨M, hM⟩ : ∃ M, M = es.length := ⟨_, rfl⟩
        rw [← hM] at q LK HV ⊢
        have q' : (40 : Int) < (M : Int) := by omega
        clear hM
        go_wp2_with fail
        go_ret2
        exact ⟨_, rfl, by rw [outL_no _ (by decide)]; exact SpK.nil HB.out⟩
      · have C8 : cd = 0 := by rw [CD.out, if_neg q]
        subst C8
        clear CD
        obtain ⟨M, hM⟩ : ∃ M, M = es.length := ⟨_, rfl⟩
        rw [← hM] at q LK HV ⊢
        have q' : ¬ (40 : Int) < (M : Int) := by omega
        clear hM
        go_wp2_with fail
        go_ret2
        exact ⟨_, rfl, HV.out⟩
end Go.Proofs.Ytdiogfhbgmkajaa.SpanR
