/-
  slices.symMergeCmpFunc at []int.
-/
import Derived.Test.YtllpglanpfjcnaaSortOne
import Derived.Deep.Cut
import Derived.Deep.DeepCutAuto
namespace Go.Proofs.Ytllpglanpfjcnaa.SortC
open Go.RowKit Kit SortM

/-- what the search for the place of the cut keeps -/
def MidI (cf : Nat → Nat → Int) (d : Nat → Nat) (t lo hi i j : Nat) : Prop := (lo < i → ¬ cf (d (t - i)) (d (i - 1)) < 0) ∧ (j < hi → cf (d (t - 1 - j)) (d j) < 0)
/-- where it goes on -/
structure MidB (a m b md t lo hi : Nat) : Prop where
  t_ : t = md + m
  le : lo ≤ hi
  a_ : a ≤ lo
  m_ : hi ≤ m
  q_ : hi ≤ md
  tb : t ≤ b + lo
  lo_ : lo = a ∨ lo + b = t
  hi_ : hi = m ∨ hi = md
/-- what a merge of two parts asks -/
structure MergeIn (lt : Nat → Nat → Prop) (a m b : Nat) (d : Nat → Nat) : Prop where
  s1 : Srt lt a m d
  s2 : Srt lt m b d
  less : Less a m b d
theorem MergeIn.eq {lt : Nat → Nat → Prop} {a m b : Nat} {d d1 : Nat → Nat} (h : MergeIn lt a m b d) (am : a ≤ m) (mb : m ≤ b) (he : ∀ i, a ≤ i → i < b → d1 i = d i) : MergeIn lt a m b d1 :=
  ⟨h.s1.eq fun i h1 h2 => he i h1 (by omega), h.s2.eq fun i h1 h2 => he i (by omega) h2, h.less.eq he⟩

def Left (lt : Nat → Nat → Prop) (w0 : World) (blk n a b : Nat) (d : Nat → Nat) (w' : World) : Prop := ∃ d', Moved a b d d' ∧ Srt lt a b d' ∧ SR w0 blk n d' w'
def MergeCalls (lt : Nat → Nat → Prop) (w0 : World) (blk n cap : Nat) (pv qv : Value) (s : Nat) : Prop :=
  ∀ (a m b : Nat) (d : Nat → Nat) (w : World), b - a < s → a < m → m < b → b ≤ n → SR w0 blk n d w → MergeIn lt a m b d →
    Calls Try.prog 53 #[.slice (some ⟨blk, 0, none⟩) n cap, .int .i64 (a : Int), .int .i64 (m : Int), .int .i64 (b : Int), .func (.func 48) #[] #[pv, qv]] w (SortPost lt w0 blk n a b d)

set_option maxRecDepth 100000 in
set_option maxHeartbeats 4000000 in
theorem symMid {cf : Nat → Nat → Int} {lt : Nat → Nat → Prop} (O : Ord cf lt) (w0 : World) (blk n cap a m b : Nat) (pv qv : Value) (d : Nat → Nat) (w : World) (h : SR w0 blk n d w) (HC : CmpOk pv qv cf w0 blk n) (ham : a < m) (hmb : m < b) (hne : m ≠ a + 1) (hne2 : b ≠ m + 1) (hb : b ≤ n) (hn : n ≤ 1000000) (hin : MergeIn lt a m b d) (ih : MergeCalls lt w0 blk n cap pv qv (b - a)) :
    Calls Try.prog 53 #[.slice (some ⟨blk, 0, none⟩) n cap, .int .i64 (a : Int), .int .i64 (m : Int), .int .i64 (b : Int), .func (.func 48) #[] #[pv, qv]] w (SortPost lt w0 blk n a b d) := by
  have HS := Lib.hid h
  have CM := Lib.hid HC
  have OO := Lib.hid O
  have H2 := Lib.hid hin
  have IH := Lib.hid ih
  have RO := Lib.hid (fun s e d w h h1 h2 hb => rotate w0 blk n cap s m e (.func (.func 48) #[] #[pv, qv]) d w h h1 h2 hb hn)
  clear h HC O hin ih
  have mixed : Try.prog.follows .mixedOrders = true := by kernel_rfl
  have g0 : ((m : Int) - (a : Int) == 1) = false := by simp; omega
  have g1 : ((b : Int) - (m : Int) == 1) = false := by simp; omega
  clear hne hne2
  obtain ⟨md, hmd⟩ : ∃ md, md = (a + b) / 2 := ⟨_, rfl⟩
  have ez1 : ((a : Int) + (b : Int)) / 2 = (md : Int) := by omega
  have qa : a < md := by omega
  have qb : md < b := by omega
  have qc : 2 * md ≤ a + b := by omega
  have qd : a + b ≤ 2 * md + 1 := by omega
  clear hmd
  obtain ⟨tp, htp⟩ : ∃ tp, tp + 1 = md + m := ⟨md + m - 1, by omega⟩
  have ez2 : (md : Int) + (m : Int) = (tp : Int) + 1 := by omega
  have tb : tp ≤ 2000000 := by omega
  obtain ⟨lo, hi, B, hlo, hhi⟩ : ∃ lo hi : Nat, MidB a m b md (tp + 1) lo hi ∧ Hid (if md < m then tp + 1 = lo + b else lo = a) ∧ Hid (if md < m then hi = md else hi = m) := by
    by_cases c : md < m
    · exact ⟨md + m - b, md, ⟨htp, by omega, by omega, by omega, by omega, by omega, by omega, by omega⟩, Lib.hid (by rw [if_pos c]; omega), Lib.hid (by rw [if_pos c])⟩
    · exact ⟨a, m, ⟨htp, by omega, by omega, by omega, by omega, by omega, by omega, by omega⟩, Lib.hid (by rw [if_neg c]), Lib.hid (by rw [if_neg c])⟩
  have BB := Lib.hid B
  obtain ⟨_, k1, k2, k3, k4, k5, _, _⟩ := B
  clear htp
  go_enter Try.func53, Try.ntmps53
  go_upto_if 140 with fail
  go_cut [20, 21] (fun s r wx => s = .int .i64 (lo : Int) ∧ r = .int .i64 (hi : Int) ∧ wx = w)
  case first =>
    by_cases c : md < m
    · have hl := hlo.out
      have hh := hhi.out
      rw [if_pos c] at hl hh
      have ez3 : (tp : Int) + 1 - (b : Int) = (lo : Int) := by omega
      obtain rfl := hh
      clear hl hlo hhi
      go_wp2_with fail
      go_meet
      exact ⟨rfl, rfl, rfl⟩
    · have hl := hlo.out
      have hh := hhi.out
      rw [if_neg c] at hl hh
      obtain rfl := hh
      obtain rfl := hl
      clear hlo hhi
      go_wp2_with fail
      go_meet
      exact ⟨rfl, rfl, rfl⟩
  case rest =>
    obtain ⟨rfl, rfl, rfl⟩ := hcut
    clear hlo hhi
    go_wp2_with fail
    go_loopw [20, 21] (fun vi vj wr => ∃ (i j : Nat), vi = .int .i64 (i : Int) ∧ vj = .int .i64 (j : Int) ∧ lo ≤ i ∧ i ≤ j ∧ j ≤ hi ∧ Hid (MidI cf d (tp + 1) lo hi i j ∧ SR w0 blk n d wr)) (fun vi vj _ => (intOf vj).toNat - (intOf vi).toNat)
    case atStart => exact ⟨lo, hi, rfl, rfl, by omega, by omega, by omega, Lib.hid ⟨⟨fun h => by omega, fun h => by omega⟩, HS.out⟩⟩
    case round =>
      obtain ⟨i, j, rfl, rfl, hmi, hij, hjb, HK⟩ := hrel
      clear HS
      by_cases hlt : i < j
      · as_aux_lemma =>
          obtain ⟨hh, hhe⟩ : ∃ hh, hh = (i + j) / 2 := ⟨_, rfl⟩
          have ez : ((i : Int) + (j : Int)) / 2 = (hh : Int) := by omega
          have q1 : i ≤ hh := by omega
          have q2 : hh < j := by omega
          clear hhe
          obtain ⟨u, hu⟩ : ∃ u, u + hh = tp := ⟨tp - hh, by have := BB.out.t_; omega⟩
          have ez5 : (tp : Int) - (hh : Int) = (u : Int) := by omega
          have un : u < n := by have := BB.out.t_; omega
          have HU : Hid (tp + 1 - (hh + 1) = u ∧ tp + 1 - 1 - hh = u) := Lib.hid (by omega)
          clear hu
          have T0 := Lib.hid (Two.of HK.out.2 (i := u) (j := hh) (by omega) (by omega))
          have p1 : (0 : Int) ≤ (hh : Int) := by omega
          have b1 : (hh : Int) < (n : Int) := by omega
          have p2 : (0 : Int) ≤ (u : Int) := by omega
          have b2 : (u : Int) < (n : Int) := by omega
          have r1 : IntKind.i64.wrap (u : Int) = (u : Int) := IntWalk.i64_in _ (by omega)
          have CC := Lib.hid (fun W (hW : Below wr.heap.size wr W) => CM.out W (HK.out.2.next hW).bel (HK.out.2.next hW).lt (d u) (d hh) (HK.out.2.rng _ (by omega)) (HK.out.2.rng _ (by omega)))
          by_cases hc : cf (d u) (d hh) < 0
          · have hd : decide (cf (d u) (d hh) < 0) = true := decide_eq_true hc
            have HN : Hid (MidI cf d (tp + 1) lo hi i hh) := Lib.hid ⟨HK.out.1.1, fun _ => by rw [HU.out.2]; exact hc⟩
            have HD := Lib.hid HK.out.2
            clear HK HU
            obtain ⟨y, hy⟩ : ∃ y, y = d hh := ⟨_, rfl⟩
            rw [← hy] at T0 CC hc hd
            clear hy
            obtain ⟨x, hx⟩ : ∃ x, x = d u := ⟨_, rfl⟩
            rw [← hx] at T0 CC hc hd
            clear hx
            obtain ⟨v, hv⟩ : ∃ v, v = cf x y := ⟨_, rfl⟩
            rw [← hv] at CC hc hd
            clear hv
            go_wp2_with fail
            go_region_held3 (fun W => Below wr.heap.size wr W ∧ blk < W.heap.size ∧ W.cell? ⟨blk, u, none⟩ = some (.int .i64 (x : Int)) ∧ W.cell? ⟨blk, hh, none⟩ = some (.int .i64 (y : Int)))
              (first | exact T0.out.drew | exact Two.next (by assumption) (by assumption))
              (first | (go_at_call 48; refine (CC.out _ ((Below.refl _ _).drew)).mono ?_; rintro e w' ⟨rfl, hb⟩))
            rename_i hH
            have S1 := Lib.hid (HD.out.next hH.1)
            clear CC T0 HD hH hb hc hd
            go_wp2_with fail
            go_roundw
            case rel => exact ⟨i, hh, rfl, rfl, by omega, by omega, by omega, Lib.hid ⟨HN.out, S1.out⟩⟩
            case measure => simp [intOf]; omega
          · have hd : decide (cf (d u) (d hh) < 0) = false := decide_eq_false hc
            have HN : Hid (MidI cf d (tp + 1) lo hi (hh + 1) j) := Lib.hid ⟨fun _ => by rw [HU.out.1]; exact hc, HK.out.1.2⟩
            have HD := Lib.hid HK.out.2
            clear HK HU
            obtain ⟨y, hy⟩ : ∃ y, y = d hh := ⟨_, rfl⟩
            rw [← hy] at T0 CC hc hd
            clear hy
            obtain ⟨x, hx⟩ : ∃ x, x = d u := ⟨_, rfl⟩
            rw [← hx] at T0 CC hc hd
            clear hx
            obtain ⟨v, hv⟩ : ∃ v, v = cf x y := ⟨_, rfl⟩
            rw [← hv] at CC hc hd
            clear hv
            go_wp2_with fail
            go_region_held3 (fun W => Below wr.heap.size wr W ∧ blk < W.heap.size ∧ W.cell? ⟨blk, u, none⟩ = some (.int .i64 (x : Int)) ∧ W.cell? ⟨blk, hh, none⟩ = some (.int .i64 (y : Int)))
              (first | exact T0.out.drew | exact Two.next (by assumption) (by assumption))
              (first | (go_at_call 48; refine (CC.out _ ((Below.refl _ _).drew)).mono ?_; rintro e w' ⟨rfl, hb⟩))
            rename_i hH
            have S1 := Lib.hid (HD.out.next hH.1)
            clear CC T0 HD hH hb hc hd
            go_wp2_with fail
            go_roundw
            case rel => exact ⟨hh + 1, j, by go_num, rfl, by omega, by omega, by omega, Lib.hid ⟨HN.out, S1.out⟩⟩
            case measure => simp [intOf]; omega
      · obtain rfl : j = i := by omega
        obtain ⟨e, he⟩ : ∃ e, j + e = tp + 1 := ⟨tp + 1 - j, by have := BB.out.t_; omega⟩
        have e1 : m ≤ e := by have := BB.out.t_; omega
        have e2 : e ≤ b := by omega
        have ez6 : (tp : Int) + 1 - (j : Int) = (e : Int) := by omega
        have SPL := Lib.hid (merge_split OO.out (a := a) (m := m) (b := b) (s := j) (e := e) (q := md) (d := d) H2.out.s1 H2.out.s2 H2.out.less (by omega) (by omega) e1 e2 (by have := BB.out.t_; omega)
          (fun c1 c2 => by
            have := BB.out.lo_
            have := HK.out.1.1 (by omega)
            rw [show tp + 1 - j = e by omega] at this
            exact this)
          (fun c1 c2 => by
            have := BB.out.hi_
            have := BB.out.t_
            have := HK.out.1.2 (by omega)
            rw [show tp + 1 - 1 - j = e - 1 by omega] at this
            exact this))
        have MV := Lib.hid ((rot_moved j m e d (by omega) e1).mono (a' := a) (b' := b) (by omega) e2)
        have RN := Lib.hid (rot_none j m e d (by omega) e1)
        have HD := Lib.hid HK.out.2
        have jm : j ≤ md := by omega
        have em : md ≤ e := by have := BB.out.t_; omega
        clear HK CM OO H2 BB he
        have R1 := Lib.hid (fun w h h1 h2 => RO.out j e d w h h1 h2 (by omega))
        clear RO
        generalize rot j m e d = d1 at *
        go_upto_region 39 with fail
        go_cut [185] (fun t wx => t = .bool (decide (j < m ∧ m < e)) ∧ wx = wr)
        case first =>
          by_cases c1 : j < m
          · by_cases c2 : m < e
            · go_wp2_with fail
              go_meet
              exact ⟨by rw [decide_eq_true ⟨c1, c2⟩], rfl⟩
            · go_wp2_with fail
              go_meet
              exact ⟨by rw [decide_eq_false (fun h => c2 h.2)], rfl⟩
          · go_wp2_with fail
            go_meet
            exact ⟨by rw [decide_eq_false (fun h => c1 h.1)], rfl⟩
        case rest =>
          obtain ⟨rfl, rfl⟩ := hcut
          go_upto_if 185 with fail
          go_cut [] (fun wx => SR w0 blk n d1 wx)
          case first =>
            by_cases c : j < m ∧ m < e
            · as_aux_lemma =>
                have C := Lib.hid (R1.out _ HD.out c.1 c.2)
                have hd : decide (j < m ∧ m < e) = true := decide_eq_true c
                rw [hd]
                clear R1 RN c hd
                go_wp2_with fail
                refine C.out.mono ?_
                rintro e w1 ⟨rfl, hw1⟩
                go_wp2_with fail
                go_meet
                exact hw1
            · have hd : decide (j < m ∧ m < e) = false := decide_eq_false c
              have E := Lib.hid (RN.out c)
              rw [hd]
              clear R1 RN c hd
              go_wp2_with fail
              go_meet
              rw [E.out]; exact HD.out
          case rest => as_aux_lemma =>
              have S1 := Lib.hid hcut
              clear hcut HD R1 RN
              go_upto_region 41 with fail
              go_cut [199] (fun t wx => t = .bool (decide (a < j ∧ j < md)) ∧ wx = wc)
              case first =>
                by_cases c1 : a < j
                · by_cases c2 : j < md
                  · go_wp2_with fail
                    go_meet
                    exact ⟨by rw [decide_eq_true ⟨c1, c2⟩], rfl⟩
                  · go_wp2_with fail
                    go_meet
                    exact ⟨by rw [decide_eq_false (fun h => c2 h.2)], rfl⟩
                · go_wp2_with fail
                  go_meet
                  exact ⟨by rw [decide_eq_false (fun h => c1 h.1)], rfl⟩
              case rest =>
                obtain ⟨rfl, rfl⟩ := hcut
                go_upto_if 199 with fail
                go_cut [] (fun wx => Left lt w0 blk n a md d1 wx)
                case first =>
                  by_cases c : a < j ∧ j < md
                  · as_aux_lemma =>
                      have C := Lib.hid (IH.out a j md d1 _ (by omega) c.1 c.2 (by omega) S1.out ⟨SPL.out.1.1, SPL.out.1.2.1, SPL.out.1.2.2⟩)
                      have hd : decide (a < j ∧ j < md) = true := decide_eq_true c
                      rw [hd]
                      clear c hd IH S1 SPL MV
                      go_wp2_with fail
                      refine C.out.mono ?_
                      rintro e w1 ⟨rfl, hw1⟩
                      have HW := Lib.hid hw1
                      clear hw1 C
                      go_wp2_with fail
                      go_meet
                      exact HW.out
                  · have hd : decide (a < j ∧ j < md) = false := decide_eq_false c
                    have E : Hid (Left lt w0 blk n a md d1 wc) := Lib.hid ⟨d1, Moved.refl _ _ _, by
                      rcases Nat.eq_or_lt_of_le (show a ≤ j by omega) with ha | ha
                      · rw [ha]; exact SPL.out.1.2.1
                      · obtain rfl : j = md := by omega
                        exact SPL.out.1.1, S1.out⟩
                    rw [hd]
                    clear c hd IH S1 SPL MV
                    go_wp2_with fail
                    go_meet
                    exact E.out
                case rest =>
                  obtain ⟨d2, hm2, hs2, hr2⟩ := hcut
                  have S2 := Lib.hid hr2
                  have L2 := Lib.hid (And.intro hm2 hs2)
                  have M2 : Hid (MergeIn lt md e b d2) := Lib.hid (MergeIn.eq (d := d1) ⟨SPL.out.2.1.1, SPL.out.2.1.2.1, SPL.out.2.1.2.2⟩ em e2 (fun i h1 h2 => hm2.out (by omega)))
                  have AH := Lib.hid SPL.out.2.2
                  clear hm2 hs2 hr2 S1 SPL
                  go_upto_region 43 with fail
                  go_cut [213] (fun t wx => t = .bool (decide (md < e ∧ e < b)) ∧ wx = wc)
                  case first =>
                    by_cases c1 : md < e
                    · by_cases c2 : e < b
                      · go_wp2_with fail
                        go_meet
                        exact ⟨by rw [decide_eq_true ⟨c1, c2⟩], rfl⟩
                      · go_wp2_with fail
                        go_meet
                        exact ⟨by rw [decide_eq_false (fun h => c2 h.2)], rfl⟩
                    · go_wp2_with fail
                      go_meet
                      exact ⟨by rw [decide_eq_false (fun h => c1 h.1)], rfl⟩
                  case rest =>
                    obtain ⟨rfl, rfl⟩ := hcut
                    by_cases c : md < e ∧ e < b
                    · as_aux_lemma =>
                        have C := Lib.hid (IH.out md e b d2 _ (by omega) c.1 c.2 (by omega) S2.out M2.out)
                        have hd : decide (md < e ∧ e < b) = true := decide_eq_true c
                        rw [hd]
                        clear c hd IH S2 M2
                        go_wp2_with fail
                        refine C.out.mono ?_
                        rintro x w1 ⟨rfl, d3, hm3, hs3, hr3⟩
                        have FIN := Lib.hid (And.intro (merge_fin (by omega) (by omega) AH.out MV.out L2.out.1 L2.out.2 hm3 hs3) hr3)
                        clear C hm3 hs3 hr3
                        go_wp2_with fail
                        go_end0
                        exact ⟨rfl, d3, FIN.out.1.1, FIN.out.1.2, FIN.out.2⟩
                    · as_aux_lemma =>
                        have hd : decide (md < e ∧ e < b) = false := decide_eq_false c
                        have hs3 : Srt lt md b d2 := by
                          rcases Nat.eq_or_lt_of_le (show md ≤ e by omega) with ha | ha
                          · rw [ha]; exact M2.out.s2
                          · obtain rfl : e = b := by omega
                            exact M2.out.s1
                        have FIN := Lib.hid (And.intro (merge_fin (by omega) (by omega) AH.out MV.out L2.out.1 L2.out.2 (Moved.refl md b d2) hs3) S2.out)
                        rw [hd]
                        clear c hd IH S2 M2 hs3
                        go_wp2_with fail
                        go_end0
                        exact ⟨rfl, d2, FIN.out.1.1, FIN.out.1.2, FIN.out.2⟩

/-- a merge of two parts that are sorted -/
theorem symMerge {cf : Nat → Nat → Int} {lt : Nat → Nat → Prop} (O : Ord cf lt) (w0 : World) (blk n cap : Nat) (pv qv : Value) (HC : CmpOk pv qv cf w0 blk n) (hn : n ≤ 1000000) : ∀ s, MergeCalls lt w0 blk n cap pv qv s
  | 0 => fun a m b d w h => by omega
  | s + 1 => fun a m b d w h ham hmb hb hr hin => by
    by_cases c1 : m = a + 1
    · exact symFirst O w0 blk n cap a m b pv qv d w hr HC c1 (by omega) hb hn hin.s2 hin.less
    · by_cases c2 : b = m + 1
      · exact symLast O w0 blk n cap a m b pv qv d w hr HC c2 (by omega) c1 hb hn hin.s1 hin.less
      · refine symMid O w0 blk n cap a m b pv qv d w hr HC ham hmb c1 c2 hb hn hin ?_
        intro a' m' b' d' w' h'
        exact symMerge O w0 blk n cap pv qv HC hn s a' m' b' d' w' (by omega)

end Go.Proofs.Ytllpglanpfjcnaa.SortC
