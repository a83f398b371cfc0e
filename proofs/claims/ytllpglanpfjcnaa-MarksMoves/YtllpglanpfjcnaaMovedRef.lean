/-
  What the document answers for Move (fustianref.MarksMoved).
-/
import Derived.Test.YtllpglanpfjcnaaMarkMove2
import Derived.Test.YtllpglanpfjcnaaEditFaultRef
import Derived.Deep.AppendLies
import Derived.Maps.AppendAt
namespace Go.Proofs.Ytllpglanpfjcnaa.MarkC
open Go.RowKit Kit EditM MarkM EditC EditR

theorem szC_take {l : List EdM} {n : Int} (h : szC l n = 0) (j : Nat) : szC (l.take j) n = 0 := by
  induction l generalizing n j with
  | nil => simp [szC]
  | cons e l ih =>
    cases j with
    | zero => rfl
    | succ j =>
      by_cases hf : fault n e.at_ e.cut e.put.size = 0
      · simp only [szC, if_pos hf, List.take_succ_cons] at h ⊢
        exact ih h j
      · simp only [szC, if_neg hf] at h; exact absurd h hf
theorem szC_each {l : List EdM} {n : Int} (h : szC l n = 0) {j : Nat} {e : EdM} (he : l[j]? = some e) : fault (szN (l.take j) n) e.at_ e.cut e.put.size = 0 := by
  by_cases hf : fault (szN (l.take j) n) e.at_ e.cut e.put.size = 0
  · exact hf
  · rw [szC_at he (szC_take h j) hf] at h; exact h
/-- the marks that are answered, so far -/
structure MsA (w : World) (es : List MkM) (v : Value) (wr : World) : Prop where
  row : wr.ownsRow w.heap.size 28 2 v es.length (flatC MkM.cs es)
  bel : Below w.heap.size w wr
theorem MsA.next {w : World} {es : List MkM} {v : Value} {w1 w2 : World} (h : MsA w es v w1) (hb : Below w1.heap.size w1 w2) : MsA w es v w2 := ⟨row_next h.row hb, bstep h.bel hb⟩
theorem set_grown (W : World) (k o : Nat) (u : Value) : W.grownBy (W.setCell ⟨k, o, none⟩ u) (some k) := ⟨rfl, rfl, rfl, by rw [setZ]; exact Nat.le_refl _, fun j _ hj => Below.heap_setCell _ _ _ _ (by intro e; exact hj (by rw [e]))⟩
theorem MsA.set {w : World} {es : List MkM} {v : Value} {W : World} (h : MsA w es v W) {k : Nat} (hk : w.heap.size ≤ k) (hv : v.ownBlock ≠ some k) (o : Nat) (u : Value) : MsA w es v (W.setCell ⟨k, o, none⟩ u) :=
  ⟨h.row.kept (set_grown W k o u) (.inr hv), h.bel.setCell (p := ⟨k, o, none⟩) hk u⟩
theorem cell_two_new (w : World) (x0 x1 : Value) (t : TypeId) : ∀ j u, [x0, x1][j]? = some u → (w.alloc (.cells #[x0, x1] t)).cell? ((⟨w.heap.size, 0, none⟩ : Addr).add j) = some u := by
  intro j u hj
  have e : (⟨w.heap.size, 0, none⟩ : Addr).add j = ⟨w.heap.size, j, none⟩ := by rw [add_of rfl]; simp
  rw [e, cells_new]
  simpa using hj

theorem B2.set0 {k : Nat} {a b : Value} {W : World} (h : B2 k a b W) (a' : Value) : B2 k a' b (W.setCell ⟨k, 0, none⟩ a') := by
  obtain ⟨h0, h1, h2, h4, h5⟩ := h
  exact ⟨by rw [setZ]; exact h0, setS h1 _, (setO (.inr (by simp)) _).trans h2, by rw [World.frozen?_setCell]; exact h4, by rw [World.frozen?_setCell]; exact h5⟩

set_option maxHeartbeats 1000000 in
theorem movedRef_long (size : Int) (a : Option Addr) (n cap : Nat) (b : Option Addr) (m bcap : Nat) (w : World) (h : 60 < n ∨ 60 < m) :
    Calls Try.prog 12 #[.int .i64 size, .slice a n cap, .slice b m bcap] w fun e w' => e = .returned (.tuple #[.slice none 0 0, .int .i64 1]) ∧ w = w' := by
  by_cases h1 : 60 < n
  · clear h
    go_enter Try.func12, Try.ntmps12
    go_wp2_with fail
    go_ret2
    exact ⟨rfl, rfl⟩
  · have h2 : 60 < m := by omega
    clear h
    go_enter Try.func12, Try.ntmps12
    go_wp2_with fail
    go_ret2
    exact ⟨rfl, rfl⟩

set_option maxRecDepth 100000 in
set_option maxHeartbeats 4000000 in
theorem movedRef (size : Int) (ms : List MkM) (al : Option Addr) (cap : Nat) (l : List EdM) (bl : Option Addr) (bcap : Nat) (w : World) (h : MksAt w al ms) (h60 : ms.length ≤ 60) (hl : EdsAt w bl l) (hok : ∀ e ∈ l, e.ok) (hm : l.length ≤ 60) :
    Calls Try.prog 12 #[.int .i64 size, .slice al ms.length cap, .slice bl l.length bcap] w (MvPost ms l size w) := by
  obtain ⟨i0, hi, hz0, hz1, hz2⟩ := info_parts infoMark
  have HI := Lib.hid (And.intro hi (And.intro hz0 (And.intro hz1 hz2)))
  clear hi hz0 hz1 hz2
  have HM := Lib.hid h
  have HL := Lib.hid hl
  have HOK := Lib.hid hok
  clear h hl hok
  obtain ⟨n, hn⟩ : ∃ n, ms.length = n := ⟨_, rfl⟩
  have HN := Lib.hid hn
  obtain ⟨N, hN⟩ : ∃ N, l.length = N := ⟨_, rfl⟩
  have HNN := Lib.hid hN
  rw [hn] at h60 ⊢
  rw [hN] at hm ⊢
  clear hn hN
  go_enter Try.func12, Try.ntmps12
  go_wp2_with fail
  go_loopw [28] (fun vi wr => ∃ k : Nat, k ≤ n ∧ vi = .int .i64 (k : Int) ∧ Hid (anyOut (ms.take k) size = false ∧ Below w.heap.size w wr)) (fun vi _ => n - (intOf vi).toNat)
  case atStart => exact ⟨0, by omega, rfl, Lib.hid ⟨rfl, Below.refl _ _⟩⟩
  case round =>
    obtain ⟨k, hk, rfl, HK⟩ := hrel
    by_cases hlt : k < n
    · obtain ⟨m, hm⟩ : ∃ m, ms[k]? = some m := ⟨ms[k]'(by have := HN.out; omega), by simp [HN.out, hlt]⟩
      obtain ⟨g, off, rfl, hg, c0, c1⟩ := MksAt.get (HM.out.next HK.out.2) hm
      have AT := Lib.hid (any_take (n := size) hm)
      rw [HK.out.1, Bool.false_or] at AT
      have BAD : Hid ((decide (m.at_ < 0) || decide (size < m.at_)) = true → mvCode ms l size = 2) := Lib.hid fun hb => by
        unfold mvCode badIn
        have : anyOut ms size = true := by
          unfold anyOut
          rw [List.any_eq_true]
          exact ⟨m, List.mem_of_getElem? hm, hb⟩
        rw [this, Bool.or_true, if_pos rfl]
      clear hm
      have i1 : (k : Int) < (n : Int) := by omega
      have i2 : (0 : Int) ≤ (k : Int) := by omega
      obtain ⟨ma, mr⟩ := m
      dsimp only at *
      by_cases h1 : ma < 0
      · have FIN := Lib.hid (BAD.out (by simp [h1]))
        have B := Lib.hid (bstep HK.out.2 (balloc (Below.refl _ _) (.cells #[.int .i64 ma, .bool mr] 28)))
        clear BAD AT HK
        go_wp2_with fail
        go_ret2
        exact ⟨.slice none 0 0, by rw [FIN.out]; rfl, .inr ⟨by rw [FIN.out]; simp, rfl⟩, B.out⟩
      · by_cases h2 : size < ma
        · have FIN := Lib.hid (BAD.out (by simp [h2]))
          have B := Lib.hid (bstep HK.out.2 (balloc (Below.refl _ _) (.cells #[.int .i64 ma, .bool mr] 28)))
          clear BAD AT HK
          go_wp2_with fail
          go_ret2
          exact ⟨.slice none 0 0, by rw [FIN.out]; rfl, .inr ⟨by rw [FIN.out]; simp, rfl⟩, B.out⟩
        · have A1 : Hid (anyOut (ms.take (k + 1)) size = false) := Lib.hid (by rw [AT.out]; simp; omega)
          have B := Lib.hid (bstep HK.out.2 (balloc (Below.refl _ _) (.cells #[.int .i64 ma, .bool mr] 28)))
          clear BAD AT HK
          go_wp2_with fail
          go_roundw
          case rel => exact ⟨k + 1, by omega, by go_num, Lib.hid ⟨A1.out, B.out⟩⟩
          case measure => simp [intOf]; omega
    · obtain rfl : k = n := by omega
      have AO : anyOut ms size = false := by
        have := HK.out.1
        rw [← HN.out, List.take_length] at this
        exact this
      have B1 := Lib.hid HK.out.2
      have HIN := Lib.hid (anyOut_iff.1 AO)
      clear HK
      by_cases s0 : size < 0
      · have FIN : Hid (mvCode ms l size = 2) := Lib.hid (by unfold mvCode badIn; rw [decide_eq_true s0, Bool.true_or, Bool.true_or, if_pos rfl])
        clear AO
        go_wp2_with fail
        go_ret2
        exact ⟨.slice none 0 0, by rw [FIN.out]; rfl, .inr ⟨by rw [FIN.out]; simp, rfl⟩, B1.out⟩
      · by_cases s1 : 600 < size
        · have FIN : Hid (mvCode ms l size = 2) := Lib.hid (by unfold mvCode badIn; rw [decide_eq_true s1, Bool.or_true, Bool.true_or, if_pos rfl])
          clear AO
          go_wp2_with fail
          go_ret2
          exact ⟨.slice none 0 0, by rw [FIN.out]; rfl, .inr ⟨by rw [FIN.out]; simp, rfl⟩, B1.out⟩
        · have MC : Hid (mvCode ms l size = szC l size) := Lib.hid (by unfold mvCode badIn; rw [AO, decide_eq_false s0, decide_eq_false s1]; rfl)
          clear AO
          go_wp2_with fail
          go_loopw [0, 50] (fun vs vi wr => ∃ (j : Nat) (sz : Int), j ≤ N ∧ vi = .int .i64 (j : Int) ∧ vs = .int .i64 sz ∧ 0 ≤ sz ∧ sz ≤ 600 ∧ Hid (sz = szN (l.take j) size ∧ szC (l.take j) size = 0 ∧ Below w.heap.size w wr)) (fun _ vi _ => N - (intOf vi).toNat)
          case atStart => exact ⟨0, size, by omega, rfl, rfl, by omega, by omega, Lib.hid ⟨rfl, rfl, B1.out⟩⟩
          case round =>
            obtain ⟨j, sz, hj, rfl, rfl, z0, z1, HK⟩ := hrel
            clear B1
            by_cases hlt : j < N
            · obtain ⟨e, he⟩ : ∃ e, l[j]? = some e := ⟨l[j]'(by have := HNN.out; omega), by simp [HNN.out, hlt]⟩
              have eok := HOK.out e (List.mem_of_getElem? he)
              obtain ⟨g', off, rfl, hg', c0, c1, c2⟩ := EdsAt.get (HL.out.next HK.out.2.2) he
              have i1 : (j : Int) < (N : Int) := by omega
              have i2 : (0 : Int) ≤ (j : Int) := by omega
              have CK := Lib.hid (fun W => fault_ref sz e.at_ e.cut e.put W eok.a1 eok.c1 eok.p)
              have hep := eok.p
              have KA := Lib.hid (bstep HK.out.2.2 (balloc (Below.refl _ _) (.cells #[.int .i64 e.at_, .int .i64 e.cut, .string e.put] 50)))
              have KB := Lib.hid (B3.new wr (.int .i64 e.at_) (.int .i64 e.cut) (.string e.put) 50)
              by_cases hf : fault sz e.at_ e.cut e.put.size = 0
              · have NX : Hid (sz - e.cut + e.put.size = szN (l.take (j + 1)) size ∧ szC (l.take (j + 1)) size = 0) := Lib.hid ⟨by rw [szN_next he, ← HK.out.1], szC_next he HK.out.2.1 (by rw [← HK.out.1]; exact hf)⟩
                obtain ⟨f1, f2, f3, f4, f5, f6⟩ := fault_zero.1 hf
                rw [hf] at CK
                clear he eok hf HK
                obtain ⟨a, c, p⟩ := e
                dsimp only at *
                go_wp2_with fail
                refine (CK.out _).mono ?_
                rintro e w4 ⟨rfl, hb4⟩
                have KA4 := Lib.hid (bstep KA.out hb4)
                obtain ⟨_, b0, b1, b2, _, _, _⟩ := KB.out.next hb4
                clear hb4 KA KB CK c0 c1 c2
                go_wp2_with fail
                go_roundw
                case rel => exact ⟨j + 1, sz - c + p.size, by omega, by go_num, by first | rfl | go_num, by omega, by omega, Lib.hid ⟨NX.out.1, NX.out.2, KA4.out⟩⟩
                case measure => simp [intOf]; omega
              · have NX := Lib.hid (szC_at he HK.out.2.1 (by rw [← HK.out.1]; exact hf))
                rw [← HK.out.1] at NX
                have hfb : (fault sz e.at_ e.cut e.put.size != 0) = true := by simpa using hf
                have HF := Lib.hid hf
                clear he eok hf HK
                obtain ⟨a, c, p⟩ := e
                dsimp only at *
                generalize fault sz a c p.size = f at *
                go_wp2_with fail
                refine (CK.out _).mono ?_
                rintro e w4 ⟨rfl, hb4⟩
                have BB := Lib.hid (bstep KA.out hb4)
                clear hb4 KA KB CK c0 c1 c2
                go_wp2_with fail
                go_ret2
                exact ⟨.slice none 0 0, by rw [MC.out, NX.out]; rfl, .inr ⟨by rw [MC.out, NX.out]; exact HF.out, rfl⟩, BB.out⟩
            · obtain rfl : j = N := by omega
              have SC : szC l size = 0 := by
                have := HK.out.2.1
                rw [← HNN.out, List.take_length] at this
                exact this
              have HSC := Lib.hid SC
              have B2 := Lib.hid HK.out.2.2
              clear SC HK
              go_wp2_with fail
              go_loopw [13, 71] (fun v vi wr => ∃ i : Nat, i ≤ k ∧ vi = .int .i64 (i : Int) ∧ Hid (MsA w ((ms.take i).map (mvd l)) v wr)) (fun _ vi _ => k - (intOf vi).toNat)
              case atStart => exact ⟨0, by omega, rfl, Lib.hid ⟨World.ownsRow_nil _ _ _ _, B2.out⟩⟩
              case round =>
                obtain ⟨i, hik, rfl, HK⟩ := hrel
                clear B2
                by_cases hlt : i < k
                · obtain ⟨m, hm⟩ : ∃ m, ms[i]? = some m := ⟨ms[i]'(by have := HN.out; omega), by simp [HN.out, hlt]⟩
                  obtain ⟨g, off, rfl, hg, c0, c1⟩ := MksAt.get (HM.out.next HK.out.bel) hm
                  have i1 : (i : Int) < (k : Int) := by omega
                  have i2 : (0 : Int) ≤ (i : Int) := by omega
                  have MI := HIN.out m (List.mem_of_getElem? hm)
                  have LN : Hid (((ms.take i).map (mvd l)).length = i) := Lib.hid (by rw [List.length_map, List.length_take, HN.out]; omega)
                  have NX : Hid ((ms.take (i + 1)).map (mvd l) = (ms.take i).map (mvd l) ++ [mvd l m]) := Lib.hid (by rw [take_next hm, List.map_append]; rfl)
                  have MIN : Hid (∀ j, (mvd (l.take j) m).in_ (szN (l.take j) size) ∧ 0 ≤ szN (l.take j) size ∧ szN (l.take j) size ≤ 600) := Lib.hid fun j => ⟨mvd_in (szC_take HSC.out j) MI, szN_ok (szC_take HSC.out j) (by omega) (by omega)⟩
                  clear hm MI
                  obtain ⟨wq, rfl⟩ : ∃ wq, wq = wr := ⟨_, rfl⟩
                  have hwq : w.heap.size ≤ wq.heap.size := HK.out.bel.size
                  have OB : u13.ownBlock ≠ some wq.heap.size := by
                    intro e
                    have := (HK.out.row.lt _ e).2
                    omega
                  have I0 : Hid (MsA w ((ms.take i).map (mvd l)) u13 (wq.alloc (.cells #[.int .i64 m.at_, .bool m.right] 28)) ∧ B2 wq.heap.size (.int .i64 (mvd (l.take 0) m).at_) (.bool m.right) (wq.alloc (.cells #[.int .i64 m.at_, .bool m.right] 28))) := Lib.hid ⟨HK.out.next (balloc (Below.refl _ _) _), B2.new _ _ _ _⟩
                  generalize (ms.take i).map (mvd l) = es at *
                  clear HK
                  go_wp2_with fail
                  go_loopw [77] (fun vj wr => ∃ q : Nat, q ≤ j ∧ vj = .int .i64 (q : Int) ∧ Hid (MsA w es u13 wr ∧ B2 wq.heap.size (.int .i64 (mvd (l.take q) m).at_) (.bool m.right) wr)) (fun vj _ => j - (intOf vj).toNat)
                  case atStart => exact ⟨0, by omega, rfl, I0⟩
                  case round =>
                    obtain ⟨q, hq, rfl, HQ⟩ := hrel
                    clear I0 c0 c1
                    by_cases hqlt : q < j
                    · obtain ⟨e, he⟩ : ∃ e, l[q]? = some e := ⟨l[q]'(by have := HNN.out; omega), by simp [HNN.out, hqlt]⟩
                      have eok := HOK.out e (List.mem_of_getElem? he)
                      obtain ⟨g', off', rfl, hg', d0, d1, d2⟩ := EdsAt.get (HL.out.next HQ.out.1.bel) he
                      obtain ⟨mi, z0, z1⟩ := MIN.out q
                      obtain ⟨mi0, mi1⟩ := mi
                      obtain ⟨f1, f2, f3, f4, f5, f6⟩ := fault_zero.1 (szC_each HSC.out he)
                      have PL := Lib.hid (fun W => editPlace e.at_ e.cut (mvd (l.take q) m).at_ e.put m.right W f3 (by omega) f4 (by omega) mi0 (by omega) eok.p)
                      have NV : Hid ((mvd (l.take (q + 1)) m).at_ = placed e.at_ e.cut e.put.size (mvd (l.take q) m).at_ m.right) := Lib.hid (by rw [mvd_next he]; unfold plc; rw [mvd_right])
                      have j1 : (q : Int) < (j : Int) := by omega
                      have j2 : (0 : Int) ≤ (q : Int) := by omega
                      obtain ⟨hbl, b0, b1, fz, _⟩ := HQ.out.2
                      have KA := Lib.hid (HQ.out.1.next (balloc (Below.refl _ _) (.cells #[.int .i64 e.at_, .int .i64 e.cut, .string e.put] 50)))
                      have KB := Lib.hid (HQ.out.2.next (balloc (Below.refl _ _) (.cells #[.int .i64 e.at_, .int .i64 e.cut, .string e.put] 50)))
                      clear HQ eok he f1 f2 f3 f4 f5 f6 mi0 mi1 z0 z1
                      rw [← NV.out] at PL
                      obtain ⟨nv, hnv⟩ : ∃ nv, nv = (mvd (l.take (q + 1)) m).at_ := ⟨_, rfl⟩
                      have HE := Lib.hid hnv
                      rw [← hnv] at PL
                      clear hnv NV
                      generalize (mvd (l.take q) m).at_ = ov at *
                      obtain ⟨a, c, p⟩ := e
                      dsimp only at *
                      go_wp2_with fail
                      refine (PL.out _).mono ?_
                      rintro x w4 ⟨rfl, hb4⟩
                      have S1 := Lib.hid ((KA.out.next hb4).set (k := wq.heap.size) hwq OB 0 (.int .i64 nv))
                      have S2 := Lib.hid (B2.set0 (KB.out.next hb4) (.int .i64 nv))
                      obtain ⟨hbl4, b04, b14, fz4, _⟩ := KB.out.next hb4
                      clear hb4 KA KB PL d0 d1 d2 b0 b1 fz
                      go_wp2_with fail
                      go_roundw
                      case rel => exact ⟨q + 1, by omega, by go_num, Lib.hid ⟨S1.out, by rw [← HE.out]; exact S2.out⟩⟩
                      case measure => simp [intOf]; omega
                    · obtain rfl : q = j := by omega
                      have TK : Hid (l.take q = l) := Lib.hid (by rw [← HNN.out, List.take_length])
                      rw [TK.out] at HQ
                      obtain ⟨hbl, b0, b1, fz, _⟩ := HQ.out.2
                      have MR : Hid (mvd l m = ⟨(mvd l m).at_, m.right⟩) := Lib.hid (by rw [← mvd_right l m])
                      have E2 := Lib.hid (HQ.out.1.next (balloc (Below.refl _ _) (.cells #[.int .i64 (mvd l m).at_, .bool m.right] 28)))
                      have HNEW := Lib.hid (cell_two_new wr (.int .i64 (mvd l m).at_) (.bool m.right) 28)
                      have hzw : w.heap.size ≤ wr.heap.size := HQ.out.1.bel.size
                      have HROW : Hid ((wr.alloc (.cells #[.int .i64 (mvd l m).at_, .bool m.right] 28)).ownsRow w.heap.size 28 2 u13 i (flatC MkM.cs es)) := by
                        have := E2.out.row
                        rw [LN.out] at this
                        exact Lib.hid this
                      clear HQ
                      generalize (mvd l m).at_ = x at *
                      go_wp2_with (at_builtin; refine wpList_append_lies _ rfl _ _ 22 rfl w.heap.size 28 i0 _ 2 16 Try.underlying22 HI.out.1 HI.out.2.1 HI.out.2.2.1 HI.out.2.2.2 rfl (by decide) _ i (flatC MkM.cs es) rfl HROW.out ⟨wr.heap.size, 0, none⟩ 1 1 [.int .i64 x, .bool m.right] rfl rfl HNEW.out (by simp [Value.oneCell']) (by omega) (by unfold maxLen; omega) (by omega) (by simp; omega) _ rfl ?_; intro g4 cap4 w4 hown4 hgrow4 _ _; have FIN : Hid (MsA w (es ++ [⟨x, m.right⟩]) (.slice (some ⟨g4, 0, none⟩) (i + 1) cap4) w4) := Lib.hid ⟨by rw [flatC_append, flatC_one, List.length_append, LN.out]; exact hown4, bgrow E2.out.bel HROW.out hgrow4⟩; clear hown4 hgrow4)
                      go_roundw
                      case rel => exact ⟨i + 1, by omega, by go_num, Lib.hid (by rw [NX.out, MR.out]; exact FIN.out)⟩
                      case measure => simp [intOf]; omega
                · obtain rfl : i = k := by omega
                  have FIN : Hid (MksV wr u13 (ms.map (mvd l)) ∧ Below w.heap.size w wr) := Lib.hid (by
                    have := HK.out
                    rw [← HN.out, List.take_length] at this
                    exact ⟨SlV.of_owns MkM.cs_len this.row, this.bel⟩)
                  have Z : Hid (mvCode ms l size = 0) := Lib.hid (by rw [MC.out]; exact HSC.out)
                  clear HK
                  go_wp2_with fail
                  go_ret2
                  exact ⟨_, by rw [Z.out]; rfl, .inl ⟨Z.out, FIN.out.1⟩, FIN.out.2⟩

end Go.Proofs.Ytllpglanpfjcnaa.MarkC
