/-
  The document: WordsAll.
-/
import Derived.Test.YtedlgobpoifnfaaRefGroup
import Derived.Test.YtedlgobpoifnfaaRefFind
import Derived.Shelf.GgSortFunc.Tiny
import Derived.Deep.AppendLies
import Derived.WalkSmall
namespace Go.Proofs.Ytedlgobpoifnfaa.WordR
open Go.RowKit Kit WordM LineM WordC Go.Shelf Go.Lib

theorem sortTiny (p : Option Addr) (n c : Nat) (h1 : n ≤ 1) (lb : Array Value) (w : World) :
    Calls Try.prog 27 #[.iface 22 (.slice p n c), .func (.func 28) #[] lb] w fun e w' => e = .returned (.tuple #[]) ∧ Below w.heap.size w w' := by
  obtain ⟨i, hi, hd⟩ := ty_words
  have fin : ∀ e w', (e = Ending.returned (.tuple #[]) ∧ ∃ os, w' = Sort.grow w os) → e = .returned (.tuple #[]) ∧ Below w.heap.size w w' := by
    rintro e w' ⟨rfl, os, rfl⟩
    exact ⟨rfl, ⟨rfl, rfl, rfl, by simp [Sort.grow], fun b hb => Sort.heap_grow_old _ _ hb⟩⟩
  rcases (by omega : n = 0 ∨ n = 1) with rfl | rfl
  · exact (Any.sort_Slice_tiny SortLay.slice 22 46 i tyW hi hd (by kernel_rfl) tyW_is 25 (fun _ => by kernel_rfl) p 0 c (by omega) 56 (by kernel_rfl) (.func 28) #[] lb w).mono fin
  · exact (Any.sort_Slice_tiny SortLay.slice 22 46 i tyW hi hd (by kernel_rfl) tyW_is 25 (fun _ => by kernel_rfl) p 1 c (by omega) 57 (by kernel_rfl) (.func 28) #[] lb w).mono fin
/-- the sorted words, read -/
theorem sorted_ix {w W W' : World} {M : List Wt} {g cap : Nat} {o : List (Int × List UInt8)} (h : GM w M (.slice (some ⟨g, 0, none⟩) M.length cap) W) (hG : Grp o (M.map rd)) {L : List Wt} (hp : L.Perm M) (hs : L.Pairwise (fun a b => ¬ b.1 < a.1)) (hat : SlAt 2 cw W' (some ⟨g, 0, none⟩) L) (hg : W.grownBy W' (some g)) (hcap : M.length ≤ cap) :
    WsV W' (.slice (some ⟨g, 0, none⟩) M.length cap) (idxL o) ∧ Below w.heap.size w W' := by
  have hgg := h.row.lt g rfl
  have e := hG.idx (m := L.map rd) (hp.map _) (List.pairwise_map.2 hs)
  refine ⟨⟨L, e.symm, ⟨some ⟨g, 0, none⟩, cap, by rw [hp.length_eq], by rw [hp.length_eq]; exact hcap, hat, .inr ⟨g, 0, rfl, Nat.lt_of_lt_of_le hgg.2 hg.size⟩⟩, fun t ht => ?_⟩, ?_⟩
  · have h1 := (h.at_ t (hp.mem_iff.1 ht)).1
    refine SlV.of_owns ic_len (h1.kept hg ?_)
    exact apart h1 h.row (by decide)
  · exact h.bel.trans ⟨hg.os, hg.tape, hg.output, hg.size, fun b hb => hg.block b (Nat.lt_of_lt_of_le hb h.bel.size) (fun e => by injection e with e; omega)⟩
theorem tiny_ix {w W W' : World} {M : List Wt} {v : Value} {o : List (Int × List UInt8)} (h : GM w M v W) (hG : Grp o (M.map rd)) (hl : M.length ≤ 1) (hb : Below W.heap.size W W') : WsV W' v (idxL o) ∧ Below w.heap.size w W' := by
  have e := hG.idx (m := M.map rd) (List.Perm.refl _) (by
    match M, hl with
    | [], _ => simp
    | [t], _ => simp)
  exact ⟨⟨M, e.symm, (SlV.of_owns cw_len h.row).next hb, fun t ht => SlV.next (SlV.of_owns ic_len (h.at_ t ht).1) hb⟩, bstep h.bel hb⟩

def fnd (l : List (List UInt8 × List Int)) (x : List UInt8) : Bool := l.any (fun p => decide (p.1 = x))
theorem fnd_succ {l : List (List UInt8 × List Int)} {i : Nat} {p : List UInt8 × List Int} (hi : l[i]? = some p) (x : List UInt8) : fnd (l.take (i + 1)) x = (fnd (l.take i) x || decide (p.1 = x)) := by
  rw [List.take_add_one, hi]
  simp [fnd]
theorem fnd_iff (l : List (List UInt8 × List Int)) (x : List UInt8) : fnd l x = true ↔ x ∈ l.map (·.1) := by
  simp [fnd, List.any_eq_true, List.mem_map]

theorem eq_words {v x : List UInt8} : ((bs v).toList == (bs x).toList) = decide (v = x) := by
  rw [eq_bs]

set_option maxHeartbeats 1000000 in
theorem wall_size (s : ByteArray) (w : World) (h : 600 < s.size) : Calls Try.prog 10 #[.string s] w (WcPost w [] 1) := by
  go_enter Try.func10, Try.ntmps10
  go_wp2_with fail
  go_ret2
  exact ⟨_, rfl, WsV.nil _, Below.refl _ _⟩

/-- the state between two places -/
def GS (s : ByteArray) (w : World) (k : Nat) (W : World) : Prop := ∃ M v, GM w M v W ∧ Grp (occTo s.data.toList k) (M.map rd)
/-- the state within the inner loop -/
def IS (w : World) (l0 : List (List UInt8 × List Int)) (x : List UInt8) (a : Int) (v : Value) (i : Nat) (W : World) : Prop := ∃ M, GM w M v W ∧ M.map rd = (l0.take i).map (add1 x a) ++ l0.drop i

theorem set_same {α : Type} {l : List α} {i : Nat} {p : α} (h : l[i]? = some p) : l.set i p = l := by
  apply List.ext_getElem?
  intro j
  rw [List.getElem?_set]
  have hil := (List.getElem?_eq_some_iff.1 h).1
  by_cases e : i = j
  · subst e; rw [if_pos rfl, if_pos hil, h]
  · rw [if_neg e]
theorem IS.skip {w W : World} {l0 : List (List UInt8 × List Int)} {x : List UInt8} {a : Int} {v : Value} {i : Nat} (h : IS w l0 x a v i W) {p : List UInt8 × List Int} (hi : l0[i]? = some p) (hne : p.1 ≠ x) : IS w l0 x a v (i + 1) W := by
  obtain ⟨M, h1, h2⟩ := h
  refine ⟨M, h1, ?_⟩
  rw [step_take hi, add1, if_neg hne, set_same (mid_get hi), h2]
theorem IS.at_ {w W : World} {l0 : List (List UInt8 × List Int)} {x : List UInt8} {a : Int} {v : Value} {i : Nat} (h : IS w l0 x a v i W) {p : List UInt8 × List Int} (hi : l0[i]? = some p) : ∃ M t, GM w M v W ∧ M.map rd = (l0.take i).map (add1 x a) ++ l0.drop i ∧ M[i]? = some t ∧ rd t = p := by
  obtain ⟨M, h1, h2⟩ := h
  have := mid_get (x := x) (a := a) hi
  rw [← h2, List.getElem?_map] at this
  cases ht : M[i]? with
  | none => rw [ht] at this; cases this
  | some t =>
    rw [ht] at this
    exact ⟨M, t, h1, h2, ht, by simpa using this⟩

set_option maxRecDepth 100000 in
set_option maxHeartbeats 8000000 in
theorem wall (s : ByteArray) (w : World) (hs : s.size ≤ 600) : Calls Try.prog 10 #[.string s] w (WcPost w (ix s.data.toList) 0) := by
  obtain ⟨i0, hi, hz0, hz1, hz2⟩ := info_parts infoInt
  have HI := Lib.hid (And.intro hi (And.intro hz0 (And.intro hz1 hz2)))
  clear hi hz0 hz1 hz2
  obtain ⟨j0, hi, hz0, hz1, hz2⟩ := info_parts infoWord
  have HJ := Lib.hid (And.intro hi (And.intro hz0 (And.intro hz1 hz2)))
  clear hi hz0 hz1 hz2
  have WA := Lib.hid (fun k w (hk : k ≤ s.size) => wordAt s k w (by omega) hk)
  have START : Hid (GS s w 0 (w.alloc (.cells #[.slice none 0 0] 22))) := Lib.hid ⟨[], .slice none 0 0, ⟨by simp, by simp, World.ownsRow_nil _ _ _ _, fun t ht => by simp at ht, fun i j t u _ h => by simp at h, balloc (Below.refl _ _) _, by simp⟩, Grp.nil⟩
  go_enter Try.func10, Try.ntmps10
  go_wp2_with fail
  go_loopw [14] (fun vi wr => ∃ k : Nat, k ≤ s.size ∧ vi = .int .i64 (k : Int) ∧ Hid (GS s w k wr)) (fun vi _ => s.size - (intOf vi).toNat)
  case atStart => exact ⟨0, by omega, rfl, START⟩
  case round =>
    obtain ⟨k, hk, rfl, HK⟩ := hrel
    clear START
    by_cases hlt : k < s.size
    · have r1 : IntKind.i64.wrap ((k : Int) + 1) = (k : Int) + 1 := IntWalk.i64_in _ (by omega)
      have HW := Lib.hid (WA.out k wr hk)
      by_cases hx : wat s.data.toList k = []
      · have hb : (bs (wat s.data.toList k)).toList.isEmpty = true := by rw [hx, Lib.toList_data]; rfl
        have HN : Hid (GS s w (k + 1) wr) := Lib.hid (by
          obtain ⟨M, v, h1, h2⟩ := HK.out
          refine ⟨M, v, h1, ?_⟩
          show Grp (occTo s.data.toList k ++ WordM.one s.data.toList k) _
          rw [one_none hx, List.append_nil]; exact h2)
        clear hx HK
        generalize bs (wat s.data.toList k) = y at *
        go_wp2_with (go_at_call 26; refine HW.out.mono ?_; rintro e w1 ⟨rfl, rfl⟩)
        go_roundw
        case rel => exact ⟨k + 1, by omega, by go_num, HN⟩
        case measure => simp [intOf]; omega
      · have hb : (bs (wat s.data.toList k)).toList.isEmpty = false := by rw [Lib.toList_data]; simpa using hx
        obtain ⟨M, v, hM, hG⟩ := HK.out
        have HO : Hid (occTo s.data.toList (k + 1) = occTo s.data.toList k ++ [((k : Int), wat s.data.toList k)]) := Lib.hid (by
          show occTo s.data.toList k ++ WordM.one s.data.toList k = _
          rw [one_some hx])
        obtain ⟨va, vc, rfl⟩ := hM.form
        have box := hM.box
        have frb := hM.fr
        have hml : M.length ≤ 600 := by
          have := hG.len
          rw [List.length_map] at this
          have h2 := occTo_len s.data.toList k
          omega
        have HM := Lib.hid hM
        have HG := Lib.hid hG
        clear hx HK hM hG
        obtain ⟨x, hxe⟩ : ∃ x, wat s.data.toList k = x := ⟨_, rfl⟩
        rw [hxe] at HW hb HO
        clear hxe
        obtain ⟨N, hN⟩ : ∃ N, N = M.length := ⟨_, rfl⟩
        rw [← hN] at HM box hml
        obtain ⟨l0, hl0⟩ : ∃ l0, l0 = M.map rd := ⟨_, rfl⟩
        have HL0 := Lib.hid hl0
        rw [← hl0] at HG
        have HN0 : Hid (N = l0.length) := Lib.hid (by rw [hl0, List.length_map]; exact hN)
        clear hl0 hN
        have START2 : Hid (IS w l0 x (k : Int) (.slice va N vc) 0 wr) := Lib.hid ⟨M, HM.out, by simp [HL0.out]⟩
        clear HM HL0
        have hsb := block_lt box
        obtain ⟨y, hy⟩ : ∃ y, bs x = y := ⟨_, rfl⟩
        have HY := Lib.hid hy
        rw [hy] at HW hb
        clear hy
        go_wp2_with (go_at_call 26; refine HW.out.mono ?_; rintro e w1 ⟨rfl, rfl⟩)
        go_loopw [7, 24] (fun vf vi wi => ∃ (i : Nat) (b : Bool), i ≤ N ∧ vi = .int .i64 (i : Int) ∧ vf = .bool b ∧ Hid (b = fnd (l0.take i) x ∧ IS w l0 x (k : Int) (.slice va N vc) i wi)) (fun _ vi _ => N - (intOf vi).toNat)
        case atStart => exact ⟨0, false, by omega, rfl, rfl, Lib.hid ⟨by simp [fnd], START2.out⟩⟩
        case round =>
          obtain ⟨i, b, hiN, rfl, rfl, HS⟩ := hrel
          clear START2
          by_cases hlt2 : i < N
          · have hil : i < l0.length := by rw [← HN0.out]; exact hlt2
            obtain ⟨p, hp⟩ : ∃ p, l0[i]? = some p := ⟨l0[i], by simp [hil]⟩
            obtain ⟨M1, t, h1, h2, ht, hrt⟩ := HS.out.2.at_ hp
            have hM1l : 0 < M1.length := by have := (List.getElem?_eq_some_iff.1 ht).1; omega
            obtain ⟨g, cap, e, hg1, hg2⟩ := own_some h1.row hM1l
            simp only [Value.slice.injEq] at e
            obtain ⟨rfl, eN, rfl⟩ := e
            have hMi := (List.getElem?_eq_some_iff.1 ht).1
            have HEN := Lib.hid eN
            have ct : wr.cell? ⟨g, i * 2, none⟩ = some (.string (bs t.1)) := by
              have hr := h1.row
              rw [eN] at hr
              rw [hr.cellAt (i * 2) (by omega)]
              have := flatC_get cw_len M1 i t 0 ht (by omega)
              rw [Nat.add_zero] at this
              rw [this]; rfl
            have cu : wr.cell? ⟨g, i * 2 + 1, none⟩ = some t.2.1 := by
              have hr := h1.row
              rw [eN] at hr
              rw [hr.cellAt (i * 2 + 1) (by omega), flatC_get cw_len M1 i t 1 ht (by omega)]; rfl
            have bxi := h1.box
            have hbxl := block_lt bxi
            have r1i : IntKind.i64.wrap ((i : Int) + 1) = (i : Int) + 1 := IntWalk.i64_in _ (by omega)
            have p1 : (0 : Int) ≤ (i : Int) := by omega
            have p2 : (i : Int) < (N : Int) := by omega
            by_cases e : t.1 = x
            · have hbe : ((bs t.1).toList == y.toList) = true := by rw [← HY.out, eq_words]; exact decide_eq_true e
              obtain ⟨hrow, hne⟩ := h1.at_ t (List.mem_of_getElem? ht)
              obtain ⟨n, hn⟩ : ∃ n, n = t.2.2.length := ⟨_, rfl⟩
              have HF : Hid (fnd (l0.take (i + 1)) x = true) := Lib.hid (by
                rw [fnd_succ hp, ← hrt]
                have : (rd t).1 = t.1 := rfl
                simp [this, e])
              have h1' : GM w M1 (.slice (some ⟨g, 0, none⟩) M1.length vc) wr := by rw [← eN]; exact h1
              have AFTER := Lib.hid (fun W4 g4 cap4 hr (hgr : ((wr.alloc (.cells #[.int .i64 (k : Int)] 3)).drew).grownBy W4 t.2.1.ownBlock) hloc => h1'.at_set ht (k : Int) (.cells #[.int .i64 (k : Int)] 3) W4 g4 cap4 hr ⟨hgr.os, hgr.tape, hgr.output, hgr.size, hgr.block⟩ hloc)
              have MAP : Hid (∀ u, (M1.set i (t.1, u, t.2.2 ++ [(k : Int)])).map rd = (l0.take (i + 1)).map (add1 x (k : Int)) ++ l0.drop (i + 1)) := Lib.hid (fun u => by
                rw [step_take hp, List.map_set, h2]
                congr 1
                rw [← hrt]
                show (t.1, t.2.2 ++ [(k : Int)]) = add1 x (k : Int) (t.1, t.2.2)
                rw [add1, if_pos e])
              rw [← eN, ← hn] at AFTER
              have HROW : Hid (((wr.alloc (.cells #[.int .i64 (k : Int)] 3)).drew).ownsRow (w.heap.size + 1) 3 1 t.2.1 n (flatC ic t.2.2)) := Lib.hid (by rw [hn]; exact hrow.alloc _)
              have HNEW : Hid (∀ j z, [Value.int .i64 (k : Int)][j]? = some z → ((wr.alloc (.cells #[.int .i64 (k : Int)] 3)).drew).cell? ((⟨wr.heap.size, 0, none⟩ : Addr).add j) = some z) := Lib.hid (cell_one_new _ _ _)
              have hbase : w.heap.size + 1 ≤ ((wr.alloc (.cells #[.int .i64 (k : Int)] 3)).drew).heap.size := by
                show w.heap.size + 1 ≤ (wr.alloc (.cells #[.int .i64 (k : Int)] 3)).heap.size
                simp; omega
              have hn6 : n ≤ 600 := by
                have : ∃ q ∈ l0, t.2.2 = q.2 := ⟨p, List.mem_of_getElem? hp, by rw [← hrt]; rfl⟩
                obtain ⟨q, hq, eq⟩ := this
                rw [hn, eq, HG.out.at_ q hq]
                exact Nat.le_trans (pos_len _ _) (Nat.le_trans (occTo_len _ _) (by omega))
              clear h1 h1' h2 ht hrt hrow hne eN hp hn HS e
              generalize t.2.1 = u at *
              generalize flatC ic t.2.2 = fl at *
              generalize bs t.1 = z at *
              go_wp2_with fail
              go_region_law ((refine step_append_lies _ (by rfl) _ _ _ (by rfl) (w.heap.size + 1) 3 i0 _ 1 8 Try.underlying28 HI.out.1 HI.out.2.1 HI.out.2.2.1 HI.out.2.2.2 rfl (by decide) u n fl (by rfl) HROW.out ⟨wr.heap.size, 0, none⟩ 1 1 [.int .i64 (k : Int)] (by rfl) rfl HNEW.out (by simp [Value.oneCell']) (by omega) (by unfold maxLen; omega) (by omega) hbase (wr.heap.size + 1) (by simp) ?_; intro g4 cap4 w4 hown4 hgrow4 hloc4 hlt4; obtain ⟨⟨c1, c2, c3⟩, hgm⟩ := AFTER.out _ _ _ hown4 hgrow4 (by first | exact hloc4 | simpa using hloc4); have HGM := Lib.hid hgm; clear hgm hown4 hgrow4 hloc4 hlt4))
              all_goals
                go_wp2_with fail
                go_roundw
                case rel => exact ⟨i + 1, true, by omega, by go_num, rfl, Lib.hid ⟨HF.out.symm, _, HGM.out, MAP.out _⟩⟩
                case measure => simp [intOf]; omega
            · have hbe : ((bs t.1).toList == y.toList) = false := by rw [← HY.out, eq_words]; exact decide_eq_false e
              have HN2 : Hid (b = fnd (l0.take (i + 1)) x ∧ IS w l0 x (k : Int) (.slice (some ⟨g, 0, none⟩) N vc) (i + 1) wr) := Lib.hid ⟨by
                rw [fnd_succ hp, ← hrt, ← HS.out.1]
                have : (rd t).1 = t.1 := rfl
                simp [this, e], HS.out.2.skip hp (by rw [← hrt]; exact e)⟩
              clear h1 h2 ht hrt eN hp HS e
              generalize bs t.1 = z at *
              go_wp2_with fail
              go_roundw
              case rel => exact ⟨i + 1, b, by omega, by go_num, rfl, HN2⟩
              case measure => simp [intOf]; omega
          · obtain rfl : i = N := by omega
            have HS2 : Hid (b = fnd l0 x ∧ ∃ M2, GM w M2 (.slice va i vc) wr ∧ M2.map rd = l0.map (add1 x (k : Int))) := Lib.hid (by
              obtain ⟨q1, M2, q2, q3⟩ := HS.out
              rw [List.take_of_length_le (by rw [← HN0.out]; exact Nat.le_refl _)] at q1 q3
              rw [List.drop_eq_nil_of_le (by rw [← HN0.out]; exact Nat.le_refl _), List.append_nil] at q3
              exact ⟨q1, M2, q2, q3⟩)
            clear HS hlt2
            cases b
            · obtain ⟨hq, M2, hM2, hMr⟩ := HS2.out
              have hno : x ∉ l0.map (·.1) := fun h => by rw [(fnd_iff l0 x).2 h] at hq; cases hq
              have hM2l : M2.length = i := by
                have := congrArg List.length hMr
                rw [List.length_map, List.length_map, ← HN0.out] at this
                exact this
              have bxi := hM2.box
              have fri := hM2.fr
              have hbxl := block_lt bxi
              have hrow := hM2.row
              rw [hM2l] at hrow
              have HROW := Lib.hid (((hrow.alloc (.cells #[.int .i64 (k : Int)] 3)).alloc (.cells #[.string y, .slice (some ⟨wr.heap.size, 0, none⟩) 1 1] 46)))
              have HNEW : Hid (∀ j z, [Value.string y, .slice (some ⟨wr.heap.size, 0, none⟩) 1 1][j]? = some z → ((wr.alloc (.cells #[.int .i64 (k : Int)] 3)).alloc (.cells #[.string y, .slice (some ⟨wr.heap.size, 0, none⟩) 1 1] 46)).cell? ((⟨wr.heap.size + 1, 0, none⟩ : Addr).add j) = some z) := Lib.hid (by
                have h := cell_two_new (wr.alloc (.cells #[.int .i64 (k : Int)] 3)) (.string y) (.slice (some ⟨wr.heap.size, 0, none⟩) 1 1) 46
                rw [show (wr.alloc (.cells #[.int .i64 (k : Int)] 3)).heap.size = wr.heap.size + 1 by simp] at h
                exact h)
              have AFTER := Lib.hid (fun W4 g4 cap4 hr (hgr : ((wr.alloc (.cells #[.int .i64 (k : Int)] 3)).alloc (.cells #[.string y, .slice (some ⟨wr.heap.size, 0, none⟩) 1 1] 46)).grownBy W4 (Value.slice va i vc).ownBlock) => hM2.push x (k : Int) (.cells #[.string y, .slice (some ⟨wr.heap.size, 0, none⟩) 1 1] 46) W4 g4 cap4 hr hgr)
              rw [hM2l, HY.out] at AFTER
              have HG2 : Hid (Grp (occTo s.data.toList (k + 1)) ((M2 ++ [(x, Value.slice (some ⟨wr.heap.size, 0, none⟩) 1 1, [(k : Int)])]).map rd)) := Lib.hid (by
                rw [HO.out, List.map_append, hMr, add1_none hno]
                exact HG.out.fresh (k : Int) hno)
              have hbase : w.heap.size + 1 ≤ wr.heap.size := hM2.sz
              clear hM2 hMr hq hno hrow hM2l HS2
              go_wp2_with (at_builtin; refine wpList_append_lies _ rfl _ _ 22 rfl (w.heap.size + 1) 46 j0 _ 2 40 Try.underlying22 HJ.out.1 HJ.out.2.1 HJ.out.2.2.1 HJ.out.2.2.2 rfl (by decide) _ i (flatC cw M2) rfl HROW.out ⟨wr.heap.size + 1, 0, none⟩ 1 1 [.string y, .slice (some ⟨wr.heap.size, 0, none⟩) 1 1] rfl rfl HNEW.out (by simp [Value.oneCell']) (by omega) (by unfold maxLen; omega) (by omega) (by simp; omega) _ rfl ?_; intro g4 cap4 w4 hown4 hgrow4 _ _; obtain ⟨⟨c1, c2⟩, hgm⟩ := AFTER.out _ _ _ hown4 hgrow4; have HGM := Lib.hid hgm; clear hgm hown4 hgrow4)
              go_roundw
              case rel => exact ⟨k + 1, by omega, by go_num, Lib.hid ⟨_, _, HGM.out, HG2.out⟩⟩
              case measure => simp [intOf]; omega
            · have HN3 : Hid (GS s w (k + 1) wr) := Lib.hid (by
                obtain ⟨hq, M2, hM2, hMr⟩ := HS2.out
                refine ⟨M2, _, hM2, ?_⟩
                rw [hMr, HO.out]
                exact HG.out.found (k : Int) ((fnd_iff l0 x).1 hq.symm))
              clear HS2
              go_wp2_with fail
              go_roundw
              case rel => exact ⟨k + 1, by omega, by go_num, HN3⟩
              case measure => simp [intOf]; omega
    · obtain ⟨M, v, hM, hG⟩ := HK.out
      have ek : k = s.data.toList.length := by simp; omega
      rw [ek] at hG
      have hG' : Grp (occ s.data.toList) (M.map rd) := hG
      obtain ⟨va, vc, rfl⟩ := hM.form
      have box := hM.box
      have hml : M.length ≤ 600 := by
        have := hG'.len
        rw [List.length_map] at this
        have h2 := occ_len s.data.toList
        simp at h2
        omega
      have hconc : Try.prog.concrete 22 = true := by kernel_rfl
      clear HK ek hG
      by_cases h2 : M.length ≤ 1
      · have T := Lib.hid (sortTiny va M.length vc h2 #[.pointer (some ⟨w.heap.size, 0, none⟩)] wr)
        have FIN := Lib.hid (fun W' hb => tiny_ix (W' := W') hM hG' h2 hb)
        have KB := Lib.hid (fun W' (hb : Below wr.heap.size wr W') => keep hb (block_lt box) box)
        clear hM hG' h2
        generalize M.length = N at *
        go_wp2_with (go_at_call 27; refine T.out.mono ?_; rintro e w5 ⟨rfl, hb5⟩; have c5 := KB.out _ hb5; obtain ⟨q1, q2⟩ := FIN.out _ hb5; have Q := Lib.hid (And.intro q1 q2); clear q1 q2 hb5)
        go_ret2
        exact ⟨_, rfl, Q.out.1, Q.out.2⟩
      · obtain ⟨g, cap, e, hg1, hg2⟩ := own_some hM.row (by omega)
        simp only [Value.slice.injEq, true_and] at e
        obtain ⟨rfl, rfl⟩ := e
        have hforms : ∀ t ∈ M, ∃ a n c, t.2.1 = Value.slice a n c := fun t ht => by
          obtain ⟨q1, q2⟩ := hM.at_ t ht
          obtain ⟨g', cap', e', _⟩ := own_some q1 (List.length_pos_iff.2 q2)
          exact ⟨_, _, _, e'⟩
        have T := Lib.hid (sortSlice (w.heap.size + 1) g vc w.heap.size M hforms wr hM.row box (by omega) (by omega) hml)
        have hcap : M.length ≤ vc := by
          rcases hM.row.2 with ⟨e, _⟩ | ⟨g', cap', cur, e, _, _, hle, _⟩
          · cases e
          · cases e; exact hle
        have FIN := Lib.hid (fun W' L hp hs hat hg => sorted_ix (W' := W') (L := L) hM hG' hp hs hat hg hcap)
        have KB := Lib.hid (fun W' (hg : wr.grownBy W' (some g)) => kept_at hg box (by intro e; injection e with e; omega))
        clear hM hG' h2 hforms hcap
        generalize M.length = N at *
        go_wp2_with (go_at_call 27; refine T.out.mono ?_; rintro e w5 ⟨rfl, L, hp, hs5, hat, hgr⟩; have c5 := KB.out _ hgr; obtain ⟨q1, q2⟩ := FIN.out _ _ hp hs5 hat hgr; have Q := Lib.hid (And.intro q1 q2); clear q1 q2 hgr hat hs5 hp)
        go_ret2
        exact ⟨_, rfl, Q.out.1, Q.out.2⟩
end Go.Proofs.Ytedlgobpoifnfaa.WordR
