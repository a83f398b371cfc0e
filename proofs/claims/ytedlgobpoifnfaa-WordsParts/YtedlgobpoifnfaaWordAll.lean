/-
  Package words: index and All.
-/
import Derived.Test.YtedlgobpoifnfaaWordIndex
import Derived.Test.YtedlgobpoifnfaaWordIter
import Derived.Test.YtedlgobpoifnfaaWordAt
import Derived.Test.YtedlgobpoifnfaaWordIdx
import Derived.Maps.OwnSet
import Derived.WalkSmall
import Derived.OwnWalk
namespace Go.Proofs.Ytedlgobpoifnfaa.WordC
open Go.RowKit Kit WordM LineM Go.Shelf Go.Maps Go.Sort
/-- what the map tells -/
theorem len_map {w W : World} {o : List (Int × List UInt8)} (h : NJ w o W) : ∃ N : Nat, N ≤ o.length ∧ (Builtin.len_ #[64] 3 #[.map (some w.heap.size)]).run Try.prog W = .ok (.int .i64 (N : Int)) W ∧ ∃ es clock, W.heap[w.heap.size]? = some (.map es clock) ∧ es.size = N := by
  obtain ⟨D, ⟨es, clock, hb, F, hs, hD, _⟩, hd⟩ := h.own
  have hm : W.ownsMap Try.prog 9 (rowElem W (w.heap.size + 2) 3 .i64) w.heap.size o.length D := ⟨es, clock, hb, F, hs, hD⟩
  refine ⟨es.size, hs, ?_, es, clock, hb, rfl⟩
  rw [hm.len Try.underlying64 3]
  rw [hD]
  simp [Maps.size, length_sorted]
theorem sorted_of {w W2 w3 : World} {o : List (Int × List UInt8)} (h : NJ w o W2) (hb : Below W2.heap.size W2 w3) (hol : o.length ≤ 600) :
    Calls Try.prog 41 #[.func (.func 55) #[] #[.pointer (some ⟨w3.heap.size, 0, none⟩)]] (w3.alloc (.cells #[.map (some w.heap.size)] 64)) fun e w' => ∃ (a : Option Addr) (cap : Nat) (ks : List (List UInt8)), e = .returned (.slice a ks.length cap) ∧ Idx o (ks.map fun x => (x, pos o x)) ∧
      w'.ownsRow (w3.alloc (.cells #[.map (some w.heap.size)] 64)).heap.size 9 1 (.slice a ks.length cap) ks.length (ks.map encStr) ∧ Below (w3.alloc (.cells #[.map (some w.heap.size)] 64)).heap.size (w3.alloc (.cells #[.map (some w.heap.size)] 64)) w' := by
  obtain ⟨D, hg, hd⟩ := h.own
  obtain ⟨es, clock, hb3, F, hs, hD, _⟩ := groups_next hg hb
  have hm : w3.ownsMap Try.prog 9 (rowElem w3 (w.heap.size + 2) 3 .i64) w.heap.size o.length D := ⟨es, clock, hb3, F, hs, hD⟩
  have hsz : Maps.size D ≤ 600 := by
    rw [hD]
    simp [Maps.size, length_sorted]; omega
  refine (sortedKeysC _ _ D _ w3 hm (by unfold maxLen; omega) (by omega)).mono ?_
  rintro e w' ⟨v, ss, rfl, hp, hrow, _, hbel⟩
  have hl : ss.length = (ss.mergeSort fun x y => decide (x ≤ y)).length := (List.length_mergeSort ss).symm
  rw [hl] at hrow
  have hform : ∃ a cap, v = .slice a (ss.mergeSort fun x y => decide (x ≤ y)).length cap := by
    rcases hrow.2 with ⟨e, h0⟩ | ⟨g, cap, cur, e, _⟩
    · exact ⟨none, 0, by rw [e, h0]⟩
    · exact ⟨_, cap, e⟩
  obtain ⟨a, cap, rfl⟩ := hform
  exact ⟨a, cap, _, rfl, hd.idx Try.underlying9 hm hp, hrow, hbel⟩
theorem look_of {w W2 : World} {o : List (Int × List UInt8)} (h : NJ w o W2) (hol : o.length ≤ 600) (x : List UInt8) (hx : x.length ≤ 12) :
    ∃ u, (∀ W : World, W.heap[w.heap.size]? = W2.heap[w.heap.size]? → (Instr.lookup 64 (.map (some w.heap.size)) (.string (bs x)) false).run Try.prog W = .ok u W) ∧ IsV W2 u (pos o x) := by
  obtain ⟨D, hg, hd⟩ := h.own
  obtain ⟨u, zs, LK, hat, hoi, _, _⟩ := look_any hg (string_keyed Try.underlying9) Try.underlying64 zeroRow (by unfold maxLen; omega) (key_bs x hx)
  have hzs := hd.places x hat hoi
  subst hzs
  have h9 := hoi.1
  rw [flat_ints] at h9
  exact ⟨u, LK, SlV.of_owns ic_len h9⟩
theorem flat_str (ks : List (List UInt8)) : flatC (fun x => [encStr x]) ks = ks.map encStr := by
  induction ks with
  | nil => rfl
  | cons x ks ih => rw [flatC_cons, ih]; rfl
theorem key_at {W : World} {kbase : Nat} {a : Option Addr} {cap : Nat} {ks : List (List UInt8)} (h : W.ownsRow kbase 9 1 (.slice a ks.length cap) ks.length (ks.map encStr)) {k : Nat} {x : List UInt8} (hx : ks[k]? = some x) :
    ∃ g off, a = some ⟨g, off, none⟩ ∧ g < W.heap.size ∧ W.cell? ⟨g, off + k, none⟩ = some (.string (bs x)) := by
  rw [← flat_str] at h
  obtain ⟨a', cap', e, _, hat, _⟩ := SlV.of_owns (cells := fun x => [encStr x]) (fun _ => rfl) h
  cases e
  obtain ⟨g, off, e0, e1, hc⟩ := hat.cell k x hx
  have h0 := hc 0 Nat.one_pos
  simp only [Nat.mul_one, Nat.add_zero, List.getElem?_cons_zero] at h0
  exact ⟨g, off, e0, e1, h0⟩
theorem isV_form {w : World} {u : Value} {l : List Int} (h : IsV w u l) : ∃ a n cap, u = .slice a n cap := by
  obtain ⟨a, cap, rfl, _⟩ := h
  exact ⟨_, _, _, rfl⟩

/-- the loop's world: the words so far, the keys' row -/
structure AL (W2 : World) (o : List (Int × List UInt8)) (ks : List (List UInt8)) (kv : Value) (kbase k : Nat) (vo : Value) (us : List Wt) (W : World) : Prop where
  fst : us.map (·.1) = ks.take k
  row : W.ownsRow W2.heap.size 46 2 vo k (flatC cw us)
  at_ : ∀ t ∈ us, t.2.2 = pos o t.1 ∧ IsV W2 t.2.1 t.2.2
  bel : Below W2.heap.size W2 W
  keys : W.ownsRow kbase 9 1 kv ks.length (ks.map encStr)
  off : vo.ownBlock ≠ none → kv.ownBlock ≠ vo.ownBlock
theorem AL.add {W2 : World} {o : List (Int × List UInt8)} {ks : List (List UInt8)} {kv : Value} {kbase k : Nat} {vo : Value} {us : List Wt} {W : World} (h : AL W2 o ks kv kbase k vo us W) {x : List UInt8} (hx : ks[k]? = some x) {u : Value} (hu : IsV W2 u (pos o x)) (W4 : World) (ob : Obj) (g cap : Nat)
    (hr : W4.ownsRow W2.heap.size 46 2 (.slice (some ⟨g, 0, none⟩) (k + 1) cap) (k + 1) (flatC cw us ++ [.string (bs x), u])) (hg : (W.alloc ob).grownBy W4 vo.ownBlock) (hloc : vo.ownBlock = some g ∨ g = (W.alloc ob).heap.size) :
    AL W2 o ks kv kbase (k + 1) (.slice (some ⟨g, 0, none⟩) (k + 1) cap) (us ++ [(x, u, pos o x)]) W4 := by
  refine ⟨?_, ?_, ?_, bgrow (balloc h.bel ob) (h.row.alloc ob) hg, ?_, ?_⟩
  · rw [List.map_append, h.fst, List.take_add_one, hx]; rfl
  · rw [flatC_append, flatC_one]; exact hr
  · intro t ht
    rcases List.mem_append.1 ht with ht | ht
    · exact h.at_ t ht
    · simp at ht; subst ht; exact ⟨rfl, hu⟩
  · refine (h.keys.alloc ob).kept hg ?_
    by_cases hv : vo.ownBlock = none
    · rw [hv]
      cases kv.ownBlock
      · exact .inl rfl
      · exact .inr (by simp)
    · exact .inr (h.off hv)
  · intro _ e
    rcases hloc with hl | hl
    · exact h.off (by rw [hl]; simp) (by rw [hl]; exact e)
    · have := (h.keys.lt g e).2
      simp at hl
      omega
theorem AL.done {w W2 : World} {o : List (Int × List UInt8)} {ks : List (List UInt8)} {kv : Value} {kbase : Nat} {vo : Value} {us : List Wt} {W : World} (h : AL W2 o ks kv kbase ks.length vo us W) (hb : Below w.heap.size w W2) : WsV W vo (ks.map fun x => (x, pos o x)) ∧ Below w.heap.size w W := by
  have hf := h.fst
  rw [List.take_length] at hf
  have hl : us.length = ks.length := by rw [← hf, List.length_map]
  refine ⟨⟨us, ?_, SlV.of_owns cw_len (by rw [hl]; exact h.row), fun t ht => (h.at_ t ht).2.next h.bel⟩, bstep hb h.bel⟩
  rw [← hf, List.map_map]
  refine List.map_congr_left fun t ht => ?_
  show (t.1, pos o t.1) = (t.1, t.2.2)
  rw [(h.at_ t ht).1]

set_option maxRecDepth 100000 in
set_option maxHeartbeats 4000000 in
theorem index (s : ByteArray) (w : World) (hs : s.size ≤ 600) : Calls Try.prog 25 #[.string s] w fun e w' => ∃ l, Idx (occ s.data.toList) l ∧ WsPost w l e w' := by
  have hol : (occ s.data.toList).length ≤ 600 := Nat.le_trans (occ_len _) (by simpa using hs)
  have h12 : ∀ x, x ∈ (occ s.data.toList).map (·.2) → x.length ≤ 12 := by
    intro x hx
    obtain ⟨p, hp, rfl⟩ := List.mem_map.1 hx
    obtain ⟨i, _, rfl, _⟩ := (mem_occ _ p).1 hp
    exact wat_len _ _
  obtain ⟨w1, hw1⟩ : ∃ w1, w1 = (w.alloc (.map #[] 0)).alloc (.cells #[.map (some w.heap.size)] 64) := ⟨_, rfl⟩
  have h1 : NJ w [] w1 := by
    rw [hw1]
    exact ⟨⟨_, groups_next (groups_new w Try.prog 9 3 .i64 (w.heap.size + 2) (by omega)) (balloc (Below.refl _ _) _), DM.nil⟩, balloc (balloc (Below.refl _ _) _) _, by simp, by simp⟩
  have E := Lib.hid (each 40 _ (enters_of Try.func40 (by kernel_rfl) rfl) (NJ w) s (by omega) (index1 w s.size hs) w1 h1)
  subst hw1
  clear h1
  have H12 := Lib.hid h12
  clear h12
  have hmm := @run_makeMap Try.prog
  obtain ⟨i0, hi, hz0, hz1, hz2⟩ := info_parts infoWord
  have HI := Lib.hid (And.intro hi (And.intro hz0 (And.intro hz1 hz2)))
  clear hi hz0 hz1 hz2
  generalize occ s.data.toList = o at *
  go_enter Try.func25, Try.ntmps25
  go_wp2_with (first
    | (go_at_call 30; refine E.out.mono ?_; rintro e W2 ⟨rfl, hj⟩; have cb2 := hj.cb; obtain ⟨N, hN, hlenM, es, clock, hbM, hNe⟩ := len_map hj; have hNe' := Lib.hid hNe; have HJ := Lib.hid hj; clear hj E hNe)
    | (refine wpList_make_own _ rfl _ _ 22 rfl W2.heap.size 46 i0 _ 2 Try.underlying22 HI.out.1 HI.out.2.1 HI.out.2.2.1 .i64 .i64 _ N rfl rfl (by first | rfl | (have := hNe'.out; omega)) (by rw [HI.out.2.2.2]; omega) (by unfold maxLen; omega) (Nat.le_refl _) ?_; intro w3 hown hgrow; have cb3 := keep (grows_below hgrow) (block_lt cb2) cb2; have SK := Lib.hid (sorted_of HJ.out (grows_below hgrow) hol); have HG := Lib.hid (And.intro hown hgrow); clear hown hgrow)
    | (go_at_call 42; refine (mapsKeysC _ _).mono ?_; rintro e w4 ⟨rfl, rfl⟩)
    | (go_at_call 41; refine SK.out.mono ?_; rintro e w5 ⟨ka, kc, ks, rfl, hidx, hrow, hb5⟩; have HX := Lib.hid hidx; have HR := Lib.hid (And.intro hrow hb5); clear hidx hrow hb5 SK))
  have W3 : Below W2.heap.size W2 w5 := (balloc (grows_below HG.out.2) _).trans (HR.out.2.mono (by have := HG.out.2.size; simp; omega))
  have LK := Lib.hid (fun x (hx : x ∈ ks) => look_of HJ.out hol x (H12.out x ((HX.out.mem x).1 (by rw [List.map_map]; simpa [Function.comp_def] using hx))))
  have START : Hid (AL W2 o ks (.slice ka ks.length kc) (w3.alloc (.cells #[.map (some w.heap.size)] 64)).heap.size 0 (.slice (some ⟨W2.heap.size, 0, none⟩) 0 N) [] w5) := Lib.hid
    ⟨by simp, row_next HG.out.1 ((balloc (Below.refl _ _) _).trans (HR.out.2.mono (by simp))), fun t ht => by simp at ht, W3, HR.out.1, fun _ => own_above HR.out.1 (by have := HG.out.2.size; simp; omega)⟩
  have hks : ks.length ≤ 600 := by
    have := HX.out.len
    rw [List.length_map] at this
    omega
  have HW2 := Lib.hid HJ.out.bel
  have hlt2 : w.heap.size + 1 < W2.heap.size := by have := HJ.out.sz; omega
  clear HR HG W3 hlenM hbM hNe' H12 HJ
  generalize (w3.alloc (.cells #[.map (some w.heap.size)] 64)).heap.size = kbase at *
  go_loopw [4, 18] (fun vo vi wr => ∃ k : Nat, k ≤ ks.length ∧ vi = .int .i64 (k : Int) ∧ Hid (∃ us, AL W2 o ks (.slice ka ks.length kc) kbase k vo us wr)) (fun _ vi _ => ks.length - (intOf vi).toNat)
  case atStart => exact ⟨0, by omega, rfl, Lib.hid ⟨_, START.out⟩⟩
  case round =>
    obtain ⟨k, hk, rfl, HK⟩ := hrel
    clear START
    by_cases hlt : k < ks.length
    · obtain ⟨us, hal⟩ := HK.out
      have hx : ks[k]? = some ks[k] := by simp [hlt]
      obtain ⟨u, hlk, hu⟩ := LK.out ks[k] (List.getElem_mem hlt)
      generalize ks[k] = x at *
      obtain ⟨g, off, rfl, hgl, hcell⟩ := key_at hal.keys hx
      have hlook := hlk wr (hal.bel.block w.heap.size (by omega))
      have cbr := keep hal.bel (by omega) cb2
      obtain ⟨ua, um, uc, rfl⟩ := isV_form hu
      have HROW := Lib.hid hal.row
      have hsz := hal.bel.size
      have r1 : IntKind.i64.wrap ((k : Int) + 1) = (k : Int) + 1 := IntWalk.i64_in _ (by omega)
      have p1 : (0 : Int) ≤ (k : Int) := by omega
      have p2 : (k : Int) < (ks.length : Int) := by omega
      have ADD := Lib.hid (hal.add hx hu)
      clear hal hu hlk HK hx
      generalize bs x = y at *
      go_wp2_with (at_builtin; refine wpList_append_lies _ rfl _ _ 22 rfl W2.heap.size 46 i0 _ 2 40 Try.underlying22 HI.out.1 HI.out.2.1 HI.out.2.2.1 HI.out.2.2.2 rfl (by decide) _ k (flatC cw us) rfl (HROW.out.alloc _) ⟨wr.heap.size, 0, none⟩ 1 1 [.string y, .slice ua um uc] rfl rfl (cell_two_new _ _ _ _) (by simp [Value.oneCell']) (by omega) (by unfold maxLen; omega) (by omega) (by simp; omega) _ rfl ?_; intro g4 cap4 w4 hown4 hgrow4 hloc4 _)
      go_roundw
      case rel => exact ⟨k + 1, by omega, by go_num, Lib.hid ⟨_, ADD.out _ _ _ _ hown4 hgrow4 hloc4⟩⟩
      case measure => simp [intOf]; omega
    · obtain rfl : k = ks.length := by omega
      go_wp2_with fail
      go_ret
      obtain ⟨us, hal⟩ := HK.out
      obtain ⟨q1, q2⟩ := hal.done HW2.out
      exact ⟨_, HX.out, _, rfl, q1, q2⟩
theorem index_ix (s : ByteArray) (w : World) (hs : s.size ≤ 600) : Calls Try.prog 25 #[.string s] w (WsPost w (ix s.data.toList)) := by
  refine (index s w hs).mono ?_
  rintro e w' ⟨l, hl, hp⟩
  rw [ix, ← hl.eq]
  exact hp
set_option maxHeartbeats 1000000 in
theorem all_size (s : ByteArray) (w : World) (h : 600 < s.size) : Calls Try.prog 9 #[.string s] w (WcPost w [] 1) := by
  go_enter Try.func9, Try.ntmps9
  go_wp2_with fail
  go_ret2
  exact ⟨_, rfl, WsV.nil _, Below.refl _ _⟩
set_option maxHeartbeats 1000000 in
theorem all (s : ByteArray) (w : World) (hs : s.size ≤ 600) : Calls Try.prog 9 #[.string s] w (WcPost w (ix s.data.toList) 0) := by
  have I := Lib.hid (index_ix s w hs)
  go_enter Try.func9, Try.ntmps9
  go_wp2_with (go_at_call 25; refine I.out.mono ?_; rintro e w1 ⟨v, rfl, hv, hb⟩)
  go_ret2
  exact ⟨_, rfl, hv, hb⟩
end Go.Proofs.Ytedlgobpoifnfaa.WordC
