/-
  Package rope: what split answers.
-/
import Derived.Test.YtkckhjljindgmaaRopeJoin
namespace Go.Proofs.Ytkckhjljindgmaa.RopeC
open Go.RowKit Kit RopeM

/-- two trees that are made -/
def Made2 (w : World) (a b : List UInt8) (e : Ending) (w' : World) : Prop := ∃ t u : RT, e = .returned (.tuple #[.pointer t.addr, .pointer u.addr]) ∧ RopeAt w' t ∧ RopeAt w' u ∧ t.txt = a ∧ u.txt = b ∧ Below w.heap.size w w'
def SplitAt (t : RT) : Prop := ∀ w (k : Nat), RopeAt w t → t.len ≤ 1099511627776 → k ≤ t.len → Calls Try.prog 67 #[t.ptr, .int .i64 (k : Int)] w (Made2 w (t.txt.take k) (t.txt.drop k))

set_option maxHeartbeats 2000000 in
theorem split_zero (t : RT) (w : World) (h : RopeAt w t) : Calls Try.prog 67 #[t.ptr, .int .i64 ((0 : Nat) : Int)] w (Made2 w (t.txt.take 0) (t.txt.drop 0)) := by
  have F := Lib.hid (show Made2 w (t.txt.take 0) (t.txt.drop 0) (.returned (.tuple #[.pointer none, .pointer t.addr])) w from ⟨.nil, t, rfl, RopeAt.nil _, h, by simp, by simp, Below.refl _ _⟩)
  rw [show t.ptr = .pointer t.addr from rfl]
  generalize t.addr = q at *
  clear h
  go_enter Try.func67, Try.ntmps67
  go_wp2_with fail
  refine bodyPost_ret (v := .tuple #[.pointer none, .pointer q]) (by simp [results, Try.results67, go_sem, *]) rfl ?_
  exact F.out

set_option maxHeartbeats 2000000 in
theorem split_all (t : RT) (w : World) (h : RopeAt w t) (h0 : 0 < t.len) : Calls Try.prog 67 #[t.ptr, .int .i64 (t.len : Int)] w (Made2 w (t.txt.take t.len) (t.txt.drop t.len)) := by
  have F := Lib.hid (show Made2 w (t.txt.take t.len) (t.txt.drop t.len) (.returned (.tuple #[.pointer t.addr, .pointer none])) w from ⟨t, .nil, rfl, h, RopeAt.nil _, by rw [List.take_of_length_le (by rw [RT.txt_len]; omega)], by rw [List.drop_of_length_le (by rw [RT.txt_len]; omega)]; rfl, Below.refl _ _⟩)
  have L := Lib.hid (lengthOf t w h)
  rw [show t.ptr = .pointer t.addr from rfl] at L ⊢
  have hg : decide ((t.len : Int) ≤ 0) = false := by rw [decide_eq_false_iff_not]; omega
  generalize t.addr = q at *
  clear h
  generalize t.len = n at *
  go_enter Try.func67, Try.ntmps67
  go_wp2_with fail
  refine L.out.mono ?_
  rintro e w1 ⟨rfl, rfl⟩
  go_wp2_with fail
  refine bodyPost_ret (v := .tuple #[.pointer q, .pointer none]) (by simp [results, Try.results67, go_sem, *]) rfl ?_
  exact F.out

set_option maxRecDepth 100000 in
set_option maxHeartbeats 2000000 in
theorem split_leaf (b : Nat) (s : ByteArray) (w : World) (k : Nat) (h : RopeAt w (.leaf b s)) (h0 : 0 < k) (h1 : k < s.size) : Calls Try.prog 67 #[(RT.leaf b s).ptr, .int .i64 (k : Int)] w (Made2 w ((RT.leaf b s).txt.take k) ((RT.leaf b s).txt.drop k)) := by
  obtain ⟨hb, c0, c1, c2, -⟩ := h.2
  have L := Lib.hid (lengthOf _ w h)
  have e1 : (s.extract 0 k).data.toList = (RT.leaf b s).txt.take k := by rw [Lib.extract_data]; simp
  have e2 : (s.extract k s.size).data.toList = (RT.leaf b s).txt.drop k := by
    rw [Lib.extract_data, RT.txt_leaf]
    rw [List.take_of_length_le (by simp)]
  have N1 := Lib.hid (fun W (hW : Below w.heap.size w W) => (newLeaf (s.extract 0 k) W).mono fun e w' hh => (show ∃ t : RT, e = .returned (.pointer t.addr) ∧ RopeAt w' t ∧ t.txt = (RT.leaf b s).txt.take k ∧ Below W.heap.size W w' ∧ Below w.heap.size w w' from by obtain ⟨t, g1, g2, g3, g4⟩ := hh; exact ⟨t, g1, g2, g3.trans e1, g4, bstep hW g4⟩))
  have N2 := Lib.hid (fun W (hW : Below w.heap.size w W) => (newLeaf (s.extract k s.size) W).mono fun e w' hh => (show ∃ t : RT, e = .returned (.pointer t.addr) ∧ RopeAt w' t ∧ t.txt = (RT.leaf b s).txt.drop k ∧ Below W.heap.size W w' ∧ Below w.heap.size w w' from by obtain ⟨t, g1, g2, g3, g4⟩ := hh; exact ⟨t, g1, g2, g3.trans e2, g4, bstep hW g4⟩))
  generalize (RT.leaf b s).txt.take k = ta at *
  generalize (RT.leaf b s).txt.drop k = tb at *
  have hs0 : Hid (∀ W, Below w.heap.size w W → Below w.heap.size w W ∧ W.cell? ⟨b, 2, none⟩ = some (.string s)) := Lib.hid fun W hW => ⟨hW, (hW.cell (p := ⟨b, 2, none⟩) hb).trans c2⟩
  rw [show (RT.leaf b s).ptr = .pointer (some ⟨b, 0, none⟩) from rfl] at L ⊢
  rw [show (RT.leaf b s).len = s.size from rfl] at L
  have hg : decide ((k : Int) ≤ 0) = false := by rw [decide_eq_false_iff_not]; omega
  have hg2 : decide ((s.size : Int) ≤ (k : Int)) = false := by rw [decide_eq_false_iff_not]; omega
  have hk : k ≤ s.size := by omega
  clear h e1 e2
  go_enter Try.func67, Try.ntmps67
  go_wp2_with fail
  refine L.out.mono ?_
  rintro e w1 ⟨rfl, rfl⟩
  go_upto_region 6 with fail
  clear hg hg2 c0 c1 L
  go_region_held3 (fun w' => Below w.heap.size w w' ∧ w'.cell? ⟨b, 2, none⟩ = some (.string s))
    (first | exact hs0.out _ ((Below.refl _ _).drew) | exact hs0.out _ (by assumption))
    (first | (go_at_call_of 69 (Value.string (s.extract 0 k)); refine (N1.out _ ((Below.refl _ _).drew)).mono ?_; rintro e w1 ⟨t, rfl, hg1, hg2, hb1', hb1⟩) | (go_at_call 69; refine (N2.out _ hb1).mono ?_; rintro e w2 ⟨u, rfl, hg3, hg4, hb2', hb2⟩; have G2 := Lib.hid (show Made2 w ta tb (.returned (.tuple #[.pointer t.addr, .pointer u.addr])) w2 from ⟨t, u, rfl, hg1.next hb2', hg3, hg2, hg4, hb2⟩); clear hg1 hg2 hg3 hg4))
  go_wp2_with fail
  refine bodyPost_ret (v := .tuple #[.pointer t.addr, .pointer u.addr]) (by simp [results, Try.results67, go_sem, *]) rfl ?_
  exact G2.out

set_option maxRecDepth 100000 in
set_option maxHeartbeats 2000000 in
theorem split_left (b : Nat) (l r : RT) (w : World) (k : Nat) (h : RopeAt w (.node b l r)) (hm : l.len + r.len ≤ 1099511627776) (h0 : 0 < k) (h1 : k < l.len) (IH : SplitAt l) : Calls Try.prog 67 #[(RT.node b l r).ptr, .int .i64 (k : Int)] w (Made2 w ((RT.node b l r).txt.take k) ((RT.node b l r).txt.drop k)) := by
  obtain ⟨hb, c0, c1, c3, c4, -, -⟩ := h.2
  obtain ⟨l0, r0, -, -⟩ := h.1.2.2
  have hl := h.left
  have hr := h.right
  obtain ⟨bl, hpl, hbl, hdl, hnl⟩ := hl.open l0
  have L := Lib.hid (lengthOf _ w h)
  have P1 := Lib.hid (IH w k hl (by omega) (by omega))
  have e1 : (RT.node b l r).txt.take k = l.txt.take k := by rw [RT.txt_node, List.take_append_of_le_length (by rw [RT.txt_len]; omega)]
  have e2 : (RT.node b l r).txt.drop k = l.txt.drop k ++ r.txt := by rw [RT.txt_node, List.drop_append_of_le_length (by rw [RT.txt_len]; omega)]
  have P2 : Hid (∀ (t u : RT) W, RopeAt W t → RopeAt W u → t.txt = l.txt.take k → u.txt = l.txt.drop k → Below w.heap.size w W → W.cell? ⟨b, 4, none⟩ = some (.pointer r.addr) ∧ Hid (Calls Try.prog 66 #[.pointer u.addr, .pointer r.addr] W fun e w' => ∃ u' : RT, e = .returned (.pointer u'.addr) ∧ Made2 w ((RT.node b l r).txt.take k) ((RT.node b l r).txt.drop k) (.returned (.tuple #[.pointer t.addr, .pointer u'.addr])) w')) := Lib.hid (by
    intro t u W ht hu ht1 hu1 hW
    refine ⟨(hW.cell (p := ⟨b, 4, none⟩) hb).trans c4, Lib.hid ?_⟩
    have hlen : u.len ≤ l.len := by rw [← RT.txt_len, hu1, List.length_drop, RT.txt_len]; omega
    refine (join u r W hu (hr.next hW) (by omega)).mono ?_
    rintro e w' ⟨u', rfl, g1, g2, -, g4⟩
    exact ⟨u', rfl, t, u', rfl, ht.next g4, g1, by rw [ht1, e1], by rw [g2, hu1, e2], bstep hW g4⟩)
  rw [show (RT.node b l r).ptr = .pointer (some ⟨b, 0, none⟩) from rfl] at L ⊢
  rw [show (RT.node b l r).len = l.len + r.len from rfl] at L
  rw [hpl] at P1 c3
  obtain ⟨d, hd⟩ : ∃ d, max l.dep r.dep + 1 = d := ⟨_, rfl⟩
  obtain ⟨n, hn⟩ : ∃ n, l.len + r.len = n := ⟨_, rfl⟩
  rw [hd] at c0
  rw [hn] at c1 L
  have hg : 0 < k := by omega
  have hg2 : k < n := by omega
  have hg3 : 1 < d := by omega
  have hg4 : k < l.len := by omega
  clear h e1 e2 hl hr l0 r0 hm h1 hd hn hpl hdl
  generalize l.len = nl at *
  go_enter Try.func67, Try.ntmps67
  go_wp2_with fail
  refine L.out.mono ?_
  rintro e w1 ⟨rfl, rfl⟩
  clear L
  go_wp2_with fail
  refine P1.out.mono ?_
  rintro e w1 ⟨t, u, rfl, ht, hu, ht1, hu1, hW⟩
  obtain ⟨c4', P3⟩ := P2.out t u w1 ht hu ht1 hu1 hW
  clear P1 P2 ht hu ht1 hu1 hW
  go_wp2_with fail
  refine P3.out.mono ?_
  rintro e w2 ⟨u', rfl, g⟩
  have G := Lib.hid g
  clear g P3
  go_wp2_with fail
  refine bodyPost_ret (v := .tuple #[.pointer t.addr, .pointer u'.addr]) (by simp [results, Try.results67, go_sem, *]) rfl ?_
  exact G.out

set_option maxRecDepth 100000 in
set_option maxHeartbeats 2000000 in
theorem split_right (b : Nat) (l r : RT) (w : World) (k : Nat) (h : RopeAt w (.node b l r)) (hm : l.len + r.len ≤ 1099511627776) (h1 : l.len ≤ k) (h2 : k < l.len + r.len) (IH : SplitAt r) : Calls Try.prog 67 #[(RT.node b l r).ptr, .int .i64 (k : Int)] w (Made2 w ((RT.node b l r).txt.take k) ((RT.node b l r).txt.drop k)) := by
  obtain ⟨hb, c0, c1, c3, c4, -, -⟩ := h.2
  obtain ⟨l0, r0, -, -⟩ := h.1.2.2
  have hl := h.left
  have hr := h.right
  obtain ⟨bl, hpl, hbl, hdl, hnl⟩ := hl.open l0
  have L := Lib.hid (lengthOf _ w h)
  have q := RT.dep_len hl.1
  have P1 := Lib.hid (fun W (hW : Below w.heap.size w W) => IH W (k - l.len) (hr.next hW) (by omega) (by omega))
  have e1 : (RT.node b l r).txt.take k = l.txt ++ r.txt.take (k - l.len) := by rw [RT.txt_node, List.take_append, RT.txt_len, List.take_of_length_le (by rw [RT.txt_len]; omega)]
  have e2 : (RT.node b l r).txt.drop k = r.txt.drop (k - l.len) := by rw [RT.txt_node, List.drop_append, RT.txt_len, List.drop_of_length_le (by rw [RT.txt_len]; omega), List.nil_append]
  have P2 : Hid (∀ (t u : RT) W W0, RopeAt W t → RopeAt W u → t.txt = r.txt.take (k - l.len) → u.txt = r.txt.drop (k - l.len) → Below w.heap.size w W0 → Below W0.heap.size W0 W → W.cell? ⟨b, 3, none⟩ = some (.pointer (some ⟨bl, 0, none⟩)) ∧ Hid (Calls Try.prog 66 #[.pointer (some ⟨bl, 0, none⟩), .pointer t.addr] W fun e w' => ∃ t' : RT, e = .returned (.pointer t'.addr) ∧ Made2 w ((RT.node b l r).txt.take k) ((RT.node b l r).txt.drop k) (.returned (.tuple #[.pointer t'.addr, .pointer u.addr])) w')) := Lib.hid (by
    intro t u W W0 ht hu ht1 hu1 hW0 hW1
    have hW := bstep hW0 hW1
    rw [hpl] at c3
    refine ⟨(hW.cell (p := ⟨b, 3, none⟩) hb).trans c3, Lib.hid ?_⟩
    have hlen : t.len ≤ r.len := by rw [← RT.txt_len, ht1, List.length_take, RT.txt_len]; omega
    rw [← hpl]
    refine (join l t W (hl.next hW) ht (by omega)).mono ?_
    rintro e w' ⟨t', rfl, g1, g2, -, g4⟩
    exact ⟨t', rfl, t', u, rfl, g1, hu.next g4, by rw [g2, ht1, e1], by rw [hu1, e2], bstep hW g4⟩)
  rw [show (RT.node b l r).ptr = .pointer (some ⟨b, 0, none⟩) from rfl] at L ⊢
  rw [show (RT.node b l r).len = l.len + r.len from rfl] at L
  rw [show r.ptr = .pointer r.addr from rfl] at P1 c4
  rw [hpl] at c3
  obtain ⟨d, hd⟩ : ∃ d, max l.dep r.dep + 1 = d := ⟨_, rfl⟩
  obtain ⟨n, hn⟩ : ∃ n, l.len + r.len = n := ⟨_, rfl⟩
  rw [hd] at c0
  rw [hn] at c1 L
  have hg : 0 < k := by omega
  have hg2 : k < n := by omega
  have hg3 : 1 < d := by omega
  have hg4 : l.len ≤ k := by omega
  have ek : ((k - l.len : Nat) : Int) = (k : Int) - (l.len : Int) := by omega
  rw [ek] at P1
  have ew : IntKind.i64.wrap ((k : Int) - (l.len : Int)) = (k : Int) - (l.len : Int) := IntWalk.i64_in _ (by omega)
  have hs0 : Hid (∀ W, Below w.heap.size w W → Below w.heap.size w W ∧ W.cell? ⟨b, 3, none⟩ = some (.pointer (some ⟨bl, 0, none⟩)) ∧ W.cell? ⟨b, 4, none⟩ = some (.pointer r.addr) ∧ W.cell? ⟨bl, 1, none⟩ = some (.int .i64 (l.len : Int))) := Lib.hid fun W hW => ⟨hW, (hW.cell (p := ⟨b, 3, none⟩) hb).trans c3, (hW.cell (p := ⟨b, 4, none⟩) hb).trans c4, (hW.cell (p := ⟨bl, 1, none⟩) hbl).trans hnl⟩
  clear h e1 e2 hl hr l0 r0 hm h1 h2 hd hn hpl hdl ek q
  generalize l.len = nl at *
  generalize hra : r.addr = ra at *
  go_enter Try.func67, Try.ntmps67
  go_wp2_with fail
  refine L.out.mono ?_
  rintro e w1 ⟨rfl, rfl⟩
  clear L
  go_upto_region 10 with fail
  clear hg hg2 hg3 hg4
  go_region_held3 (fun w' => Below w.heap.size w w' ∧ w'.cell? ⟨b, 3, none⟩ = some (.pointer (some ⟨bl, 0, none⟩)) ∧ w'.cell? ⟨b, 4, none⟩ = some (.pointer ra) ∧ w'.cell? ⟨bl, 1, none⟩ = some (.int .i64 (nl : Int)))
    (first | exact hs0.out _ ((Below.refl _ _).drew) | exact hs0.out _ (by assumption))
    ((go_at_call 67; refine (P1.out _ ((Below.refl _ _).drew)).mono ?_; rintro e w1 ⟨t, u, rfl, ht, hu, ht1, hu1, hW⟩; obtain ⟨c3', P3⟩ := P2.out t u w1 _ ht hu ht1 hu1 ((Below.refl _ _).drew) hW; have hW2 : Below w.heap.size w w1 := bstep ((Below.refl _ _).drew) hW; clear ht hu ht1 hu1))
  go_wp2_with fail
  refine P3.out.mono ?_
  rintro e w2 ⟨t', rfl, g⟩
  have G := Lib.hid g
  clear g P3
  go_wp2_with fail
  refine bodyPost_ret (v := .tuple #[.pointer t'.addr, .pointer u.addr]) (by simp [results, Try.results67, go_sem, *]) rfl ?_
  exact G.out

/-- split: the first k bytes and the rest -/
theorem split : ∀ t : RT, SplitAt t
  | .nil, w, k, h, _, hk => by
    obtain rfl : k = 0 := by simp only [RT.len] at hk; omega
    exact split_zero _ w h
  | .leaf b s, w, k, h, hm, hk => by
    rcases Nat.eq_zero_or_pos k with rfl | h0
    · exact split_zero _ w h
    · rcases Nat.lt_or_ge k (RT.leaf b s).len with h1 | h1
      · exact split_leaf b s w k h h0 h1
      · obtain rfl : k = (RT.leaf b s).len := by omega
        exact split_all _ w h h0
  | .node b l r, w, k, h, hm, hk => by
    rcases Nat.eq_zero_or_pos k with rfl | h0
    · exact split_zero _ w h
    · rcases Nat.lt_or_ge k (RT.node b l r).len with h1 | h1
      · rcases Nat.lt_or_ge k l.len with h2 | h2
        · exact split_left b l r w k h hm h0 h2 (split l)
        · exact split_right b l r w k h hm h2 h1 (split r)
      · obtain rfl : k = (RT.node b l r).len := by omega
        exact split_all _ w h h0

end Go.Proofs.Ytkckhjljindgmaa.RopeC
