/-
  Package rope: what pairLeft answers.
-/
import Derived.Test.YtkckhjljindgmaaRopePairRight
namespace Go.Proofs.Ytkckhjljindgmaa.RopeC
open Go.RowKit Kit RopeM

set_option maxHeartbeats 2000000 in
theorem pairLeft_near (l r : RT) (w : World) (hl : RopeAt w l) (hr : RopeAt w r) (l0 : 0 < l.dep) (r0 : 0 < r.dep) (h1 : l.dep ≤ r.dep + 1) (h2 : r.dep ≤ l.dep + 1) (hm : l.len + r.len ≤ 1099511627776) :
    Calls Try.prog 79 #[l.ptr, r.ptr] w (Made w (l.txt ++ r.txt) fun d => d = max l.dep r.dep + 1) := by
  obtain ⟨b1, hp1, hb1, hd1, _⟩ := hl.open l0
  obtain ⟨b2, hp2, hb2, hd2, _⟩ := hr.open r0
  have q1 := RT.dep_len hl.1
  have q2 := RT.dep_len hr.1
  have P := Lib.hid (fun W (hW : Below w.heap.size w W) => pair l r W (hl.next hW) (hr.next hW) l0 r0 h1 h2 hm)
  rw [hp1, hp2] at P ⊢
  clear hp1 hp2 hl hr
  have hg : decide ((l.dep : Int) ≤ (r.dep : Int) + 1) = true := by simp; omega
  generalize hdl : l.dep = dl at *
  generalize hdr : r.dep = dr at *
  have hg2 : (dr : Int) + 1 < 9223372036854775807 := by omega
  clear h1 h2
  go_enter Try.func79, Try.ntmps79
  go_upto_region 1 with fail
  go_region
  go_wp2_with fail
  refine (P.out _ (Below.refl _ _).drew).mono ?_
  rintro e w1 ⟨b, rfl, hg, hb⟩
  rw [RT.ptr, RT.addr]
  go_wp2_with fail
  go_ret
  exact ⟨_, rfl, hg, by simp, by simp [RT.dep, hdl, hdr], (Below.refl _ _).drew.trans hb⟩

set_option maxRecDepth 100000 in
set_option maxHeartbeats 2000000 in
theorem pairLeft_far (f n r : RT) (bl : Nat) (w : World) (hl : RopeAt w (.node bl f n)) (hr : RopeAt w r) (r0 : 0 < r.dep) (h2 : (RT.node bl f n).dep = r.dep + 2) (hnf : n.dep ≤ f.dep) (hm : (f.len + n.len) + r.len ≤ 1099511627776) :
    Calls Try.prog 79 #[(RT.node bl f n).ptr, r.ptr] w (Made w ((f.txt ++ n.txt) ++ r.txt) fun d => d = r.dep + 2 ∨ d = r.dep + 3) := by
  obtain ⟨b1, hp1, hb1, hd1, _⟩ := hr.open r0
  have hf := hl.left
  have hn := hl.right
  obtain ⟨f0, n0, hb5, hb6⟩ := hl.1.2.2
  obtain ⟨c0, c1, c2, c3, c4, _, _⟩ := hl.2
  obtain ⟨bn, hpn, hbn, hdn, _⟩ := hn.open n0
  obtain ⟨bf, hpf, hbf, hdf, _⟩ := hf.open f0
  have q1 := RT.dep_len hr.1
  have q2 := RT.dep_len hn.1
  have q3 := RT.dep_len hf.1
  simp only [RT.dep] at h2
  have P1 := Lib.hid (fun W (hW : Below w.heap.size w W) => pairM n r w W hW (hn.next hW) (hr.next hW) n0 r0 (by omega) (by omega) (by omega))
  have P2' : Hid (∀ b W, Below w.heap.size w W → RopeAt W (.node b n r) → Calls Try.prog 80 #[.pointer (some ⟨bf, 0, none⟩), .pointer (some ⟨b, 0, none⟩)] W fun e w' => ∃ b', e = .returned (.pointer (some ⟨b', 0, none⟩)) ∧ RopeAt w' (.node b' f (.node b n r)) ∧ Below W.heap.size W w' ∧ Below w.heap.size w w') :=
    Lib.hid (fun b W (hW : Below w.heap.size w W) (hx : RopeAt W (.node b n r)) => by rw [← hpf]; exact pairM f (.node b n r) w W hW (hf.next hW) hx f0 (by simp [RT.dep]) (by simp only [RT.dep]; omega) (by simp only [RT.dep]; omega) (by simp only [RT.len]; omega))
  have FIN := Lib.hid (fun b b' (w' : World) (hg : RopeAt w' (.node b' f (.node b n r))) (hb : Below w.heap.size w w') => (show Made w ((f.txt ++ n.txt) ++ r.txt) (fun d => d = r.dep + 2 ∨ d = r.dep + 3) (.returned (.pointer (some ⟨b', 0, none⟩))) w' from ⟨_, rfl, hg, by simp, by simp only [RT.dep]; omega, hb⟩))
  rw [hp1, hpn] at P1
  rw [hpf] at c3
  rw [hpn] at c4
  have e2 : (RT.node bl f n).ptr = .pointer (some ⟨bl, 0, none⟩) := rfl
  rw [hp1, e2]
  obtain ⟨dl, e3⟩ : ∃ dl, max f.dep n.dep + 1 = dl := ⟨_, rfl⟩
  rw [e3] at c1
  have hg : decide ((dl : Int) ≤ (r.dep : Int) + 1) = false := by rw [decide_eq_false_iff_not]; omega
  have hg2 : decide (f.dep < n.dep) = false := by simp; omega
  generalize r.dep = dr at *
  generalize n.dep = dn at *
  generalize f.dep = df at *
  have hg3 : (dr : Int) + 1 < 9223372036854775807 := by omega
  clear hl hn hf hr hp1 hpn hpf n0 f0 hb5 hb6 h2 e2 e3 hnf c2 q1 q2 q3 r0 hm
  go_enter Try.func79, Try.ntmps79
  go_upto_region 1 with fail
  go_region
  go_upto_region 3 with fail
  go_region
  go_upto_region 4 with fail
  go_region
  clear hg hg3 hd1 hdn hdf c1 c3 c4
  go_wp2_with fail
  refine (P1.out _ ((Below.refl _ _).drew.drew.drew)).mono ?_
  rintro e w1 ⟨b, rfl, hg1, -, hb⟩
  have G1 := Lib.hid (P2'.out b w1 hb hg1)
  clear P2' hg1 hb P1
  go_wp2_with fail
  refine G1.out.mono ?_
  rintro e w2 ⟨b', rfl, hg2, -, hb'⟩
  have G2 := Lib.hid (FIN.out _ _ _ hg2 hb')
  clear hg2 hb' FIN G1
  go_wp2_with fail
  go_ret
  exact G2.out

set_option maxRecDepth 100000 in
set_option maxHeartbeats 2000000 in
theorem pairLeft_turn (f x y r : RT) (bl bn : Nat) (w : World) (hl : RopeAt w (.node bl f (.node bn x y))) (hr : RopeAt w r) (r0 : 0 < r.dep) (h2 : (RT.node bl f (.node bn x y)).dep = r.dep + 2) (hnf : f.dep < (RT.node bn x y).dep) (hm : (f.len + (x.len + y.len)) + r.len ≤ 1099511627776) :
    Calls Try.prog 79 #[(RT.node bl f (.node bn x y)).ptr, r.ptr] w (Made w ((f.txt ++ (x.txt ++ y.txt)) ++ r.txt) fun d => d = r.dep + 2) := by
  obtain ⟨b1, hp1, hb1, hd1, -⟩ := hr.open r0
  have hf := hl.left
  have hn := hl.right
  have hx := hn.left
  have hy := hn.right
  obtain ⟨f0, n0, hb5, hb6⟩ := hl.1.2.2
  obtain ⟨x0, y0, hb7, hb8⟩ := hn.1.2.2
  obtain ⟨c0, c1, -, c3, c4, -, -⟩ := hl.2
  obtain ⟨hbn, hdn, -, e3, e4, -, -⟩ := hn.2
  obtain ⟨bf, hpf, hbf, hdf, -⟩ := hf.open f0
  obtain ⟨bx, hpx, hbx, -, -⟩ := hx.open x0
  obtain ⟨by', hpy, hby, -, -⟩ := hy.open y0
  have q1 := RT.dep_len hr.1
  have q2 := RT.dep_len hx.1
  have q3 := RT.dep_len hy.1
  have q4 := RT.dep_len hf.1
  simp only [RT.dep] at h2 hnf hb5 hb6
  have P1 := Lib.hid (fun W (hW : Below w.heap.size w W) => pairM f x w W hW (hf.next hW) (hx.next hW) f0 x0 (by omega) (by omega) (by omega))
  have P2 := Lib.hid (fun W (hW : Below w.heap.size w W) => pairM y r w W hW (hy.next hW) (hr.next hW) y0 r0 (by omega) (by omega) (by omega))
  have P3 : Hid (∀ b b' W, Below w.heap.size w W → RopeAt W (.node b f x) → RopeAt W (.node b' y r) → Calls Try.prog 80 #[.pointer (some ⟨b, 0, none⟩), .pointer (some ⟨b', 0, none⟩)] W fun e w' => ∃ b'', e = .returned (.pointer (some ⟨b'', 0, none⟩)) ∧ RopeAt w' (.node b'' (.node b f x) (.node b' y r)) ∧ Below W.heap.size W w' ∧ Below w.heap.size w w') :=
    Lib.hid (fun b b' W (hW : Below w.heap.size w W) (h1 : RopeAt W (.node b f x)) (h2' : RopeAt W (.node b' y r)) => pairM (.node b f x) (.node b' y r) w W hW h1 h2' (by simp [RT.dep]) (by simp [RT.dep]) (by simp only [RT.dep]; omega) (by simp only [RT.dep]; omega) (by simp only [RT.len]; omega))
  have FIN := Lib.hid (fun b b' b'' (w' : World) (hg : RopeAt w' (.node b'' (.node b f x) (.node b' y r))) (hb : Below w.heap.size w w') => (show Made w ((f.txt ++ (x.txt ++ y.txt)) ++ r.txt) (fun d => d = r.dep + 2) (.returned (.pointer (some ⟨b'', 0, none⟩))) w' from ⟨_, rfl, hg, by simp, by simp only [RT.dep]; omega, hb⟩))
  rw [hpf, hpx] at P1
  rw [hpy, hp1] at P2
  have c4' : w.cell? ⟨bl, 4, none⟩ = some (.pointer (some ⟨bn, 0, none⟩)) := c4
  rw [hpf] at c3
  rw [hpx] at e3
  rw [hpy] at e4
  have e2 : (RT.node bl f (.node bn x y)).ptr = .pointer (some ⟨bl, 0, none⟩) := rfl
  rw [hp1, e2]
  obtain ⟨dl, z3⟩ : ∃ dl, max f.dep (RT.node bn x y).dep + 1 = dl := ⟨_, rfl⟩
  obtain ⟨dn, z4⟩ : ∃ dn, max x.dep y.dep + 1 = dn := ⟨_, rfl⟩
  rw [z3] at c1
  rw [z4] at hdn hnf
  simp only [RT.dep] at z3
  have hg : decide ((dl : Int) ≤ (r.dep : Int) + 1) = false := by rw [decide_eq_false_iff_not]; omega
  have hg2 : decide (f.dep < dn) = true := by rw [decide_eq_true_eq]; omega
  have hs0 : Hid (∀ W, Below w.heap.size w W → S34 w bn (.pointer (some ⟨bx, 0, none⟩)) (.pointer (some ⟨by', 0, none⟩)) W) := Lib.hid fun W hW => S34.start hbn e3 e4 hW
  generalize r.dep = dr at *
  generalize f.dep = df at *
  have hg3 : (dr : Int) + 1 < 9223372036854775807 := by omega
  clear hl hn hf hr hx hy hp1 hpf hpx hpy n0 f0 x0 y0 hb5 hb6 hb7 hb8 h2 e2 z3 z4 hnf c4 q1 q2 q3 q4 r0 hm
  go_enter Try.func79, Try.ntmps79
  go_upto_region 1 with fail
  go_region
  go_upto_region 3 with fail
  go_region
  go_upto_region 4 with fail
  go_region
  clear hg hg3 hd1 hdn hdf c1 c3 c4'
  go_upto_region 5 with fail
  clear hg2
  go_region_held3 (fun w' => Below w.heap.size w w' ∧ w'.cell? ⟨bn, 3, none⟩ = some (.pointer (some ⟨bx, 0, none⟩)) ∧ w'.cell? ⟨bn, 4, none⟩ = some (.pointer (some ⟨by', 0, none⟩)))
    (first | exact hs0.out _ ((Below.refl _ _).drew.drew.drew.drew) | exact hs0.out _ (by assumption))
    (first | (go_at_call_of 80 (Value.pointer (some (Addr.mk bx 0 none))); refine (P1.out _ ((Below.refl _ _).drew.drew.drew.drew)).mono ?_; rintro e w1 ⟨b, rfl, hg1, hb1', hb1⟩) | (go_at_call_of 80 (Value.pointer (some (Addr.mk by' 0 none))); refine (P2.out _ hb1).mono ?_; rintro e w2 ⟨b', rfl, hg2, hb2', hb2⟩; have hg1 := hg1.next hb2') | (go_at_call 80; refine (P3.out _ _ _ hb2 hg1 hg2).mono ?_; rintro e w3 ⟨b'', rfl, hg3, hb3', hb3⟩; have G3 := Lib.hid (FIN.out _ _ _ _ hg3 hb3); clear hg3))
  go_wp2_with fail
  go_ret
  exact G3.out

theorem pairLeft (l r : RT) (w : World) (hl : RopeAt w l) (hr : RopeAt w r) (l0 : 0 < l.dep) (r0 : 0 < r.dep) (h1 : r.dep ≤ l.dep + 1) (h2 : l.dep ≤ r.dep + 2) (hm : l.len + r.len ≤ 1099511627776) :
    Calls Try.prog 79 #[l.ptr, r.ptr] w (Made w (l.txt ++ r.txt) fun d => (l.dep ≤ r.dep + 1 ∧ d = max l.dep r.dep + 1) ∨ (l.dep = r.dep + 2 ∧ (d = r.dep + 2 ∨ d = r.dep + 3))) := by
  by_cases h3 : l.dep ≤ r.dep + 1
  · exact (pairLeft_near l r w hl hr l0 r0 h3 h1 hm).mono fun e w' h => h.imp fun d hd => .inl ⟨h3, hd⟩
  · have h4 : l.dep = r.dep + 2 := by omega
    obtain ⟨bl, f, n, rfl⟩ := RT.isNode (t := l) (by omega)
    by_cases h5 : n.dep ≤ f.dep
    · rw [RT.txt_node]
      exact (pairLeft_far f n r bl w hl hr r0 h4 h5 hm).mono fun e w' h => h.imp fun d hd => .inr ⟨h4, hd⟩
    · have f0 := hl.1.2.2.1
      obtain ⟨bn, x, y, rfl⟩ := RT.isNode (t := n) (by omega)
      rw [RT.txt_node, RT.txt_node]
      exact (pairLeft_turn f x y r bl bn w hl hr r0 h4 (by omega) hm).mono fun e w' h => h.imp fun d hd => .inr ⟨h4, .inl hd⟩

end Go.Proofs.Ytkckhjljindgmaa.RopeC
