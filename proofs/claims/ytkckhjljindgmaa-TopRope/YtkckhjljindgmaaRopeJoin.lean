/-
  Package rope: what join answers.
-/
import Derived.Test.YtkckhjljindgmaaRopePairLeft
namespace Go.Proofs.Ytkckhjljindgmaa.RopeC
open Go.RowKit Kit RopeM

def JoinAt (a b : RT) : Prop := ∀ w, RopeAt w a → RopeAt w b → a.len + b.len ≤ 1099511627776 → Calls Try.prog 66 #[a.ptr, b.ptr] w (Made w (a.txt ++ b.txt) fun d => max a.dep b.dep ≤ d ∧ d ≤ max a.dep b.dep + 1)

set_option maxHeartbeats 2000000 in
theorem join_left (b : RT) : JoinAt .nil b := by
  intro w _ hb _
  have F := Lib.hid (show Made w (RT.nil.txt ++ b.txt) (fun d => max RT.nil.dep b.dep ≤ d ∧ d ≤ max RT.nil.dep b.dep + 1) (.returned (.pointer b.addr)) w from ⟨b, rfl, hb, by simp, by simp [RT.dep], Below.refl _ _⟩)
  rw [show RT.nil.ptr = .pointer none from rfl, show b.ptr = .pointer b.addr from rfl]
  generalize b.addr = q at *
  clear hb
  go_enter Try.func66, Try.ntmps66
  go_wp2_with fail
  go_ret
  exact F.out

set_option maxHeartbeats 2000000 in
theorem join_right (a : RT) (a0 : 0 < a.dep) : JoinAt a .nil := by
  intro w ha _ _
  obtain ⟨ba, hpa, _⟩ := ha.open a0
  have F := Lib.hid (show Made w (a.txt ++ RT.nil.txt) (fun d => max a.dep RT.nil.dep ≤ d ∧ d ≤ max a.dep RT.nil.dep + 1) (.returned a.ptr) w from ⟨a, rfl, ha, by simp, by simp [RT.dep], Below.refl _ _⟩)
  rw [show RT.nil.ptr = .pointer none from rfl, hpa]
  rw [hpa] at F
  clear ha hpa
  go_enter Try.func66, Try.ntmps66
  go_wp2_with fail
  go_ret
  exact F.out

set_option maxRecDepth 100000 in
set_option maxHeartbeats 2000000 in
theorem join_pair (a b : RT) (a0 : 0 < a.dep) (b0 : 0 < b.dep) (h1 : a.dep ≤ b.dep + 1) (h2 : b.dep ≤ a.dep + 1) : JoinAt a b := by
  intro w ha hb hm
  obtain ⟨ba, hpa, hba, hda, -⟩ := ha.open a0
  obtain ⟨bb, hpb, hbb, hdb, -⟩ := hb.open b0
  have q1 := RT.dep_len ha.1
  have q2 := RT.dep_len hb.1
  have P := Lib.hid (fun W (hW : Below w.heap.size w W) => pairM a b w W hW (ha.next hW) (hb.next hW) a0 b0 h1 h2 hm)
  have FIN := Lib.hid (fun b' (w' : World) (hg : RopeAt w' (.node b' a b)) (hb : Below w.heap.size w w') => (show Made w (a.txt ++ b.txt) (fun d => max a.dep b.dep ≤ d ∧ d ≤ max a.dep b.dep + 1) (.returned (.pointer (some ⟨b', 0, none⟩))) w' from ⟨_, rfl, hg, by simp, by simp only [RT.dep]; omega, hb⟩))
  rw [hpa, hpb] at P ⊢
  have hg1 : decide ((b.dep : Int) + 1 < (a.dep : Int)) = false := by rw [decide_eq_false_iff_not]; omega
  have hg2 : decide ((a.dep : Int) + 1 < (b.dep : Int)) = false := by rw [decide_eq_false_iff_not]; omega
  generalize a.dep = da at *
  generalize b.dep = db at *
  have hg3 : (da : Int) + 1 < 9223372036854775807 := by omega
  have hg4 : (db : Int) + 1 < 9223372036854775807 := by omega
  clear ha hb hpa hpb a0 b0 h1 h2 hm q1 q2
  go_enter Try.func66, Try.ntmps66
  go_upto_region 5 with fail
  go_region
  go_upto_region 7 with fail
  go_region
  go_wp2_with fail
  refine (P.out _ ((Below.refl _ _).drew.drew)).mono ?_
  rintro e w1 ⟨b', rfl, hg1, -, hb⟩
  have G1 := Lib.hid (FIN.out _ _ hg1 hb)
  clear hg1 hb
  go_wp2_with fail
  go_ret
  exact G1.out

/-- what a call that makes a tree leaves, as its caller holds it -/
theorem madeM {P : Program} {f : FuncId} {args : Array Value} {w W : World} {txt : List UInt8} {D : Nat → Prop} (hW : Below w.heap.size w W) (h : Calls P f args W (Made W txt D)) :
    Calls P f args W fun e w' => ∃ t : RT, e = .returned (.pointer t.addr) ∧ (RopeAt w' t ∧ t.txt = txt ∧ D t.dep ∧ Below w.heap.size w w') ∧ Below W.heap.size W w' := by
  refine h.mono ?_
  rintro e w' ⟨t, rfl, h1, h2, h3, h4⟩
  exact ⟨t, rfl, ⟨h1, h2, h3, bstep hW h4⟩, h4⟩

set_option maxRecDepth 100000 in
set_option maxHeartbeats 2000000 in
theorem join_deep (l r b : RT) (ba : Nat) (b0 : 0 < b.dep) (h1 : b.dep + 1 < (RT.node ba l r).dep) (IH : JoinAt r b) : JoinAt (.node ba l r) b := by
  intro w ha hb hm
  obtain ⟨bb, hpb, hbb, hdb, -⟩ := hb.open b0
  have hl := ha.left
  have hr := ha.right
  obtain ⟨l0, r0, hb5, hb6⟩ := ha.1.2.2
  obtain ⟨hba, hda, -, c3, c4, -, -⟩ := ha.2
  have q1 := RT.dep_len hl.1
  have q2 := RT.dep_len hr.1
  have q3 := RT.dep_len hb.1
  simp only [RT.dep] at h1
  simp only [RT.len] at hm
  have P1 := Lib.hid (fun W (hW : Below w.heap.size w W) => madeM hW (IH W (hr.next hW) (hb.next hW) (by omega)))
  have P2 : Hid (∀ (t : RT) W, Below w.heap.size w W → RopeAt W t → t.txt = r.txt ++ b.txt → (max r.dep b.dep ≤ t.dep ∧ t.dep ≤ max r.dep b.dep + 1) → Calls Try.prog 78 #[.pointer l.addr, .pointer t.addr] W fun e w' => ∃ t' : RT, e = .returned (.pointer t'.addr) ∧ Made w ((RT.node ba l r).txt ++ b.txt) (fun d => max (RT.node ba l r).dep b.dep ≤ d ∧ d ≤ max (RT.node ba l r).dep b.dep + 1) (.returned (.pointer t'.addr)) w' ∧ Below W.heap.size W w') := Lib.hid (by
    intro t W hW ht ht1 ht2
    have hlen : t.len = r.len + b.len := by rw [← RT.txt_len, ht1, List.length_append, RT.txt_len, RT.txt_len]
    refine (pairRight l t W (hl.next hW) ht l0 (by omega) (by omega) (by omega) (by omega)).mono ?_
    rintro e w' ⟨t', rfl, g1, g2, g3, g4⟩
    refine ⟨t', rfl, ⟨t', rfl, g1, by rw [g2, ht1]; simp, ?_, bstep hW g4⟩, g4⟩
    simp only [RT.dep]
    omega)
  have hs0 : Hid (∀ W, Below w.heap.size w W → S34 w ba (.pointer l.addr) (.pointer r.addr) W) := Lib.hid fun W hW => S34.start hba c3 c4 hW
  rw [show r.ptr = .pointer r.addr from rfl, hpb] at P1
  rw [show (RT.node ba l r).ptr = .pointer (some ⟨ba, 0, none⟩) from rfl, hpb]
  obtain ⟨da, z3⟩ : ∃ da, max l.dep r.dep + 1 = da := ⟨_, rfl⟩
  rw [z3] at hda h1
  have hg1 : decide ((b.dep : Int) + 1 < (da : Int)) = true := by rw [decide_eq_true_eq]; omega
  have hg4 : (b.dep : Int) + 1 < 9223372036854775807 := by omega
  clear ha hb hpb hl hr l0 r0 hb5 hb6 h1 hm q1 q2 q3 b0 z3 c3 c4
  generalize hal : l.addr = al at *
  generalize har : r.addr = ar at *
  go_enter Try.func66, Try.ntmps66
  go_upto_region 5 with fail
  go_region
  go_upto_region 6 with fail
  clear hg1 hg4 hda hdb
  go_region_held3 (fun w' => Below w.heap.size w w' ∧ w'.cell? ⟨ba, 3, none⟩ = some (.pointer al) ∧ w'.cell? ⟨ba, 4, none⟩ = some (.pointer ar))
    (first | exact hs0.out _ ((Below.refl _ _).drew.drew) | exact hs0.out _ (by assumption))
    (first | (go_at_call 66; refine (P1.out _ ((Below.refl _ _).drew.drew)).mono ?_; rintro e w1 ⟨t, rfl, ⟨hg1, hg2, hg3, hb1⟩, hb1'⟩; have G1 := Lib.hid (P2.out t _ hb1 hg1 hg2 hg3); clear hg1 hg2 hg3) | (go_at_call 78; refine G1.out.mono ?_; rintro e w2 ⟨t', rfl, g1, g2⟩; have g3 : Below w.heap.size w w2 := bstep hb1 g2; have G2 := Lib.hid g1; clear g1))
  go_wp2_with fail
  go_ret
  exact G2.out

set_option maxRecDepth 100000 in
set_option maxHeartbeats 2000000 in
theorem join_deep2 (a l r : RT) (bb : Nat) (a0 : 0 < a.dep) (h1 : a.dep + 1 < (RT.node bb l r).dep) (IH : JoinAt a l) : JoinAt a (.node bb l r) := by
  intro w ha hb hm
  obtain ⟨ba, hpa, hba, hda, -⟩ := ha.open a0
  have hl := hb.left
  have hr := hb.right
  obtain ⟨l0, r0, hb5, hb6⟩ := hb.1.2.2
  obtain ⟨hbb, hdb, -, c3, c4, -, -⟩ := hb.2
  have q1 := RT.dep_len hl.1
  have q2 := RT.dep_len hr.1
  have q3 := RT.dep_len ha.1
  simp only [RT.dep] at h1
  simp only [RT.len] at hm
  have P1 := Lib.hid (fun W (hW : Below w.heap.size w W) => madeM hW (IH W (ha.next hW) (hl.next hW) (by omega)))
  have P2 : Hid (∀ (t : RT) W, Below w.heap.size w W → RopeAt W t → t.txt = a.txt ++ l.txt → (max a.dep l.dep ≤ t.dep ∧ t.dep ≤ max a.dep l.dep + 1) → Calls Try.prog 79 #[.pointer t.addr, .pointer r.addr] W fun e w' => ∃ t' : RT, e = .returned (.pointer t'.addr) ∧ Made w (a.txt ++ (RT.node bb l r).txt) (fun d => max a.dep (RT.node bb l r).dep ≤ d ∧ d ≤ max a.dep (RT.node bb l r).dep + 1) (.returned (.pointer t'.addr)) w' ∧ Below W.heap.size W w') := Lib.hid (by
    intro t W hW ht ht1 ht2
    have hlen : t.len = a.len + l.len := by rw [← RT.txt_len, ht1, List.length_append, RT.txt_len, RT.txt_len]
    refine (pairLeft t r W ht (hr.next hW) (by omega) r0 (by omega) (by omega) (by omega)).mono ?_
    rintro e w' ⟨t', rfl, g1, g2, g3, g4⟩
    refine ⟨t', rfl, ⟨t', rfl, g1, by rw [g2, ht1]; simp, ?_, bstep hW g4⟩, g4⟩
    simp only [RT.dep]
    omega)
  have hs0 : Hid (∀ W, Below w.heap.size w W → S34 w bb (.pointer l.addr) (.pointer r.addr) W) := Lib.hid fun W hW => S34.start hbb c3 c4 hW
  rw [show l.ptr = .pointer l.addr from rfl, hpa] at P1
  rw [show (RT.node bb l r).ptr = .pointer (some ⟨bb, 0, none⟩) from rfl, hpa]
  obtain ⟨db, z3⟩ : ∃ db, max l.dep r.dep + 1 = db := ⟨_, rfl⟩
  rw [z3] at hdb h1
  have hg1 : decide ((db : Int) + 1 < (a.dep : Int)) = false := by rw [decide_eq_false_iff_not]; omega
  have hg2 : decide ((a.dep : Int) + 1 < (db : Int)) = true := by rw [decide_eq_true_eq]; omega
  have hg3 : (a.dep : Int) + 1 < 9223372036854775807 := by omega
  have hg4 : (db : Int) + 1 < 9223372036854775807 := by omega
  clear ha hb hpa hl hr l0 r0 hb5 hb6 h1 hm q1 q2 q3 a0 z3 c3 c4
  generalize hal : l.addr = al at *
  generalize har : r.addr = ar at *
  go_enter Try.func66, Try.ntmps66
  go_upto_region 5 with fail
  go_region
  go_upto_region 7 with fail
  go_region
  go_upto_region 8 with fail
  clear hg1 hg2 hg3 hg4 hda hdb
  go_region_held3 (fun w' => Below w.heap.size w w' ∧ w'.cell? ⟨bb, 3, none⟩ = some (.pointer al) ∧ w'.cell? ⟨bb, 4, none⟩ = some (.pointer ar))
    (first | exact hs0.out _ ((Below.refl _ _).drew.drew.drew) | exact hs0.out _ (by assumption))
    (first | (go_at_call 66; refine (P1.out _ ((Below.refl _ _).drew.drew.drew)).mono ?_; rintro e w1 ⟨t, rfl, ⟨hg1, hg2, hg3, hb1⟩, hb1'⟩; have G1 := Lib.hid (P2.out t _ hb1 hg1 hg2 hg3); clear hg1 hg2 hg3) | (go_at_call 79; refine G1.out.mono ?_; rintro e w2 ⟨t', rfl, g1, g2⟩; have g3 : Below w.heap.size w w2 := bstep hb1 g2; have G2 := Lib.hid g1; clear g1))
  go_wp2_with fail
  go_ret
  exact G2.out

theorem join_any : ∀ (k : Nat) (a b : RT), a.dep + b.dep ≤ k → JoinAt a b
  | 0, a, b, h => by
    obtain rfl := RT.isNil (t := a) (by omega)
    exact join_left b
  | k + 1, a, b, h => by
    by_cases a0 : 0 < a.dep
    · by_cases b0 : 0 < b.dep
      · by_cases h1 : b.dep + 1 < a.dep
        · obtain ⟨ba, l, r, rfl⟩ := RT.isNode (t := a) (by omega)
          refine join_deep l r b ba b0 h1 (join_any k r b ?_)
          simp only [RT.dep] at h; omega
        · by_cases h2 : a.dep + 1 < b.dep
          · obtain ⟨bb, l, r, rfl⟩ := RT.isNode (t := b) (by omega)
            refine join_deep2 a l r bb a0 h2 (join_any k a l ?_)
            simp only [RT.dep] at h; omega
          · exact join_pair a b a0 b0 (by omega) (by omega)
      · obtain rfl := RT.isNil (t := b) (by omega)
        exact join_right a a0
    · obtain rfl := RT.isNil (t := a) (by omega)
      exact join_left b

/-- join: the concatenation -/
theorem join (a b : RT) : JoinAt a b := join_any _ a b (Nat.le_refl _)

end Go.Proofs.Ytkckhjljindgmaa.RopeC
