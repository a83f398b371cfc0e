/-
  Package find: grow.
-/
import Derived.Test.YtkiebkjndmcddaaAcStep
namespace Go.Proofs.Ytkiebkjndmcddaa.AcM
open Go.RowKit Go.Maps Kit FindM LineM HistM

theorem infoSt : (Try.prog.info? 72).map (fun i => (i.zero, i.size, i.bytes)) = some (some (.agg #[.map none, .int .i64 0, .int .i64 0]), 3, 24) := by kernel_rfl
/-- no state is yet known to be a string -/
def Blank (ss : List St) : Prop := ∀ st ∈ ss, st.fi = -1
/-- what grow answers -/
structure GrPost (B : Nat) (v : Value) (ps : List (List UInt8)) (ss : List St) (p : List UInt8) (w : World) (e : Ending) (w' : World) : Prop where
  is : ∃ v' ps' ss' n, e = .returned (.tuple #[v', .int .i64 ((n : Nat) : Int)]) ∧ MacAt B w' v' ps' ss' ∧ Fr (Foot v ss) w w' ∧ (∀ b, Foot v' ss' b → Foot v ss b ∨ w.heap.size ≤ b) ∧ n < ps'.length ∧ sq ps' n = p ∧ (ps' = ps ∨ ps' = ps ++ [p]) ∧ (Blank ss → Blank ss')
theorem plain_int (n : Nat) (h : n ≤ 1000000) : plainElem (H := Unit) Try.prog 3 (.int .i64 (n : Int)) = some (pl0 n, []) := plainElem_int Try.underlying3 (by
  simp only [Lit.wf, Bool.and_eq_true, decide_eq_true_eq]
  exact ⟨by show (-9223372036854775808 : Int) ≤ _; omega, by show _ ≤ (9223372036854775807 : Int); omega⟩)
/-- what is left of the walk, behind the suffix -/
theorem add_fin {B : Nat} {v : Value} {ps : List (List UInt8)} {ss : List St} {w w1 w2 w3 : World} (h : MacAt B w v ps ss) {a n0 mb sf : Nat} {sa : St} {D0 : DataW Unit} {c : UInt8} (ha : ss[a]? = some sa) (hn : sq ps a ++ [c] ∉ ps) (hlen : ∀ p ∈ ps, p.length ≤ (sq ps a).length + 1) (hD : DMp ps a D0) (hn0 : n0 ≤ ps.length)
    (hm1 : OM w1 sa.mb (n0 + 1) (D0.put (ky c) (pl0 ps.length))) (hg1 : w.grownBy w1 (some sa.mb)) (hb2 : Below w1.heap.size w1 w2) (hmb : w1.heap.size ≤ mb) (hm2 : OM w2 mb 0 (.map [])) (hsf : Long ps (PSuf (sq ps a ++ [c])) sf)
    {v' : Value} (hr : RX 3 w3 v' (ss.length + 1) (flatC stc ss ++ stc ⟨mb, sf, -1⟩)) (hg3 : w2.grownBy w3 v.ownBlock) (hv : ∃ g, v'.ownBlock = some g ∧ (v.ownBlock = some g ∨ (w2.heap.size ≤ g ∧ g < w3.heap.size))) (hB : B ≤ w.heap.size) :
    GrPost B v ps ss (sq ps a ++ [c]) w (.returned (.tuple #[v', .int .i64 ((ss.length : Nat) : Int)])) w3 := by
  obtain ⟨h1, h2, h3⟩ := h.add ha hn hlen hD hn0 hm1 hg1 hb2 hmb hm2 hsf hr hg3 hv hB
  refine ⟨_, _, _, ss.length, rfl, h1, h2, h3, by rw [h.len]; simp, by rw [h.len]; exact sq_new, .inr rfl, fun hb st hst => ?_⟩
  rcases List.mem_append.1 hst with hst | hst
  · exact hb st hst
  · rw [List.mem_singleton] at hst
    rw [hst]
set_option maxRecDepth 100000 in
set_option maxHeartbeats 4000000 in
theorem grow_there {B : Nat} {v : Value} {ps : List (List UInt8)} {ss : List St} {w : World} (h : MacAt B w v ps ss) {a : Nat} (ha : a < ps.length) (c : UInt8) (hin : sq ps a ++ [c] ∈ ps) :
    Calls Try.prog 42 #[v, .int .i64 (a : Int), .int .u8 (c.toNat : Int)] w (GrPost B v ps ss (sq ps a ++ [c]) w) := by
  obtain ⟨g, off, cap, rfl, hg, hcells⟩ := h.form
  obtain ⟨st, hst⟩ := h.get ha
  obtain ⟨c0, c1, c2⟩ := hcells a st hst
  obtain ⟨m, D, hom, hmn, hD⟩ := h.maps a st hst
  obtain ⟨x, hx, hxe⟩ := mem_sq hin
  obtain ⟨y1, y2⟩ := hD.yes c x hx hxe
  have Y1 := Lib.hid y1
  have Y2 := Lib.hid y2
  have HOM := Lib.hid hom
  have R : Hid (GrPost B (.slice (some ⟨g, off, none⟩) ss.length cap) ps ss (sq ps a ++ [c]) w (.returned (.tuple #[.slice (some ⟨g, off, none⟩) ss.length cap, .int .i64 (x : Int)])) w) := Lib.hid ⟨_, _, _, x, rfl, h, Fr.refl _ _, fun b hb => .inl hb, hx, hxe, .inl rfl, fun hb => hb⟩
  have u0 : (0 : Int) ≤ (a : Int) := by omega
  have u1 : (a : Int) < (ss.length : Int) := by have := h.len; omega
  generalize ss.length = n at *
  clear hcells hst hom hD hin hxe y1 y2 h
  go_enter Try.func42, Try.ntmps42
  go_wp2_with (at_lookup; refine wpList_lookup_own_ok_int _ rfl _ _ 70 rfl 5 3 .i64 keyLaw Try.underlying70 Try.underlying3 (zeroInt _) st.mb m D rfl HOM.out _ _ rfl (ky_of c) ?_; intro z hz _; have ez : z = (x : Int) := (by have := Y2.out; unfold pl0 at this; rw [Int.natCast_zero] at this; rw [this] at hz; simpa using hz.symm); rw [Y1.out, ez]; clear hz ez)
  go_ret2
  exact R.out
theorem cells_new3 (w : World) (cs : List Value) (t : TypeId) : ∀ j u, cs[j]? = some u → (w.alloc (.cells cs.toArray t)).cell? ((⟨w.heap.size, 0, none⟩ : Addr).add j) = some u := by
  intro j u hj
  have e : (⟨w.heap.size, 0, none⟩ : Addr).add j = ⟨w.heap.size, j, none⟩ := by rw [add_of rfl]; simp
  rw [e, cells_new]
  simpa using hj
/-- what the walk knows of the new state -/
structure GrFacts (B : Nat) (v : Value) (ps : List (List UInt8)) (ss : List St) (p : List UInt8) (w : World) (n m : Nat) (b : Nat) (D : DataW Unit) (c : UInt8) (sf : Nat) : Prop where
  row : ∀ w1 w2 o, w.grownBy w1 (some b) → Below w1.heap.size w1 w2 → RX 3 (w2.alloc o) v n (flatC stc ss)
  fin : ∀ (w1 w2 w3 : World) (mb : Nat) (o : Obj) (v' : Value), OM w1 b (m + 1) (D.put (ky c) (pl0 n)) → w.grownBy w1 (some b) → w1.heap.size ≤ mb → OM w2 mb 0 (.map []) → Below w1.heap.size w1 w2 → RX 3 w3 v' (n + 1) (flatC stc ss ++ [.map (some mb), .int .i64 (sf : Int), .int .i64 (-1)]) → (w2.alloc o).grownBy w3 v.ownBlock → (∃ g, v'.ownBlock = some g ∧ (v.ownBlock = some g ∨ ((w2.alloc o).heap.size ≤ g ∧ g < w3.heap.size))) → GrPost B v ps ss p w (.returned (.tuple #[v', .int .i64 (n : Int)])) w3
theorem gr_facts {B : Nat} {v : Value} {ps : List (List UInt8)} {ss : List St} {w : World} (h : MacAt B w v ps ss) {a m sf : Nat} {st : St} {D : DataW Unit} {c : UInt8} (ha : ss[a]? = some st) (hn : sq ps a ++ [c] ∉ ps) (hlen : ∀ p ∈ ps, p.length ≤ (sq ps a).length + 1) (hD : DMp ps a D) (hm : m ≤ ps.length) (hsf : Long ps (PSuf (sq ps a ++ [c])) sf) (hB : B ≤ w.heap.size) : GrFacts B v ps ss (sq ps a ++ [c]) w ss.length m st.mb D c sf := by
  have hmem := List.mem_of_getElem? ha
  refine ⟨fun w1 w2 o hg hb => ?_, fun w1 w2 w3 mb o v' hm1 hg1 hmb hm2 hb2 hr hg3 hv => ?_⟩
  · have z1 := hg.size
    have z2 := hb.size
    refine h.row.kept ?_ (fun g hgv => ?_)
    · have := (Below.refl w2.heap.size w2).alloc (Nat.le_refl _) o |>.size
      omega
    · have hlt := h.row.lt hgv
      have e1 : (w2.alloc o).heap[g]? = w2.heap[g]? := Below.heap_alloc w2 o g (by omega)
      rw [e1, hb.block g (by omega), hg.block g hlt (fun e => h.far st hmem (by rw [hgv, e]))]
  · rw [h.len] at hm1
    have hmlt := hm2.lt
    exact add_fin h ha hn hlen hD hm hm1 hg1 (balloc hb2 o) hmb (hm2.same (Below.heap_alloc w2 o mb hmlt)) hsf hr hg3 hv hB
set_option maxRecDepth 100000 in
set_option maxHeartbeats 4000000 in
theorem grow_new {B : Nat} {v : Value} {ps : List (List UInt8)} {ss : List St} {w : World} (h : MacAt B w v ps ss) {a : Nat} (ha : a < ps.length) (c : UInt8) (hin : sq ps a ++ [c] ∉ ps) (hlen : ∀ p ∈ ps, p.length ≤ (sq ps a).length + 1) (hps : ps.length ≤ 1000) (hB : B ≤ w.heap.size) :
    Calls Try.prog 42 #[v, .int .i64 (a : Int), .int .u8 (c.toNat : Int)] w (GrPost B v ps ss (sq ps a ++ [c]) w) := by
  obtain ⟨i0, hi, hz0, hz1, hz2⟩ := info_parts infoSt
  have HI := Lib.hid (And.intro hi (And.intro hz0 (And.intro hz1 hz2)))
  clear hi hz0 hz1 hz2
  obtain ⟨g, off, cap, rfl, hg, hcells⟩ := h.form
  obtain ⟨st, hst⟩ := h.get ha
  obtain ⟨c0, c1, c2⟩ := hcells a st hst
  obtain ⟨m, D, hom, hmn, hD⟩ := h.maps a st hst
  have Y1 := Lib.hid (hD.no c hin)
  have HOM := Lib.hid hom
  have NS := Lib.hid (fun (sf : Nat) W => newState sf W)
  have u0 : (0 : Int) ≤ (a : Int) := by omega
  have u1 : (a : Int) < (ss.length : Int) := by have := h.len; omega
  have hnl : ss.length ≤ 1000 := by rw [h.len]; exact hps
  have hmx : m < maxLen := by unfold maxLen; omega
  have HVL := Lib.hid (plain_int ss.length (by omega))
  by_cases h0 : a = 0
  · subst h0
    have hs0 := h.trie.sq0
    have GF := Lib.hid (gr_facts h hst hin hlen hD hmn (sf := 0) (by rw [hs0]; exact long_one h.trie c) hB)
    have c3 : w.cell? ⟨g, off, none⟩ = some (.map (some st.mb)) := by have := c0; rwa [Nat.zero_mul, Nat.add_zero] at this
    have gl := hg
    generalize sq ps 0 ++ [c] = p at *
    generalize ss.length = n at *
    clear hcells hst hom hD hlen h hs0
    go_enter Try.func42, Try.ntmps42
    go_wp2_with (first
      | (at_lookup; refine wpList_lookup_own_ok_int _ rfl _ _ 70 rfl 5 3 .i64 keyLaw Try.underlying70 Try.underlying3 (zeroInt _) st.mb m D rfl HOM.out _ _ rfl (ky_of c) ?_; intro z _ _; rw [Y1.out])
      | (at_mapUpdate; refine wpList_mapUpdate_own _ rfl _ _ _ 70 rfl 5 3 keyLaw Try.underlying70 _ st.mb m D rfl HOM.out hmx _ _ (ky c) rfl rfl (ky_of c) (pl0 n) [] HVL.out ?_; intro w1 hown1 hgrow1; have HO1 := Lib.hid hown1; have HG1 := Lib.hid hgrow1; clear hown1 hgrow1)
      | (go_at_call 41; refine (NS.out 0 _).mono ?_; rintro e w2 ⟨mb, rfl, hmb, hom2, hb2⟩; have HN := Lib.hid (And.intro hmb (And.intro hom2 hb2)); clear hmb hom2 hb2; have HNEW := Lib.hid (cells_new3 w2 [.map (some mb), .int .i64 ((0 : Nat) : Int), .int .i64 (-1)] 72))
      | (at_builtin; refine wpList_append_rx _ rfl _ _ 67 rfl 72 i0 _ 3 24 Try.underlying67 HI.out.1 HI.out.2.1 HI.out.2.2.1 HI.out.2.2.2 rfl (by decide) _ n (flatC stc ss) rfl (GF.out.row w1 w2 _ HG1.out HN.out.2.2) ⟨w2.heap.size, 0, none⟩ 1 [.map (some mb), .int .i64 ((0 : Nat) : Int), .int .i64 (-1)] rfl rfl HNEW.out (by simp [Value.oneCell']) (by unfold maxLen; omega) (by omega) ?_; intro a4 cap4 w4 hown4 hgrow4 hat4; have FIN := Lib.hid (GF.out.fin w1 w2 w4 mb _ _ HO1.out HG1.out HN.out.1 HN.out.2.1 HN.out.2.2 hown4 hgrow4 hat4); clear hown4 hgrow4 hat4))
    go_ret2
    exact FIN.out
  · have hsuf := h.suf a st hst (by omega)
    have ST := Lib.hid (step h (long_self hsuf.lt) c)
    have GFN := Lib.hid (fun (sf : Nat) (hsf : Long ps (Suf (sq ps st.sf ++ [c])) sf) => gr_facts h hst hin hlen hD hmn (hsuf.grow h.trie hsf) hB)
    have q1 : ((a : Int) != 0) = true := by rw [bne_iff_ne]; omega
    have q2 : ¬ (a : Int) = 0 := by omega
    generalize sq ps a ++ [c] = p at *
    generalize ss.length = n at *
    clear hcells hst hom hD hlen h hsuf
    go_enter Try.func42, Try.ntmps42
    go_wp2_with (first
      | (at_lookup; refine wpList_lookup_own_ok_int _ rfl _ _ 70 rfl 5 3 .i64 keyLaw Try.underlying70 Try.underlying3 (zeroInt _) st.mb m D rfl HOM.out _ _ rfl (ky_of c) ?_; intro z _ _; rw [Y1.out])
      | (go_at_call 38; refine ST.out.mono ?_; rintro e w0 ⟨sf, rfl, hsf, rfl⟩; have GF := Lib.hid (GFN.out sf hsf); clear hsf)
      | (at_mapUpdate; refine wpList_mapUpdate_own _ rfl _ _ _ 70 rfl 5 3 keyLaw Try.underlying70 _ st.mb m D rfl HOM.out hmx _ _ (ky c) rfl rfl (ky_of c) (pl0 n) [] HVL.out ?_; intro w1 hown1 hgrow1; have HO1 := Lib.hid hown1; have HG1 := Lib.hid hgrow1; clear hown1 hgrow1)
      | (go_at_call 41; refine (NS.out sf _).mono ?_; rintro e w2 ⟨mb, rfl, hmb, hom2, hb2⟩; have HN := Lib.hid (And.intro hmb (And.intro hom2 hb2)); clear hmb hom2 hb2; have HNEW := Lib.hid (cells_new3 w2 [.map (some mb), .int .i64 (sf : Int), .int .i64 (-1)] 72))
      | (at_builtin; refine wpList_append_rx _ rfl _ _ 67 rfl 72 i0 _ 3 24 Try.underlying67 HI.out.1 HI.out.2.1 HI.out.2.2.1 HI.out.2.2.2 rfl (by decide) _ n (flatC stc ss) rfl (GF.out.row w1 w2 _ HG1.out HN.out.2.2) ⟨w2.heap.size, 0, none⟩ 1 [.map (some mb), .int .i64 (sf : Int), .int .i64 (-1)] rfl rfl HNEW.out (by simp [Value.oneCell']) (by unfold maxLen; omega) (by omega) ?_; intro a4 cap4 w4 hown4 hgrow4 hat4; have FIN := Lib.hid (GF.out.fin w1 w2 w4 mb _ _ HO1.out HG1.out HN.out.1 HN.out.2.1 HN.out.2.2 hown4 hgrow4 hat4); clear hown4 hgrow4 hat4))
    go_ret2
    exact FIN.out
/-- grow -/
theorem grow {B : Nat} {v : Value} {ps : List (List UInt8)} {ss : List St} {w : World} (h : MacAt B w v ps ss) {a : Nat} (ha : a < ps.length) (c : UInt8) (hlen : ∀ p ∈ ps, p.length ≤ (sq ps a).length + 1) (hps : ps.length ≤ 1000) (hB : B ≤ w.heap.size) :
    Calls Try.prog 42 #[v, .int .i64 (a : Int), .int .u8 (c.toNat : Int)] w (GrPost B v ps ss (sq ps a ++ [c]) w) := by
  by_cases hin : sq ps a ++ [c] ∈ ps
  · exact grow_there h ha c hin
  · exact grow_new h ha c hin hlen hps hB
end Go.Proofs.Ytkiebkjndmcddaa.AcM
