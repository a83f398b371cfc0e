/-
  A region that grows, in memory: its box, the two rows of hunks in it, the box of the sides. No function is named.
-/
import Derived.Test.YtokfnajgjhkepaaMergeRow
namespace Go.Proofs.Ytokfnajgjhkepaa.MergeT
open Go.RowKit Kit LineM StrM DiffM DiffA DiffR DiffP DiffK HistM

theorem infoHunk : (Try.prog.info? 54).map (fun i => (i.zero, i.size, i.bytes)) = some (some (.agg #[.int .i64 0, .int .i64 0, .slice none 0 0]), 3, 40) := by kernel_rfl
theorem hkc_one (h : HV) (h1 : h.2.oneCell' = true) : ∀ u ∈ hkc h, u.oneCell' = true := by
  intro u hu
  simp only [hkc, List.mem_cons, List.not_mem_nil, or_false] at hu
  rcases hu with rfl | rfl | rfl
  · rfl
  · rfl
  · exact h1
/-- what lies elsewhere stays -/
theorem SlV.fr {α : Type} {k : Nat} {cells : α → List Value} {w W : World} {v : Value} {l : List α} {sb : Nat} (h : SlV k cells w v l) (hne : v.ownBlock ≠ some sb) (hf : Fr (fun b => b = sb) w W) : SlV k cells W v l := by
  obtain ⟨a, cap, rfl, hle, ha, hs⟩ := h
  refine ⟨a, cap, rfl, hle, ⟨fun i o hi => ?_⟩, hs.imp id ?_⟩
  · obtain ⟨g, off, h0, h1, h2⟩ := ha.cell i o hi
    subst h0
    have hb := hf.block g h1 (fun e => hne (by rw [← e]; rfl))
    exact ⟨g, off, rfl, Nat.lt_of_lt_of_le h1 hf.size, fun j hj => (World.cell?_of_block (a := ⟨g, off + i * k + j, none⟩) hb).trans (h2 j hj)⟩
  · rintro ⟨g, off, rfl, hg⟩
    exact ⟨g, off, rfl, Nat.lt_of_lt_of_le hg hf.size⟩
/-- the first one is cut off -/
theorem SlV.tail {w : World} {g off c : Nat} {h : HV} {r : List HV} (hs : SlV 3 hkc w (.slice (some ⟨g, off, none⟩) (r.length + 1) c) (h :: r)) : SlV 3 hkc w (.slice (if c = 1 then some ⟨g, off, none⟩ else some ⟨g, off + 3, none⟩) r.length (c - 1)) r := by
  obtain ⟨a, cap, e, hle, ha, hd⟩ := hs
  cases e
  have hg : g < w.heap.size := by
    rcases hd with ⟨e, _⟩ | ⟨g', off', e, hg⟩
    · cases e
    · cases e; exact hg
  simp only [List.length_cons] at hle
  split
  · have : r = [] := List.eq_nil_of_length_eq_zero (by omega)
    subst this
    exact ⟨_, _, rfl, by simp, SlAt.nil _ _, .inr ⟨g, off, rfl, hg⟩⟩
  · have := SlAt.drop (k := 3) ha 1
    exact ⟨_, _, rfl, by omega, this, .inr ⟨g, off + 3, rfl, hg⟩⟩
def upd {β : Type} (f : Nat → β) (k : Nat) (x : β) : Nat → β := fun j => if j = k then x else f j
theorem upd_same {β : Type} (f : Nat → β) (k : Nat) (x : β) : upd f k x k = x := if_pos rfl
theorem upd_other {β : Type} (f : Nat → β) {k j : Nat} (x : β) (h : j ≠ k) : upd f k x j = f j := if_neg h
/-- a region that grows -/
structure GS (w : World) (sb rk i e : Nat) (vs us : Nat → Value) (ts rs : Nat → List HV) (W : World) : Prop where
  fr : Fr (fun b => b = sb) w W
  sl : sb < w.heap.size
  xlo : w.heap.size < rk
  rlt : rk < W.heap.size
  xb : B4 w.heap.size (.int .i64 0) (.int .i64 0) (.slice none 0 0) (.slice none 0 0) W
  r0 : W.cell? ⟨rk, 0, none⟩ = some (.int .i64 (i : Int))
  r1 : W.cell? ⟨rk, 1, none⟩ = some (.int .i64 (e : Int))
  rv : ∀ j, j < 2 → W.cell? ⟨rk, 2 + j, none⟩ = some (vs j)
  rf : ∀ o, o < 4 → W.frozen? ⟨rk, o, none⟩ = false
  su : ∀ j, j < 2 → W.cell? ⟨sb, j, none⟩ = some (us j)
  sf : ∀ j, j < 2 → W.frozen? ⟨sb, j, none⟩ = false
  row : ∀ j, j < 2 → W.ownsRow (rk + 1) 54 3 (vs j) (ts j).length (flatC hkc (ts j))
  off : ∀ j k, j < 2 → k < 2 → j ≠ k → ∀ b, (vs j).ownBlock = some b → (vs k).ownBlock ≠ some b
  rd : ∀ j, j < 2 → SlV 3 hkc w (us j) (rs j) ∧ (us j).ownBlock ≠ some sb
section
variable {w W W' : World} {sb rk i e e' : Nat} {vs us : Nat → Value} {ts rs : Nat → List HV}
theorem GS.slt (h : GS w sb rk i e vs us ts rs W) : sb < W.heap.size := Nat.lt_of_lt_of_le h.sl h.fr.size
theorem GS.read (h : GS w sb rk i e vs us ts rs W) {j : Nat} (hj : j < 2) : SlV 3 hkc W (us j) (rs j) := SlV.fr (h.rd j hj).1 (h.rd j hj).2 h.fr
theorem GS.next (h : GS w sb rk i e vs us ts rs W) (hb : Below W.heap.size W W') : GS w sb rk i e vs us ts rs W' :=
  ⟨⟨hb.os.trans h.fr.os, hb.tape.trans h.fr.tape, hb.output.trans h.fr.output, Nat.le_trans h.fr.size hb.size, fun b q1 q2 => (hb.block b (Nat.lt_of_lt_of_le q1 h.fr.size)).trans (h.fr.block b q1 q2)⟩, h.sl, h.xlo, Nat.lt_of_lt_of_le h.rlt hb.size, h.xb.next hb, keep hb h.rlt h.r0, keep hb h.rlt h.r1, fun j hj => keep hb h.rlt (h.rv j hj), fun o ho => (hb.frozen (p := ⟨rk, o, none⟩) h.rlt).trans (h.rf o ho),
    fun j hj => keep hb h.slt (h.su j hj), fun j hj => (hb.frozen (p := ⟨sb, j, none⟩) h.slt).trans (h.sf j hj), fun j hj => row_next (h.row j hj) hb, h.off, h.rd⟩
theorem GS.setE (h : GS w sb rk i e vs us ts rs W) : GS w sb rk i e' vs us ts rs (W.setCell ⟨rk, 1, none⟩ (.int .i64 (e' : Int))) := by
  have h1 := h.sl
  have h2 := h.xlo
  exact ⟨h.fr.set (.inr (by omega)) _, h1, h2, by rw [setZ]; exact h.rlt, B4.kept h.xb (by rw [setZ]; exact Nat.le_refl _) (heap_set_other (by omega) _), (setO (.inr (by omega)) _).trans h.r0, setS h.r1 _, fun j hj => (setO (.inr (by omega)) _).trans (h.rv j hj), fun o ho => by rw [World.frozen?_setCell]; exact h.rf o ho,
    fun j hj => (setO (.inl (by omega)) _).trans (h.su j hj), fun j hj => by rw [World.frozen?_setCell]; exact h.sf j hj, fun j hj => ownsRow_setCell_below (h.row j hj) (by show rk < rk + 1; omega) _, h.off, h.rd⟩
theorem GS.setS (h : GS w sb rk i e vs us ts rs W) {k : Nat} (hk : k < 2) {u : Value} {r : List HV} (hu : SlV 3 hkc w u r) (hn : u.ownBlock ≠ some sb) : GS w sb rk i e vs (upd us k u) ts (upd rs k r) (W.setCell ⟨sb, k, none⟩ u) := by
  have h1 := h.sl
  have h2 := h.xlo
  refine ⟨h.fr.set (.inl rfl) _, h1, h2, by rw [setZ]; exact h.rlt, B4.kept h.xb (by rw [setZ]; exact Nat.le_refl _) (heap_set_other (by omega) _), (setO (.inl (by omega)) _).trans h.r0, (setO (.inl (by omega)) _).trans h.r1, fun j hj => (setO (.inl (by omega)) _).trans (h.rv j hj), fun o ho => by rw [World.frozen?_setCell]; exact h.rf o ho,
    fun j hj => ?_, fun j hj => by rw [World.frozen?_setCell]; exact h.sf j hj, fun j hj => ownsRow_setCell_below (h.row j hj) (by show sb < rk + 1; omega) _, h.off, fun j hj => ?_⟩
  · by_cases e1 : j = k
    · subst e1; rw [upd_same]; exact Kit.setS (h.su j hj) _
    · rw [upd_other _ _ e1]; exact (setO (.inr e1) _).trans (h.su j hj)
  · by_cases e1 : j = k
    · subst e1; rw [upd_same, upd_same]; exact ⟨hu, hn⟩
    · rw [upd_other _ _ e1, upd_other _ _ e1]; exact h.rd j hj
theorem GS.push (h : GS w sb rk i e vs us ts rs W) {k : Nat} (hk : k < 2) {x : HV} {o : Obj} {W1 : World} {g cap : Nat}
    (hr : W1.ownsRow (rk + 1) 54 3 (.slice (some ⟨g, 0, none⟩) ((ts k).length + 1) cap) ((ts k).length + 1) (flatC hkc (ts k) ++ hkc x)) (hg : (W.alloc o).grownBy W1 (vs k).ownBlock) (hloc : (vs k).ownBlock = some g ∨ g = (W.alloc o).heap.size) :
    (W1.cell? ⟨rk, 2 + k, none⟩ = some (vs k) ∧ W1.frozen? ⟨rk, 2 + k, none⟩ = false ∧ rk < W1.heap.size) ∧
    GS w sb rk i e (upd vs k (.slice (some ⟨g, 0, none⟩) ((ts k).length + 1) cap)) us (upd ts k (ts k ++ [x])) rs (W1.setCell ⟨rk, 2 + k, none⟩ (.slice (some ⟨g, 0, none⟩) ((ts k).length + 1) cap)) := by
  have ha := balloc (Below.refl W.heap.size W) o
  have hA := h.next ha
  have h1 := h.sl
  have h2 := h.xlo
  have k1 : (vs k).ownBlock ≠ some rk := own_above (hA.row k hk) (by omega)
  have k2 : (vs k).ownBlock ≠ some sb := own_above (hA.row k hk) (by omega)
  have k3 : (vs k).ownBlock ≠ some w.heap.size := own_above (hA.row k hk) (by omega)
  have cell : ∀ o u, (W.alloc ‹Obj›).cell? ⟨rk, o, none⟩ = some u → W1.cell? ⟨rk, o, none⟩ = some u := fun o u hc => kept_at hg hc k1
  have f0 := hA.rv k hk
  have hrl : rk < W1.heap.size := Nat.lt_of_lt_of_le hA.rlt hg.size
  have fz : ∀ o, o < 4 → W1.frozen? ⟨rk, o, none⟩ = false := fun o ho => (World.frozen?_of_block (a := ⟨rk, o, none⟩) (hg.block rk hA.rlt (fun e => k1 e.symm))).trans (hA.rf o ho)
  refine ⟨⟨cell _ _ f0, fz _ (by omega), hrl⟩, ?_⟩
  have hgl := hr.lt g rfl
  have fresh : ∀ j, j < 2 → j ≠ k → (vs j).ownBlock ≠ some g := fun j hj hjk e => by
    rcases hloc with e' | e'
    · exact h.off j k hj hk hjk g e e'
    · have := ((hA.row j hj).lt g e).2
      omega
  have fr1 : Fr (fun b => b = sb) w W1 := hA.fr.grown hg (fun b q => .inr (by
    have := ((hA.row k hk).lt b q).1
    omega))
  refine ⟨fr1.set (.inr (by omega)) _, h1, h2, by rw [setZ]; exact hrl, ?_, (setO (.inr (by omega)) _).trans (cell _ _ hA.r0), (setO (.inr (by omega)) _).trans (cell _ _ hA.r1), fun j hj => ?_, fun o ho => by rw [World.frozen?_setCell]; exact fz o ho,
    fun j hj => (setO (.inl (by omega)) _).trans (kept_at hg (hA.su j hj) k2), fun j hj => by rw [World.frozen?_setCell]; exact kept_fr hg (hA.su j hj) k2 (hA.sf j hj), fun j hj => ?_, fun j l hj hl hjl b hb => ?_, h.rd⟩
  · exact B4.kept hA.xb (by rw [setZ]; exact hg.size) ((heap_set_other (by omega) _).trans (hg.block _ hA.xb.lt (fun e => k3 e.symm)))
  · by_cases e1 : j = k
    · subst e1; rw [upd_same]; exact Kit.setS (cell _ _ f0) _
    · rw [upd_other _ _ e1]; exact (setO (.inr (by omega)) _).trans (cell _ _ (hA.rv j hj))
  · by_cases e1 : j = k
    · subst e1
      rw [upd_same, upd_same, List.length_append, flatC_append, flatC_one]
      exact ownsRow_setCell_below hr (by show rk < rk + 1; omega) _
    · rw [upd_other _ _ e1, upd_other _ _ e1]
      refine ownsRow_setCell_below ?_ (by show rk < rk + 1; omega) _
      refine (hA.row j hj).kept hg ?_
      cases hv : (vs j).ownBlock with
      | none => exact .inl rfl
      | some b => exact .inr (fun e2 => h.off j k hj hk e1 b hv (by rw [e2]))
  · by_cases ej : j = k
    · subst ej
      rw [upd_same] at hb
      have hgb : g = b := by simpa [Value.ownBlock] using hb
      rw [upd_other _ _ (fun e => hjl e.symm), ← hgb]
      exact fresh l hl (fun e => hjl e.symm)
    · rw [upd_other _ _ ej] at hb
      by_cases el : l = k
      · subst el
        rw [upd_same]
        intro e2
        have hgb : g = b := by simpa [Value.ownBlock] using e2
        exact fresh j hj ej (by rw [hb, hgb])
      · rw [upd_other _ _ el]
        exact h.off j l hj hl hjl b hb
end
end Go.Proofs.Ytokfnajgjhkepaa.MergeT
