/-
  Hunks that are read beside a box that is written; the hunks of the merged lines. No function is named.
-/
import Derived.Test.YtokfnajgjhkepaaMergeHs
import Derived.Test.YtokfnajgjhkepaaMergeFirst
namespace Go.Proofs.Ytokfnajgjhkepaa.MergeT
open Go.RowKit Kit LineM StrM DiffM DiffA DiffR DiffP DiffK HistM

/-- a row whose block stays -/
theorem row_fr {W W' : World} {base e size n sb : Nat} {v : Value} {xs : List Value} (h : W.ownsRow base e size v n xs) (hb : sb < base) (hf : Fr (fun b => b = sb) W W') : W'.ownsRow base e size v n xs := by
  refine ⟨h.1, ?_⟩
  rcases h.2 with h0 | ⟨g, cap, cur, e1, e2, e3, e4⟩
  · exact .inl h0
  · exact .inr ⟨g, cap, cur, e1, e2, (hf.block g (h.lt g (by rw [e1]; rfl)).2 (by omega)).trans e3, e4⟩
/-- hunks that are read: they and their lines lie off the block sb -/
structure RD (sb : Nat) (u : Value) (hs : List HV) (W : World) : Prop where
  sl : SlV 3 hkc W u hs
  ne : u.ownBlock ≠ some sb
  ln : ∀ h ∈ hs, SlV 1 sc W h.2 h.1.l ∧ h.2.ownBlock ≠ some sb
section
variable {sb : Nat} {u v : Value} {hs ts rs : List HV} {w wB W W' : World}
theorem RD.fr (h : RD sb u hs W) (hf : Fr (fun b => b = sb) W W') : RD sb u hs W' := ⟨SlV.fr h.sl h.ne hf, h.ne, fun x hx => ⟨SlV.fr (h.ln x hx).1 (h.ln x hx).2 hf, (h.ln x hx).2⟩⟩
theorem RD.form (h : RD sb u hs W) : ∀ x ∈ hs, ∃ a n c, x.2 = .slice a n c := fun x hx => by
  obtain ⟨a, c, e, _⟩ := (h.ln x hx).1
  exact ⟨a, _, c, e⟩
theorem RD.of_lr (h : LR w hs v W) (hs' : sb < w.heap.size) : RD sb v hs W :=
  ⟨SlV.of_owns hkc_len h.row, fun e => by have := (h.row.lt _ e).1; omega, fun x hx => ⟨SlV.of_owns sc_len (h.ln x hx), fun e => by have := ((h.ln x hx).lt _ e).1; omega⟩⟩
/-- the hunks of the merged lines: a row of the call's own, each with lines of its own -/
structure LM (wB : World) (sb : Nat) (M : List HV) (v : Value) (W : World) : Prop where
  lt : sb < wB.heap.size
  fr : Fr (fun b => b = sb) wB W
  row : W.ownsRow wB.heap.size 54 3 v M.length (flatC hkc M)
  ln : ∀ h ∈ M, W.ownsRow wB.heap.size 9 1 h.2 h.1.l.length (flatC sc h.1.l)
theorem fr_step (h : Fr (fun b => b = sb) wB W) (hf : Fr (fun b => b = sb) W W') : Fr (fun b => b = sb) wB W' :=
  ⟨hf.os.trans h.os, hf.tape.trans h.tape, hf.output.trans h.output, Nat.le_trans h.size hf.size, fun b hb hn => (hf.block b (Nat.lt_of_lt_of_le hb h.size) hn).trans (h.block b hb hn)⟩
theorem fr_below (hb : Below W.heap.size W W') : Fr (fun b => b = sb) W W' := Fr.of_below hb
theorem LM.next {M : List HV} (h : LM wB sb M v W) (hf : Fr (fun b => b = sb) W W') : LM wB sb M v W' :=
  ⟨h.lt, fr_step h.fr hf, row_fr h.row h.lt hf, fun x hx => row_fr (h.ln x hx) h.lt hf⟩
/-- a hunk more -/
theorem LM.push {M : List HV} (h : LM wB sb M v W) {x : HV} (hx : W.ownsRow wB.heap.size 9 1 x.2 x.1.l.length (flatC sc x.1.l)) {o : Obj} {W1 : World} {v' : Value}
    (hr : W1.ownsRow wB.heap.size 54 3 v' (M.length + 1) (flatC hkc M ++ hkc x)) (hg : (W.alloc o).grownBy W1 v.ownBlock) : LM wB sb (M ++ [x]) v' W1 ∧ Fr (fun b => b = sb) wB W1 := by
  have hf : Fr (fun b => b = sb) W (W.alloc o) := fr_below (balloc (Below.refl _ _) o)
  have hA := h.next hf
  have f1 : Fr (fun b => b = sb) wB W1 := hA.fr.grown hg (fun b q => .inr (hA.row.lt b q).1)
  have kept : ∀ z : HV, (W.alloc o).ownsRow wB.heap.size 9 1 z.2 z.1.l.length (flatC sc z.1.l) → W1.ownsRow wB.heap.size 9 1 z.2 z.1.l.length (flatC sc z.1.l) := fun z hz => hz.kept hg (by
    cases hv : z.2.ownBlock with
    | none => exact .inl rfl
    | some b => exact .inr (fun e2 => apart2 hz hA.row (by decide) hv e2.symm))
  refine ⟨⟨h.lt, f1, by rw [List.length_append, flatC_append, flatC_one]; exact hr, fun z hz => ?_⟩, f1⟩
  rcases List.mem_append.1 hz with hz | hz
  · exact kept z (hA.ln z hz)
  · rw [List.mem_singleton] at hz; subst hz
    exact kept _ (row_fr hx h.lt hf)
theorem LM.read {M : List HV} (h : LM wB sb M v W) : SlV 3 hkc W v M ∧ ∀ x ∈ M, SlV 1 sc W x.2 x.1.l := ⟨SlV.of_owns hkc_len h.row, fun x hx => SlV.of_owns sc_len (h.ln x hx)⟩
end
end Go.Proofs.Ytokfnajgjhkepaa.MergeT
