/-
  Add and Cut of valid sets; a copy inside a drawn region.
-/
import Derived.Test.YtdiogfhbgmkajaaSpanAdd
import Derived.Test.YtdiogfhbgmkajaaCopyV
namespace Go.Proofs.Ytdiogfhbgmkajaa.Kit
open Go.RowKit
theorem step_copyV {α : Type} {k : Nat} {cells : α → List Value} (hk : ∀ o, (cells o).length = k) (h1 : ∀ o, ∀ u ∈ cells o, u.oneCell' = true) (k0 : 0 < k) {P : Program} {w : World} {ops : Array Oper} {o : Oper} {a : Act} {K : Act → World → Prop} {Q : Exit → Act → World → Prop} {E : Prop} (hgd : o.guard = none)
    (s x : Operand) (t : TypeId) (ho : o.op = .call { callee := .builtin .append, args := #[s, x], argTypes := #[t, t] }) (e : TypeId) (i : TypeInfo) (z : Value) (bytes : Nat) (ht : P.underlying t = some (.slice e)) (hi : P.info? e = some i) (hz : i.zero = some z) (hsize : i.size = k) (hby : i.bytes = bytes) (hzs : z.cells.size = k)
    (hs : a.eval s = .slice none 0 0) (v : Value) (hx : a.eval x = v) (l : List α) (hv : SlV k cells w v l) (h63 : l.length ≤ maxLen) (hbytes : l.length * bytes ≤ 140737488355328)
    (h : ∀ v' w', SlV k cells w' v' l → Below w.heap.size w w' → K (a.put o.dst v') w') : if Region.wanted o (yielded ops a.tmps) = true then Oper.wp P o a w K Q else E := by
  have hw : Region.wanted o (yielded ops a.tmps) = true := by simp [Region.wanted, hgd]
  rw [if_pos hw]
  obtain ⟨al, cap, rfl, hle, ha, hd⟩ := hv
  rcases hd with ⟨rfl, rfl, rfl⟩ | ⟨g, off, rfl, _⟩
  · have hrun := run_append_owned_none (P := P) (w := w) w.heap.size t o.type e i k ht hi _ 0 [] (World.ownsRow_nil _ _ _ _)
    unfold Oper.wp
    simp [execOp, ho, resolve, invoke, builtin, hs, hx, hrun, Result.andThen]
    exact h _ _ (SlV.nil _) (Below.refl _ _)
  · refine wp_append_own w s x t ho w.heap.size e i z k bytes ht hi hz hsize hby hzs k0 _ 0 [] hs (World.ownsRow_nil _ _ _ _) ⟨g, off, none⟩ l.length cap (flatC cells l) hx (flatC_length hk l) (SlAt.cells_at hk k0 ha) (flatC_all h1 l) (by rw [Nat.zero_add]; exact h63) (by rw [Nat.zero_add]; exact hbytes) (Nat.le_refl _) ?_
    intro v' w' hown hgrow _
    refine h v' w' (SlV.of_owns hk (base := w.heap.size) (e := e) ?_) (grows_below hgrow)
    simpa using hown
end Go.Proofs.Ytdiogfhbgmkajaa.Kit
namespace Go.Proofs.Ytdiogfhbgmkajaa.SpanM
open Go.RowKit Kit
def addL (l : List SpM) (s : SpM) : List SpM := atts [] (withS l s)
def cutL (l : List SpM) (s : SpM) : List SpM := atts [] (woS l s)
def cnt (m : List SpM) : Nat := (m.filter fun s => decide (¬ Emp s)).length
theorem atts_cnt (l : List SpM) : ∀ m : List SpM, (atts l m).length ≤ l.length + cnt m := by
  intro m
  induction m generalizing l with
  | nil => simp [atts, cnt]
  | cons s m ih =>
    have h1 := ih (att l s)
    by_cases he : Emp s
    · have e1 : cnt (s :: m) = cnt m := by unfold cnt; rw [List.filter_cons_of_neg (by simpa using he)]
      have e2 : atts l (s :: m) = atts l m := by show atts (att l s) m = _; rw [att_emp he]
      rw [e1, e2]; exact ih l
    · have e1 : cnt (s :: m) = cnt m + 1 := by unfold cnt; rw [List.filter_cons_of_pos (by simpa using he)]; simp
      have e2 : atts l (s :: m) = atts (att l s) m := rfl
      have h2 := att_len l s
      rw [e1, e2]; omega
theorem cnt_app (a b : List SpM) : cnt (a ++ b) = cnt a + cnt b := by unfold cnt; rw [List.filter_append, List.length_append]
theorem cnt_one (s : SpM) : cnt [s] ≤ 1 := by unfold cnt; exact Nat.le_trans (List.length_filter_le _ _) (by simp)
theorem cnt_emp {s : SpM} (h : Emp s) : cnt [s] = 0 := by unfold cnt; rw [List.filter_cons_of_neg (by simpa using h)]; rfl
theorem wo_cons (o : SpM) (l : List SpM) (s : SpM) : woS (o :: l) s = [befS o s.lo] ++ [froS o s.hi] ++ woS l s := rfl
theorem cnt_behind : ∀ {l : List SpM} {s : SpM}, (∀ o ∈ l, s.lo ≤ o.lo) → cnt (woS l s) ≤ l.length
  | [], _, _ => by simp [woS, cnt]
  | o :: l, s, h => by
    have ih := cnt_behind (l := l) (s := s) fun x hx => h x (by simp [hx])
    have h0 := h o (by simp)
    rw [wo_cons, cnt_app, cnt_app, cnt_emp (s := befS o s.lo) (by unfold Emp befS; dsimp only; omega)]
    have := cnt_one (froS o s.hi)
    simp only [List.length_cons]; omega
theorem cnt_wo : ∀ {l : List SpM} {s : SpM}, Norm l → s.lo ≤ s.hi → cnt (woS l s) ≤ l.length + 1
  | [], _, _, _ => by simp [woS, cnt]
  | o :: l, s, h, hs => by
    have ih := cnt_wo (l := l) (s := s) h.tail hs
    rw [wo_cons, cnt_app, cnt_app]
    have h1 := cnt_one (befS o s.lo)
    have h2 := cnt_one (froS o s.hi)
    simp only [List.length_cons]
    by_cases q : o.lo < s.lo ∧ s.hi < o.hi
    · have hb := cnt_behind (l := l) (s := s) fun x hx => by have := (List.pairwise_cons.1 h.gap).1 x hx; omega
      omega
    · by_cases q1 : o.lo < s.lo
      · rw [cnt_emp (s := froS o s.hi) (by unfold Emp froS; dsimp only; omega)]; omega
      · rw [cnt_emp (s := befS o s.lo) (by unfold Emp befS; dsimp only; omega)]; omega
theorem add_len (l : List SpM) (s : SpM) : (addL l s).length ≤ l.length + 1 := by
  have h1 := atts_len [] (withS l s)
  have h2 : (withS l s).length ≤ l.length + 1 := by
    unfold withS
    simp only [List.length_append, List.length_cons, List.length_nil]
    have : (l.filter fun o => decide (o.lo ≤ s.lo)).length + (l.filter fun o => decide (s.lo < o.lo)).length ≤ l.length := by
      clear h1
      induction l with
      | nil => simp
      | cons o l ih =>
        by_cases q : o.lo ≤ s.lo
        · rw [List.filter_cons_of_pos (by simpa using q), List.filter_cons_of_neg (by simp; omega)]
          simp only [List.length_cons]; omega
        · rw [List.filter_cons_of_neg (by simpa using q), List.filter_cons_of_pos (by simp; omega)]
          simp only [List.length_cons]; omega
    omega
  unfold addL
  simp only [List.length_nil] at h1; omega
theorem cut_len {l : List SpM} {s : SpM} (h : Norm l) (hs : s.lo ≤ s.hi) : (cutL l s).length ≤ l.length + 1 := by
  have h1 := atts_cnt [] (woS l s)
  have h2 := cnt_wo h hs
  unfold cutL
  simp only [List.length_nil] at h1; omega
/-- bounds out of places -/
theorem norm_valid {n : Int} {l : List SpM} (h : Norm l) (n0 : 0 ≤ n) (n1 : n ≤ 600) (hl : l.length ≤ 40) (hin : ∀ i, In l i → 0 ≤ i ∧ i < n) : Valid n l := by
  refine ⟨n0, n1, hl, fun s hs => ?_, h.gap⟩
  have hs' := h.some_ s hs
  have h1 := hin s.lo ⟨s, hs, by omega, hs'⟩
  have h2 := hin (s.hi - 1) ⟨s, hs, by omega, by omega⟩
  omega
theorem Valid.in_ {n : Int} {l : List SpM} (h : Valid n l) {i : Int} (hi : In l i) : 0 ≤ i ∧ i < n := by
  obtain ⟨s, hs, h1, h2⟩ := hi
  have := h.rng s hs
  omega
theorem add_valid {n : Int} {l : List SpM} {s : SpM} (h : Valid n l) (hw : SpanC.WithinP n s) (hl : l.length < 40) : Valid n (addL l s) := by
  obtain ⟨w1, w2⟩ := with_norm (s := s) h.norm
  have := add_len l s
  obtain ⟨s0, s1, s2⟩ := hw
  refine norm_valid w1 h.n0 h.n1 (by omega) fun i hi => ?_
  rcases (w2 i).1 hi with q | q
  · exact h.in_ q
  · omega
theorem cut_valid {n : Int} {l : List SpM} {s : SpM} (h : Valid n l) (hw : SpanC.WithinP n s) (hl : l.length < 40) : Valid n (cutL l s) := by
  obtain ⟨s0, s1, s2⟩ := hw
  obtain ⟨w1, w2⟩ := wo_norm (s := s) h.norm s1
  have := cut_len h.norm s1
  refine norm_valid w1 h.n0 h.n1 (by omega) fun i hi => ?_
  exact h.in_ ((w2 i).1 hi).1
end Go.Proofs.Ytdiogfhbgmkajaa.SpanM
namespace Go.Proofs.Ytdiogfhbgmkajaa.SpanK
open Go.RowKit Kit SpanM SpanC
/-- a set that was made without an error -/
def MadePost (es : List SpM) (w : World) (e : Ending) (w' : World) : Prop := ∃ v, e = .returned (.tuple #[v, .int .i64 0]) ∧ SpK w es v w'
theorem addV {n : Int} {l : List SpM} {s : SpM} (h : Valid n l) (hw : WithinP n s) (hl : l.length < 40) (v : Value) (w : World) (hv : SpsV w v l) :
    Calls Try.prog 17 #[.int .i64 n, v, .agg #[.int .i64 s.lo, .int .i64 s.hi]] w (MadePost (addL l s) w) := by
  obtain ⟨a, cap, rfl, _, ha, _⟩ := hv
  have := add n l a cap s w ha (by omega)
  have hlen := add_len l s
  have e : setC n l s (atts [] (withS l s)).length = 0 := by
    unfold setC
    rw [if_pos (chkC_ok h hw), if_neg (show ¬ 40 < (atts [] (withS l s)).length by unfold addL at hlen; omega)]
  rw [e] at this
  exact this
theorem cutV {n : Int} {l : List SpM} {s : SpM} (h : Valid n l) (hw : WithinP n s) (hl : l.length < 40) (v : Value) (w : World) (hv : SpsV w v l) :
    Calls Try.prog 20 #[.int .i64 n, v, .agg #[.int .i64 s.lo, .int .i64 s.hi]] w (MadePost (cutL l s) w) := by
  obtain ⟨a, cap, rfl, _, ha, _⟩ := hv
  have := cut n l a cap s w ha (by omega)
  have hlen := cut_len h.norm hw.2.1
  have e : setC n l s (atts [] (woS l s)).length = 0 := by
    unfold setC
    rw [if_pos (chkC_ok h hw), if_neg (show ¬ 40 < (atts [] (woS l s)).length by unfold cutL at hlen; omega)]
  rw [e] at this
  exact this
end Go.Proofs.Ytdiogfhbgmkajaa.SpanK
