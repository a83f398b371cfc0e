/-
  append(own.., l...) of lines of the call's own. No function is named.
-/
import Derived.Test.YtcknmaimkodaeaaStrAt
import Derived.Test.YtcknmaimkodaeaaRefPatch
import Derived.Laws.AppendOwn
import Derived.Laws.AppendOwnNone
namespace Go.Proofs.Ytcknmaimkodaeaa.DiffK
open Go.RowKit Kit LineM StrM DiffR

theorem wpList_appendSK (w0 W : World) {ops : Array Oper} {rest : List Oper} {o : Oper} {a : Act} {Q : Exit → Act → World → Prop} (hgd : o.guard = none)
    (s x : Operand) (ho : o.op = .call { callee := .builtin .append, args := #[s, x], argTypes := #[22, 22] })
    (v : Value) (L : List ByteArray) (hs : a.eval s = v) (hv : SK w0 L v W) (vx : Value) (l : List ByteArray) (hx : a.eval x = vx) (hl : SlV 1 sc W vx l) (hlen : L.length + l.length ≤ 1000000)
    (h : ∀ v' W', SK w0 (L ++ l) v' W' → wpList Try.prog ops Q rest (a.put o.dst v') W') : wpList Try.prog ops Q (o :: rest) a W := by
  obtain ⟨i0, hi, hz0, hz1, hz2⟩ := info_parts infoStr
  obtain ⟨al, cap, rfl, hle, ha, hd⟩ := hl
  rcases hd with ⟨rfl, rfl, rfl⟩ | ⟨g, off, rfl, _⟩
  · refine wpList_append_own_none hgd s x 22 ho w0.heap.size 9 i0 1 Try.underlying22 hi v L.length (flatC sc L) hs hv.row hx (h _ _ ?_)
    rw [List.append_nil]; exact hv
  · refine wpList_append_own W hgd s x 22 ho w0.heap.size 9 i0 (.string ⟨#[]⟩) 1 16 Try.underlying22 hi hz0 hz1 hz2 rfl (by omega) v L.length (flatC sc L) hs hv.row ⟨g, off, none⟩ l.length cap (flatC sc l) hx (flatC_length sc_len l) (SlAt.cells_at sc_len (by omega) ha) (flatC_all (by intro s u hu; simp [sc] at hu; subst hu; rfl) l) (by unfold maxLen; omega) (by omega) hv.bel.size ?_
    intro v' w' hown hgrow _
    exact h v' w' ⟨by rw [List.length_append, flatC_append]; exact hown, bgrow hv.bel hv.row hgrow⟩
theorem lit_one (w : World) (s : ByteArray) : SlV 1 sc (w.alloc (.cells #[.string s] 9)) (.slice (some ⟨w.heap.size, 0, none⟩) 1 1) [s] := by
  refine ⟨_, _, rfl, by simp, ⟨fun i x hi => ⟨w.heap.size, 0, rfl, by simp, fun j hj => ?_⟩⟩, .inr ⟨w.heap.size, 0, rfl, by simp⟩⟩
  obtain rfl : j = 0 := by omega
  match i, hi with
  | 0, hi => simp at hi; subst hi; simp [sc]
end Go.Proofs.Ytcknmaimkodaeaa.DiffK
