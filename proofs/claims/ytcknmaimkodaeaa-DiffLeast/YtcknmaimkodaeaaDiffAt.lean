/-
  Lists of lines in memory: one, and several. No function is named.
-/
import Derived.Test.YtcknmaimkodaeaaStrAt
import Derived.Test.YtcknmaimkodaeaaPatchMath
namespace Go.Proofs.Ytcknmaimkodaeaa.DiffA
open Go.RowKit Kit LineM StrM DiffM

/-- a list of lines within the limits -/
def okL (l : List ByteArray) : Prop := l.length ≤ 80 ∧ ∀ s ∈ l, s.size ≤ 600
/-- a slice of strings: where, what, how much behind it -/
structure Sv where
  a : Option Addr
  l : List ByteArray
  cap : Nat
def svc (s : Sv) : List Value := [.slice s.a s.l.length s.cap]
theorem svc_len (s : Sv) : (svc s).length = 1 := rfl
def Sv.has (W : World) (s : Sv) : Prop := StAt W s.a s.l
theorem sv_get {w : World} {a : Option Addr} {l : List Sv} (h : SlAt 1 svc w a l) {i : Nat} {s : Sv} (hi : l[i]? = some s) : ∃ g off, a = some ⟨g, off, none⟩ ∧ g < w.heap.size ∧ w.cell? ⟨g, off + i, none⟩ = some (.slice s.a s.l.length s.cap) := by
  obtain ⟨g, off, e, hg, hc⟩ := h.cell i s hi
  refine ⟨g, off, e, hg, ?_⟩
  have := hc 0 (by omega)
  simpa [svc] using this
open Classical in
/-- what is refused of lists of lines -/
noncomputable def lf (Ls : List Sv) : Int := if ∀ s ∈ Ls, okL s.l then 0 else 1
theorem lf_bad {Ls : List Sv} {s : Sv} (h : s ∈ Ls) (hb : ¬ okL s.l) : lf Ls = 1 := if_neg (fun hh => hb (hh s h))
theorem lf_ok {Ls : List Sv} (h : ∀ s ∈ Ls, okL s.l) : lf Ls = 0 := if_pos h
/-- two lists, as a call with two arguments hands them over -/
theorem two_at (w : World) (x y : Sv) (t : TypeId) : SlAt 1 svc (w.alloc (.cells #[.slice x.a x.l.length x.cap, .slice y.a y.l.length y.cap] t)) (some ⟨w.heap.size, 0, none⟩) [x, y] := by
  refine ⟨fun i s hi => ⟨w.heap.size, 0, rfl, by simp, fun j hj => ?_⟩⟩
  obtain rfl : j = 0 := by omega
  match i, hi with
  | 0, hi => simp at hi; subst hi; simp [svc]
  | 1, hi => simp at hi; subst hi; simp [svc]
end Go.Proofs.Ytcknmaimkodaeaa.DiffA
