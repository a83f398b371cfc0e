/-
  Hunks in memory, read; package merge: conflict, replace.
-/
import Derived.Test.YtokfnajgjhkepaaRefMerged
import Derived.Test.YtokfnajgjhkepaaBnd1
namespace Go.Proofs.Ytokfnajgjhkepaa.MergeT
open Go.RowKit Kit LineM StrM DiffM DiffA DiffR DiffP DiffK

/-- a hunk, and where its lines are -/
abbrev HV := Hk ByteArray × Value
def hkc (h : HV) : List Value := [.int .i64 (h.1.b : Int), .int .i64 (h.1.e : Int), h.2]
theorem hkc_len (h : HV) : (hkc h).length = 3 := rfl
theorem SlV.get {α : Type} {k : Nat} {cells : α → List Value} {w : World} {v : Value} {l : List α} (h : SlV k cells w v l) {i : Nat} {o : α} (hi : l[i]? = some o) : ∃ g off cap, v = .slice (some ⟨g, off, none⟩) l.length cap ∧ l.length ≤ cap ∧ g < w.heap.size ∧ ∀ j, j < k → w.cell? ⟨g, off + i * k + j, none⟩ = (cells o)[j]? := by
  obtain ⟨a, cap, rfl, hle, ha, _⟩ := h
  obtain ⟨g, off, rfl, hg, hc⟩ := ha.cell i o hi
  exact ⟨g, off, cap, rfl, hle, hg, hc⟩
/-- a literal of one line, as a row of the call's own -/
theorem sk_one (w : World) (s : ByteArray) : SK w [s] (.slice (some ⟨w.heap.size, 0, none⟩) 1 1) (w.alloc (.cells #[.string s] 9)) :=
  ⟨by
    have h : (w.alloc (.cells #[.string s] 9)).ownsRow w.heap.size 9 1 (.slice (some ⟨w.heap.size, 0, none⟩) 1 1) 1 [.string s] := World.ownsRow_lit w #[.string s] 1 (by omega) (by unfold maxLen; decide) rfl
    exact h, balloc (Below.refl _ _) _⟩
set_option maxRecDepth 100000 in
set_option maxHeartbeats 400000 in
theorem conflictF (v0 v1 : Value) (l0 l1 : List ByteArray) (w : World) (h0 : SlV 1 sc w v0 l0) (h1 : SlV 1 sc w v1 l1) (n0 : l0.length ≤ 1000) (n1 : l1.length ≤ 1000) :
    Calls Try.prog 37 #[.agg #[v0, v1]] w (OwPost ([mk1] ++ l0 ++ [mk2] ++ l1 ++ [mk3]) w) := by
  obtain ⟨a0, c0, e0, _⟩ := id h0
  obtain ⟨a1, c1, e1, _⟩ := id h1
  subst e0 e1
  have A0 := Lib.hid (fun W (hW : Below w.heap.size w W) => SlV.next h0 hW)
  have A1 := Lib.hid (fun W (hW : Below w.heap.size w W) => SlV.next h1 hW)
  have N0 := Lib.hid n0
  have N1 := Lib.hid n1
  clear h0 h1 n0 n1
  generalize hz0 : l0.length = z0 at *
  generalize hz1 : l1.length = z1 at *
  replace N0 := Lib.hid (And.intro hz0 N0.out)
  replace N1 := Lib.hid (And.intro hz1 N1.out)
  clear hz0 hz1
  have hb := balloc (Below.refl w.heap.size w) (.cells #[.slice a0 z0 c0, .slice a1 z1 c1] 48)
  have hc0 : (w.alloc (.cells #[.slice a0 z0 c0, .slice a1 z1 c1] 48)).cell? ⟨w.heap.size, 0, none⟩ = some (.slice a0 z0 c0) := by rw [cells_new]; rfl
  have hc1 : (w.alloc (.cells #[.slice a0 z0 c0, .slice a1 z1 c1] 48)).cell? ⟨w.heap.size, 1, none⟩ = some (.slice a1 z1 c1) := by rw [cells_new]; rfl
  have hsz : w.heap.size < (w.alloc (.cells #[.slice a0 z0 c0, .slice a1 z1 c1] 48)).heap.size := by simp
  have S1 := (sk_one (w.alloc (.cells #[.slice a0 z0 c0, .slice a1 z1 c1] 48)) mk1)
  have hz : (w.alloc (.cells #[.slice a0 z0 c0, .slice a1 z1 c1] 48)).heap.size = w.heap.size + 1 := by simp
  have k0 := keep S1.bel hsz hc0
  rw [hz] at S1
  have S1' := Lib.hid S1
  have KK := Lib.hid (fun W (hW : Below (w.alloc (.cells #[.slice a0 z0 c0, .slice a1 z1 c1] 48)).heap.size (w.alloc (.cells #[.slice a0 z0 c0, .slice a1 z1 c1] 48)) W) => And.intro (keep hW hsz hc1) (And.intro (bstep hb hW) (Nat.lt_of_lt_of_le hsz hW.size)))
  clear hc0 hc1 S1 hb hsz hz
  go_enter Try.func37, Try.ntmps37
  go_wp2_with (first
    | (at_builtin; refine wpList_appendSK (w.alloc (.cells #[.slice a0 z0 c0, .slice a1 z1 c1] 48)) _ rfl _ _ rfl _ [mk1] rfl S1'.out _ l0 rfl (A0.out _ (KK.out _ S1'.out.bel).2.1) (by have := N0.out.1; have := N0.out.2; simp; omega) ?_; intro v3 w3 hv3; have k3 := KK.out _ (hv3.next (balloc (Below.refl _ _) (.cells #[.string mk2] 9))).bel; have S3 := Lib.hid (hv3.next (balloc (Below.refl _ _) (.cells #[.string mk2] 9))); clear hv3 S1')
    | (at_builtin; refine wpList_appendSK (w.alloc (.cells #[.slice a0 z0 c0, .slice a1 z1 c1] 48)) _ rfl _ _ rfl _ ([mk1] ++ l0) rfl S3.out _ [mk2] rfl (lit_one w3 mk2) (by have := N0.out.1; have := N0.out.2; simp; omega) ?_; intro v4 w4 hv4; have k4 := (KK.out _ hv4.bel).1; have k4l := (KK.out _ hv4.bel).2.2; have S4 := Lib.hid hv4; clear hv4 S3)
    | (at_builtin; refine wpList_appendSK (w.alloc (.cells #[.slice a0 z0 c0, .slice a1 z1 c1] 48)) _ rfl _ _ rfl _ ([mk1] ++ l0 ++ [mk2]) rfl S4.out _ l1 rfl (A1.out _ (KK.out _ S4.out.bel).2.1) (by have := N0.out.1; have := N0.out.2; have := N1.out.1; have := N1.out.2; simp; omega) ?_; intro v5 w5 hv5; have S5 := Lib.hid (hv5.next (balloc (Below.refl _ _) (.cells #[.string mk3] 9))); clear hv5 S4)
    | (at_builtin; refine wpList_appendSK (w.alloc (.cells #[.slice a0 z0 c0, .slice a1 z1 c1] 48)) _ rfl _ _ rfl _ ([mk1] ++ l0 ++ [mk2] ++ l1) rfl S5.out _ [mk3] rfl (lit_one w5 mk3) (by have := N0.out.1; have := N0.out.2; have := N1.out.1; have := N1.out.2; simp; omega) ?_; intro v6 w6 hv6; have S6 := Lib.hid hv6; clear hv6 S5))
  go_ret
  trace_state
  exact ⟨_, rfl, S6.out.rebase (balloc (Below.refl _ _) _)⟩
end Go.Proofs.Ytokfnajgjhkepaa.MergeT
