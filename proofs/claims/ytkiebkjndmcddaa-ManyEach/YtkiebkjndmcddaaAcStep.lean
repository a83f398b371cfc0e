/-
  Package find: newState, step.
-/
import Derived.Test.YtkiebkjndmcddaaAcAt
import Derived.Test.YtkiebkjndmcddaaChecked
import Derived.Lib.Slices
import Derived.Lib.Walk
namespace Go.Proofs.Ytkiebkjndmcddaa.AcM
open Go.RowKit Go.Maps Kit FindM LineM HistM

/-- a new state: its map is new, too -/
structure NewPost (sf : Nat) (w : World) (e : Ending) (w' : World) : Prop where
  is : ∃ mb, e = .returned (.agg #[.map (some mb), .int .i64 (sf : Int), .int .i64 (-1)]) ∧ w.heap.size ≤ mb ∧ OM w' mb 0 (.map []) ∧ Below w.heap.size w w'
set_option maxHeartbeats 1000000 in
theorem newState (sf : Nat) (w : World) : Calls Try.prog 41 #[.int .i64 (sf : Int)] w (NewPost sf w) := by
  have hmm := @run_makeMap Try.prog
  go_enter Try.func41, Try.ntmps41
  go_wp2_with fail
  refine bodyPost_ret (v := .agg #[.map (some (w.heap.size + 1)), .int .i64 (sf : Int), .int .i64 (-1)]) (by simp [results, Try.results41, go_sem, *]) rfl ⟨_, rfl, by omega, ?_, ?_⟩
  · have := World.ownsMap_made (H := Unit) (w.alloc (.cells #[.map (some (w.heap.size + 1)), .int .i64 (sf : Int), .int .i64 (-1)] 72)) Try.prog 5 (plainElem Try.prog 3)
    simpa using this
  · exact balloc (balloc (Below.refl _ _) _) _
theorem zeroInt (w : World) : (zeroValue 3).run Try.prog w = .ok (.int .i64 0) w := rfl
/-- what step answers -/
def StepPost (ps : List (List UInt8)) (q : List UInt8) (w : World) (e : Ending) (w' : World) : Prop := ∃ n : Nat, e = .returned (.int .i64 (n : Int)) ∧ Long ps (Suf q) n ∧ w = w'
set_option maxRecDepth 100000 in
set_option maxHeartbeats 4000000 in
theorem step {B : Nat} {v : Value} {ps : List (List UInt8)} {ss : List St} {w : World} (h : MacAt B w v ps ss) {q : List UInt8} {a : Nat} (hl : Long ps (Suf q) a) (c : UInt8) :
    Calls Try.prog 38 #[v, .int .i64 (a : Int), .int .u8 (c.toNat : Int)] w (StepPost ps (q ++ [c]) w) := by
  obtain ⟨g, off, cap, rfl, hg, hcells⟩ := h.form
  have HC := Lib.hid hcells
  have HM := Lib.hid h
  have HL := Lib.hid (hl.cnd c)
  have hlen : Hid (ss.length = ps.length) := Lib.hid h.len
  obtain ⟨n, hn⟩ : ∃ n, ss.length = n := ⟨_, rfl⟩
  have HN : Hid (n = ps.length) := Lib.hid (hn.symm.trans h.len)
  rw [hn]
  clear hn hl hcells h hlen
  go_enter Try.func38, Try.ntmps38
  go_wp2_with fail
  go_loopw [1] (fun vs wr => ∃ s : Nat, vs = .int .i64 (s : Int) ∧ s < n ∧ Hid (Cnd ps q c s) ∧ wr = w) (fun vs _ => (sq ps (intOf vs).toNat).length)
  case atStart => exact ⟨a, rfl, by rw [HN.out]; exact HL.out.lt, HL, rfl⟩
  case round =>
    obtain ⟨s, rfl, hs, HS, rfl⟩ := hrel
    clear HL
    obtain ⟨st, hst⟩ := HM.out.get (s := s) (by rw [← HN.out]; exact hs)
    obtain ⟨c0, c1, c2⟩ := HC.out s st hst
    obtain ⟨m, D, hom, hmn, hD⟩ := HM.out.maps s st hst
    have HOM := Lib.hid hom
    have HD := Lib.hid hD
    have HSUF := Lib.hid (HM.out.suf s st hst)
    have T := HM.out.trie
    have HT := Lib.hid T
    have u0 : (0 : Int) ≤ (s : Int) := by omega
    have u1 : (s : Int) < (n : Int) := by omega
    by_cases hin : sq ps s ++ [c] ∈ ps
    · obtain ⟨x, hx, hxe⟩ := mem_sq hin
      obtain ⟨y1, y2⟩ := hD.yes c x hx hxe
      have Y1 := Lib.hid y1
      have Y2 := Lib.hid y2
      have R : Hid (StepPost ps (q ++ [c]) wr (.returned (.int .i64 (x : Int))) wr) := Lib.hid ⟨x, rfl, HS.out.hit T hx hxe, rfl⟩
      clear HC HM HS HD HSUF T HT hst hom hD hin hxe y1 y2
      go_wp2_with (at_lookup; refine wpList_lookup_own_ok_int _ rfl _ _ 70 rfl 5 3 .i64 keyLaw Try.underlying70 Try.underlying3 (zeroInt _) st.mb m D rfl HOM.out _ _ rfl (ky_of c) ?_; intro z hz _; have ez : z = (x : Int) := (by have := Y2.out; unfold pl0 at this; rw [Int.natCast_zero] at this; rw [this] at hz; simpa using hz.symm); rw [Y1.out, ez]; clear hz ez)
      go_ret
      exact R.out
    · have Y1 := Lib.hid (hD.no c hin)
      by_cases hs0 : s = 0
      · subst hs0
        have c3 : wr.cell? ⟨g, off, none⟩ = some (.map (some st.mb)) := by have := c0; rwa [Nat.zero_mul, Nat.add_zero] at this
        have R : Hid (StepPost ps (q ++ [c]) wr (.returned (.int .i64 ((0 : Nat) : Int))) wr) := Lib.hid ⟨0, rfl, HS.out.miss T hin, rfl⟩
        clear HC HM HS HD HSUF T HT hst hom hD hin
        go_wp2_with (at_lookup; refine wpList_lookup_own_ok_int _ rfl _ _ 70 rfl 5 3 .i64 keyLaw Try.underlying70 Try.underlying3 (zeroInt _) st.mb m D rfl HOM.out _ _ rfl (ky_of c) ?_; intro z _ _; rw [Y1.out])
        go_ret
        exact R.out
      · have hsuf := HSUF.out (by omega)
        have hslt := hsuf.lt
        have hsn : st.sf < n := by rw [HN.out]; exact hslt
        have HNX := Lib.hid (HS.out.back hin hsuf)
        have hlt2 : (sq ps st.sf).length < (sq ps s).length := hsuf.is.2
        have q1 : decide ((s : Int) = 0) = false := decide_eq_false (by omega)
        have q2 : ¬ (s : Int) = 0 := by omega
        clear HC HM HS HD HSUF T HT hst hom hD hin hsuf hslt
        go_wp2_with (at_lookup; refine wpList_lookup_own_ok_int _ rfl _ _ 70 rfl 5 3 .i64 keyLaw Try.underlying70 Try.underlying3 (zeroInt _) st.mb m D rfl HOM.out _ _ rfl (ky_of c) ?_; intro z _ _; rw [Y1.out])
        go_roundw
        case rel => exact ⟨st.sf, rfl, hsn, HNX, trivial⟩
        case measure => simp [intOf]; omega
end Go.Proofs.Ytkiebkjndmcddaa.AcM
