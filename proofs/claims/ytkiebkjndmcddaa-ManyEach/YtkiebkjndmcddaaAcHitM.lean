/-
  What the machine's states tell of the occurrences that end at a place: plain lists. No program is named.
-/
import Derived.Test.YtkiebkjndmcddaaAcMath
namespace Go.Proofs.Ytkiebkjndmcddaa.FindM

section
variable {ps fs : List (List UInt8)} {t : List UInt8} {e s s' : Nat}
/-- none is longer than the state's own string -/
theorem row_start (hfs : ∀ j, j < fs.length → fs.getD j [] ∈ ps) (h : Long ps (Suf (t.take e)) s) : rowL t fs e (20 - (sq ps s).length) = [] := by
  rw [List.eq_nil_iff_forall_not_mem]
  intro p hp
  obtain ⟨h1, h2, h3, h4⟩ := (mem_rowL (by omega)).1 hp
  have h5 := suf_stands h1.2 (by unfold fl at h2; exact h2)
  have h6 := h.max _ (hfs p.2 h1.1) h5
  unfold fl at h3 h4
  omega
theorem row_between (hfs : ∀ j, j < fs.length → fs.getD j [] ∈ ps) (hs : sq ps s <:+ t.take e) (hl : Long ps (PSuf (sq ps s)) s') {p : Nat × Nat} (hp : IsHit t fs p) (he : p.1 + fl fs p.2 = e) : ¬ ((sq ps s').length < fl fs p.2 ∧ fl fs p.2 < (sq ps s).length) := by
  rintro ⟨h1, h2⟩
  have h5 := suf_stands hp.2 (by unfold fl at he; exact he)
  have h6 := List.suffix_of_suffix_length_le h5 hs (by unfold fl at h2; omega)
  have h7 := hl.max _ (hfs p.2 hp.1) ⟨h6, by unfold fl at h2; exact h2⟩
  unfold fl at h1
  omega
theorem row_none (hfs : ∀ j, j < fs.length → fs.getD j [] ∈ ps) (h20 : (sq ps s).length ≤ 20) (hs : sq ps s <:+ t.take e) (hl : Long ps (PSuf (sq ps s)) s') (hn : ∀ j, j < fs.length → fs.getD j [] ≠ sq ps s) : rowL t fs e (20 - (sq ps s').length) = rowL t fs e (20 - (sq ps s).length) := by
  have hlt := hl.is.2
  have e1 : 20 - (sq ps s').length = (20 - (sq ps s).length) + ((sq ps s).length - (sq ps s').length) := by omega
  rw [e1]
  refine rowL_same _ (by omega) (fun p hp he => ?_)
  rintro ⟨h1, h2⟩
  by_cases hL : fl fs p.2 = (sq ps s).length
  · have h5 := suf_stands hp.2 (by unfold fl at he; exact he)
    have h6 := List.suffix_of_suffix_length_le h5 hs (by unfold fl at hL; omega)
    exact hn p.2 hp.1 (h6.eq_of_length (by unfold fl at hL; exact hL))
  · exact row_between hfs hs hl hp he ⟨by omega, by omega⟩
theorem row_some (hfs : ∀ j, j < fs.length → fs.getD j [] ∈ ps) (hd : fs.Nodup) (h20 : (sq ps s).length ≤ 20) (he : e ≤ t.length) (hs : sq ps s <:+ t.take e) (hl : Long ps (PSuf (sq ps s)) s') {j : Nat} (hj : j < fs.length) (hjs : fs.getD j [] = sq ps s) : rowL t fs e (20 - (sq ps s').length) = rowL t fs e (20 - (sq ps s).length) ++ [(e - (sq ps s).length, j)] := by
  have hlt := hl.is.2
  have e1 : 20 - (sq ps s').length = (20 - (sq ps s).length + 1) + ((sq ps s).length - 1 - (sq ps s').length) := by omega
  obtain ⟨h1, h2⟩ := stands_suf he hs
  have e2 : rowL t fs e (20 - (sq ps s).length + 1) = rowL t fs e (20 - (sq ps s).length) ++ [(e - (sq ps s).length, j)] := by
    rw [rowL_succ, show 20 - (20 - (sq ps s).length) = (sq ps s).length by omega, rowI_hit hd hj (by unfold fl; rw [hjs]) h1 (by rw [hjs]; exact h2)]
  rw [e1, ← e2]
  refine rowL_same _ (by omega) (fun p hp he => ?_)
  rintro ⟨h3, h4⟩
  exact row_between hfs hs hl hp he ⟨by omega, by omega⟩
end
end Go.Proofs.Ytkiebkjndmcddaa.FindM
