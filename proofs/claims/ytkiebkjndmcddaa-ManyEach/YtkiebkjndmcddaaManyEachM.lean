/-
  Of many strings each: counts on plain lists; calls of Many at strings within the bounds.
-/
import Derived.Test.YtkiebkjndmcddaaFindManyW
import Derived.Test.YtkiebkjndmcddaaFindJustW
namespace Go.Proofs.Ytkiebkjndmcddaa.FindK
open Go.RowKit Kit LineM FindM FindR FindP EditM FewT Lift Txt StrM HitM

/-- the strings of the law -/
structure FsP (L : List ByteArray) : Prop where
  len : L.length ≤ 8
  sz : ∀ f ∈ L, 0 < f.size ∧ f.size ≤ 7
  nd : L.Nodup
theorem FsP.nil : FsP [] := ⟨by simp, by simp, by simp⟩
theorem FsP.snoc {L : List ByteArray} (h : FsP L) {f : ByteArray} (hl : L.length < 8) (h0 : 0 < f.size) (h7 : f.size ≤ 7) (hn : f ∉ L) : FsP (L ++ [f]) := by
  refine ⟨by simp; omega, fun x hx => ?_, ?_⟩
  · rcases List.mem_append.1 hx with hx | hx
    · exact h.sz x hx
    · rw [List.mem_singleton] at hx; rw [hx]; exact ⟨h0, h7⟩
  · rw [List.nodup_append]
    refine ⟨h.nd, by simp, fun a ha b hb e => ?_⟩
    rw [List.mem_singleton] at hb
    rw [hb] at e; rw [e] at ha; exact hn ha
theorem mfTo_zero {T : Nat} {fs : List ByteArray} (hT : T ≤ 600) (h : FsP fs) : ∀ n, n ≤ fs.length → mfTo T fs ffault n = 0
  | 0, _ => rfl
  | n + 1, hn => by
    have hs : fs[n]? = some fs[n] := List.getElem?_eq_getElem (by omega)
    obtain ⟨h1, h2⟩ := h.sz fs[n] (List.getElem_mem _)
    refine mfTo_ok (mfTo_zero hT h n (by omega)) hs (by unfold ffault; rw [if_neg (by omega), if_neg (by omega)]) (fun hm => ?_)
    obtain ⟨k, hk⟩ := List.mem_iff_getElem?.1 hm
    have hkl := (List.getElem?_eq_some_iff.1 hk).1
    rw [List.length_take] at hkl
    rw [List.getElem?_take_of_lt (by omega), List.getElem?_eq_getElem (by omega)] at hk
    have := (List.getElem_inj h.nd).1 (Option.some.inj hk)
    omega
theorem many_ok (t : ByteArray) (al : Option Addr) (cap : Nat) (fs : List ByteArray) (W : World) (h : StAt W al fs) (hle : fs.length ≤ cap) (ht : t.size ≤ 600) (hF : FsP fs) :
    Calls Try.prog 19 #[.string t, .slice al fs.length cap] W (HsPost W (many t.data.toList (plain fs)) 0) := by
  have hc : mfault t.size fs ffault = 0 := by
    have hl := hF.len
    unfold mfault
    rw [if_neg (by omega)]
    exact mfTo_zero ht hF _ (Nat.le_refl _)
  exact (AcM.many_ t al cap fs W h hle).mono fun e w' hf => hf.ok hc
theorem FsP.ok {fs : List ByteArray} (h : FsP fs) : FsOk (plain fs) := fun i hi => by
  rw [plain_len] at hi
  have hs : fs[i]? = some fs[i] := List.getElem?_eq_getElem hi
  have := h.sz fs[i] (List.getElem_mem _)
  unfold fl
  rw [plain_get hs, size_list]
  omega
/-- how many of the first j are the i-th string's -/
def cntI (R : List (Nat × Nat)) (i j : Nat) : Nat := ((R.take j).filter (fun p => p.2 == i)).length
theorem cntI_le (R : List (Nat × Nat)) (i j : Nat) : cntI R i j ≤ j := by
  unfold cntI
  have h1 := List.length_filter_le (fun p : Nat × Nat => p.2 == i) (R.take j)
  have h2 := List.length_take_le j R
  omega
theorem cntI_no {R : List (Nat × Nat)} {i j : Nat} {p : Nat × Nat} (h : R[j]? = some p) (hp : p.2 ≠ i) : cntI R i (j + 1) = cntI R i j := by
  unfold cntI
  rw [List.take_add_one, h]
  simp [hp]
theorem cntI_yes {R : List (Nat × Nat)} {i j : Nat} {p : Nat × Nat} (h : R[j]? = some p) (hp : p.2 = i) : cntI R i (j + 1) = cntI R i j + 1 ∧ ((R.filter (fun p => p.2 == i)).map (·.1))[cntI R i j]? = some p.1 := by
  have hj := (List.getElem?_eq_some_iff.1 h).1
  constructor
  · unfold cntI
    rw [List.take_add_one, h]
    simp [hp]
  · have e : R = R.take j ++ p :: R.drop (j + 1) := by
      rw [List.getElem?_eq_getElem hj] at h
      cases h
      conv => lhs; rw [← List.take_append_drop j R]
      rw [List.drop_eq_getElem_cons hj]
    have e2 : R.filter (fun p => p.2 == i) = (R.take j).filter (fun p => p.2 == i) ++ p :: (R.drop (j + 1)).filter (fun p => p.2 == i) := by
      conv => lhs; rw [e]
      rw [List.filter_append, List.filter_cons, if_pos (by simp [hp])]
    rw [e2, List.map_append, List.getElem?_append_right (by rw [List.length_map]; exact Nat.le_refl _), List.length_map]
    unfold cntI
    rw [Nat.sub_self]
    rfl
theorem cntI_all (R : List (Nat × Nat)) (i : Nat) : cntI R i R.length = (R.filter (fun p => p.2 == i)).length := by unfold cntI; rw [List.take_length]
/-- the sum of the counts -/
def sumI (R : List (Nat × Nat)) (n : Nat) : Nat := ((List.range n).map fun i => (R.filter (fun p => p.2 == i)).length).sum
theorem sumI_succ (R : List (Nat × Nat)) (n : Nat) : sumI R (n + 1) = sumI R n + (R.filter (fun p => p.2 == n)).length := by
  unfold sumI; rw [List.range_succ, List.map_append, List.sum_append]; simp
/-- what the law asks, of the occurrences -/
structure EachP (t : ByteArray) (L : List ByteArray) (R : List (Nat × Nat)) : Prop where
  each : ∀ i f, L[i]? = some f → (R.filter (fun p => p.2 == i)).map (·.1) = hits t.data.toList f.data.toList
  sum : sumI R L.length = R.length
  len : R.length ≤ 300000
  lt : ∀ p ∈ R, p.2 < L.length ∧ p.1 ≤ 600
theorem eachP (t : ByteArray) (L : List ByteArray) (ht : t.size ≤ 600) (h : FsP L) : EachP t L (many t.data.toList (plain L)) := by
  refine ⟨fun i f hf => ?_, ?_, ?_, fun p hp => ?_⟩
  · have := many_each (t := t.data.toList) h.ok (i := i) (by rw [plain_len]; exact (List.getElem?_eq_some_iff.1 hf).1)
    rwa [plain_get hf] at this
  · refine many_sum _ _ (fun p hp => ?_)
    have := ((mem_many h.ok).1 hp).1
    rwa [plain_len] at this
  · have := manyTo_len t.data.toList (plain L) (by rw [plain_len]; have := h.len; omega) t.data.toList.length
    unfold many
    rw [size_list] at this ⊢
    omega
  · obtain ⟨h1, h2⟩ := (mem_many h.ok).1 hp
    have h3 := (stands_iff.1 h2).1
    rw [size_list] at h3
    rw [plain_len] at h1
    exact ⟨h1, by omega⟩
end Go.Proofs.Ytkiebkjndmcddaa.FindK
