/-
  What edits are as operations of ropes; on plain lists. No program is named.
-/
import Derived.Test.YtkckhjljindgmaaRopeSpec
import Derived.Test.YtkckhjljindgmaaEditMath
namespace Go.Proofs.Ytkckhjljindgmaa.TopM
open Go.RowKit Kit RopeM EditM

theorem code_ok {o : OpM} {ts : Tx} (h1 : 1 ≤ o.kind) (h5 : o.kind ≤ 5) (ha : o.kind ≠ 1 → has o.a ts.length = true) (hb : o.kind = 2 → has o.b ts.length = true) (hr : inR o ts = true) (hl : ts.length < 60) (hn : (newT o ts).length ≤ 600) : code o ts = 0 := by
  unfold code
  rw [if_neg (by omega), if_neg, if_neg, if_neg (by rw [hr]; simp), if_neg (by omega), if_neg (by omega)]
  · rintro ⟨h, h'⟩; rw [hb h] at h'; cases h'
  · rintro ⟨h, h'⟩; rw [ha h] at h'; cases h'
theorem next_ok {o : OpM} {ts : Tx} (h : code o ts = 0) : nextT o ts = ts ++ [newT o ts] := by unfold nextT; rw [if_pos h]
theorem has_iff {x : Int} {n : Nat} : has x n = true ↔ 0 ≤ x ∧ x < (n : Int) := by simp [has]
theorem nth_left {ts us : Tx} {x : Int} (h0 : 0 ≤ x) (h : x < (ts.length : Int)) : nth (ts ++ us) x = nth ts x := by
  unfold nth
  rw [List.getD_eq_getElem?_getD, List.getD_eq_getElem?_getD, List.getElem?_append_left (by omega)]
theorem nth_right {ts us : Tx} (j : Nat) : nth (ts ++ us) ((ts.length : Int) + (j : Int)) = us.getD j [] := by
  unfold nth
  rw [List.getD_eq_getElem?_getD, List.getD_eq_getElem?_getD, List.getElem?_append_right (by omega)]
  congr 2; omega

/-- an edit as five operations -/
def five (e : EdM) (nw N : Int) : List OpM := [⟨3, ⟨#[]⟩, nw, 0, e.at_, 0⟩, ⟨4, ⟨#[]⟩, nw, 0, e.at_ + e.cut, 0⟩, ⟨1, e.put, 0, 0, 0, 0⟩, ⟨2, ⟨#[]⟩, N, N + 2, 0, 0⟩, ⟨2, ⟨#[]⟩, N + 3, N + 1, 0, 0⟩]
theorem five_texts (ts : Tx) (nw : Int) (t : Bs) (e : EdM) (h0 : 0 ≤ nw) (h1 : nw < (ts.length : Int)) (ht : nth ts nw = t) (hl : ts.length + 5 ≤ 60) (hf : e.fits t) :
    ∃ us : Tx, us.length = 4 ∧ texts (five e nw (ts.length : Int)) ts = ts ++ us ++ [e.step t] := by
  have hn := hf.nat
  have hs := hf.len6
  have hsl := hf.len
  obtain ⟨f1, f2, f3, f4, f5⟩ := hf
  obtain ⟨a, c, p⟩ := e
  dsimp only at *
  obtain ⟨a, rfl⟩ := Int.eq_ofNat_of_zero_le f1
  obtain ⟨c, rfl⟩ := Int.eq_ofNat_of_zero_le f2
  simp only [Int.toNat_natCast] at hn hsl
  have hpl : p.data.toList.length = p.size := size_list p
  have hst : (⟨(a : Int), (c : Int), p⟩ : EdM).step t = t.take a ++ p.data.toList ++ t.drop (a + c) := by simp [EdM.step, made]
  have hac : ((a : Int) + (c : Int)).toNat = a + c := by omega
  have n1 : nextT ⟨3, ⟨#[]⟩, nw, 0, (a : Int), 0⟩ ts = ts ++ [t.take a] := by
    rw [next_ok]
    · simp [newT, ht]
    · exact code_ok (by simp) (by simp) (fun _ => has_iff.2 ⟨h0, h1⟩) (by simp) (by simp [inR, ht]; omega) (by omega) (by simp [newT, ht]; omega)
  have n2 : nextT ⟨4, ⟨#[]⟩, nw, 0, (a : Int) + (c : Int), 0⟩ (ts ++ [t.take a]) = ts ++ [t.take a, t.drop (a + c)] := by
    have hq : nth (ts ++ [t.take a]) nw = t := by rw [nth_left h0 h1]; exact ht
    rw [next_ok]
    · simp [newT, hq, hac]
    · exact code_ok (by simp) (by simp) (fun _ => has_iff.2 ⟨h0, by simp; omega⟩) (by simp) (by simp [inR, hq]; omega) (by simp; omega) (by simp [newT, hq]; omega)
  have n3 : nextT ⟨1, p, 0, 0, 0, 0⟩ (ts ++ [t.take a, t.drop (a + c)]) = ts ++ [t.take a, t.drop (a + c), p.data.toList] := by
    rw [next_ok]
    · simp [newT]
    · exact code_ok (by simp) (by simp) (by simp) (by simp) (by simp [inR]) (by simp; omega) (by simp [newT]; omega)
  have n4 : nextT ⟨2, ⟨#[]⟩, (ts.length : Int), (ts.length : Int) + 2, 0, 0⟩ (ts ++ [t.take a, t.drop (a + c), p.data.toList]) = ts ++ [t.take a, t.drop (a + c), p.data.toList, t.take a ++ p.data.toList] := by
    have q1 : nth (ts ++ [t.take a, t.drop (a + c), p.data.toList]) (ts.length : Int) = t.take a := nth_right 0
    have q2 : nth (ts ++ [t.take a, t.drop (a + c), p.data.toList]) ((ts.length : Int) + 2) = p.data.toList := nth_right 2
    rw [next_ok]
    · simp [newT, q1, q2]
    · exact code_ok (by simp) (by simp) (fun _ => has_iff.2 ⟨by simp, by simp; omega⟩) (fun _ => has_iff.2 ⟨by simp; omega, by simp⟩) (by simp [inR]) (by simp; omega) (by simp [newT, q1, q2]; omega)
  have n5 : nextT ⟨2, ⟨#[]⟩, (ts.length : Int) + 3, (ts.length : Int) + 1, 0, 0⟩ (ts ++ [t.take a, t.drop (a + c), p.data.toList, t.take a ++ p.data.toList]) = ts ++ [t.take a, t.drop (a + c), p.data.toList, t.take a ++ p.data.toList] ++ [t.take a ++ p.data.toList ++ t.drop (a + c)] := by
    have q1 : nth (ts ++ [t.take a, t.drop (a + c), p.data.toList, t.take a ++ p.data.toList]) ((ts.length : Int) + 3) = t.take a ++ p.data.toList := nth_right 3
    have q2 : nth (ts ++ [t.take a, t.drop (a + c), p.data.toList, t.take a ++ p.data.toList]) ((ts.length : Int) + 1) = t.drop (a + c) := nth_right 1
    rw [next_ok]
    · simp [newT, q1, q2]
    · refine code_ok (by simp) (by simp) (fun _ => has_iff.2 ⟨by simp; try omega, by simp⟩) (fun _ => has_iff.2 ⟨by simp; try omega, by simp; try omega⟩) (by simp [inR]) (by simp; try omega) ?_
      have : (newT ⟨2, ⟨#[]⟩, (ts.length : Int) + 3, (ts.length : Int) + 1, 0, 0⟩ (ts ++ [t.take a, t.drop (a + c), p.data.toList, t.take a ++ p.data.toList])) = t.take a ++ p.data.toList ++ t.drop (a + c) := by simp [newT, q1, q2]
      rw [this, ← hst]; exact hs
  refine ⟨[t.take a, t.drop (a + c), p.data.toList, t.take a ++ p.data.toList], rfl, ?_⟩
  unfold five
  dsimp only
  unfold texts; rw [n1]
  unfold texts; rw [n2]
  unfold texts; rw [n3]
  unfold texts; rw [n4]
  unfold texts; rw [n5, hst]
  rfl

theorem fits_at {es : List EdM} {t : Bs} {k : Nat} {e : EdM} (hc : apC es t = 0) (he : es[k]? = some e) : e.fits (apT (es.take k) t) := by
  refine EdM.fits_of ?_
  by_cases hf : e.fault (apT (es.take k) t) = 0
  · exact hf
  · have hh : apC (es.take k) t = 0 := by
      rw [← List.take_append_drop k es] at hc
      exact apC_head _ _ _ hc
    rw [apC_at he hh hf] at hc; exact absurd hc hf
/-- all operations behind k edits -/
def topS (s : ByteArray) (es : List EdM) : Nat → List OpM
  | 0 => [⟨1, s, 0, 0, 0, 0⟩]
  | k + 1 => topS s es k ++ five (es.getD k ⟨0, 0, ⟨#[]⟩⟩) ((5 * k : Nat) : Int) ((5 * k + 1 : Nat) : Int)
theorem topS_len (s : ByteArray) (es : List EdM) : ∀ k, (topS s es k).length = 5 * k + 1
  | 0 => rfl
  | k + 1 => by rw [topS, List.length_append, topS_len s es k]; simp [five]; omega
theorem topS_next {s : ByteArray} {es : List EdM} {k : Nat} {e : EdM} (h : es[k]? = some e) : topS s es (k + 1) = topS s es k ++ five e ((5 * k : Nat) : Int) ((5 * k + 1 : Nat) : Int) := by
  rw [topS, List.getD_eq_getElem?_getD, h]; rfl
theorem topS_texts (s : ByteArray) (es : List EdM) (hs : s.size ≤ 600) (hc : apC es s.data.toList = 0) (hl : es.length ≤ 8) : ∀ k, k ≤ es.length → (texts (topS s es k) []).length = 5 * k + 1 ∧ nth (texts (topS s es k) []) ((5 * k : Nat) : Int) = apT (es.take k) s.data.toList
  | 0, _ => by
    have n0 : nextT ⟨1, s, 0, 0, 0, 0⟩ [] = [s.data.toList] := by
      rw [next_ok]
      · simp [newT]
      · exact code_ok (by simp) (by simp) (by simp) (by simp) (by simp [inR]) (by simp) (by simp [newT]; omega)
    have : texts (topS s es 0) [] = [s.data.toList] := by
      unfold topS texts; rw [n0]; rfl
    rw [this]
    exact ⟨rfl, rfl⟩
  | k + 1, hk => by
    obtain ⟨h1, h2⟩ := topS_texts s es hs hc hl k (by omega)
    obtain ⟨e, he⟩ : ∃ e, es[k]? = some e := ⟨es[k]'(by omega), by simp⟩
    have hf : e.fits (apT (es.take k) s.data.toList) := by
      refine EdM.fits_of ?_
      by_cases hf : e.fault (apT (es.take k) s.data.toList) = 0
      · exact hf
      · have hh : apC (es.take k) s.data.toList = 0 := by
          rw [← List.take_append_drop k es] at hc
          exact apC_head _ _ _ hc
        rw [apC_at he hh hf] at hc; exact absurd hc hf
    obtain ⟨us, hu, hx⟩ := five_texts (texts (topS s es k) []) ((5 * k : Nat) : Int) _ e (by omega) (by rw [h1]; omega) h2 (by rw [h1]; omega) hf
    rw [topS_next he, texts_append]
    rw [h1] at hx
    rw [hx]
    refine ⟨by simp [h1, hu]; omega, ?_⟩
    rw [apT_next he]
    have hlen : (texts (topS s es k) [] ++ us).length = 5 * k + 5 := by rw [List.length_append, h1, hu]
    have := nth_right (ts := texts (topS s es k) [] ++ us) (us := [e.step (apT (es.take k) s.data.toList)]) 0
    rw [hlen] at this
    have e5 : ((5 * (k + 1) : Nat) : Int) = ((5 * k + 5 : Nat) : Int) + ((0 : Nat) : Int) := by omega
    rw [e5, this]
    rfl

end Go.Proofs.Ytkckhjljindgmaa.TopM
