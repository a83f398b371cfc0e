/-
  The law RopeCut.
-/
import Derived.Test.YteahnhemcceebaaOpenMakes
import Derived.Test.YteahnhemcceebaaRopeCopiesW
namespace Go.Proofs.Yteahnhemcceebaa.KeepC
open Go.RowKit Kit RopeM RopeC Txt Lift

def cut3 (a k n : Nat) : List OpM := [⟨3, ⟨#[]⟩, (a : Int), 0, (k : Int), 0⟩, ⟨4, ⟨#[]⟩, (a : Int), 0, (k : Int), 0⟩, ⟨2, ⟨#[]⟩, (n : Int), (n : Int) + 1, 0, 0⟩]
theorem nthOf {ts : Tx} {k : Nat} {t : List UInt8} (h : ts[k]? = some t) : nth ts (k : Int) = t := by simp [nth, List.getD_eq_getElem?_getD, h]
theorem hasOf {k n : Nat} (h : k < n) : has (k : Int) n = true := by simp [has]; omega
theorem cut_texts {ts : Tx} {a k : Nat} {t : List UInt8} (hf : Fine ts) (h40 : ts.length ≤ 40) (ht : ts[a]? = some t) (hk : k ≤ t.length) : texts (cut3 a k ts.length) ts = ts ++ [t.take k, t.drop k, t] := by
  have hlt := (List.getElem?_eq_some_iff.1 ht).1
  have h6 := hf.2 t (List.mem_of_getElem? ht)
  have n1 : nextT ⟨3, ⟨#[]⟩, (a : Int), 0, (k : Int), 0⟩ ts = ts ++ [t.take k] := by
    have e : newT ⟨3, ⟨#[]⟩, (a : Int), 0, (k : Int), 0⟩ ts = t.take k := by unfold newT; simp [nthOf ht]
    rw [next_ok, e]
    exact code_ok (by simp) (by simp) (fun _ => hasOf hlt) (by simp) (by simp [inR, nthOf ht]; omega) (by omega) (by rw [e, List.length_take]; omega)
  have ht1 : (ts ++ [t.take k])[a]? = some t := by rw [List.getElem?_append_left hlt]; exact ht
  have n2 : nextT ⟨4, ⟨#[]⟩, (a : Int), 0, (k : Int), 0⟩ (ts ++ [t.take k]) = ts ++ [t.take k, t.drop k] := by
    have e : newT ⟨4, ⟨#[]⟩, (a : Int), 0, (k : Int), 0⟩ (ts ++ [t.take k]) = t.drop k := by unfold newT; simp [nthOf ht1]
    rw [next_ok, e]
    · simp
    · exact code_ok (by simp) (by simp) (fun _ => hasOf (by simp; omega)) (by simp) (by simp [inR, nthOf ht1]; omega) (by simp; omega) (by rw [e, List.length_drop]; omega)
  have a1 : (ts ++ [t.take k, t.drop k])[ts.length]? = some (t.take k) := by rw [List.getElem?_append_right (Nat.le_refl _)]; simp
  have a2 : (ts ++ [t.take k, t.drop k])[ts.length + 1]? = some (t.drop k) := by rw [List.getElem?_append_right (by omega)]; simp
  have n3 : nextT ⟨2, ⟨#[]⟩, (ts.length : Int), (ts.length : Int) + 1, 0, 0⟩ (ts ++ [t.take k, t.drop k]) = ts ++ [t.take k, t.drop k, t] := by
    have ec : ((ts.length : Int) + 1) = ((ts.length + 1 : Nat) : Int) := by omega
    have e : newT ⟨2, ⟨#[]⟩, (ts.length : Int), (ts.length : Int) + 1, 0, 0⟩ (ts ++ [t.take k, t.drop k]) = t := by
      unfold newT; simp only [if_true]; rw [nthOf a1, ec, nthOf a2, List.take_append_drop]
    rw [next_ok, e]
    · simp
    · refine code_ok (by simp) (by simp) (fun _ => hasOf (by simp)) (fun _ => ?_) (by simp [inR]) (by simp; omega) (by rw [e]; exact h6)
      show has ((ts.length : Int) + 1) _ = true
      rw [ec]; exact hasOf (by simp)
  unfold cut3
  unfold texts; rw [n1]
  unfold texts; rw [n2]
  unfold texts; rw [n3]
  rfl

theorem texts_grow : ∀ (l : List OpM) (ts : Tx), (texts l ts).length ≤ ts.length + l.length
  | [], ts => by simp [texts]
  | o :: l, ts => by
    have h := texts_grow l (nextT o ts)
    have h2 : (nextT o ts).length ≤ ts.length + 1 := by unfold nextT; split <;> simp
    unfold texts
    simp only [List.length_cons]; omega
theorem texts_le (l : List OpM) : (texts l []).length ≤ l.length := by have := texts_grow l []; simpa using this
theorem cell18 (w : World) (cs : Array Value) (xs : List Value) (t : TypeId) (h : cs.toList = xs) : ∀ j u, xs[j]? = some u → (w.alloc (.cells cs t)).cell? ((⟨w.heap.size, 0, none⟩ : Addr).add j) = some u := by
  intro j u hj
  have e : (⟨w.heap.size, 0, none⟩ : Addr).add j = ⟨w.heap.size, j, none⟩ := by rw [add_of rfl]; simp
  rw [e, cellsNew, ← hj, ← h]
  simp

set_option maxRecDepth 100000 in
set_option maxHeartbeats 2000000 in
theorem ropeCut (al : Option Addr) (cap : Nat) (l : List MakeM) (x y : Int) (w : World) (hl : MksAt w al l) (hlen : l.length ≤ 9223372036854775807) (_hx : (Lit.int .i64 x).wf = true) (_hy : (Lit.int .i64 y).wf = true) :
    Calls Try.prog 6 #[.slice al l.length cap, .int .i64 x, .int .i64 y] w fun e w' => e = .returned (.bool true) ∧ Below w.heap.size w w' := by
  obtain ⟨i0, hi, hz0, hz1, hz2⟩ := info_parts infoOp
  have HI := Lib.hid (And.intro hi (And.intro hz0 (And.intro hz1 hz2)))
  clear hi hz0 hz1 hz2
  have MK := Lib.hid (makes l al cap w hl hlen)
  clear hl hlen
  generalize l.length = nl at *
  go_enter Try.func6, Try.ntmps6
  go_wp2_with fail
  refine MK.out.mono ?_
  rintro e w1 ⟨v, ops, rfl, h40, hops, hb1⟩
  have RO := Lib.hid (roped v ops w1 hops (by omega))
  have HB1 := Lib.hid hb1
  have HOPS := Lib.hid hops
  clear hb1 hops MK
  go_wp2_with fail
  refine RO.out.mono ?_
  rintro e w2 ⟨tv, rfl, ht, hb2⟩
  have HF := Lib.hid (Fine.nil.texts (l := ops))
  have HL : Hid ((texts ops []).length ≤ ops.length) := Lib.hid (texts_le ops)
  have HOPS2 := Lib.hid (HOPS.out.next hb2)
  have HB2 := Lib.hid (bstep HB1.out hb2)
  obtain ⟨ts, hts⟩ : ∃ ts, texts ops [] = ts := ⟨_, rfl⟩
  rw [hts] at HF HL ht
  have HTS := Lib.hid hts
  obtain ⟨at', ct, rfl, hct⟩ := ht.2
  have HT := Lib.hid ht.1
  rw [List.length_map] at hct
  rw [List.length_map]
  clear hts hb2 RO HB1 HOPS ht
  obtain ⟨n, hn⟩ : ∃ n, ts.length = n := ⟨_, rfl⟩
  have HN := Lib.hid hn
  rw [hn] at hct ⊢
  have hn40 : n ≤ 40 := by have := HL.out; omega
  clear hn
  by_cases hn0 : n = 0
  · subst hn0
    go_wp2_with fail
    go_ret
    exact ⟨rfl, HB2.out⟩
  · obtain ⟨gt, off, rfl, hgt, hct2⟩ : ∃ b off, at' = some ⟨b, off, none⟩ ∧ b < w2.heap.size ∧ ∀ i, i < n → w2.cell? ⟨b, off + i, none⟩ = (ts.map strV)[i]? := by
      obtain ⟨a3, c3, e3, hc3⟩ := HT.out
      simp only [Value.slice.injEq, List.length_map, HN.out] at e3 hc3
      obtain ⟨rfl, _, rfl⟩ := e3
      exact hc3 (by omega)
    have PK := Lib.hid (picked x (n : Int) w2 (by omega) (by omega))
    obtain ⟨ia, hia⟩ := Int.eq_ofNat_of_zero_le (Int.emod_nonneg x (show ((n : Int)) ≠ 0 by omega))
    have la := Int.emod_lt_of_pos x (show (0 : Int) < (n : Int) by omega)
    rw [hia] at PK la
    obtain ⟨t, hta⟩ : ∃ t, ts[ia]? = some t := ⟨ts[ia]'(by rw [HN.out]; omega), by simp [HN.out, show ia < n by omega]⟩
    have hca : w2.cell? ⟨gt, off + ia, none⟩ = some (.string ⟨t.toArray⟩) := by rw [hct2 ia (by omega)]; simp [hta, strV]
    have ht6 := HF.out.2 t (List.mem_of_getElem? hta)
    have hsz : (⟨t.toArray⟩ : ByteArray).size = t.length := by simp [ByteArray.size]
    have PK2 := Lib.hid (picked y ((t.length : Int) + 1) w2 (by omega) (by omega))
    obtain ⟨k, hk⟩ := Int.eq_ofNat_of_zero_le (Int.emod_nonneg y (show ((t.length : Int) + 1) ≠ 0 by omega))
    have lk := Int.emod_lt_of_pos y (show (0 : Int) < (t.length : Int) + 1 by omega)
    rw [hk] at PK2 lk
    obtain ⟨ao, co, rfl, hlo, hat, hshape⟩ := HOPS2.out
    obtain ⟨go, offo, rfl⟩ : ∃ g off, ao = some ⟨g, off, none⟩ := by
      rcases hshape with ⟨_, _, h3⟩ | h3
      · exfalso
        have q1 := HL.out
        rw [h3] at q1
        have q2 := HN.out
        rw [List.length_nil] at q1
        omega
      · exact h3
    have HC := Lib.hid (ops_cells hat)
    have HCL := Lib.hid (opCells_length ops)
    -- the texts of the longer list
    have HT3 : Hid (texts (ops ++ cut3 ia k n) [] = ts ++ [t.take k, t.drop k, t]) := Lib.hid (by
      rw [texts_append, HTS.out, ← HN.out]
      exact cut_texts HF.out (by rw [HN.out]; omega) hta (by omega))
    have RO2 : Hid (∀ v W, OpsV W v (ops ++ cut3 ia k n) → Calls Try.prog 20 #[v] W fun e w' => ∃ gu ou cu, e = .returned (.tuple #[.slice (some ⟨gu, ou, none⟩) (n + 3) cu, .bool true]) ∧ w'.cell? ⟨gu, ou + n, none⟩ = some (.string ⟨(t.take k).toArray⟩) ∧ w'.cell? ⟨gu, ou + (n + 1), none⟩ = some (.string ⟨(t.drop k).toArray⟩) ∧ w'.cell? ⟨gu, ou + (n + 2), none⟩ = some (.string ⟨t.toArray⟩) ∧ Below W.heap.size W w') := Lib.hid (by
      intro v W hv
      refine (roped v _ W hv (by simp [cut3]; omega)).mono ?_
      rintro e w' ⟨uv, rfl, ⟨hr, -⟩, hb⟩
      rw [HT3.out] at hr
      obtain ⟨au, cu, rfl, hc⟩ := hr
      obtain ⟨gu, ou, rfl, _, hcc⟩ := hc (by simp)
      have hl3 : ((ts ++ [t.take k, t.drop k, t]).map strV).length = n + 3 := by simp [HN.out]
      rw [hl3] at hcc ⊢
      refine ⟨gu, ou, cu, rfl, ?_, ?_, ?_, hb⟩
      · rw [hcc n (by omega), List.map_append, List.getElem?_append_right (by simp [HN.out])]; simp [HN.out, strV]
      · rw [hcc (n + 1) (by omega), List.map_append, List.getElem?_append_right (by simp [HN.out])]; simp [HN.out, strV]
      · rw [hcc (n + 2) (by omega), List.map_append, List.getElem?_append_right (by simp [HN.out])]; simp [HN.out, strV])
    have HCAT : Hid ((⟨(t.take k).toArray⟩ : ByteArray) ++ (⟨(t.drop k).toArray⟩ : ByteArray) = ⟨t.toArray⟩) := Lib.hid (by rw [catStr, List.take_append_drop])
    have hs1 : (⟨(t.take k).toArray⟩ : ByteArray).size = k := by simp [ByteArray.size]; omega
    have hs2 : (⟨(t.drop k).toArray⟩ : ByteArray).size ≤ 600 := by simp [ByteArray.size]; omega
    rw [← hsz] at PK2
    clear hia hk hta hshape hat HT hct2 HOPS2 HTS HF HL HT3
    generalize (⟨(t.take k).toArray⟩ : ByteArray) = s1 at *
    generalize (⟨(t.drop k).toArray⟩ : ByteArray) = s2 at *
    generalize (⟨t.toArray⟩ : ByteArray) = sa at *
    have hsa6 : sa.size ≤ 600 := by omega
    have hk6 : k ≤ 600 := by omega
    clear hsz lk ht6
    obtain ⟨mo, hmo⟩ : ∃ mo, ops.length = mo := ⟨_, rfl⟩
    have HMO := Lib.hid hmo
    rw [hmo] at h40 hlo HCL ⊢
    clear hmo
    go_wp2_with fail
    refine PK.out.mono ?_
    rintro e w3 ⟨rfl, rfl⟩
    go_wp2_with fail
    refine PK2.out.mono ?_
    rintro e w3 ⟨rfl, rfl⟩
    clear PK PK2
    go_wp2_with (first
      | (at_builtin; refine wpList_append_own _ rfl _ _ 22 rfl w2.heap.size 50 i0 _ 6 56 Try.underlying22 HI.out.1 HI.out.2.1 HI.out.2.2.1 HI.out.2.2.2 rfl (by decide) _ 0 [] rfl (World.ownsRow_nil _ _ _ _) ⟨go, offo, none⟩ mo co (opCells ops) rfl HCL.out HC.out (opCells_one ops) (by unfold maxLen; omega) (by omega) (by simp) ?_; intro v3 w3 hown3 hgrow3 _; have R3 := Lib.hid (show w3.ownsRow w2.heap.size 50 6 v3 mo (opCells ops) by simpa using hown3); have G3 := Lib.hid (grows_below hgrow3); have hsz3 := hgrow3.size; clear hown3 hgrow3)
      | (at_builtin; refine wpList_append_own _ rfl _ _ 22 rfl w2.heap.size 50 i0 _ 6 56 Try.underlying22 HI.out.1 HI.out.2.1 HI.out.2.2.1 HI.out.2.2.2 rfl (by decide) _ mo (opCells ops) rfl (R3.out.alloc _) ⟨w3.heap.size, 0, none⟩ 3 3 (opCells (cut3 ia k n)) rfl rfl (cell18 _ _ _ _ rfl) (opCells_one _) (by unfold maxLen; omega) (by omega) (by simp; omega) ?_; intro v4 w4 hown4 hgrow4 _; have V4 := Lib.hid (show OpsV w4 v4 (ops ++ cut3 ia k n) from OpsV.of_owns (base := w2.heap.size) (by rw [opCells_append, List.length_append, HMO.out]; exact hown4)); have B4 : Hid (Below w2.heap.size w2 w4) := Lib.hid (bgrow (balloc G3.out _) (R3.out.alloc _) hgrow4); clear hown4 hgrow4))
    refine (RO2.out _ _ V4.out).mono ?_
    rintro e w5 ⟨gu, ou, cu, rfl, u0, u1, u2, hb⟩
    have hca5 := keep (bstep B4.out hb) hgt hca
    have HB5 := Lib.hid (bstep HB2.out (bstep B4.out hb))
    have hcat := HCAT.out
    have hnl : ¬ 9223372036854775807 < s1.size + s2.size := by omega
    clear hb hca RO2 V4 B4 R3 G3 HB2 HC HCL HCAT
    have a1 : IntKind.i64.wrap ((n : Int) + 1) = (n : Int) + 1 := IntWalk.i64_in _ (by omega)
    have a2 : IntKind.i64.wrap ((n : Int) + 2) = (n : Int) + 2 := IntWalk.i64_in _ (by omega)
    have a3 : IntKind.i64.wrap ((n : Int) + 3) = (n : Int) + 3 := IntWalk.i64_in _ (by omega)
    have b1 : (0 : Int) ≤ (n : Int) + 1 := by omega
    have b2 : (0 : Int) ≤ (n : Int) + 2 := by omega
    have b3 : ((n : Int) + 1).toNat = n + 1 := by omega
    have b4 : ((n : Int) + 2).toNat = n + 2 := by omega
    have b5 : (n : Int) + 1 < (n : Int) + 3 := by omega
    have b6 : (n : Int) + 2 < (n : Int) + 3 := by omega
    have b7 : n + 1 < n + 3 := by omega
    have b8 : n + 2 < n + 3 := by omega
    have b9 : n < n + 3 := by omega
    go_upto_region 11 with fail
    go_quiet (fail)
    go_wp2_with fail
    go_ret
    exact ⟨by simp [*], bdrewN HB5.out _⟩

end Go.Proofs.Yteahnhemcceebaa.KeepC
