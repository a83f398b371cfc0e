/-
  The law WordsParts, walked.
-/
import Derived.Test.YtedlgobpoifnfaaWordAll
import Derived.Test.YtedlgobpoifnfaaWordJoin
import Derived.Test.YtedlgobpoifnfaaRefFind
import Derived.Test.YtedlgobpoifnfaaTexts
import Derived.BigQuiet
import Derived.Laws.Cover1
namespace Go.Proofs.Ytedlgobpoifnfaa.WordK
open Go.RowKit Kit LineM Txt Lift WordM WordC Go.Sort

theorem isWord_of_ix {u : List UInt8} {p : List UInt8 × List Int} (hp : p ∈ ix u) : isWord p.1 = true := by
  have := ((idxL_is (occ u)).mem p.1).1 (List.mem_map.2 ⟨p, hp, rfl⟩)
  obtain ⟨q, hq, e⟩ := List.mem_map.1 this
  obtain ⟨i, _, rfl, hne⟩ := (mem_occ u q).1 hq
  rw [← e]
  show isWord (wat u i) = true
  unfold isWord
  rw [occ_letters (wat_letters u i) hne (wat_len u i)]
  simp [lastIs]
theorem parts_places {s t : List UInt8} {p : List UInt8 × List Int} (hp : p ∈ ix (s ++ 32 :: t)) : p.2 = pos (occ s) p.1 ++ (pos (occ t) p.1).map (· + ((s.length : Int) + 1)) := by
  rw [(idxL_is (occ (s ++ 32 :: t))).at_ p hp, pos_join s t 32 (by decide)]
theorem ix_some {u : List UInt8} {p : List UInt8 × List Int} (hp : p ∈ ix u) : 0 < p.2.length := by
  rw [(idxL_is (occ u)).at_ p hp]
  refine List.length_pos_iff.2 fun h => ?_
  exact (pos_nil_iff _ _).1 h (((idxL_is (occ u)).mem p.1).1 (List.mem_map.2 ⟨p, hp, rfl⟩))
theorem ix_lt {u : List UInt8} {i : Nat} {p q : List UInt8 × List Int} (h1 : (ix u)[i]? = some q) (h2 : (ix u)[i + 1]? = some p) : q.1 < p.1 := by
  have h := List.pairwise_map.1 (idxL_is (occ u)).inc
  have hi := (List.getElem?_eq_some_iff.1 h1)
  have hj := (List.getElem?_eq_some_iff.1 h2)
  have := List.pairwise_iff_getElem.1 h i (i + 1) hi.1 hj.1 (by omega)
  rw [← hi.2, ← hj.2]
  exact this
/-- one place of a word -/
theorem ix_at {u : List UInt8} {p : List UInt8 × List Int} (hp : p ∈ ix u) {k : Nat} {a : Int} (hk : p.2[k]? = some a) : ∃ j : Nat, a = (j : Int) ∧ j + p.1.length ≤ u.length ∧ (u.drop j).take p.1.length = p.1 := by
  have hm := List.mem_of_getElem? hk
  rw [(idxL_is (occ u)).at_ p hp, mem_pos, mem_occ] at hm
  obtain ⟨j, _, e, hne⟩ := hm
  simp only [Prod.mk.injEq] at e
  obtain ⟨rfl, e2⟩ := e
  refine ⟨j, rfl, ?_, ?_⟩
  · rw [e2]; exact wat_in u j hne
  · rw [e2]; exact wat_at u j
theorem ix_rise {u : List UInt8} {p : List UInt8 × List Int} (hp : p ∈ ix u) {k : Nat} {a b : Int} (h1 : p.2[k]? = some b) (h2 : p.2[k + 1]? = some a) : b < a := by
  rw [(idxL_is (occ u)).at_ p hp] at h1 h2
  have hi := (List.getElem?_eq_some_iff.1 h1)
  have hj := (List.getElem?_eq_some_iff.1 h2)
  have := List.pairwise_iff_getElem.1 (pos_inc u p.1) k (k + 1) hi.1 hj.1 (by omega)
  rw [← hi.2, ← hj.2]
  exact this
theorem one_len' : (ix (⟨#[97]⟩ : ByteArray).data.toList).length = 1 := by
  rw [ix, idxL, List.length_map, wordsL, List.length_mergeSort]
  decide +kernel

set_option maxRecDepth 100000 in
set_option maxHeartbeats 8000000 in
theorem wordsParts (a0 : Option Addr) (len0 cap0 : Nat) (zs : List Int) (a1 : Option Addr) (len1 cap1 : Nat) (zs1 : List Int) (w : World) (h0 : IsRow .i64 w a0 len0 cap0 zs) (h1 : IsRow .i64 w a1 len1 cap1 zs1) :
    Calls Try.prog 7 #[.slice a0 len0 cap0, .slice a1 len1 cap1] w fun e w' => e = .returned (.bool true) ∧ Below w.heap.size w w' := by
  have T0 := Lib.hid (textOf a0 len0 cap0 zs 60 w h0 (by omega))
  have T1 := Lib.hid (textOf a1 len1 cap1 zs1 60 w h1 (by omega))
  have hs : (textS ((zs.take len0).take 60)).size ≤ 60 := by rw [textS_size]; simp only [List.length_take]; omega
  have ht : (textS ((zs1.take len1).take 60)).size ≤ 60 := by rw [textS_size]; simp only [List.length_take]; omega
  generalize textS ((zs.take len0).take 60) = s at *
  generalize textS ((zs1.take len1).take 60) = t at *
  have HU : Hid (((s ++ ⟨#[32]⟩) ++ t : ByteArray).data.toList = s.data.toList ++ 32 :: t.data.toList) := Lib.hid (by simp [ByteArray.data_append, Array.toList_append])
  have hus : ((s ++ ⟨#[32]⟩) ++ t : ByteArray).size = s.size + 1 + t.size := by
    rw [ByteArray.size_append, ByteArray.size_append]; rfl
  have AL := Lib.hid (fun W => all ((s ++ ⟨#[32]⟩) ++ t) W (by omega))
  have AO := Lib.hid (fun W => all ⟨#[97]⟩ W (by decide))
  have hone := one_len'
  obtain ⟨l, hl⟩ : ∃ l, l = ix ((s ++ ⟨#[32]⟩) ++ t : ByteArray).data.toList := ⟨_, rfl⟩
  have HL := Lib.hid hl
  rw [← hl] at AL
  have hlen : l.length ≤ 600 := by
    rw [hl]
    refine Nat.le_trans (ix_len _) ?_
    have : ((s ++ ⟨#[32]⟩) ++ t : ByteArray).data.toList.length = ((s ++ ⟨#[32]⟩) ++ t : ByteArray).size := by rw [Array.length_toList]; rfl
    rw [this, hus]; omega
  have HUS := Lib.hid hus
  clear h0 h1 hl hus
  go_enter Try.func7, Try.ntmps7
  go_wp2_with fail
  refine T0.out.mono ?_
  rintro e w0 ⟨rfl, rfl⟩
  go_wp2_with fail
  refine T1.out.mono ?_
  rintro e w0 ⟨rfl, rfl⟩
  clear T0 T1
  go_wp2_with fail
  refine (AL.out _).mono ?_
  rintro e w1 ⟨v1, rfl, hk1, hb1⟩
  have K1 := Lib.hid hk1
  have B1 := Lib.hid hb1
  obtain ⟨la, lc, rfl⟩ := hk1.form
  clear hk1 hb1 AL
  go_wp2_with fail
  refine (AO.out _).mono ?_
  rintro e w2 ⟨v2, rfl, hk2, hb2⟩
  have K2 := Lib.hid (K1.out.next hb2)
  have B2 := Lib.hid (bstep B1.out hb2)
  obtain ⟨aq, cq, rfl⟩ := hk2.form
  rw [hone]
  clear hk2 hb2 AO K1 B1 hone
  generalize hN : l.length = N at *
  have HN := Lib.hid hN
  clear hN
  go_wp2_with fail
  generalize s ++ (⟨#[32]⟩ : ByteArray) ++ t = z at *
  go_loopw [12] (fun vi wr => ∃ i : Nat, i ≤ N ∧ vi = .int .i64 (i : Int) ∧ Hid (Below w2.heap.size w2 wr)) (fun vi _ => N - (intOf vi).toNat)
  case atStart => exact ⟨0, by omega, rfl, Lib.hid (Below.refl _ _)⟩
  case round =>
    obtain ⟨i, hi, rfl, HK⟩ := hrel
    by_cases hlt : i < N
    · have hil : i < l.length := by rw [HN.out]; exact hlt
      obtain ⟨p, hpx⟩ : ∃ p, l[i]? = some p := ⟨l[i], by simp [hil]⟩
      have hpm : p ∈ ix z.data.toList := by rw [← HL.out]; exact List.mem_of_getElem? hpx
      obtain ⟨g, off, u, rfl, hg, cx0, cx1, hu⟩ := K2.out.get hpx
      obtain ⟨ub, uc, rfl, _, hua, _⟩ := hu
      have x0 := keep HK.out hg cx0
      have x1 := keep HK.out hg cx1
      have hgl := block_lt x0
      -- the facts of the word
      have HZU : Hid (z.data.toList.length = z.size) := Lib.hid (by simp)
      obtain ⟨xs, hxs⟩ : ∃ xs, xs = pos (occ s.data.toList) p.1 := ⟨_, rfl⟩
      obtain ⟨ys, hys⟩ : ∃ ys, ys = pos (occ t.data.toList) p.1 := ⟨_, rfl⟩
      have hpl : p.2 = xs ++ ys.map (· + ((s.size : Int) + 1)) := by
        have h := hpm
        rw [HU.out] at h
        have := parts_places h
        rw [hxs, hys, this]
        simp
      have hxl : xs.length ≤ 60 := by
        rw [hxs]
        refine Nat.le_trans (pos_len _ _) (Nat.le_trans (occ_len _) ?_)
        simpa using hs
      have hyl : ys.length ≤ 60 := by
        rw [hys]
        refine Nat.le_trans (pos_len _ _) (Nat.le_trans (occ_len _) ?_)
        simpa using ht
      have hsome := ix_some hpm
      have hnn : p.2.length = xs.length + ys.length := by rw [hpl]; simp
      have h12 := ix_word z.data.toList p hpm
      have FS := Lib.hid (fun W => find s (bs p.1) W (by rw [bs_size]; omega) (isWord_of_ix hpm) (by omega))
      have FT := Lib.hid (fun W => find t (bs p.1) W (by rw [bs_size]; omega) (isWord_of_ix hpm) (by omega))
      have e1 : (bs p.1).data.toList = p.1 := rfl
      rw [e1, ← hxs] at FS
      rw [e1, ← hys] at FT
      have HAT := Lib.hid (fun k a (hk : p.2[k]? = some a) => ix_at hpm hk)
      have HRI := Lib.hid (fun k a b (h1 : p.2[k]? = some b) (h2 : p.2[k + 1]? = some a) => ix_rise hpm h1 h2)
      have HPL := Lib.hid hpl
      have HUA := Lib.hid hua
      rw [hnn] at x1
      obtain ⟨nx, hnx⟩ : ∃ nx, nx = xs.length := ⟨_, rfl⟩
      obtain ⟨ny, hny⟩ : ∃ ny, ny = ys.length := ⟨_, rfl⟩
      rw [← hnx, ← hny] at x1 hnn
      rw [← hnx] at hxl
      rw [← hny] at hyl
      have HNX := Lib.hid hnx
      have HNY := Lib.hid hny
      have HNN := Lib.hid hnn
      have hpos : 0 < nx + ny := by omega
      have hm12 : (bs p.1).size ≤ 12 := by rw [bs_size]; exact h12.1
      -- the word ahead of it
      have PRV : Hid (i = 0 ∨ ∃ j q, i = j + 1 ∧ wr.cell? ⟨g, off + j * 2, none⟩ = some (.string q) ∧ Op.bytesLess q.toList (bs p.1).toList = true) := Lib.hid (by
        by_cases hz : i = 0
        · exact .inl hz
        · right
          obtain ⟨j, rfl⟩ : ∃ j, i = j + 1 := ⟨i - 1, by omega⟩
          have hjl : j < l.length := by omega
          obtain ⟨q, hq⟩ : ∃ q, l[j]? = some q := ⟨l[j], by simp [hjl]⟩
          obtain ⟨g', off', u', e', hg', cq0, _, _⟩ := K2.out.get hq
          simp only [Option.some.injEq, Addr.mk.injEq, and_true] at e'
          obtain ⟨rfl, rfl⟩ := e'
          refine ⟨j, bs q.1, rfl, keep HK.out hg' cq0, ?_⟩
          rw [bytesLess_eq, Lib.toList_data, Lib.toList_data]
          refine decide_eq_true ?_
          refine ix_lt (u := z.data.toList) (i := j) ?_ ?_
          · rw [← HL.out]; exact hq
          · rw [← HL.out]; exact hpx)
      have LEN1 : Hid (p.1.length = (bs p.1).size) := Lib.hid (by rw [bs_size])
      have EXT : Hid (∀ j : Nat, (z.data.toList.drop j).take p.1.length = p.1 → z.extract j (j + (bs p.1).size) = bs p.1) := Lib.hid (fun j hj => by
        rw [extract_bs, bs_size, show j + p.1.length - j = p.1.length by omega, hj])
      clear hpm hxs hys hpl hsome hnn h12 e1 hnx hny hpx cx0 cx1 hil hua
      generalize hy : bs p.1 = y at *
      clear hy
      have r1 : IntKind.i64.wrap ((i : Int) + 1) = (i : Int) + 1 := IntWalk.i64_in _ (by omega)
      have p1 : (0 : Int) ≤ (i : Int) := by omega
      have p2 : (i : Int) < (N : Int) := by omega
      obtain ⟨w3, hw3⟩ : ∃ w3, w3 = wr.alloc (.cells #[.string y, .slice ub (nx + ny) uc] 46) := ⟨_, rfl⟩
      have B3 : Hid (Below w2.heap.size w2 w3) := Lib.hid (by rw [hw3]; exact balloc HK.out _)
      have b30 : w3.cell? ⟨wr.heap.size, 0, none⟩ = some (.string y) := by rw [hw3]; simp
      have b31 : w3.cell? ⟨wr.heap.size, 1, none⟩ = some (.slice ub (nx + ny) uc) := by rw [hw3]; simp
      have PRV3 : Hid (i = 0 ∨ ∃ j q, i = j + 1 ∧ w3.cell? ⟨g, off + j * 2, none⟩ = some (.string q) ∧ Op.bytesLess q.toList y.toList = true) := Lib.hid (by
        rcases PRV.out with h | ⟨j, q, h1, h2, h3⟩
        · exact .inl h
        · exact .inr ⟨j, q, h1, by rw [hw3]; exact keep (balloc (Below.refl _ _) _) (block_lt h2) h2, h3⟩)
      have hbl := block_lt b30
      have FS3 := Lib.hid (FS.out w3)
      subst hw3
      clear PRV FS
      go_wp2_with fail
      refine FS3.out.mono ?_
      rintro e w4 ⟨v3, rfl, hk3⟩
      have X4 := Lib.hid hk3.val
      have B4 := Lib.hid (bstep B3.out hk3.bel)
      have c40 := keep hk3.bel hbl b30
      have c41 := keep hk3.bel hbl b31
      have PRV4 : Hid (i = 0 ∨ ∃ j q, i = j + 1 ∧ w4.cell? ⟨g, off + j * 2, none⟩ = some (.string q) ∧ Op.bytesLess q.toList y.toList = true) := Lib.hid (by
        rcases PRV3.out with h | ⟨j, q, h1, h2, h3⟩
        · exact .inl h
        · exact .inr ⟨j, q, h1, keep hk3.bel (block_lt h2) h2, h3⟩)
      obtain ⟨xa, xc, rfl⟩ := hk3.slice
      rw [← HNX.out]
      have hbl4 := block_lt c40
      clear hk3 FS3 PRV3 B3 b30 b31 hbl x0 x1 hgl
      go_wp2_with fail
      refine (FT.out _).mono ?_
      rintro e w5 ⟨v4, rfl, hk4⟩
      have Y5 := Lib.hid hk4.val
      have X5 := Lib.hid (X4.out.next hk4.bel)
      have B5 := Lib.hid (bstep B4.out hk4.bel)
      have c50 := keep hk4.bel hbl4 c40
      have c51 := keep hk4.bel hbl4 c41
      have PRV5 : Hid (i = 0 ∨ ∃ j q, i = j + 1 ∧ w5.cell? ⟨g, off + j * 2, none⟩ = some (.string q) ∧ Op.bytesLess q.toList y.toList = true) := Lib.hid (by
        rcases PRV4.out with h | ⟨j, q, h1, h2, h3⟩
        · exact .inl h
        · exact .inr ⟨j, q, h1, keep hk4.bel (block_lt h2) h2, h3⟩)
      obtain ⟨ya, yc, rfl⟩ := hk4.slice
      rw [← HNY.out]
      clear hk4 FT PRV4 B4 X4 c40 c41 hbl4
      have r2 : IntKind.i64.wrap ((nx : Int) + (ny : Int)) = (nx : Int) + (ny : Int) := IntWalk.i64_in _ (by omega)
      have q0 : (((nx : Int) + (ny : Int)) == 0) = false := by simp; omega
      have q1 : ((((nx + ny : Nat) : Int)) == 0) = false := by simp; omega
      have q2 : ((nx + ny) == 0) = false := by simp; omega
      rcases PRV5.out with hz | ⟨j, q, hz, cq, hless⟩
      · subst hz
        go_wp2_with fail
        go_quiet (fail)
        obtain ⟨w6, hw6⟩ : ∃ w6, w6 = w5.drewN nq := ⟨_, rfl⟩
        have BQ : Below w5.heap.size w5 w6 := by rw [hw6]; exact bdrewN (Below.refl _ _) _
        rw [← hw6]
        have c60 := keep BQ (block_lt c50) c50
        have c61 := keep BQ (block_lt c51) c51
        have X6 := Lib.hid (X5.out.next BQ)
        have Y6 := Lib.hid (Y5.out.next BQ)
        have B6 := Lib.hid (bstep B5.out BQ)
        have A6 := Lib.hid (SlAt.next HUA.out B6.out)
        clear BQ hw6 c50 c51 X5 Y5 B5
        go_wp2_with fail
        go_loopw [18] (fun vk wk => ∃ k : Nat, k ≤ nx + ny ∧ vk = .int .i64 (k : Int) ∧ Hid (Below w6.heap.size w6 wk)) (fun vk _ => nx + ny - (intOf vk).toNat)
        case atStart => exact ⟨0, by omega, rfl, Lib.hid (Below.refl _ _)⟩
        case round =>
          obtain ⟨k, hk, rfl, HW⟩ := hrel
          have d0 := keep HW.out (block_lt c60) c60
          have d1 := keep HW.out (block_lt c61) c61
          by_cases hkl : k < nx + ny
          · have hkp : k < p.2.length := by rw [HNN.out]; exact hkl
            obtain ⟨a, hka⟩ : ∃ a, p.2[k]? = some a := ⟨p.2[k], by simp [hkp]⟩
            obtain ⟨g3, o3, rfl, hg3, ca⟩ := IsAt.get A6.out hka
            obtain ⟨jj, rfl, hj1, hj2⟩ := HAT.out k a hka
            have ca' := keep HW.out hg3 ca
            have HE := EXT.out jj hj2
            rw [LEN1.out, HZU.out] at hj1
            have hzl : z.size ≤ 121 := by have := HUS.out; omega
            have s1 : IntKind.i64.wrap ((jj : Int) + (y.size : Int)) = (jj : Int) + (y.size : Int) := IntWalk.i64_in _ (by omega)
            have s2 : (jj : Int) + (y.size : Int) ≤ (z.size : Int) := by omega
            have s3 : (0 : Int) ≤ (jj : Int) := by omega
            have s4 : (jj : Int) ≤ (jj : Int) + (y.size : Int) := by omega
            have s5 : decide ((z.size : Int) < (jj : Int) + (y.size : Int)) = false := decide_eq_false (by omega)
            have s6 : ¬ ((z.size : Int) < (jj : Int) + (y.size : Int)) := by omega
            have s7 : decide (z.size < jj + y.size) = false := decide_eq_false (by omega)
            have s8 : ¬ (z.size < jj + y.size) := by omega
            have t1 : (0 : Int) ≤ (k : Int) := by omega
            have t2 : (k : Int) < (nx : Int) + (ny : Int) := by omega
            have t3 : IntKind.i64.wrap ((k : Int) + 1) = (k : Int) + 1 := IntWalk.i64_in _ (by omega)
            have s9 : decide ((jj : Int) < 0) = false := decide_eq_false (by omega)
            have s10 : ¬ ((jj : Int) < 0) := by omega
            have PV : Hid (k = 0 ∨ ∃ k1 b, k = k1 + 1 ∧ wr.cell? ⟨g3, o3 + k1, none⟩ = some (.int .i64 b) ∧ b < (jj : Int)) := Lib.hid (by
              by_cases hz : k = 0
              · exact .inl hz
              · right
                obtain ⟨k1, rfl⟩ : ∃ k1, k = k1 + 1 := ⟨k - 1, by omega⟩
                have hk1 : k1 < p.2.length := by omega
                obtain ⟨b, hkb⟩ : ∃ b, p.2[k1]? = some b := ⟨p.2[k1], by simp [hk1]⟩
                obtain ⟨g4, o4, e4, hg4, cb⟩ := IsAt.get A6.out hkb
                simp only [Option.some.injEq, Addr.mk.injEq, and_true] at e4
                obtain ⟨rfl, rfl⟩ := e4
                exact ⟨k1, b, rfl, keep HW.out hg4 cb, HRI.out k1 _ b hkb hka⟩)
            have WH : Hid ((k < nx ∧ xs[k]? = some (jj : Int)) ∨ ∃ m c, k = nx + m ∧ ys[m]? = some c ∧ c + ((s.size : Int) + 1) = (jj : Int)) := Lib.hid (by
              have h := hka
              rw [HPL.out] at h
              by_cases hkx : k < nx
              · left
                rw [List.getElem?_append_left (by rw [← HNX.out]; exact hkx)] at h
                exact ⟨hkx, h⟩
              · right
                rw [List.getElem?_append_right (by rw [← HNX.out]; omega), ← HNX.out, List.getElem?_map] at h
                obtain ⟨m, rfl⟩ : ∃ m, k = nx + m := ⟨k - nx, by omega⟩
                rw [Nat.add_sub_cancel_left] at h
                cases hm : ys[m]? with
                | none => rw [hm] at h; cases h
                | some c =>
                  rw [hm] at h
                  simp only [Option.map_some, Option.some.injEq] at h
                  exact ⟨m, c, rfl, hm ▸ rfl, h⟩)
            clear hj1 hj2 hka hkp ca
            rcases PV.out with hz | ⟨k1, b, hz, cb, hlt1⟩
            · subst hz
              have ca0 : wr.cell? ⟨g3, o3, none⟩ = some (.int .i64 (jj : Int)) := ca'
              go_wp2_with fail
              go_quiet (fail)
              obtain ⟨w7, hw7⟩ : ∃ w7, w7 = wr.drewN nq := ⟨_, rfl⟩
              have BR : Below wr.heap.size wr w7 := by rw [hw7]; exact bdrewN (Below.refl _ _) _
              rw [← hw7]
              have BW7 := Lib.hid (bstep HW.out BR)
              clear hw7 BR
              rcases WH.out with ⟨hkx, hxk⟩ | ⟨m, c, hm, hyk, hce⟩
              · obtain ⟨xa', xc', ex, _, hxa, _⟩ := X6.out
                cases ex
                obtain ⟨g5, o5, rfl, hg5, cx⟩ := IsAt.get hxa hxk
                have cx' := keep BW7.out hg5 cx
                have v1 : ¬ ((nx : Int) ≤ 0) := by omega
                have v2 : decide ((nx : Int) ≤ 0) = false := decide_eq_false v1
                have v3 : (0 : Int) < (nx : Int) := by omega
                have v4 : ¬ nx ≤ 0 := by omega
                have v5 : decide (nx ≤ 0) = false := decide_eq_false v4
                have v6 : ¬ nx = 0 := by omega
                have v7 : decide (nx = 0) = false := decide_eq_false v6
                have v8 : 0 < nx := by omega
                have cx0 : w7.cell? ⟨g5, o5, none⟩ = some (.int .i64 (jj : Int)) := cx'
                clear hxa hxk cx hkx
                go_wp2_with fail
                go_roundw
                case rel => exact ⟨1, by omega, by go_num, BW7⟩
                case measure => simp [intOf]; omega
              · obtain ⟨ya', yc', ey, _, hya, _⟩ := Y6.out
                cases ey
                obtain ⟨g5, o5, rfl, hg5, cy⟩ := IsAt.get hya hyk
                have cy' := keep BW7.out hg5 cy
                have hmy : m < ny := by rw [HNY.out]; exact (List.getElem?_eq_some_iff.1 hyk).1
                obtain rfl : m = 0 := by omega
                obtain rfl : nx = 0 := by omega
                have v7 : IntKind.i64.wrap (c + (s.size : Int)) = c + (s.size : Int) := IntWalk.i64_in _ (by omega)
                have v8 : IntKind.i64.wrap (c + (s.size : Int) + 1) = (jj : Int) := by rw [show c + (s.size : Int) + 1 = (jj : Int) by omega]; exact IntWalk.i64_in _ (by omega)
                have v9 : (0 : Int) < (ny : Int) := by omega
                have v10 : IntKind.i64.wrap (0 : Int) = 0 := rfl
                have cy0 : w7.cell? ⟨g5, o5, none⟩ = some (.int .i64 c) := cy'
                clear hya hyk cy hce hm
                go_wp2_with fail
                go_roundw
                case rel => exact ⟨1, by omega, by go_num, BW7⟩
                case measure => simp [intOf]; omega
            · subst hz
              have u1 : IntKind.i64.wrap ((k1 : Int) + 1 - 1) = (k1 : Int) := by rw [show (k1 : Int) + 1 - 1 = (k1 : Int) by omega]; exact IntWalk.i64_in _ (by omega)
              have u2 : IntKind.i64.wrap (k1 : Int) = (k1 : Int) := IntWalk.i64_in _ (by omega)
              have u3 : (0 : Int) < (k1 : Int) + 1 := by omega
              have u4 : (0 : Int) ≤ (k1 : Int) := by omega
              have u5 : (k1 : Int) < (nx : Int) + (ny : Int) := by omega
              have u6 : decide ((jj : Int) ≤ b) = false := decide_eq_false (by omega)
              have u7 : ¬ ((jj : Int) ≤ b) := by omega
              go_wp2_with fail
              go_quiet (fail)
              obtain ⟨w7, hw7⟩ : ∃ w7, w7 = wr.drewN nq := ⟨_, rfl⟩
              have BR : Below wr.heap.size wr w7 := by rw [hw7]; exact bdrewN (Below.refl _ _) _
              rw [← hw7]
              have BW7 := Lib.hid (bstep HW.out BR)
              clear hw7 BR
              rcases WH.out with ⟨hkx, hxk⟩ | ⟨m, c, hm, hyk, hce⟩
              · obtain ⟨xa', xc', ex, _, hxa, _⟩ := X6.out
                cases ex
                obtain ⟨g5, o5, rfl, hg5, cx⟩ := IsAt.get hxa hxk
                have cx' := keep BW7.out hg5 cx
                have v1 : ¬ ((nx : Int) ≤ (k1 : Int) + 1) := by omega
                have v2 : decide ((nx : Int) ≤ (k1 : Int) + 1) = false := decide_eq_false v1
                have v3 : (k1 : Int) + 1 < (nx : Int) := by omega
                have v4 : ¬ nx ≤ k1 + 1 := by omega
                have v5 : decide (nx ≤ k1 + 1) = false := decide_eq_false v4
                clear hxa hxk cx hkx
                go_wp2_with fail
                go_roundw
                case rel => exact ⟨k1 + 1 + 1, by omega, by go_num, BW7⟩
                case measure => simp [intOf]; omega
              · obtain ⟨ya', yc', ey, _, hya, _⟩ := Y6.out
                cases ey
                obtain ⟨g5, o5, rfl, hg5, cy⟩ := IsAt.get hya hyk
                have cy' := keep BW7.out hg5 cy
                have hmy : m < ny := by rw [HNY.out]; exact (List.getElem?_eq_some_iff.1 hyk).1
                have v1 : (nx : Int) ≤ (k1 : Int) + 1 := by omega
                have v2 : decide ((nx : Int) ≤ (k1 : Int) + 1) = true := decide_eq_true v1
                have v4 : nx ≤ k1 + 1 := by omega
                have v5 : decide (nx ≤ k1 + 1) = true := decide_eq_true v4
                have v6 : IntKind.i64.wrap ((k1 : Int) + 1 - (nx : Int)) = (m : Int) := by rw [show (k1 : Int) + 1 - (nx : Int) = (m : Int) by omega]; exact IntWalk.i64_in _ (by omega)
                have v7 : IntKind.i64.wrap (c + (s.size : Int)) = c + (s.size : Int) := IntWalk.i64_in _ (by omega)
                have v8 : IntKind.i64.wrap (c + (s.size : Int) + 1) = (jj : Int) := by rw [show c + (s.size : Int) + 1 = (jj : Int) by omega]; exact IntWalk.i64_in _ (by omega)
                have v9 : (0 : Int) ≤ (m : Int) := by omega
                have v10 : (m : Int) < (ny : Int) := by omega
                clear hya hyk cy hce hm
                go_wp2_with fail
                go_roundw
                case rel => exact ⟨k1 + 1 + 1, by omega, by go_num, BW7⟩
                case measure => simp [intOf]; omega
          · obtain rfl : k = nx + ny := by omega
            have t2 : ¬ (((nx + ny : Nat) : Int) < (nx : Int) + (ny : Int)) := by omega
            go_wp2_with fail
            go_roundw
            case rel => exact ⟨1, by omega, by go_num, Lib.hid (bstep B6.out HW.out)⟩
            case measure => simp [intOf]; omega
      · subst hz
        have r3 : IntKind.i64.wrap ((j : Int) + 1 - 1) = (j : Int) := by rw [show (j : Int) + 1 - 1 = (j : Int) by omega]; exact IntWalk.i64_in _ (by omega)
        have r4 : IntKind.i64.wrap (j : Int) = (j : Int) := IntWalk.i64_in _ (by omega)
        have p3 : (0 : Int) < (j : Int) + 1 := by omega
        have p4 : (0 : Int) ≤ (j : Int) := by omega
        have p5 : (j : Int) < (N : Int) := by omega
        go_wp2_with fail
        go_quiet (fail)
        obtain ⟨w6, hw6⟩ : ∃ w6, w6 = w5.drewN nq := ⟨_, rfl⟩
        have BQ : Below w5.heap.size w5 w6 := by rw [hw6]; exact bdrewN (Below.refl _ _) _
        rw [← hw6]
        have c60 := keep BQ (block_lt c50) c50
        have c61 := keep BQ (block_lt c51) c51
        have X6 := Lib.hid (X5.out.next BQ)
        have Y6 := Lib.hid (Y5.out.next BQ)
        have B6 := Lib.hid (bstep B5.out BQ)
        have A6 := Lib.hid (SlAt.next HUA.out B6.out)
        clear BQ hw6 c50 c51 X5 Y5 B5 cq hless PRV5
        go_wp2_with fail
        go_loopw [18] (fun vk wk => ∃ k : Nat, k ≤ nx + ny ∧ vk = .int .i64 (k : Int) ∧ Hid (Below w6.heap.size w6 wk)) (fun vk _ => nx + ny - (intOf vk).toNat)
        case atStart => exact ⟨0, by omega, rfl, Lib.hid (Below.refl _ _)⟩
        case round =>
          obtain ⟨k, hk, rfl, HW⟩ := hrel
          have d0 := keep HW.out (block_lt c60) c60
          have d1 := keep HW.out (block_lt c61) c61
          by_cases hkl : k < nx + ny
          · have hkp : k < p.2.length := by rw [HNN.out]; exact hkl
            obtain ⟨a, hka⟩ : ∃ a, p.2[k]? = some a := ⟨p.2[k], by simp [hkp]⟩
            obtain ⟨g3, o3, rfl, hg3, ca⟩ := IsAt.get A6.out hka
            obtain ⟨jj, rfl, hj1, hj2⟩ := HAT.out k a hka
            have ca' := keep HW.out hg3 ca
            have HE := EXT.out jj hj2
            rw [LEN1.out, HZU.out] at hj1
            have hzl : z.size ≤ 121 := by have := HUS.out; omega
            have s1 : IntKind.i64.wrap ((jj : Int) + (y.size : Int)) = (jj : Int) + (y.size : Int) := IntWalk.i64_in _ (by omega)
            have s2 : (jj : Int) + (y.size : Int) ≤ (z.size : Int) := by omega
            have s3 : (0 : Int) ≤ (jj : Int) := by omega
            have s4 : (jj : Int) ≤ (jj : Int) + (y.size : Int) := by omega
            have s5 : decide ((z.size : Int) < (jj : Int) + (y.size : Int)) = false := decide_eq_false (by omega)
            have s6 : ¬ ((z.size : Int) < (jj : Int) + (y.size : Int)) := by omega
            have s7 : decide (z.size < jj + y.size) = false := decide_eq_false (by omega)
            have s8 : ¬ (z.size < jj + y.size) := by omega
            have t1 : (0 : Int) ≤ (k : Int) := by omega
            have t2 : (k : Int) < (nx : Int) + (ny : Int) := by omega
            have t3 : IntKind.i64.wrap ((k : Int) + 1) = (k : Int) + 1 := IntWalk.i64_in _ (by omega)
            have s9 : decide ((jj : Int) < 0) = false := decide_eq_false (by omega)
            have s10 : ¬ ((jj : Int) < 0) := by omega
            have PV : Hid (k = 0 ∨ ∃ k1 b, k = k1 + 1 ∧ wr.cell? ⟨g3, o3 + k1, none⟩ = some (.int .i64 b) ∧ b < (jj : Int)) := Lib.hid (by
              by_cases hz : k = 0
              · exact .inl hz
              · right
                obtain ⟨k1, rfl⟩ : ∃ k1, k = k1 + 1 := ⟨k - 1, by omega⟩
                have hk1 : k1 < p.2.length := by omega
                obtain ⟨b, hkb⟩ : ∃ b, p.2[k1]? = some b := ⟨p.2[k1], by simp [hk1]⟩
                obtain ⟨g4, o4, e4, hg4, cb⟩ := IsAt.get A6.out hkb
                simp only [Option.some.injEq, Addr.mk.injEq, and_true] at e4
                obtain ⟨rfl, rfl⟩ := e4
                exact ⟨k1, b, rfl, keep HW.out hg4 cb, HRI.out k1 _ b hkb hka⟩)
            have WH : Hid ((k < nx ∧ xs[k]? = some (jj : Int)) ∨ ∃ m c, k = nx + m ∧ ys[m]? = some c ∧ c + ((s.size : Int) + 1) = (jj : Int)) := Lib.hid (by
              have h := hka
              rw [HPL.out] at h
              by_cases hkx : k < nx
              · left
                rw [List.getElem?_append_left (by rw [← HNX.out]; exact hkx)] at h
                exact ⟨hkx, h⟩
              · right
                rw [List.getElem?_append_right (by rw [← HNX.out]; omega), ← HNX.out, List.getElem?_map] at h
                obtain ⟨m, rfl⟩ : ∃ m, k = nx + m := ⟨k - nx, by omega⟩
                rw [Nat.add_sub_cancel_left] at h
                cases hm : ys[m]? with
                | none => rw [hm] at h; cases h
                | some c =>
                  rw [hm] at h
                  simp only [Option.map_some, Option.some.injEq] at h
                  exact ⟨m, c, rfl, hm ▸ rfl, h⟩)
            clear hj1 hj2 hka hkp ca
            rcases PV.out with hz | ⟨k1, b, hz, cb, hlt1⟩
            · subst hz
              have ca0 : wr.cell? ⟨g3, o3, none⟩ = some (.int .i64 (jj : Int)) := ca'
              go_wp2_with fail
              go_quiet (fail)
              obtain ⟨w7, hw7⟩ : ∃ w7, w7 = wr.drewN nq := ⟨_, rfl⟩
              have BR : Below wr.heap.size wr w7 := by rw [hw7]; exact bdrewN (Below.refl _ _) _
              rw [← hw7]
              have BW7 := Lib.hid (bstep HW.out BR)
              clear hw7 BR
              rcases WH.out with ⟨hkx, hxk⟩ | ⟨m, c, hm, hyk, hce⟩
              · obtain ⟨xa', xc', ex, _, hxa, _⟩ := X6.out
                cases ex
                obtain ⟨g5, o5, rfl, hg5, cx⟩ := IsAt.get hxa hxk
                have cx' := keep BW7.out hg5 cx
                have v1 : ¬ ((nx : Int) ≤ 0) := by omega
                have v2 : decide ((nx : Int) ≤ 0) = false := decide_eq_false v1
                have v3 : (0 : Int) < (nx : Int) := by omega
                have v4 : ¬ nx ≤ 0 := by omega
                have v5 : decide (nx ≤ 0) = false := decide_eq_false v4
                have v6 : ¬ nx = 0 := by omega
                have v7 : decide (nx = 0) = false := decide_eq_false v6
                have v8 : 0 < nx := by omega
                have cx0 : w7.cell? ⟨g5, o5, none⟩ = some (.int .i64 (jj : Int)) := cx'
                clear hxa hxk cx hkx
                go_wp2_with fail
                go_roundw
                case rel => exact ⟨1, by omega, by go_num, BW7⟩
                case measure => simp [intOf]; omega
              · obtain ⟨ya', yc', ey, _, hya, _⟩ := Y6.out
                cases ey
                obtain ⟨g5, o5, rfl, hg5, cy⟩ := IsAt.get hya hyk
                have cy' := keep BW7.out hg5 cy
                have hmy : m < ny := by rw [HNY.out]; exact (List.getElem?_eq_some_iff.1 hyk).1
                obtain rfl : m = 0 := by omega
                obtain rfl : nx = 0 := by omega
                have v7 : IntKind.i64.wrap (c + (s.size : Int)) = c + (s.size : Int) := IntWalk.i64_in _ (by omega)
                have v8 : IntKind.i64.wrap (c + (s.size : Int) + 1) = (jj : Int) := by rw [show c + (s.size : Int) + 1 = (jj : Int) by omega]; exact IntWalk.i64_in _ (by omega)
                have v9 : (0 : Int) < (ny : Int) := by omega
                have v10 : IntKind.i64.wrap (0 : Int) = 0 := rfl
                have cy0 : w7.cell? ⟨g5, o5, none⟩ = some (.int .i64 c) := cy'
                clear hya hyk cy hce hm
                go_wp2_with fail
                go_roundw
                case rel => exact ⟨1, by omega, by go_num, BW7⟩
                case measure => simp [intOf]; omega
            · subst hz
              have u1 : IntKind.i64.wrap ((k1 : Int) + 1 - 1) = (k1 : Int) := by rw [show (k1 : Int) + 1 - 1 = (k1 : Int) by omega]; exact IntWalk.i64_in _ (by omega)
              have u2 : IntKind.i64.wrap (k1 : Int) = (k1 : Int) := IntWalk.i64_in _ (by omega)
              have u3 : (0 : Int) < (k1 : Int) + 1 := by omega
              have u4 : (0 : Int) ≤ (k1 : Int) := by omega
              have u5 : (k1 : Int) < (nx : Int) + (ny : Int) := by omega
              have u6 : decide ((jj : Int) ≤ b) = false := decide_eq_false (by omega)
              have u7 : ¬ ((jj : Int) ≤ b) := by omega
              go_wp2_with fail
              go_quiet (fail)
              obtain ⟨w7, hw7⟩ : ∃ w7, w7 = wr.drewN nq := ⟨_, rfl⟩
              have BR : Below wr.heap.size wr w7 := by rw [hw7]; exact bdrewN (Below.refl _ _) _
              rw [← hw7]
              have BW7 := Lib.hid (bstep HW.out BR)
              clear hw7 BR
              rcases WH.out with ⟨hkx, hxk⟩ | ⟨m, c, hm, hyk, hce⟩
              · obtain ⟨xa', xc', ex, _, hxa, _⟩ := X6.out
                cases ex
                obtain ⟨g5, o5, rfl, hg5, cx⟩ := IsAt.get hxa hxk
                have cx' := keep BW7.out hg5 cx
                have v1 : ¬ ((nx : Int) ≤ (k1 : Int) + 1) := by omega
                have v2 : decide ((nx : Int) ≤ (k1 : Int) + 1) = false := decide_eq_false v1
                have v3 : (k1 : Int) + 1 < (nx : Int) := by omega
                have v4 : ¬ nx ≤ k1 + 1 := by omega
                have v5 : decide (nx ≤ k1 + 1) = false := decide_eq_false v4
                clear hxa hxk cx hkx
                go_wp2_with fail
                go_roundw
                case rel => exact ⟨k1 + 1 + 1, by omega, by go_num, BW7⟩
                case measure => simp [intOf]; omega
              · obtain ⟨ya', yc', ey, _, hya, _⟩ := Y6.out
                cases ey
                obtain ⟨g5, o5, rfl, hg5, cy⟩ := IsAt.get hya hyk
                have cy' := keep BW7.out hg5 cy
                have hmy : m < ny := by rw [HNY.out]; exact (List.getElem?_eq_some_iff.1 hyk).1
                have v1 : (nx : Int) ≤ (k1 : Int) + 1 := by omega
                have v2 : decide ((nx : Int) ≤ (k1 : Int) + 1) = true := decide_eq_true v1
                have v4 : nx ≤ k1 + 1 := by omega
                have v5 : decide (nx ≤ k1 + 1) = true := decide_eq_true v4
                have v6 : IntKind.i64.wrap ((k1 : Int) + 1 - (nx : Int)) = (m : Int) := by rw [show (k1 : Int) + 1 - (nx : Int) = (m : Int) by omega]; exact IntWalk.i64_in _ (by omega)
                have v7 : IntKind.i64.wrap (c + (s.size : Int)) = c + (s.size : Int) := IntWalk.i64_in _ (by omega)
                have v8 : IntKind.i64.wrap (c + (s.size : Int) + 1) = (jj : Int) := by rw [show c + (s.size : Int) + 1 = (jj : Int) by omega]; exact IntWalk.i64_in _ (by omega)
                have v9 : (0 : Int) ≤ (m : Int) := by omega
                have v10 : (m : Int) < (ny : Int) := by omega
                clear hya hyk cy hce hm
                go_wp2_with fail
                go_roundw
                case rel => exact ⟨k1 + 1 + 1, by omega, by go_num, BW7⟩
                case measure => simp [intOf]; omega
          · obtain rfl : k = nx + ny := by omega
            have t2 : ¬ (((nx + ny : Nat) : Int) < (nx : Int) + (ny : Int)) := by omega
            go_wp2_with fail
            go_roundw
            case rel => exact ⟨j + 1 + 1, by omega, by go_num, Lib.hid (bstep B6.out HW.out)⟩
            case measure => simp [intOf]; omega
    · go_wp2_with fail
      go_ret
      exact ⟨rfl, bstep B2.out HK.out⟩
end Go.Proofs.Ytedlgobpoifnfaa.WordK
