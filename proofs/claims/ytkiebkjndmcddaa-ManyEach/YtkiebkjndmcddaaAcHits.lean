/-
  Package find: hits.
-/
import Derived.Test.YtkiebkjndmcddaaAcBuild
import Derived.Test.YtkiebkjndmcddaaAcHitM
import Derived.Test.YtkiebkjndmcddaaHitAt
import Derived.Deep.AppendLies
namespace Go.Proofs.Ytkiebkjndmcddaa.AcM
open Go.RowKit Go.Maps Kit FindM LineM HistM StrM FindP EditM HitM

theorem hits_new (w : World) (x0 x1 : Value) (t : TypeId) : ∀ j u, [x0, x1][j]? = some u → (w.alloc (.cells #[x0, x1] t)).cell? ((⟨w.heap.size, 0, none⟩ : Addr).add j) = some u := cells_new3 w [x0, x1] t
theorem MacAt.cells {B : Nat} {w : World} {g off n cap : Nat} {ps : List (List UInt8)} {ss : List St} (h : MacAt B w (.slice (some ⟨g, off, none⟩) n cap) ps ss) {s : Nat} {st : St} (hs : ss[s]? = some st) : g < w.heap.size ∧ w.cell? ⟨g, off + s * 3 + 1, none⟩ = some (.int .i64 (st.sf : Int)) ∧ w.cell? ⟨g, off + s * 3 + 2, none⟩ = some (.int .i64 st.fi) := by
  obtain ⟨g', off', cap', e, hg, hc⟩ := h.form
  cases e
  exact ⟨hg, (hc s st hs).2⟩
set_option maxRecDepth 100000 in
set_option maxHeartbeats 8000000 in
theorem hits (t : ByteArray) (al : Option Addr) (cap : Nat) (l : List ByteArray) (w : World) (hl : StAt w al l) (ht : t.size ≤ 600) (hn : l.length ≤ 20) (hs : ∀ s ∈ l, s.size ≤ 20) (hd : (plain l).Nodup) :
    Calls Try.prog 32 #[.string t, .slice al l.length cap] w (fun e w' => ∃ v', e = .returned v' ∧ HK w (many t.data.toList (plain l)) v' w') := by
  obtain ⟨i0, hi, hz0, hz1, hz2⟩ := info_parts infoHit
  have HI := Lib.hid (And.intro hi (And.intro hz0 (And.intro hz1 hz2)))
  clear hi hz0 hz1 hz2
  have HL := Lib.hid hl
  have HD := Lib.hid hd
  have BU := Lib.hid (build al cap l w hl hn hs)
  obtain ⟨n, hln⟩ : ∃ n, l.length = n := ⟨_, rfl⟩
  have HPL : Hid ((plain l).length = n) := Lib.hid (by rw [plain_len, hln])
  have HLN := Lib.hid hln
  have HLT := Lib.hid (size_list t)
  rw [hln] at hn BU ⊢
  clear hl hln hs hd
  go_enter Try.func32, Try.ntmps32
  go_wp2_with fail
  refine BU.out.mono ?_
  rintro e w1 ⟨vm, ps, ss, rfl, hmac, hb1, hfs, hkn, hps, h20⟩
  rw [HPL.out] at hfs
  have HM := Lib.hid hmac
  have HB1 := Lib.hid hb1
  have HFS := Lib.hid hfs
  have HKN := Lib.hid hkn
  have H20 := Lib.hid h20
  obtain ⟨g, off, mcap, rfl, _, _⟩ := hmac.form
  have HML : Hid (ss.length = ps.length) := Lib.hid hmac.len
  generalize ss.length = N at *
  clear hmac hb1 hfs hkn h20 BU
  go_wp2_with fail
  go_loopw [5, 7, 15] (fun vo va vi wr => ∃ k a : Nat, k ≤ t.size ∧ vi = .int .i64 (k : Int) ∧ va = .int .i64 (a : Int) ∧ Hid (Long ps (Suf (t.data.toList.take k)) a) ∧ Hid (HK w1 (manyTo t.data.toList (plain l) k) vo wr)) (fun _ _ vi _ => t.size - (intOf vi).toNat)
  case atStart => exact ⟨0, 0, by omega, rfl, rfl, Lib.hid (long_root HM.out.trie), Lib.hid (HK.nil (Below.refl _ _))⟩
  case round =>
    obtain ⟨k, a, hk, rfl, rfl, HA, HK0⟩ := hrel
    by_cases hlt : k < t.size
    · have u0 : (0 : Int) ≤ (k : Int) := by omega
      have u1 : (k : Int) < (t.size : Int) := by omega
      have r1 : IntKind.i64.wrap ((k : Int) + 1) = (k : Int) + 1 := IntWalk.i64_in _ (by omega)
      have HT : Hid (t.data.toList.take (k + 1) = t.data.toList.take k ++ [t[k]]) := Lib.hid (by rw [List.take_add_one, sget t k hlt]; rfl)
      have ST := Lib.hid (step (HM.out.next HK0.out.bel) HA.out t[k])
      rw [← HT.out] at ST
      clear HA HT
      go_wp2_with (go_at_call 38; refine ST.out.mono ?_; rintro e wx ⟨b, rfl, hlong, rfl⟩; have HBL := Lib.hid hlong; clear hlong ST)
      go_loopw [5, 9] (fun vo vs wx => ∃ s : Nat, vs = .int .i64 (s : Int) ∧ s < ps.length ∧ Hid (sq ps s <:+ t.data.toList.take (k + 1)) ∧ Hid (HK w1 (manyTo t.data.toList (plain l) k ++ rowL t.data.toList (plain l) (k + 1) (20 - (sq ps s).length)) vo wx)) (fun _ vs _ => (sq ps (intOf vs).toNat).length)
      case atStart =>
        refine ⟨b, rfl, HBL.out.lt, Lib.hid HBL.out.is, Lib.hid ?_⟩
        rw [row_start (by rw [HPL.out]; exact HFS.out) HBL.out, List.append_nil]
        exact HK0.out
      case round =>
        obtain ⟨s, rfl, hs, HSU, HK1⟩ := hrel
        clear HK0
        by_cases hs0 : s = 0
        · subst hs0
          have HNX : Hid (HK w1 (manyTo t.data.toList (plain l) (k + 1)) u5 wr) := Lib.hid (by
            have := HK1.out
            rw [HM.out.trie.sq0] at this
            rw [manyTo_succ]
            exact this)
          have HBI := Lib.hid HBL.out
          clear HK1 HSU HM HKN HL
          go_wp2_with fail
          go_roundw
          case rel => exact ⟨k + 1, b, by omega, by go_num, rfl, HBI, HNX⟩
          case measure => simp [intOf]; omega
        · have HMX := Lib.hid (HM.out.next HK1.out.bel)
          obtain ⟨st, hst⟩ := HMX.out.get hs
          obtain ⟨hgl, c1, c2⟩ := HMX.out.cells hst
          have hsl : Hid (Long ps (PSuf (sq ps s)) st.sf) := Lib.hid (HMX.out.suf s st hst (by omega))
          have hsflt := hsl.out.lt
          have hmeas : (sq ps st.sf).length < (sq ps s).length := hsl.out.is.2
          have HSU2 : Hid (sq ps st.sf <:+ t.data.toList.take (k + 1)) := Lib.hid (List.IsSuffix.trans hsl.out.is.1 HSU.out)
          have hL20 := H20.out _ (sq_mem hs)
          have v0 : (0 : Int) ≤ (s : Int) := by omega
          have v1 : (s : Int) < (N : Int) := by have := HML.out; omega
          have q1 : ((s : Int) != 0) = true := by rw [bne_iff_ne]; omega
          have q2 : ¬ (s : Int) = 0 := by omega
          rcases HKN.out s st hst with ⟨hfi, hnone⟩ | ⟨jj, hj, hfi, hjs⟩
          · have HNX : Hid (HK w1 (manyTo t.data.toList (plain l) k ++ rowL t.data.toList (plain l) (k + 1) (20 - (sq ps st.sf).length)) u5 wr) := Lib.hid (by
              rw [row_none (by rw [HPL.out]; exact HFS.out) hL20 HSU.out hsl.out hnone]
              exact HK1.out)
            rw [hfi] at c2
            clear HK1 HSU HM HKN HL HMX hst hnone hfi HFS hsl
            go_wp2_with fail
            go_roundw
            case rel => exact ⟨st.sf, rfl, hsflt, HSU2, HNX⟩
            case measure => simp [intOf]; omega
          · have hjl : jj < l.length := by rw [HLN.out]; rw [HPL.out] at hj; exact hj
            obtain ⟨sj, hsj⟩ : ∃ sj, l[jj]? = some sj := ⟨l[jj]'hjl, List.getElem?_eq_getElem hjl⟩
            have hpj : sj.data.toList = sq ps s := by rw [← plain_get hsj]; exact hjs
            have hsz : sj.size = (sq ps s).length := by rw [← hpj, size_list]
            obtain ⟨g2, off2, rfl, hg2, c4⟩ := StAt.get (HL.out.next (bstep HB1.out HK1.out.bel)) hsj
            have hLk : (sq ps s).length ≤ k + 1 := by
              have := HSU.out.length_le
              rw [List.length_take, HLT.out] at this
              omega
            have HRW := Lib.hid (row_some (by rw [HPL.out]; exact HFS.out) HD.out hL20 (by rw [HLT.out]; omega) HSU.out hsl.out hj hjs)
            rw [← hsz] at HRW hLk
            have hlen : (manyTo t.data.toList (plain l) k ++ rowL t.data.toList (plain l) (k + 1) (20 - (sq ps s).length)).length ≤ 300000 := by
              have h1 := manyTo_len t.data.toList (plain l) (by rw [HPL.out]; exact hn) k
              have h2 := rowL_len t.data.toList (plain l) (k + 1) (by rw [HPL.out]; exact hn) (20 - (sq ps s).length)
              rw [List.length_append]; omega
            rw [← hsz] at hlen HK1
            rw [hfi] at c2
            have w0 : (0 : Int) ≤ (jj : Int) := by omega
            have w2 : (jj : Int) < (n : Int) := by rw [HPL.out] at hj; omega
            have q3 : ((jj : Int) != -1) = true := by rw [bne_iff_ne]; omega
            have r2 : IntKind.i64.wrap ((k : Int) + 1 - (sj.size : Int)) = ((k + 1 - sj.size : Nat) : Int) := by rw [show (k : Int) + 1 - (sj.size : Int) = ((k + 1 - sj.size : Nat) : Int) by omega]; exact IntWalk.i64_in _ (by omega)
            have HXL : Hid (manyTo t.data.toList (plain l) k ++ rowL t.data.toList (plain l) (k + 1) (20 - (sq ps st.sf).length) = (manyTo t.data.toList (plain l) k ++ rowL t.data.toList (plain l) (k + 1) (20 - sj.size)) ++ [(k + 1 - sj.size, jj)]) := Lib.hid (by rw [HRW.out, List.append_assoc])
            have HMK : Hid (∀ W, Below w1.heap.size w1 W → g < W.heap.size ∧ W.cell? ⟨g, off + s * 3 + 1, none⟩ = some (.int .i64 (st.sf : Int))) := Lib.hid (fun W hW => ⟨((HM.out.next hW).cells hst).1, ((HM.out.next hW).cells hst).2.1⟩)
            clear HRW HSU HM HKN HL HMX hst hfi HFS hsl hpj hjs hj hsj hsz
            generalize manyTo t.data.toList (plain l) k ++ rowL t.data.toList (plain l) (k + 1) (20 - sj.size) = X at *
            have hbz := HK1.out.bel.size
            have HROW := Lib.hid HK1.out.row
            have HNEW := Lib.hid (hits_new wr (.int .i64 ((k + 1 - sj.size : Nat) : Int)) (.int .i64 (jj : Int)) 38)
            go_wp2_with (at_builtin; refine wpList_append_lies _ rfl _ _ 34 rfl w1.heap.size 38 i0 _ 2 16 Try.underlying34 HI.out.1 HI.out.2.1 HI.out.2.2.1 HI.out.2.2.2 rfl (by decide) _ X.length (flatC hc X) rfl (HROW.out.alloc _) ⟨wr.heap.size, 0, none⟩ 1 1 [.int .i64 ((k + 1 - sj.size : Nat) : Int), .int .i64 (jj : Int)] rfl rfl HNEW.out (by simp [Value.oneCell']) (by omega) (by unfold maxLen; omega) (by omega) (by simp; omega) _ rfl ?_; intro g4 cap4 w4 hown4 hgrow4 _ _; have HB4 := Lib.hid (bgrow (balloc HK1.out.bel _) (HROW.out.alloc _) hgrow4); obtain ⟨d0, d1⟩ := HMK.out w4 HB4.out; have HK4 : Hid (HK w1 (X ++ [(k + 1 - sj.size, jj)]) (.slice (some ⟨g4, 0, none⟩) (X.length + 1) cap4) w4) := Lib.hid ⟨by rw [List.length_append, flatC_append]; exact hown4, HB4.out⟩; clear hown4 hgrow4)
            go_roundw
            case rel => exact ⟨st.sf, rfl, hsflt, HSU2, Lib.hid (by rw [HXL.out]; exact HK4.out)⟩
            case measure => simp [intOf]; omega
    · have u1 : ¬ (k : Int) < (t.size : Int) := by omega
      have e1 : k = t.data.toList.length := by rw [HLT.out]; omega
      rw [e1] at HK0
      clear e1
      go_wp2_with fail
      go_ret
      exact ⟨_, rfl, HK0.out.rebase HB1.out⟩
end Go.Proofs.Ytkiebkjndmcddaa.AcM
