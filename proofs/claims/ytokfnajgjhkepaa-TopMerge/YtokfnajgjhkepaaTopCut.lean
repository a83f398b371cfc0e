/-
  fustiantop.cutText: the lines of a text (as the document's cutLines).
-/
import Derived.Test.YtokfnajgjhkepaaBnd2
import Derived.Test.YtokfnajgjhkepaaChecked
import Derived.Lib.Strings
import Derived.Lib.Slices
import Derived.OwnWalk
import Derived.Deep.Onto
import Derived.WalkSpells
import Derived.Deep.AppendLies
import Derived.Maps.AppendAt
namespace Go.Proofs.Ytokfnajgjhkepaa.TopCut
open Go.RowKit PosM LinesM Kit

def strV (l : List UInt8) : Value := .string ⟨l.toArray⟩
theorem infoStr : (Try.prog.info? 9).map (fun i => (i.zero, i.size, i.bytes)) = some (some (.string ⟨#[]⟩), 1, 16) := by kernel_rfl

theorem byte_ne {c : UInt8} (h : ¬ c = 10) : ((c.toNat : Int) == 10) = false := by
  have : c.toNat ≠ 10 := fun e => h (UInt8.toNat_inj.1 (by simpa using e))
  simp; omega

theorem take_snoc (s : ByteArray) (k : Nat) (h : k < s.size) : s.data.toList.take (k + 1) = s.data.toList.take k ++ [s[k]] := by
  rw [List.take_succ_eq_append_getElem (by simpa using h)]; rfl
theorem lines_le (l : List UInt8) : (cut l).length ≤ l.length + 1 := by
  rw [cut_length]; have := lns_col_le l; omega

theorem more_str (z : List UInt8) (s : ByteArray) (k : Nat) (h : k < s.size) : (⟨z.toArray⟩ : ByteArray) ++ s.extract k (k + 1) = ⟨(z ++ [s[k]]).toArray⟩ := by
  apply ByteArray.ext
  have e : (s.extract k (k + 1)).data.toList = [s[k]] := by
    rw [Lib.extract_data, List.drop_eq_getElem_cons (by simpa using h)]
    simp
    rfl
  apply Array.toList_inj.1
  rw [ByteArray.data_append, Array.toList_append, e]

set_option maxHeartbeats 1000000 in
theorem cutText (s : ByteArray) (w : World) (hs : s.size ≤ 600) :
    Calls Try.prog 18 #[.string s] w fun e w' => ∃ v, e = .returned v ∧ w'.ownsRow w.heap.size 9 1 v (cut s.data.toList).length ((cut s.data.toList).map strV) ∧ Below w.heap.size w w' := by
  obtain ⟨i0, hi, hz0, hz1, hz2⟩ := info_parts infoStr
  have HI := Lib.hid (And.intro hi (And.intro hz0 (And.intro hz1 hz2)))
  clear hi hz0 hz1 hz2
  go_enter Try.func18, Try.ntmps18
  go_wp2
  go_loopw [3, 4] (fun o i wr => ∃ k : Nat, k ≤ s.size ∧ i = .int .i64 k ∧ wr.ownsRow w.heap.size 9 1 o (cut (s.data.toList.take k)).length ((cut (s.data.toList.take k)).map strV) ∧ Below w.heap.size w wr) (fun _ i _ => s.size - (intOf i).toNat)
  case atStart => exact ⟨0, Nat.zero_le _, rfl, World.ownsRow_lit w #[.string ⟨#[]⟩] 1 (Nat.le_refl _) (by unfold maxLen; decide) rfl, (Below.refl _ _).alloc (Nat.le_refl _) _⟩
  case round =>
    obtain ⟨k, hk, rfl, hrow, hB⟩ := hrel
    by_cases hlt : k < s.size
    · have hts := take_snoc s k hlt
      have hll := lines_le (s.data.toList.take k)
      rw [List.length_take] at hll
      by_cases hc : s[k] = 10
      · have hb : ((s[k].toNat : Int) == 10) = true := by rw [hc]; rfl
        rw [hc] at hts
        have E := Lib.hid (show cut (s.data.toList.take (k + 1)) = cut (s.data.toList.take k) ++ [[]] by rw [hts, cut_snoc_feed])
        clear hts hc
        generalize cut (s.data.toList.take k) = L at *
        have hsz := hB.size
        have HROW := Lib.hid hrow
        have HBB := Lib.hid hB
        clear hrow hB
        go_wp2_with (at_builtin; refine wpList_append_lies _ rfl _ _ 22 rfl w.heap.size 9 i0 _ 1 16 Try.underlying22 HI.out.1 HI.out.2.1 HI.out.2.2.1 HI.out.2.2.2 rfl (by decide) _ L.length (L.map strV) rfl (HROW.out.alloc _) ⟨wr.heap.size, 0, none⟩ 1 1 [.string ⟨#[]⟩] rfl rfl (cell_one_new _ _ _) (by simp [Value.oneCell']) (by omega) (by unfold maxLen; omega) (by omega) (by simp; omega) _ rfl ?_; intro g cap w1 hown1 hgrow1 _ _)
        refine ⟨⟨k + 1, by omega, by go_num, ?_, bgrow (balloc HBB.out _) (HROW.out.alloc _) hgrow1⟩, by simp [intOf]; omega⟩
        rw [E.out, List.length_append, List.map_append]
        exact hown1
      · have hb : ((s[k].toNat : Int) == 10) = false := byte_ne hc
        obtain ⟨I, z, e1, e2⟩ := cut_snoc_other (s.data.toList.take k)
        have e3 := e2 s[k] hc
        rw [← hts] at e3
        have E := Lib.hid e3
        have hzl : z.length ≤ 600 := by
          have := cut_small (s.data.toList.take k) z (by rw [e1]; simp)
          rw [List.length_take] at this
          omega
        rw [e1] at hrow hll
        have ES := Lib.hid (more_str z s k hlt)
        clear hts hc e1 e2 e3
        rw [List.length_append, List.length_singleton, List.map_append, List.map_singleton] at hrow
        rw [List.length_append, List.length_singleton] at hll
        obtain ⟨g, cap, rfl, _, hg⟩ := hrow.form (by omega)
        have c0 := hrow.cellAt I.length (by omega)
        have c1 : wr.cell? ⟨g, I.length, none⟩ = some (strV z) := by rw [c0]; simp
        clear c0
        have c2 := hrow.frozenAt I.length
        obtain ⟨hst, hgr⟩ := hrow.stored I.length (strV (z ++ [s[k]]))
        have hB2 := bgrow hB hrow hgr
        have FIN := Lib.hid (And.intro hst hB2)
        clear hst hgr hB2 hrow hB
        unfold strV at c1
        have g0 : (⟨z.toArray⟩ : ByteArray).size = z.length := by simp [ByteArray.size]
        have g1 : (s.extract k (k + 1)).size = 1 := by rw [ByteArray.size_extract]; omega
        have G0 := Lib.hid g0
        have g2 : (⟨z.toArray⟩ : ByteArray).size ≤ 600 := by omega
        clear g0
        generalize (⟨z.toArray⟩ : ByteArray) = zb at *
        have n1 : k + 1 ≤ s.size := by omega
        have n2 : (k : Int) + 1 ≤ (s.size : Int) := by omega
        have n3 : (0 : Int) ≤ (k : Int) + 1 := by omega
        have n4 : ((k : Int) + 1).toNat = k + 1 := by omega
        go_wp2
        go_region
        go_wp2
        refine ⟨⟨k + 1, by omega, by go_num, ?_, ?_⟩, by simp [intOf]; omega⟩
        · rw [ES.out, E.out, List.length_append, List.length_singleton]
          have := FIN.out.1
          rw [List.set_append_right _ _ (by simp)] at this
          simp at this ⊢
          exact this
        · rw [ES.out]
          exact FIN.out.2.drew
    · have e1 : s.data.toList.take k = s.data.toList := List.take_of_length_le (by simp; omega)
      rw [e1] at hrow
      have FIN := Lib.hid (And.intro hrow hB)
      clear hrow hB e1
      go_wp2
      go_ret
      exact ⟨_, rfl, FIN.out⟩

end Go.Proofs.Ytokfnajgjhkepaa.TopCut
