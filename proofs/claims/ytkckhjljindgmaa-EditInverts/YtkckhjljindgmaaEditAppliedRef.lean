/-
  The document's answers: EditApplied, EditApply.
-/
import Derived.Test.YtkckhjljindgmaaEditAt
import Derived.Test.YtkckhjljindgmaaEditFaultRef
import Derived.Test.YtkckhjljindgmaaEditMadeRef
import Derived.Test.YtkckhjljindgmaaEditApply
import Derived.Deep.AppendLies
import Derived.Maps.AppendAt
namespace Go.Proofs.Ytkckhjljindgmaa.EditR
open Go.RowKit Kit EditM EditC

theorem infoStr : (Try.prog.info? 9).map (fun i => (i.zero, i.size, i.bytes)) = some (some (.string ⟨#[]⟩), 1, 16) := by kernel_rfl

set_option maxHeartbeats 1000000 in
theorem applied_long (t : ByteArray) (a : Option Addr) (n cap : Nat) (w : World) (h : 60 < n ∨ 600 < t.size) :
    Calls Try.prog 37 #[.string t, .slice a n cap] w fun e w' => e = .returned (.tuple #[.slice none 0 0, .int .i64 1]) ∧ w = w' := by
  by_cases h1 : 60 < n
  · clear h
    have g1 : decide ((60 : Int) < (n : Int)) = true := by simp; omega
    go_enter Try.func37, Try.ntmps37
    go_wp2_with fail
    go_ret2
    exact ⟨rfl, rfl⟩
  · have h2 : 600 < t.size := by omega
    clear h
    have g1 : decide ((60 : Int) < (n : Int)) = false := by simp; omega
    have g2 : decide ((600 : Int) < (t.size : Int)) = true := by simp; omega
    go_enter Try.func37, Try.ntmps37
    go_wp2_with fail
    go_ret2
    exact ⟨rfl, rfl⟩

/-- all texts behind the first k edits -/
def allT (l : List EdM) (t : Bs) (k : Nat) : List Value := (List.range (k + 1)).map fun j => .string (str (apT (l.take j) t))
theorem allT_len (l : List EdM) (t : Bs) (k : Nat) : (allT l t k).length = k + 1 := by simp [allT]
theorem allT_next (l : List EdM) (t : Bs) (k : Nat) : allT l t (k + 1) = allT l t k ++ [.string (str (apT (l.take (k + 1)) t))] := by
  unfold allT; rw [List.range_succ, List.map_append]; rfl
theorem allT_get (l : List EdM) (t : Bs) {k j : Nat} (h : j ≤ k) : (allT l t k)[j]? = some (.string (str (apT (l.take j) t))) := by
  unfold allT; rw [List.getElem?_map, List.getElem?_range (by omega)]; rfl
/-- what the loop keeps -/
structure ApA (w : World) (l : List EdM) (t : Bs) (k : Nat) (v : Value) (wr : World) : Prop where
  row : wr.ownsRow w.heap.size 9 1 v (k + 1) (allT l t k)
  bel : Below w.heap.size w wr
theorem ApA.next {w : World} {l : List EdM} {t : Bs} {k : Nat} {v : Value} {w1 w2 : World} (h : ApA w l t k v w1) (hb : Below w1.heap.size w1 w2) : ApA w l t k v w2 := ⟨row_next h.row hb, bstep h.bel hb⟩
theorem ApA.open {w : World} {l : List EdM} {t : Bs} {k : Nat} {v : Value} {w1 : World} (h : ApA w l t k v w1) : ∃ g cap, v = .slice (some ⟨g, 0, none⟩) (k + 1) cap ∧ g < w1.heap.size ∧ w1.cell? ⟨g, k, none⟩ = some (.string (str (apT (l.take k) t))) := by
  rcases h.row.2 with ⟨_, h0⟩ | ⟨g, cap, cur, e, hb, hg, _⟩
  · omega
  · have hlt := (h.row.lt g (by rw [e]; rfl)).2
    refine ⟨g, cap, e, hlt, ?_⟩
    have hr := h.row
    rw [e] at hr
    rw [hr.cellAt k (by omega), allT_get l t (Nat.le_refl k)]

def ApPost (w : World) (l : List EdM) (tl : Bs) (e : Ending) (w' : World) : Prop := ∃ v, e = .returned (.tuple #[v, .int .i64 (apC l tl)]) ∧ ((apC l tl = 0 ∧ Row w' v (allT l tl l.length)) ∨ (apC l tl ≠ 0 ∧ v = .slice none 0 0)) ∧ Below w.heap.size w w'

set_option maxRecDepth 100000 in
set_option maxHeartbeats 4000000 in
theorem applied (t : ByteArray) (l : List EdM) (al : Option Addr) (cap : Nat) (w : World) (hl : EdsAt w al l) (hok : ∀ e ∈ l, e.ok) (h60 : l.length ≤ 60) (ht : t.size ≤ 600) :
    Calls Try.prog 37 #[.string t, .slice al l.length cap] w (ApPost w l t.data.toList) := by
  have HL := Lib.hid hl
  have ht' : t.data.toList.length ≤ 600 := by rw [size_list]; exact ht
  have HS := Lib.hid (str_list t)
  generalize t.data.toList = tl at *
  obtain ⟨i0, hi, hz0, hz1, hz2⟩ := info_parts infoStr
  have HI := Lib.hid (And.intro hi (And.intro hz0 (And.intro hz1 hz2)))
  clear hi hz0 hz1 hz2
  obtain ⟨n, hn⟩ : ∃ n, l.length = n := ⟨_, rfl⟩
  have HN := Lib.hid hn
  rw [hn] at h60 ⊢
  clear hl hn
  have g1 : decide ((60 : Int) < (n : Int)) = false := by simp; omega
  have g2 : decide ((600 : Int) < (t.size : Int)) = false := by simp; omega
  have H0 : Hid (ApA w l tl 0 (.slice (some ⟨w.heap.size, 0, none⟩) 1 1) (w.alloc (.cells #[.string t] 9))) := Lib.hid ⟨by
    have e : allT l tl 0 = [.string t] := by simp [allT, apT, HS.out]
    rw [e]
    exact World.ownsRow_lit w (cs := #[.string t]) 1 (Nat.le_refl _) (by unfold maxLen; omega) rfl, balloc (Below.refl _ _) _⟩
  go_enter Try.func37, Try.ntmps37
  go_wp2_with fail
  go_loopw [6, 23] (fun v i wr => ∃ k : Nat, k ≤ n ∧ i = .int .i64 (k : Int) ∧ apC (l.take k) tl = 0 ∧ ApA w l tl k v wr) (fun _ i _ => n - (intOf i).toNat)
  case atStart => exact ⟨0, by omega, rfl, rfl, H0.out⟩
  case round =>
    obtain ⟨k, hk, rfl, hc0, hap⟩ := hrel
    clear H0
    have HC0 := Lib.hid hc0
    have HB := Lib.hid hap
    obtain ⟨g, cp, rfl, hg, hcell⟩ := hap.open
    have hsz : (str (apT (l.take k) tl)).size ≤ 600 := by rw [size_str]; exact apT_len hc0 ht'
    have HTL : Hid ((str (apT (l.take k) tl)).data.toList = apT (l.take k) tl) := Lib.hid (list_str _)
    have HSK : Hid (str (apT (l.take k) tl) = str (apT (l.take k) tl)) := Lib.hid rfl
    clear hc0 hap
    generalize hsk : str (apT (l.take k) tl) = sk at hcell hsz HTL
    clear hsk HSK
    by_cases hlt : k < n
    · obtain ⟨e, he⟩ : ∃ e, l[k]? = some e := ⟨l[k]'(by have := HN.out; omega), by simp [HN.out, hlt]⟩
      have eok := hok e (List.mem_of_getElem? he)
      obtain ⟨ge, off, rfl, hge, c0, c1, c2⟩ := EdsAt.get (HL.out.next HB.out.bel) he
      have HE := Lib.hid he
      clear he
      have CK := Lib.hid (fun W => fault_ref (sk.size : Int) e.at_ e.cut e.put W eok.a1 eok.c1 eok.p)
      have FE : Hid (fault (sk.size : Int) e.at_ e.cut e.put.size = e.fault (apT (l.take k) tl)) := by
        show _ = _
        unfold EdM.fault; rw [← HTL.out, size_list]
      have hki : (k : Int) + 1 - 1 = (k : Int) := by omega
      by_cases hf : fault (sk.size : Int) e.at_ e.cut e.put.size = 0
      · rw [hf] at CK
        have FT := EdM.fits_of (FE.out.symm.trans hf)
        have hf0 := Lib.hid (FE.out.symm.trans hf)
        obtain ⟨f1, f2, f3, f4, f5⟩ := FT
        rw [← HTL.out, size_list] at f3 f4 f5
        obtain ⟨a, c, p⟩ := e
        dsimp only at *
        obtain ⟨a, rfl⟩ := Int.eq_ofNat_of_zero_le f1
        obtain ⟨c, rfl⟩ := Int.eq_ofNat_of_zero_le f2
        have RP := Lib.hid (fun W => editMade sk p a c W (by omega) (by omega) (by omega))
        have NX : Hid (str (made sk.data.toList a c p.data.toList) = str (apT (l.take (k + 1)) tl)) := by
          show _ = _
          rw [apT_next HE.out, ← HTL.out]; rfl
        have NC := Lib.hid (apC_next HE.out HC0.out hf0.out)
        generalize str (made sk.data.toList a c p.data.toList) = ns at *
        clear hf f1 f2 f3 f4 f5 eok FE
        go_wp2_with fail
        refine (CK.out _).mono ?_
        rintro e w1 ⟨rfl, hb1⟩
        obtain ⟨hc1, hf1, _⟩ := bfacts hb1
        have B1 := Lib.hid ((HB.out.next (balloc (Below.refl _ _) _)).next hb1)
        clear CK hb1
        go_wp2_with fail
        refine (RP.out _).mono ?_
        rintro e w2 ⟨rfl, hb2⟩
        have B2 := Lib.hid ((B1.out.next hb2).next (balloc (Below.refl _ _) (.cells #[.string ns] 9)))
        have hzw : w.heap.size ≤ w2.heap.size + 1 := by have := B2.out.bel.size; simpa using this
        clear RP hb2 hc1 hf1 B1
        go_wp2_with (at_builtin; refine wpList_append_lies _ rfl _ _ 57 rfl w.heap.size 9 i0 _ 1 16 Try.underlying57 HI.out.1 HI.out.2.1 HI.out.2.2.1 HI.out.2.2.2 rfl (by decide) _ (k + 1) (allT l tl k) rfl B2.out.row ⟨w2.heap.size, 0, none⟩ 1 1 [.string ns] rfl rfl (cell_one_new _ _ _) (by simp [Value.oneCell']) (by omega) (by unfold maxLen; omega) (by omega) (by simp; omega) _ rfl ?_; intro g4 cap4 w4 hown4 hgrow4 _ _; have FIN : Hid (ApA w l tl (k + 1) (.slice (some ⟨g4, 0, none⟩) (k + 2) cap4) w4) := Lib.hid ⟨by rw [allT_next, ← NX.out]; exact hown4, bgrow B2.out.bel B2.out.row hgrow4⟩; clear hown4 hgrow4)
        go_roundw
        case rel => exact ⟨k + 1, by omega, by go_num, NC.out, FIN.out⟩
        case measure => simp [intOf]; omega
      · have hnf : e.fault (apT (l.take k) tl) ≠ 0 := fun h => hf (FE.out.trans h)
        have AC := Lib.hid (apC_at HE.out HC0.out hnf)
        have FC : Hid (fault (sk.size : Int) e.at_ e.cut e.put.size = apC l tl) := by
          show _ = _
          rw [AC.out]; exact FE.out
        generalize fault (sk.size : Int) e.at_ e.cut e.put.size = fv at *
        have g0 : (fv != 0) = true := by simpa using hf
        have HF := Lib.hid hf
        clear hf hnf
        go_wp2_with fail
        refine (CK.out _).mono ?_
        rintro e w1 ⟨rfl, hb1⟩
        have B1 := Lib.hid (bstep (balloc HB.out.bel _) hb1)
        clear CK hb1
        go_wp2_with fail
        go_ret2
        refine ⟨.slice none 0 0, ?_, .inr ⟨by rw [← FC.out]; exact HF.out, rfl⟩, B1.out⟩
        rw [← FC.out]; rfl
    · obtain rfl : k = n := by omega
      have e1 : l.take k = l := by rw [← HN.out]; exact List.take_length
      rw [e1] at HC0
      have HV : Hid (Row wr (.slice (some ⟨g, 0, none⟩) (k + 1) cp) (allT l tl l.length)) := by
        have := Row.of_owns HB.out.row
        show Row _ _ _
        rw [HN.out]; exact this
      clear e1
      go_wp2_with fail
      go_ret2
      refine ⟨_, ?_, .inl ⟨HC0.out, HV.out⟩, HB.out.bel⟩
      rw [HC0.out]; rfl

end Go.Proofs.Ytkckhjljindgmaa.EditR
