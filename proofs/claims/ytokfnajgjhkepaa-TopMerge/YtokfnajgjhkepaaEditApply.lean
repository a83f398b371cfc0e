/-
  Package edit: what Apply answers.
-/
import Derived.Test.YtokfnajgjhkepaaEditAt
import Derived.Test.YtokfnajgjhkepaaEditCheck
import Derived.Test.YtokfnajgjhkepaaEditReplace
namespace Go.Proofs.Ytokfnajgjhkepaa.EditC
open Go.RowKit Kit EditM

set_option maxHeartbeats 1000000 in
theorem apply_long (t : ByteArray) (a : Option Addr) (n cap : Nat) (w : World) (h : 60 < n ∨ 600 < t.size) :
    Calls Try.prog 16 #[.string t, .slice a n cap] w fun e w' => e = .returned (.tuple #[.string ⟨#[]⟩, .int .i64 1]) ∧ w = w' := by
  have C := Lib.hid (tooLong_yes t a n cap w h)
  clear h
  go_enter Try.func16, Try.ntmps16
  go_wp2_with fail
  refine C.out.mono ?_
  rintro e w1 ⟨rfl, rfl⟩
  go_wp2_with fail
  go_ret2
  exact ⟨rfl, rfl⟩

/-- the text that is answered -/
def apR (l : List EdM) (t : Bs) : Bs := if apC l t = 0 then apT l t else []

set_option maxRecDepth 100000 in
set_option maxHeartbeats 4000000 in
theorem apply (t : ByteArray) (l : List EdM) (al : Option Addr) (cap : Nat) (w : World) (hl : EdsAt w al l) (hok : ∀ e ∈ l, e.ok) (h60 : l.length ≤ 60) (ht : t.size ≤ 600) :
    Calls Try.prog 16 #[.string t, .slice al l.length cap] w fun e w' => e = .returned (.tuple #[.string (str (apR l t.data.toList)), .int .i64 (apC l t.data.toList)]) ∧ Below w.heap.size w w' := by
  have C := Lib.hid (tooLong_no t al l.length cap w h60 ht)
  have HL := Lib.hid hl
  have HT := Lib.hid (show t.data.toList = t.data.toList from rfl)
  have ht' : t.data.toList.length ≤ 600 := by rw [size_list]; exact ht
  have HS := Lib.hid (str_list t)
  generalize t.data.toList = tl at *
  obtain ⟨n, hn⟩ : ∃ n, l.length = n := ⟨_, rfl⟩
  have HN := Lib.hid hn
  rw [hn] at h60 C ⊢
  clear hl hn HT
  go_enter Try.func16, Try.ntmps16
  go_wp2_with fail
  refine C.out.mono ?_
  rintro e w1 ⟨rfl, rfl⟩
  clear C
  go_wp2_with fail
  go_loopw [0, 14] (fun s i wr => ∃ (k : Nat) (sk : ByteArray), k ≤ n ∧ i = .int .i64 (k : Int) ∧ s = .string sk ∧ sk = str (apT (l.take k) tl) ∧ apC (l.take k) tl = 0 ∧ Below w.heap.size w wr) (fun _ i _ => n - (intOf i).toNat)
  case atStart => exact ⟨0, t, by omega, rfl, rfl, HS.out.symm, rfl, Below.refl _ _⟩
  case round =>
    obtain ⟨k, sk, hk, rfl, rfl, hsk, hc0, hbel⟩ := hrel
    have HC0 := Lib.hid hc0
    have HSK := Lib.hid hsk
    have HB := Lib.hid hbel
    have hsz : sk.size ≤ 600 := by rw [hsk, size_str]; exact apT_len hc0 ht'
    have HTL : Hid (sk.data.toList = apT (l.take k) tl) := by show _ = _; rw [hsk, list_str]
    clear hsk hc0 hbel
    by_cases hlt : k < n
    · obtain ⟨e, he⟩ : ∃ e, l[k]? = some e := ⟨l[k]'(by have := HN.out; omega), by simp [HN.out, hlt]⟩
      have eok := hok e (List.mem_of_getElem? he)
      obtain ⟨g, off, rfl, hg, c0, c1, c2⟩ := EdsAt.get (HL.out.next HB.out) he
      have HE := Lib.hid he
      clear he
      have CK := Lib.hid (fun W => check (sk.size : Int) e.at_ e.cut e.put W eok.a1 eok.p)
      have FE : Hid (fault (sk.size : Int) e.at_ e.cut e.put.size = e.fault (apT (l.take k) tl)) := by
        show _ = _
        unfold EdM.fault; rw [← HTL.out, size_list]
      by_cases hf : fault (sk.size : Int) e.at_ e.cut e.put.size = 0
      · rw [hf] at CK
        have FT := EdM.fits_of (FE.out.symm.trans hf)
        have hf0 := Lib.hid (FE.out.symm.trans hf)
        obtain ⟨f1, f2, f3, f4, f5⟩ := FT
        rw [← HTL.out, size_list] at f3 f4 f5
        obtain ⟨a, c, p⟩ := e
        dsimp only at *
        obtain ⟨a, rfl⟩ := Int.eq_ofNat_of_zero_le f1
        obtain ⟨c, rfl⟩ := Int.eq_ofNat_of_zero_le f2
        have RP := Lib.hid (fun W => replace sk p a c W (by omega) (by omega) (by omega))
        have NX : Hid (str (made sk.data.toList a c p.data.toList) = str (apT (l.take (k + 1)) tl)) := by
          show _ = _
          rw [apT_next HE.out, ← HTL.out]; rfl
        have NC := Lib.hid (apC_next HE.out HC0.out hf0.out)
        clear hf f1 f2 f3 f4 f5 eok FE
        go_wp2_with fail
        refine (CK.out _).mono ?_
        rintro e w1 ⟨rfl, hb1⟩
        obtain ⟨hc1, hf1, _⟩ := bfacts hb1
        have B1 := Lib.hid (bstep (balloc HB.out _) hb1)
        clear CK hb1
        go_wp2_with fail
        refine (RP.out _).mono ?_
        rintro e w2 ⟨rfl, hb2⟩
        have B2 := Lib.hid (bstep B1.out hb2)
        clear RP hb2
        go_wp2_with fail
        go_roundw
        case rel => exact ⟨k + 1, _, by omega, by go_num, rfl, NX.out, NC.out, B2.out⟩
        case measure => simp [intOf]; omega
      · have hnf : e.fault (apT (l.take k) tl) ≠ 0 := fun h => hf (FE.out.trans h)
        have AC := Lib.hid (apC_at HE.out HC0.out hnf)
        have AR : Hid (apR l tl = []) := by
          show _ = _
          unfold apR; rw [AC.out, if_neg hnf]
        have FC : Hid (fault (sk.size : Int) e.at_ e.cut e.put.size = apC l tl) := by
          show _ = _
          rw [AC.out]; exact FE.out
        generalize fault (sk.size : Int) e.at_ e.cut e.put.size = fv at *
        have g0 : (fv != 0) = true := by simpa using hf
        clear hf hnf
        go_wp2_with fail
        refine (CK.out _).mono ?_
        rintro e w1 ⟨rfl, hb1⟩
        have B1 := Lib.hid (bstep (balloc HB.out _) hb1)
        clear CK hb1
        go_wp2_with fail
        go_ret2
        exact ⟨ret_strint (by rw [AR.out]; rfl) FC.out, B1.out⟩
    · obtain rfl : k = n := by omega
      have e1 : l.take k = l := by rw [← HN.out]; exact List.take_length
      rw [e1] at HC0 HSK
      have AR : Hid (sk = str (apR l tl)) := by
        show _ = _
        unfold apR; rw [if_pos HC0.out]; exact HSK.out
      go_wp2_with fail
      go_ret2
      exact ⟨ret_strint AR.out HC0.out.symm, HB.out⟩

end Go.Proofs.Ytokfnajgjhkepaa.EditC
