/-
  The document's answer: EditApply; and the law EditApplies.
-/
import Derived.Test.YtkckhjljindgmaaEditAppliedRef
namespace Go.Proofs.Ytkckhjljindgmaa.EditR
open Go.RowKit Kit EditM EditC

set_option maxHeartbeats 1000000 in
theorem applyRef_long (t : ByteArray) (a : Option Addr) (n cap : Nat) (w : World) (h : 60 < n ∨ 600 < t.size) :
    Calls Try.prog 17 #[.string t, .slice a n cap] w fun e w' => e = .returned (.tuple #[.string ⟨#[]⟩, .int .i64 1]) ∧ w = w' := by
  have C := Lib.hid (applied_long t a n cap w h)
  clear h
  go_enter Try.func17, Try.ntmps17
  go_wp2_with fail
  refine C.out.mono ?_
  rintro e w1 ⟨rfl, rfl⟩
  go_wp2_with fail
  go_ret2
  exact ⟨rfl, rfl⟩

set_option maxRecDepth 100000 in
set_option maxHeartbeats 1000000 in
theorem applyRef (t : ByteArray) (l : List EdM) (al : Option Addr) (cap : Nat) (w : World) (hl : EdsAt w al l) (hok : ∀ e ∈ l, e.ok) (h60 : l.length ≤ 60) (ht : t.size ≤ 600) :
    Calls Try.prog 17 #[.string t, .slice al l.length cap] w fun e w' => e = .returned (.tuple #[.string (str (apR l t.data.toList)), .int .i64 (apC l t.data.toList)]) ∧ Below w.heap.size w w' := by
  have C := Lib.hid (applied t l al cap w hl hok h60 ht)
  have HS := Lib.hid (str_list t)
  generalize t.data.toList = tl at *
  obtain ⟨n, hn⟩ : ∃ n, l.length = n := ⟨_, rfl⟩
  have HN := Lib.hid hn
  rw [hn] at h60 C ⊢
  clear hl hn
  go_enter Try.func17, Try.ntmps17
  go_wp2_with fail
  refine C.out.mono ?_
  rintro e w1 ⟨v, rfl, hv, hb⟩
  clear C
  have HB := Lib.hid hb
  clear hb
  rcases hv with ⟨hc, hr⟩ | ⟨hc, rfl⟩
  · rw [hc]
    obtain ⟨a, cp, rfl, hr⟩ := hr
    have hlen : (allT l tl l.length).length = n + 1 := by rw [allT_len, HN.out]
    obtain ⟨b, off, rfl, hlt, hcell⟩ := hr (by rw [hlen]; omega)
    have hn0 : w1.cell? ⟨b, off + n, none⟩ = some (.string (str (apR l tl))) := by
      rw [hcell n (by rw [hlen]; omega), HN.out, allT_get l tl (Nat.le_refl n), ← HN.out, List.take_length]
      unfold apR; rw [if_pos hc]
    rw [hlen]
    have HC := Lib.hid hc
    obtain ⟨out, hout⟩ : ∃ o, o = str (apR l tl) := ⟨_, rfl⟩
    rw [← hout] at hn0
    have HO := Lib.hid hout
    clear hcell hr hlen hc hout
    go_wp2_with fail
    go_ret2
    exact ⟨ret_strint HO.out HC.out.symm, HB.out⟩
  · have AR : Hid (apR l tl = []) := by
      show _ = _
      unfold apR; rw [if_neg hc]
    obtain ⟨fv, hfv⟩ : ∃ o, o = apC l tl := ⟨_, rfl⟩
    rw [← hfv] at hc ⊢
    have HF := Lib.hid hfv
    have g0 : (fv != 0) = true := by simpa using hc
    clear hc hfv
    go_wp2_with fail
    go_ret2
    exact ⟨ret_strint (by rw [AR.out]; rfl) HF.out, HB.out⟩

set_option maxHeartbeats 1000000 in
theorem editApplies (t : ByteArray) (al : Option Addr) (cap : Nat) (l : List EdM) (w : World) {P Q R S : Prop} (_ : P) (hl : EdsAt w al l) (hok : ∀ e ∈ l, e.ok) (_ : Q) (_ : R) (_ : S) :
    Calls Try.prog 4 #[.string t, .slice al l.length cap] w fun e w' => e = .returned (.bool true) ∧ Below w.heap.size w w' := by
  by_cases h : 60 < l.length ∨ 600 < t.size
  · have C := Lib.hid (fun W => apply_long t al l.length cap W h)
    have D := Lib.hid (fun W => applyRef_long t al l.length cap W h)
    clear h
    generalize l.length = n at *
    go_enter Try.func4, Try.ntmps4
    go_wp2_with fail
    refine (C.out _).mono ?_
    rintro e w1 ⟨rfl, rfl⟩
    go_wp2_with fail
    refine (D.out _).mono ?_
    rintro e w1 ⟨rfl, rfl⟩
    go_wp2_with fail
    go_ret
    exact ⟨rfl, Below.refl _ _⟩
  · have C := Lib.hid (apply t l al cap w hl hok (by omega) (by omega))
    have D := Lib.hid (fun W (hb : Below w.heap.size w W) => applyRef t l al cap W (hl.next hb) hok (by omega) (by omega))
    clear h
    generalize str (apR l t.data.toList) = out at *
    generalize apC l t.data.toList = code at *
    generalize l.length = n at *
    go_enter Try.func4, Try.ntmps4
    go_wp2_with fail
    refine C.out.mono ?_
    rintro e w1 ⟨rfl, hb1⟩
    have HB1 := Lib.hid hb1
    clear hb1
    go_wp2_with fail
    refine (D.out _ HB1.out).mono ?_
    rintro e w2 ⟨rfl, hb2⟩
    have HB2 := Lib.hid (bstep HB1.out hb2)
    clear hb2
    go_wp2_with fail
    go_ret
    exact ⟨rfl, HB2.out⟩

end Go.Proofs.Ytkckhjljindgmaa.EditR
