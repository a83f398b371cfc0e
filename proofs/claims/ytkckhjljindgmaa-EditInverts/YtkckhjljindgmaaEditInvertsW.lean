/-
  The law EditInverts.
-/
import Derived.Test.YtkckhjljindgmaaEditInvertRef
namespace Go.Proofs.Ytkckhjljindgmaa.EditR
open Go.RowKit Kit EditM EditC

/-- edits and a code are answered -/
def InvP (L : List EdM) (code : Int) (w : World) (e : Ending) (w' : World) : Prop := ∃ v, e = .returned (.tuple #[v, .int .i64 code]) ∧ EdsV w' v L ∧ Below w.heap.size w w'
/-- what is answered, whatever the code -/
def invL (l : List EdM) (t : Bs) : List EdM := if apC l t = 0 then (invs l t).reverse else []
theorem invL_len (l : List EdM) (t : Bs) : (invL l t).length ≤ l.length := by
  unfold invL; split
  · simp [invs_length]
  · simp
theorem InvPost.p {w : World} {l : List EdM} {t : Bs} {e : Ending} {w' : World} (h : InvPost w l t e w') : InvP (invL l t) (apC l t) w e w' := by
  obtain ⟨v, rfl, hv, hb⟩ := h
  refine ⟨v, rfl, ?_, hb⟩
  unfold invL
  rcases hv with ⟨h0, h1⟩ | ⟨h0, rfl⟩
  · rw [if_pos h0]; exact h1
  · rw [if_neg h0]; exact SlV.nil _

set_option maxRecDepth 100000 in
set_option maxHeartbeats 4000000 in
theorem inverts_walk (t : ByteArray) (al : Option Addr) (n cap : Nat) (w : World) (L : List EdM) (code : Int) (hL : L.length ≤ 60)
    (c : Calls Try.prog 18 #[.string t, .slice al n cap] w (InvP L code w))
    (d : ∀ W, Below w.heap.size w W → Calls Try.prog 19 #[.string t, .slice al n cap] W (InvP L code W)) :
    Calls Try.prog 5 #[.string t, .slice al n cap] w fun e w' => e = .returned (.bool true) ∧ Below w.heap.size w w' := by
  have C := Lib.hid c
  have D := Lib.hid d
  clear c d
  go_enter Try.func5, Try.ntmps5
  go_wp2_with fail
  refine C.out.mono ?_
  rintro e w1 ⟨v1, rfl, hv1, hb1⟩
  have HB1 := Lib.hid hb1
  have HV1 := Lib.hid hv1
  clear hb1 hv1 C
  go_wp2_with fail
  refine (D.out _ HB1.out).mono ?_
  rintro e w2 ⟨v2, rfl, hv2, hb2⟩
  have HB2 := Lib.hid (bstep HB1.out hb2)
  obtain ⟨a1, cap1, rfl, _, h1, _⟩ := HV1.out.next hb2
  obtain ⟨a2, cap2, rfl, _, h2, _⟩ := hv2
  have H1 := Lib.hid h1
  have H2 := Lib.hid h2
  clear hb2 h1 h2 D HV1
  obtain ⟨m, hm⟩ : ∃ m, L.length = m := ⟨_, rfl⟩
  have HM := Lib.hid hm
  rw [hm] at hL ⊢
  clear hm
  go_wp2_with fail
  go_loopw [9] (fun i wr => ∃ k : Nat, k ≤ m ∧ i = .int .i64 (k : Int) ∧ Below w2.heap.size w2 wr) (fun i _ => m - (intOf i).toNat)
  case atStart => exact ⟨0, by omega, rfl, Below.refl _ _⟩
  case round =>
    obtain ⟨k, hk, rfl, hbr⟩ := hrel
    have HBR := Lib.hid hbr
    clear hbr
    by_cases hlt : k < m
    · obtain ⟨e, he⟩ : ∃ e, L[k]? = some e := ⟨L[k]'(by have := HM.out; omega), by simp [HM.out, hlt]⟩
      obtain ⟨g1, o1, rfl, hg1, x0, x1, x2⟩ := EdsAt.get (SlAt.next H1.out HBR.out) he
      obtain ⟨g2, o2, rfl, hg2, y0, y1, y2⟩ := EdsAt.get (SlAt.next H2.out HBR.out) he
      clear he
      go_wp2_with fail
      go_quiet (fail)
      go_wp2_with fail
      go_roundw
      case rel => exact ⟨k + 1, by omega, by go_num, bdrewN HBR.out _⟩
      case measure => simp [intOf]; omega
    · obtain rfl : k = m := by omega
      go_wp2_with fail
      go_ret
      exact ⟨rfl, bstep HB2.out HBR.out⟩

theorem editInverts (t : ByteArray) (al : Option Addr) (cap : Nat) (l : List EdM) (w : World) {P Q R S : Prop} (_ : P) (hl : EdsAt w al l) (hok : ∀ e ∈ l, e.ok) (_ : Q) (_ : R) (_ : S) :
    Calls Try.prog 5 #[.string t, .slice al l.length cap] w fun e w' => e = .returned (.bool true) ∧ Below w.heap.size w w' := by
  by_cases h : 60 < l.length ∨ 600 < t.size
  · refine inverts_walk t al l.length cap w [] 1 (by simp) ?_ ?_
    · refine (invert_long t al l.length cap w h).mono ?_
      rintro e w1 ⟨rfl, rfl⟩
      exact ⟨_, rfl, SlV.nil _, Below.refl _ _⟩
    · intro W hW
      refine (invertRef_long t al l.length cap W h).mono ?_
      rintro e w1 ⟨rfl, rfl⟩
      exact ⟨_, rfl, SlV.nil _, Below.refl _ _⟩
  · refine inverts_walk t al l.length cap w (invL l t.data.toList) (apC l t.data.toList) (by have := invL_len l t.data.toList; omega) ?_ ?_
    · exact (invert t l al cap w hl hok (by omega) (by omega)).mono fun _ _ h => InvPost.p h
    · intro W hW
      exact (invertRef t l al cap W (hl.next hW) hok (by omega) (by omega)).mono fun _ _ h => InvPost.p h

end Go.Proofs.Ytkckhjljindgmaa.EditR
