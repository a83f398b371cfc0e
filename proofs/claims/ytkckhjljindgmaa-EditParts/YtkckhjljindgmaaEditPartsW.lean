/-
  The law EditParts.
-/
import Derived.Test.YtkckhjljindgmaaEditsW
namespace Go.Proofs.Ytkckhjljindgmaa.EditK
open Go.RowKit Kit EditM EditC ChgM Txt Lift

set_option maxRecDepth 100000 in
set_option maxHeartbeats 2000000 in
theorem editParts (a0 : Option Addr) (len0 cap0 : Nat) (z0 : List Int) (al : Option Addr) (cap : Nat) (l : List ChgM) (x : Int) (w : World) (hz : IsRow .i64 w a0 len0 cap0 z0) (hl : ChsAt w al l) (hh : ∀ c ∈ l, c.has w) (hle : l.length ≤ cap) (hmx : cap ≤ maxLen) {S T : Prop} (_ : S) (_ : T) :
    Calls Try.prog 9 #[.slice a0 len0 cap0, .slice al l.length cap, .int .i64 x] w fun e w' => e = .returned (.bool true) ∧ Below w.heap.size w w' := by
  have hlen : l.length ≤ 9223372036854775807 := by unfold maxLen at hmx; omega
  have TO := Lib.hid (textOf a0 len0 cap0 z0 100 w hz (by omega))
  have hs100 : (textS ((z0.take len0).take 100)).size ≤ 100 := by rw [textS_size]; simp only [List.length_take]; omega
  generalize textS ((z0.take len0).take 100) = s at *
  have ES := Lib.hid (edits l al cap 15 s.size w hl hh hlen (by omega) (by omega))
  have HC := edsOf_code l 15 s.data.toList (by rw [size_list]; omega)
  have HLn := edsOf_len l 15 (s.size : Int)
  rw [size_list] at HC
  generalize edsOf l 15 (s.size : Int) = es at *
  obtain ⟨hc, hok⟩ := HC
  have PK := Lib.hid (fun W => picked x ((es.length : Int) + 1) W (by omega) (by omega))
  obtain ⟨k, hk⟩ := Int.eq_ofNat_of_zero_le (Int.emod_nonneg x (show (es.length : Int) + 1 ≠ 0 by omega))
  have hkl := Int.emod_lt_of_pos x (show (0 : Int) < (es.length : Int) + 1 by omega)
  rw [hk] at PK hkl
  clear hk
  have hkn : k ≤ es.length := by omega
  have hc' : apC (es.take k ++ es.drop k) s.data.toList = 0 := by rw [List.take_append_drop]; exact hc
  have c1 := apC_head _ _ _ hc'
  have c2 := apC_tail _ _ _ hc'
  have hsz : (apT (es.take k) s.data.toList).length ≤ 600 := apT_len c1 (by rw [size_list]; omega)
  have ok1 : ∀ e ∈ es.take k, e.ok := fun e he => hok e (List.mem_of_mem_take he)
  have ok2 : ∀ e ∈ es.drop k, e.ok := fun e he => hok e (List.mem_of_mem_drop he)
  have E1 := Lib.hid (fun W v (hv : EdsV W v es) => edited s es v W hv hok (by omega) (by omega) hc)
  have E2 := Lib.hid (fun W v (hv : EdsV W v (es.take k)) => edited s _ v W hv ok1 (by rw [List.length_take]; omega) (by omega) c1)
  obtain ⟨t, ht⟩ : ∃ t, t = str (apT (es.take k) s.data.toList) := ⟨_, rfl⟩
  have htl : t.data.toList = apT (es.take k) s.data.toList := by rw [ht, list_str]
  rw [← htl] at c2
  have E3 := Lib.hid (fun W v (hv : EdsV W v (es.drop k)) => edited t _ v W hv ok2 (by rw [List.length_drop]; omega) (by rw [ht, size_str]; exact hsz) c2)
  have EQ : apT es s.data.toList = apT (es.drop k) t.data.toList := by rw [htl, ← apT_append, List.take_append_drop]
  rw [EQ] at E1
  rw [← ht] at E2
  generalize str (apT (es.drop k) t.data.toList) = u at *
  clear hc hok hc' c1 c2 hsz ok1 ok2 ht htl EQ hz hl hh hle hmx hlen hkl
  generalize l.length = N at *
  have TK : Hid ((es.take k).length = k) := Lib.hid (by rw [List.length_take]; omega)
  have DK : Hid ((es.drop k).length = es.length - k) := Lib.hid List.length_drop
  go_enter Try.func9, Try.ntmps9
  go_wp2_with fail
  refine TO.out.mono ?_
  rintro e w1 ⟨rfl, rfl⟩
  go_wp2_with fail
  refine ES.out.mono ?_
  rintro e w1 ⟨v1, rfl, hv1, hb1⟩
  have V1 := Lib.hid hv1
  have B1 := Lib.hid hb1
  obtain ⟨ae, ce, rfl, hce, hae, hd⟩ := hv1
  clear hb1 TO ES
  rcases hd with ⟨rfl, rfl, rfl⟩ | ⟨g, off, rfl, hg⟩
  · obtain rfl : k = 0 := by simpa using hkn
    have VN : Hid (∀ W, EdsV W (.slice none 0 0) []) := Lib.hid fun W => SlV.nil W
    clear V1 hae
    go_wp2_with fail
    refine (PK.out _).mono ?_
    rintro e w1 ⟨rfl, rfl⟩
    go_wp2_with fail
    refine (E1.out _ _ (VN.out _)).mono ?_
    rintro e w2 ⟨rfl, hb2⟩
    have B2 := Lib.hid (bstep B1.out hb2)
    clear hb2 B1
    go_wp2_with fail
    refine (E2.out _ _ (VN.out _)).mono ?_
    rintro e w3 ⟨rfl, hb3⟩
    have B3 := Lib.hid (bstep B2.out hb3)
    clear hb3 B2
    go_wp2_with fail
    refine (E3.out _ _ (VN.out _)).mono ?_
    rintro e w4 ⟨rfl, hb4⟩
    have B4 := Lib.hid (bstep B3.out hb4)
    clear hb4 B3
    go_wp2_with fail
    go_ret
    exact ⟨rfl, B4.out⟩
  · have HA := Lib.hid hae
    have HG := Lib.hid hg
    have hkc : k ≤ ce := by omega
    have V2 : Hid (∀ W, Below w1.heap.size w1 W → EdsV W (.slice (some ⟨g, off, none⟩) k ce) (es.take k)) := Lib.hid fun W hW =>
      ⟨_, _, by rw [TK.out], by rw [TK.out]; omega, (SlAt.take HA.out k).next hW, .inr ⟨g, off, rfl, Nat.lt_of_lt_of_le HG.out hW.size⟩⟩
    obtain ⟨n, hn⟩ : ∃ n, es.length = n := ⟨_, rfl⟩
    rw [hn] at PK hkn HLn hce DK V1 ⊢
    clear hn hae hg
    by_cases hcap : ce = k
    · have V3 : Hid (∀ W, Below w1.heap.size w1 W → EdsV W (.slice (some ⟨g, off, none⟩) 0 0) (es.drop k)) := Lib.hid fun W hW => by
        have e0 : es.drop k = [] := List.eq_nil_of_length_eq_zero (by rw [DK.out]; omega)
        rw [e0]
        exact ⟨_, _, rfl, Nat.le_refl _, SlAt.nil _ _, .inr ⟨g, off, rfl, Nat.lt_of_lt_of_le HG.out hW.size⟩⟩
      subst hcap
      go_wp2_with fail
      refine (PK.out _).mono ?_
      rintro e w1 ⟨rfl, rfl⟩
      go_wp2_with fail
      with_reducible refine (E1.out _ _ V1.out).mono ?_
      rintro e w2 ⟨rfl, hb2⟩
      have B2 := Lib.hid hb2
      clear hb2
      go_wp2_with fail
      with_reducible refine (E2.out _ _ (V2.out _ B2.out)).mono ?_
      rintro e w3 ⟨rfl, hb3⟩
      have B3 := Lib.hid (bstep B2.out hb3)
      clear hb3 B2
      go_wp2_with fail
      with_reducible refine (E3.out _ _ (V3.out _ B3.out)).mono ?_
      rintro e w4 ⟨rfl, hb4⟩
      have B4 := Lib.hid (bstep B1.out (bstep B3.out hb4))
      clear hb4 B3
      go_wp2_with fail
      go_ret
      exact ⟨rfl, B4.out⟩
    · have V3 : Hid (∀ W, Below w1.heap.size w1 W → EdsV W (.slice (some ⟨g, off + k * 3, none⟩) (n - k) (ce - k)) (es.drop k)) := Lib.hid fun W hW => by
        exact ⟨_, _, by rw [DK.out], by rw [DK.out]; omega, (SlAt.drop HA.out k).next hW, .inr ⟨g, _, rfl, Nat.lt_of_lt_of_le HG.out hW.size⟩⟩
      go_wp2_with fail
      refine (PK.out _).mono ?_
      rintro e w1 ⟨rfl, rfl⟩
      go_wp2_with fail
      with_reducible refine (E1.out _ _ V1.out).mono ?_
      rintro e w2 ⟨rfl, hb2⟩
      have B2 := Lib.hid hb2
      clear hb2
      go_wp2_with fail
      with_reducible refine (E2.out _ _ (V2.out _ B2.out)).mono ?_
      rintro e w3 ⟨rfl, hb3⟩
      have B3 := Lib.hid (bstep B2.out hb3)
      clear hb3 B2
      go_wp2_with fail
      with_reducible refine (E3.out _ _ (V3.out _ B3.out)).mono ?_
      rintro e w4 ⟨rfl, hb4⟩
      have B4 := Lib.hid (bstep B1.out (bstep B3.out hb4))
      clear hb4 B3
      go_wp2_with fail
      go_ret
      exact ⟨rfl, B4.out⟩

end Go.Proofs.Ytkckhjljindgmaa.EditK
