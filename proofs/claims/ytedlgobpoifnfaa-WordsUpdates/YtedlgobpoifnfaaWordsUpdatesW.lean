/-
  The law WordsUpdates, walked.
-/
import Derived.Test.YtedlgobpoifnfaaRefUpdate
import Derived.Test.YtedlgobpoifnfaaWordsAllsW
import Derived.Test.YtedlgobpoifnfaaWordOpen
namespace Go.Proofs.Ytedlgobpoifnfaa.WordR
open Go.RowKit Kit WordM LineM EditM WordC

set_option maxHeartbeats 2000000 in
theorem wordsUpdates (s : ByteArray) (al : Option Addr) (cap : Nat) (us : List Wt) (e : EdM) (w : World) (_hs : s.size ≤ maxLen) (hat : SlAt 2 cw w al us) (hall : ∀ t ∈ us, t.has w) (_ : us.length ≤ cap) (_ : cap ≤ maxLen) {X : Prop} (_ : X) (hok : e.ok) :
    Calls Try.prog 5 #[.string s, .slice al us.length cap, .agg #[.int .i64 e.at_, .int .i64 e.cut, .string e.put]] w fun e w' => e = .returned (.bool true) ∧ Below w.heap.size w w' := by
  have hm : WsW w (.slice al us.length cap) (us.map rd) := ⟨us, rfl, ⟨al, cap, rfl, hat⟩, fun t ht => (hall t ht).1⟩
  have hml : ∀ p ∈ us.map rd, p.2.length ≤ maxLen := fun p hp => by
    obtain ⟨t, ht, rfl⟩ := List.mem_map.1 hp
    exact (hall t ht).2
  generalize us.map rd = m at *
  generalize Value.slice al us.length cap = va at *
  obtain ⟨R, c, M, D, LN, LP⟩ : ∃ R c, (∀ W, Below w.heap.size w W → Calls Try.prog 15 #[.string s, va, .agg #[.int .i64 e.at_, .int .i64 e.cut, .string e.put]] W (WcPost W R c)) ∧ (∀ W, Below w.heap.size w W → Calls Try.prog 16 #[.string s, va, .agg #[.int .i64 e.at_, .int .i64 e.cut, .string e.put]] W (WcPost W R c)) ∧ R.length ≤ 600 ∧ ∀ p ∈ R, p.2.length ≤ 600 := by
    by_cases h : 600 < s.size
    · exact ⟨_, _, fun W _ => upd_size s va e W h, fun W _ => wupd_size s va e W h, by simp, fun p hp => by simp at hp⟩
    · by_cases hx : m = ix s.data.toList
      · subst hx
        refine ⟨_, _, fun W hb => upd_edit s va e W (hm.next hb) hok (by omega), fun W hb => wupd_edit s va e W (hm.next hb) hok (by omega), ?_⟩
        by_cases hf : e.fault s.data.toList = 0
        · rw [if_pos hf]
          have hlen := (EdM.fits_of hf).len6
          exact ⟨Nat.le_trans (ix_len _) hlen, fun p hp => Nat.le_trans (ix_places _ p hp) hlen⟩
        · rw [if_neg hf]
          exact ⟨by simp, fun p hp => by simp at hp⟩
      · exact ⟨_, _, fun W hb => upd_form s va m e W (hm.next hb) hml (by omega) hx, fun W hb => wupd_form s va m e W (hm.next hb) (by omega) hx, by simp, fun p hp => by simp at hp⟩
  have M' := Lib.hid M
  have D' := Lib.hid D
  have SA := Lib.hid (fun v1 v2 W h1 h2 => sameWords_self v1 v2 R W h1 h2 LN LP)
  clear M D LN LP hm hml hat hall hok
  obtain ⟨w0, hw0⟩ : ∃ w0, w0 = w.alloc (.cells #[.int .i64 e.at_, .int .i64 e.cut, .string e.put] 34) := ⟨_, rfl⟩
  have B0 : Hid (Below w.heap.size w w0) := Lib.hid (by rw [hw0]; exact balloc (Below.refl _ _) _)
  have HB : Hid (B3 w.heap.size (.int .i64 e.at_) (.int .i64 e.cut) (.string e.put) w0) := Lib.hid (by rw [hw0]; exact B3.new _ _ _ _ _)
  have M0 := Lib.hid (M'.out w0 B0.out)
  subst hw0
  clear M'
  go_enter Try.func5, Try.ntmps5
  go_wp2_with fail
  refine M0.out.mono ?_
  rintro e1 w1 ⟨v1, rfl, hk1, hb1⟩
  have B1 := Lib.hid (B0.out.trans (hb1.mono B0.out.size))
  have V1 := Lib.hid hk1
  obtain ⟨lb, c0, c1, c2, _, _, _⟩ := HB.out.next hb1
  clear hk1 hb1 M0
  go_wp2_with fail
  refine (D'.out _ B1.out).mono ?_
  rintro e2 w2 ⟨v2, rfl, hk2, hb2⟩
  have B2 := Lib.hid (bstep B1.out hb2)
  have SS := Lib.hid (SA.out v1 v2 w2 (V1.out.next hb2) hk2)
  clear hk2 hb2 D' SA V1 c0 c1 c2
  go_wp2_with fail
  refine SS.out.mono ?_
  rintro e3 w3 ⟨rfl, hb3⟩
  have B3 := Lib.hid (bstep B2.out hb3)
  clear hb3 SS
  go_wp2_with fail
  go_ret
  exact ⟨by first | rfl | simp, B3.out⟩
end Go.Proofs.Ytedlgobpoifnfaa.WordR
