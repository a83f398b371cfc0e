/-
  Package find: check (with slices.Contains), Many.
-/
import Derived.Test.YtkiebkjndmcddaaAcHits
import Derived.Test.YtkiebkjndmcddaaRefMany
import Derived.Test.YtkiebkjndmcddaaRefHits
namespace Go.Proofs.Ytkiebkjndmcddaa.AcM
open Go.RowKit Kit FindM LineM StrM FindP EditM HitM FindR

/-- what Index answers: whether x is among the first m -/
def IxPost (fs : List ByteArray) (m : Nat) (x : ByteArray) (w : World) (e : Ending) (w' : World) : Prop := ∃ r : Int, e = .returned (.int .i64 r) ∧ ((0 ≤ r ∧ x ∈ fs.take m) ∨ (r = -1 ∧ x ∉ fs.take m)) ∧ w = w'
set_option maxRecDepth 100000 in
set_option maxHeartbeats 2000000 in
theorem index (al : Option Addr) (cap m : Nat) (fs : List ByteArray) (x : ByteArray) (w : World) (h : StAt w al fs) (hm : m ≤ fs.length) (hn : fs.length ≤ 1000) :
    Calls Try.prog 40 #[.slice al m cap, .string x] w (IxPost fs m x w) := by
  have H := Lib.hid h
  clear h
  go_enter Try.func40, Try.ntmps40
  go_wp2_with fail
  go_loopw [8] (fun vi wr => ∃ i : Nat, i ≤ m ∧ vi = .int .i64 (i : Int) ∧ Hid (∀ k, k < i → fs[k]? ≠ some x) ∧ wr = w) (fun vi _ => m - (intOf vi).toNat)
  case atStart => exact ⟨0, by omega, rfl, Lib.hid (fun k hk => by omega), rfl⟩
  case round =>
    obtain ⟨i, hi, rfl, HN, rfl⟩ := hrel
    by_cases hlt : i < m
    · obtain ⟨s, hs⟩ : ∃ s, fs[i]? = some s := ⟨fs[i]'(by omega), List.getElem?_eq_getElem (by omega)⟩
      obtain ⟨g, off, rfl, hg, c1⟩ := StAt.get H.out hs
      have j0 : (0 : Int) ≤ (i : Int) := by omega
      have j1 : (i : Int) < (m : Int) := by omega
      have r1 : IntKind.i64.wrap ((i : Int) + 1) = (i : Int) + 1 := IntWalk.i64_in _ (by omega)
      by_cases hxs : x = s
      · have HE := (same_iff x s).2 hxs
        have FIN : Hid (IxPost fs m x wr (.returned (.int .i64 (i : Int))) wr) := Lib.hid ⟨_, rfl, .inl ⟨by omega, List.mem_iff_getElem?.2 ⟨i, by rw [List.getElem?_take_of_lt hlt, hs, hxs]⟩⟩, rfl⟩
        clear HN hs H hxs
        go_wp2_with fail
        go_ret
        exact FIN.out
      · have HE := same_not hxs
        have HN2 : Hid (∀ k, k < i + 1 → fs[k]? ≠ some x) := Lib.hid (fun k hk => by
          by_cases e : k = i
          · subst e; rw [hs]; intro h; cases h; exact hxs rfl
          · exact HN.out k (by omega))
        clear HN hs
        go_wp2_with fail
        go_roundw
        case rel => exact ⟨i + 1, by omega, by go_num, HN2, trivial⟩
        case measure => simp [intOf]; omega
    · have j1 : ¬ (i : Int) < (m : Int) := by omega
      have FIN : Hid (IxPost fs m x wr (.returned (.int .i64 (-1))) wr) := Lib.hid ⟨_, rfl, .inr ⟨rfl, fun hm => by
        obtain ⟨k, hk⟩ := List.mem_iff_getElem?.1 hm
        have hkl := (List.getElem?_eq_some_iff.1 hk).1
        rw [List.length_take] at hkl
        rw [List.getElem?_take_of_lt (by omega)] at hk
        exact HN.out k (by omega) hk⟩, rfl⟩
      clear HN
      go_wp2_with fail
      go_ret
      exact FIN.out
/-- what Contains answers -/
def CnPost (fs : List ByteArray) (m : Nat) (x : ByteArray) (w : World) (e : Ending) (w' : World) : Prop := ∃ b : Bool, e = .returned (.bool b) ∧ (b = true ↔ x ∈ fs.take m) ∧ w = w'
set_option maxHeartbeats 1000000 in
theorem contains (al : Option Addr) (cap m : Nat) (fs : List ByteArray) (x : ByteArray) (w : World) (h : StAt w al fs) (hm : m ≤ fs.length) (hn : fs.length ≤ 1000) :
    Calls Try.prog 36 #[.slice al m cap, .string x] w (CnPost fs m x w) := by
  have IX := Lib.hid (index al cap m fs x w h hm hn)
  clear h
  go_enter Try.func36, Try.ntmps36
  go_wp2_with fail
  refine IX.out.mono ?_
  rintro e w1 ⟨r, rfl, hr, rfl⟩
  rcases hr with ⟨h1, h2⟩ | ⟨rfl, h2⟩
  · have q1 : decide (r ≥ 0) = true := decide_eq_true h1
    have FIN : Hid (CnPost fs m x w (.returned (.bool true)) w) := Lib.hid ⟨true, rfl, by simp [h2], rfl⟩
    clear h2
    go_wp2_with fail
    go_ret
    exact FIN.out
  · have FIN : Hid (CnPost fs m x w (.returned (.bool false)) w) := Lib.hid ⟨false, rfl, by simp [h2], rfl⟩
    clear h2
    go_wp2_with fail
    go_ret
    exact FIN.out
/-- what check answers -/
def ChPost (c : Int) (w : World) (e : Ending) (w' : World) : Prop := e = .returned (.int .i64 c) ∧ w = w'
set_option maxRecDepth 100000 in
set_option maxHeartbeats 2000000 in
theorem check (T : Nat) (al : Option Addr) (cap : Nat) (fs : List ByteArray) (w : World) (h : StAt w al fs) (hT : T ≤ 600) (hn : fs.length ≤ 20) (hle : fs.length ≤ cap) :
    Calls Try.prog 31 #[.slice al fs.length cap] w (ChPost (mfTo T fs ffault fs.length) w) := by
  have H := Lib.hid h
  have CO := Lib.hid (fun m x (hm : m ≤ fs.length) => contains al cap m fs x w h hm (by omega))
  have STOP : Hid (∀ n c, mfTo T fs ffault n = c → c ≠ 0 → n ≤ fs.length → ChPost (mfTo T fs ffault fs.length) w (.returned (.int .i64 c)) w) := Lib.hid (fun n c h1 h2 h3 => by
    rw [mfTo_stop h1 h2 _ h3]
    exact ⟨rfl, rfl⟩)
  have E1 : Hid (∀ m, 20 < m → ffault T m = 1) := Lib.hid (fun m hm => if_pos (.inr hm))
  have E4 : Hid (ffault T 0 = 4) := Lib.hid (by unfold ffault; rw [if_neg (by omega), if_pos rfl])
  have E0 : Hid (∀ m, m ≤ 20 → m ≠ 0 → ffault T m = 0) := Lib.hid (fun m hm h0 => by unfold ffault; rw [if_neg (by omega), if_neg h0])
  obtain ⟨n, hln⟩ : ∃ n, fs.length = n := ⟨_, rfl⟩
  have HLN := Lib.hid hln
  rw [hln] at hn hle STOP CO ⊢
  clear h hln
  go_enter Try.func31, Try.ntmps31
  go_wp2_with fail
  go_loopw [7] (fun vi wr => ∃ i : Nat, i ≤ n ∧ vi = .int .i64 (i : Int) ∧ Hid (mfTo T fs ffault i = 0) ∧ wr = w) (fun vi _ => n - (intOf vi).toNat)
  case atStart => exact ⟨0, by omega, rfl, Lib.hid rfl, rfl⟩
  case round =>
    obtain ⟨i, hi, rfl, HM, rfl⟩ := hrel
    by_cases hlt : i < n
    · obtain ⟨s, hs⟩ : ∃ s, fs[i]? = some s := ⟨fs[i]'(by have := HLN.out; omega), List.getElem?_eq_getElem _⟩
      obtain ⟨g, off, rfl, hg, c1⟩ := StAt.get H.out hs
      have j0 : (0 : Int) ≤ (i : Int) := by omega
      have j1 : (i : Int) < (n : Int) := by omega
      have j2 : (i : Int) ≤ (cap : Int) := by omega
      have r1 : IntKind.i64.wrap ((i : Int) + 1) = (i : Int) + 1 := IntWalk.i64_in _ (by omega)
      by_cases hs20 : 20 < s.size
      · have e1 := E1.out s.size hs20
        have FIN := Lib.hid (STOP.out (i + 1) 1 ((mfTo_fault HM.out hs (by rw [e1]; decide)).trans e1) (by decide) (by omega))
        have q1 : decide ((s.size : Int) > 20) = true := decide_eq_true (by omega)
        clear e1 HM hs
        go_wp2_with fail
        go_ret
        exact FIN.out
      · have q1 : decide ((s.size : Int) > 20) = false := decide_eq_false (by omega)
        by_cases hs0 : s.size = 0
        · have e1 : ffault T s.size = 4 := by rw [hs0]; exact E4.out
          have FIN := Lib.hid (STOP.out (i + 1) 4 ((mfTo_fault HM.out hs (by rw [e1]; decide)).trans e1) (by decide) (by omega))
          have hb := empty_list s hs0
          clear e1 HM hs hs0
          go_wp2_with fail
          go_ret
          exact FIN.out
        · have e1 := E0.out s.size (by omega) hs0
          have hb := some_list s hs0
          have CC := Lib.hid (CO.out i s (by omega))
          have YES : Hid (s ∈ fs.take i → ChPost (mfTo T fs ffault fs.length) wr (.returned (.int .i64 4)) wr) := Lib.hid (fun hm => by
            rw [HLN.out]
            exact STOP.out (i + 1) 4 (mfTo_twice HM.out hs e1 hm) (by decide) (by omega))
          have NO : Hid (s ∉ fs.take i → mfTo T fs ffault (i + 1) = 0) := Lib.hid (fun hm => mfTo_ok HM.out hs e1 hm)
          rw [HLN.out] at YES
          clear e1 HM hs hs0 CO
          go_wp2_with fail
          refine CC.out.mono ?_
          rintro e w1 ⟨b, rfl, hbm, rfl⟩
          cases b with
          | true =>
            have FIN := Lib.hid (YES.out (hbm.1 rfl))
            clear hbm YES NO CC
            go_wp2_with fail
            go_ret
            exact FIN.out
          | false =>
            have HM2 := Lib.hid (NO.out (fun hm => by have := hbm.2 hm; cases this))
            clear hbm YES NO CC
            go_wp2_with fail
            go_roundw
            case rel => exact ⟨i + 1, by omega, by go_num, HM2, trivial⟩
            case measure => simp [intOf]; omega
    · have j1 : ¬ (i : Int) < (n : Int) := by omega
      have e1 : i = n := by omega
      subst e1
      have FIN : Hid (ChPost (mfTo T fs ffault i) wr (.returned (.int .i64 0)) wr) := Lib.hid (by rw [HM.out]; exact ⟨rfl, rfl⟩)
      clear HM
      go_wp2_with fail
      go_ret
      exact FIN.out
end Go.Proofs.Ytkiebkjndmcddaa.AcM
