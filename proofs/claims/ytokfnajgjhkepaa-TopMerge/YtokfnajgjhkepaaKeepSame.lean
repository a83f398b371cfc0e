/-
  fustiankeep.sameTexts at any two lists.
-/
import Derived.Test.YtokfnajgjhkepaaRefCommon
import Derived.Test.YtokfnajgjhkepaaBnd2
namespace Go.Proofs.Ytokfnajgjhkepaa.DiffK
open Go.RowKit Kit LineM StrM DiffM DiffA DiffR

def StPost (la lb : List ByteArray) (w : World) (e : Ending) (w' : World) : Prop := ∃ b : Bool, e = .returned (.bool b) ∧ (b = true ↔ la = lb) ∧ Below w.heap.size w w'
set_option maxRecDepth 100000 in
set_option maxHeartbeats 2000000 in
theorem sameTexts (v1 v2 : Value) (la lb : List ByteArray) (w : World) (h1 : SlV 1 sc w v1 la) (h2 : SlV 1 sc w v2 lb) (hl : la.length ≤ 100000) :
    Calls Try.prog 14 #[v1, v2] w (StPost la lb w) := by
  obtain ⟨a1, c1, rfl, _, s1, _⟩ := h1
  obtain ⟨a2, c2, rfl, _, s2, _⟩ := h2
  have H1 := Lib.hid s1
  have H2 := Lib.hid s2
  by_cases hlen : la.length = lb.length
  · obtain ⟨n, hn⟩ : ∃ n, la.length = n := ⟨_, rfl⟩
    have hm : lb.length = n := hlen.symm.trans hn
    have HN := Lib.hid hn
    have HM := Lib.hid hm
    rw [hn] at hl ⊢
    rw [hm]
    clear hlen hn hm s1 s2
    go_enter Try.func14, Try.ntmps14
    go_wp2_with fail
    go_loopw [5] (fun vi wr => ∃ k : Nat, k ≤ n ∧ vi = .int .i64 (k : Int) ∧ Hid (la.take k = lb.take k) ∧ ∃ q, wr = w.drewN q) (fun vi _ => n - (intOf vi).toNat)
    case atStart => exact ⟨0, by omega, rfl, Lib.hid (by simp), 0, rfl⟩
    case round =>
      obtain ⟨k, hk, rfl, HT, q, rfl⟩ := hrel
      by_cases hlt : k < n
      · obtain ⟨x, hx⟩ : ∃ x, la[k]? = some x := ⟨la[k]'(by have := HN.out; omega), List.getElem?_eq_getElem _⟩
        obtain ⟨y, hy⟩ : ∃ y, lb[k]? = some y := ⟨lb[k]'(by have := HM.out; omega), List.getElem?_eq_getElem _⟩
        obtain ⟨g1, o1, rfl, _, p1⟩ := StAt.get H1.out hx
        obtain ⟨g2, o2, rfl, _, p2⟩ := StAt.get H2.out hy
        have i0 : (0 : Int) ≤ (k : Int) := by omega
        have i1 : (k : Int) < (n : Int) := by omega
        have r1 : IntKind.i64.wrap ((k : Int) + 1) = (k : Int) + 1 := IntWalk.i64_in _ (by omega)
        by_cases hxy : x = y
        · have HE := (same_iff x y).2 hxy
          have HT2 : Hid (la.take (k + 1) = lb.take (k + 1)) := Lib.hid (by rw [List.take_add_one, List.take_add_one, hx, hy, HT.out, hxy])
          clear HT hx hy hxy
          go_wp2_with fail
          go_quiet (fail)
          go_wp2_with fail
          go_roundw
          case rel => exact ⟨k + 1, by omega, by go_num, HT2, _, rfl⟩
          case measure => simp [intOf]; omega
        · have HE := same_not hxy
          have hne : la ≠ lb := fun e => by
            rw [e, hy] at hx
            exact hxy (Option.some.inj hx).symm
          have FIN : Hid (∀ q, StPost la lb w (.returned (.bool false)) (w.drewN q)) := Lib.hid (fun q => ⟨false, rfl, by simp [hne], bdrewN (Below.refl _ _) q⟩)
          clear HT hx hy hne
          go_wp2_with fail
          go_quiet (fail)
          go_wp2_with fail
          go_ret
          simp only [World.drewN_drewN]
          exact FIN.out _
      · have i1 : ¬ (k : Int) < (n : Int) := by omega
        have he : la = lb := by
          have h := HT.out
          rwa [List.take_of_length_le (by have := HN.out; omega), List.take_of_length_le (by have := HM.out; omega)] at h
        have FIN : Hid (StPost la lb w (.returned (.bool true)) (w.drewN q)) := Lib.hid ⟨true, rfl, by simp [he], bdrewN (Below.refl _ _) q⟩
        clear HT he
        go_wp2_with fail
        go_ret
        exact FIN.out
  · have hne : la ≠ lb := fun e => hlen (by rw [e])
    have FIN : Hid (StPost la lb w (.returned (.bool false)) w) := Lib.hid ⟨false, rfl, by simp [hne], Below.refl _ _⟩
    have q1 : ((la.length : Int) != (lb.length : Int)) = true := by rw [bne_iff_ne]; omega
    generalize la.length = n at *
    generalize lb.length = m at *
    have q2 : ¬ (n : Int) = (m : Int) := by omega
    clear hne s1 s2 H1 H2
    go_enter Try.func14, Try.ntmps14
    go_wp2_with fail
    go_ret
    exact FIN.out
end Go.Proofs.Ytokfnajgjhkepaa.DiffK
