/-
  Package diff: tooMany, tooLarge.
-/
import Derived.Test.YtokfnajgjhkepaaBnd2
import Derived.Test.YtokfnajgjhkepaaChecked
import Derived.Lib.Slices
namespace Go.Proofs.Ytokfnajgjhkepaa.DiffP
open Go.RowKit Kit LineM StrM DiffM DiffA

def BoPost (b : Bool) (w : World) (e : Ending) (w' : World) : Prop := e = .returned (.bool b) ∧ w = w'
open Classical in
/-- one of the lists has more than MaxLines lines -/
noncomputable def tm (Ls : List Sv) : Bool := if ∀ s ∈ Ls, s.l.length ≤ 80 then false else true
theorem tm_bad {Ls : List Sv} {s : Sv} (h : s ∈ Ls) (hb : ¬ s.l.length ≤ 80) : tm Ls = true := if_neg (fun hh => hb (hh s h))
theorem tm_ok {Ls : List Sv} (h : ∀ s ∈ Ls, s.l.length ≤ 80) : tm Ls = false := if_pos h
open Classical in
/-- one of the lists is refused -/
noncomputable def tl (Ls : List Sv) : Bool := if ∀ s ∈ Ls, okL s.l then false else true
theorem tl_bad {Ls : List Sv} {s : Sv} (h : s ∈ Ls) (hb : ¬ okL s.l) : tl Ls = true := if_neg (fun hh => hb (hh s h))
theorem tl_ok {Ls : List Sv} (h : ∀ s ∈ Ls, okL s.l) : tl Ls = false := if_pos h
theorem tl_tm {Ls : List Sv} (h : tm Ls = true) : tl Ls = true := by
  unfold tl
  rw [if_neg]
  intro hh
  rw [tm_ok (fun s hs => (hh s hs).1)] at h
  exact absurd h (by decide)
theorem tl_lf (Ls : List Sv) : tl Ls = true ↔ lf Ls = 1 := by
  unfold tl lf
  split <;> simp
set_option maxRecDepth 100000 in
set_option maxHeartbeats 2000000 in
theorem tooMany (al : Option Addr) (cap : Nat) (Ls : List Sv) (w : World) (h : SlAt 1 svc w al Ls) (hn : Ls.length ≤ 1000) :
    Calls Try.prog 40 #[.slice al Ls.length cap] w (BoPost (tm Ls) w) := by
  have H := Lib.hid h
  obtain ⟨n, hln⟩ : ∃ n, Ls.length = n := ⟨_, rfl⟩
  have HN := Lib.hid hln
  rw [hln] at hn ⊢
  clear h hln
  go_enter Try.func40, Try.ntmps40
  go_wp2_with fail
  go_loopw [7] (fun vi wr => ∃ i : Nat, i ≤ n ∧ vi = .int .i64 (i : Int) ∧ Hid (∀ s ∈ Ls.take i, s.l.length ≤ 80) ∧ wr = w) (fun vi _ => n - (intOf vi).toNat)
  case atStart => exact ⟨0, by omega, rfl, Lib.hid (by simp), rfl⟩
  case round =>
    obtain ⟨i, hi, rfl, HO, rfl⟩ := hrel
    by_cases hlt : i < n
    · obtain ⟨s, hs⟩ : ∃ s, Ls[i]? = some s := ⟨Ls[i]'(by have := HN.out; omega), List.getElem?_eq_getElem _⟩
      obtain ⟨g, off, rfl, hg, c1⟩ := sv_get H.out hs
      have hmem := List.mem_of_getElem? hs
      have j0 : (0 : Int) ≤ (i : Int) := by omega
      have j1 : (i : Int) < (n : Int) := by omega
      have r1 : IntKind.i64.wrap ((i : Int) + 1) = (i : Int) + 1 := IntWalk.i64_in _ (by omega)
      by_cases h80 : 80 < s.l.length
      · have q1 : decide ((s.l.length : Int) > 80) = true := decide_eq_true (by omega)
        have FIN : Hid (BoPost (tm Ls) wr (.returned (.bool true)) wr) := Lib.hid ⟨by rw [tm_bad hmem (by omega)], rfl⟩
        clear hs hmem HO
        go_wp2_with fail
        go_ret
        exact FIN.out
      · have q1 : decide ((s.l.length : Int) > 80) = false := decide_eq_false (by omega)
        have HT : Hid (∀ s ∈ Ls.take (i + 1), s.l.length ≤ 80) := Lib.hid (fun x hx => by
          rw [List.take_add_one, hs] at hx
          rcases List.mem_append.1 hx with hx | hx
          · exact HO.out x hx
          · have : x = s := by simpa using hx
            rw [this]; omega)
        clear hs hmem HO
        go_wp2_with fail
        go_roundw
        case rel => exact ⟨i + 1, by omega, by go_num, HT, trivial⟩
        case measure => simp [intOf]; omega
    · have j1 : ¬ (i : Int) < (n : Int) := by omega
      have FIN : Hid (BoPost (tm Ls) wr (.returned (.bool false)) wr) := Lib.hid ⟨by
        rw [tm_ok]
        have := HO.out
        rwa [List.take_of_length_le (by have := HN.out; omega)] at this, rfl⟩
      clear HO
      go_wp2_with fail
      go_ret
      exact FIN.out
set_option maxRecDepth 100000 in
set_option maxHeartbeats 2000000 in
theorem tooLarge (al : Option Addr) (cap : Nat) (Ls : List Sv) (w : World) (h : SlAt 1 svc w al Ls) (hs : ∀ s ∈ Ls, s.has w) (hn : Ls.length ≤ 1000) :
    Calls Try.prog 32 #[.slice al Ls.length cap] w (BoPost (tl Ls) w) := by
  have H := Lib.hid h
  have HS := Lib.hid hs
  have TM := Lib.hid (tooMany al cap Ls w h hn)
  obtain ⟨n, hln⟩ : ∃ n, Ls.length = n := ⟨_, rfl⟩
  have HN := Lib.hid hln
  rw [hln] at hn TM ⊢
  clear h hs hln
  cases htm : tm Ls with
  | true =>
    have FIN : Hid (BoPost (tl Ls) w (.returned (.bool true)) w) := Lib.hid ⟨by rw [tl_tm htm], rfl⟩
    rw [htm] at TM
    clear htm H HS
    go_enter Try.func32, Try.ntmps32
    go_wp2_with fail
    refine TM.out.mono ?_
    rintro e w1 ⟨rfl, rfl⟩
    go_wp2_with fail
    go_ret
    exact FIN.out
  | false =>
    have HTM : Hid (∀ s ∈ Ls, s.l.length ≤ 80) := Lib.hid (fun s hs => by
      by_cases h : s.l.length ≤ 80
      · exact h
      · rw [tm_bad hs h] at htm; exact absurd htm (by decide))
    rw [htm] at TM
    clear htm
    go_enter Try.func32, Try.ntmps32
    go_wp2_with fail
    refine TM.out.mono ?_
    rintro e w1 ⟨rfl, rfl⟩
    go_wp2_with fail
    go_loopw [11] (fun vi wr => ∃ i : Nat, i ≤ n ∧ vi = .int .i64 (i : Int) ∧ Hid (∀ s ∈ Ls.take i, okL s.l) ∧ wr = w) (fun vi _ => n - (intOf vi).toNat)
    case atStart => exact ⟨0, by omega, rfl, Lib.hid (by simp), rfl⟩
    case round =>
      obtain ⟨i, hi, rfl, HO, rfl⟩ := hrel
      by_cases hlt : i < n
      · obtain ⟨s, hs⟩ : ∃ s, Ls[i]? = some s := ⟨Ls[i]'(by have := HN.out; omega), List.getElem?_eq_getElem _⟩
        obtain ⟨g, off, rfl, hg, c1⟩ := sv_get H.out hs
        have hmem := List.mem_of_getElem? hs
        have j0 : (0 : Int) ≤ (i : Int) := by omega
        have j1 : (i : Int) < (n : Int) := by omega
        have r1 : IntKind.i64.wrap ((i : Int) + 1) = (i : Int) + 1 := IntWalk.i64_in _ (by omega)
        have HT : Hid (okL s.l → ∀ s ∈ Ls.take (i + 1), okL s.l) := Lib.hid (fun ho x hx => by
          rw [List.take_add_one, hs] at hx
          rcases List.mem_append.1 hx with hx | hx
          · exact HO.out x hx
          · have : x = s := by simpa using hx
            rw [this]; exact ho)
        have BAD : Hid (¬ okL s.l → BoPost (tl Ls) wr (.returned (.bool true)) wr) := Lib.hid (fun hb => ⟨by rw [tl_bad hmem hb], rfl⟩)
        have HSS := Lib.hid (HS.out s hmem)
        have h80 := HTM.out s hmem
        clear hs hmem HO TM
        obtain ⟨m, hm⟩ : ∃ m, s.l.length = m := ⟨_, rfl⟩
        have HM := Lib.hid hm
        rw [hm] at c1 h80
        clear hm
        go_wp2_with fail
        go_loopw [17] (fun vj wx => ∃ j : Nat, j ≤ m ∧ vj = .int .i64 (j : Int) ∧ Hid (∀ x ∈ s.l.take j, x.size ≤ 600) ∧ wx = wr) (fun vj _ => m - (intOf vj).toNat)
        case atStart => exact ⟨0, by omega, rfl, Lib.hid (by simp), rfl⟩
        case round =>
          obtain ⟨j, hj, rfl, HX, rfl⟩ := hrel
          by_cases hjl : j < m
          · obtain ⟨x, hx⟩ : ∃ x, s.l[j]? = some x := ⟨s.l[j]'(by have := HM.out; omega), List.getElem?_eq_getElem _⟩
            obtain ⟨g2, off2, ea, hg2, c2⟩ := StAt.get HSS.out hx
            have k0 : (0 : Int) ≤ (j : Int) := by omega
            have k1 : (j : Int) < (m : Int) := by omega
            have r2 : IntKind.i64.wrap ((j : Int) + 1) = (j : Int) + 1 := IntWalk.i64_in _ (by omega)
            have hxm := List.mem_of_getElem? hx
            by_cases h6 : 600 < x.size
            · have q2 : decide ((x.size : Int) > 600) = true := decide_eq_true (by omega)
              have FIN := Lib.hid (BAD.out (fun ho => by have := ho.2 x hxm; omega))
              clear BAD HT HSS HX hx hxm
              rw [ea]
              go_wp2_with fail
              go_ret
              exact FIN.out
            · have q2 : decide ((x.size : Int) > 600) = false := decide_eq_false (by omega)
              have HX2 : Hid (∀ x ∈ s.l.take (j + 1), x.size ≤ 600) := Lib.hid (fun y hy => by
                rw [List.take_add_one, hx] at hy
                rcases List.mem_append.1 hy with hy | hy
                · exact HX.out y hy
                · have : y = x := by simpa using hy
                  rw [this]; omega)
              clear HX hx hxm
              rw [ea]
              go_wp2_with fail
              go_roundw
              case rel => exact ⟨j + 1, by omega, by go_num, HX2, trivial⟩
              case measure => simp [intOf]; omega
          · have k1 : ¬ (j : Int) < (m : Int) := by omega
            have HT2 := Lib.hid (HT.out ⟨by rw [HM.out]; omega, by
              have := HX.out
              rwa [List.take_of_length_le (by have := HM.out; omega)] at this⟩)
            clear HT BAD HSS HX
            go_wp2_with fail
            go_roundw
            case rel => exact ⟨i + 1, by omega, by go_num, HT2, trivial⟩
            case measure => simp [intOf]; omega
      · have j1 : ¬ (i : Int) < (n : Int) := by omega
        have FIN : Hid (BoPost (tl Ls) wr (.returned (.bool false)) wr) := Lib.hid ⟨by
          rw [tl_ok]
          have := HO.out
          rwa [List.take_of_length_le (by have := HN.out; omega)] at this, rfl⟩
        clear HO TM
        go_wp2_with fail
        go_ret
        exact FIN.out
end Go.Proofs.Ytokfnajgjhkepaa.DiffP
