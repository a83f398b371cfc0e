/-
  The document's answer: LinesLine.
-/
import Derived.Test.YtfikolidmpjfcaaRefStarts
namespace Go.Proofs.Ytfikolidmpjfcaa.LineR
open Go.RowKit Kit EditM LineM

/-- the last one of the first k that is at most a -/
def Last (zs : List Int) (a : Int) (k n : Nat) : Prop := (k = 0 ∧ n = 0) ∨ (n < k ∧ (∀ x, zs[n]? = some x → x ≤ a) ∧ ∀ j x, n < j → j < k → zs[j]? = some x → a < x)
theorem Last.yes {zs : List Int} {a x : Int} {k : Nat} (hx : zs[k]? = some x) (h : x ≤ a) : Last zs a (k + 1) k :=
  .inr ⟨by omega, fun y hy => by rw [hx] at hy; cases hy; exact h, fun j y h1 h2 => by omega⟩
theorem Last.no {zs : List Int} {a x : Int} {k n : Nat} (hl : Last zs a k n) (hx : zs[k]? = some x) (h : a < x) (hk : 0 < k) : Last zs a (k + 1) n := by
  rcases hl with ⟨h1, _⟩ | ⟨h1, h2, h3⟩
  · omega
  · refine .inr ⟨by omega, h2, fun j y j1 j2 hy => ?_⟩
    by_cases e : j = k
    · subst e; rw [hx] at hy; cases hy; exact h
    · exact h3 j y j1 (by omega) hy
theorem Last.up {zs : List Int} {a : Int} {n : Nat} (h : Last zs a zs.length n) (h0 : 0 < zs.length) : UpTo zs a (n + 1) := by
  rcases h with ⟨h1, _⟩ | ⟨h1, h2, h3⟩
  · omega
  · exact ⟨by omega, fun _ x hx => h2 x (by simpa using hx), fun x hx => h3 (n + 1) x (by omega) (List.getElem?_eq_some_iff.1 hx).1 hx⟩
def LnPost (x c : Int) (w : World) (e : Ending) (w' : World) : Prop := e = .returned (.tuple #[.int .i64 x, .int .i64 c]) ∧ Below w.heap.size w w'
def LinePost (zs : List Int) (a : Int) (w : World) (e : Ending) (w' : World) : Prop := ∃ i : Nat, e = .returned (.tuple #[.int .i64 (i : Int), .int .i64 0]) ∧ UpTo zs a (i + 1) ∧ Below w.heap.size w w'
set_option maxHeartbeats 1000000 in
theorem line_bad (zs : List Int) (al : Option Addr) (cap : Nat) (a : Int) (w : World) (hl : IsAt w al zs) (hmx : zs.length ≤ maxLen) (hv : ¬ Vld 600 zs) :
    Calls Try.prog 16 #[.slice al zs.length cap, .int .i64 a] w (LnPost 0 4 w) := by
  have VA := Lib.hid (startsMay zs al cap w hl hmx)
  rw [goodB_no hv] at VA
  clear hl hv
  generalize zs.length = n at *
  go_enter Try.func16, Try.ntmps16
  go_wp2_with fail
  refine VA.out.mono ?_
  rintro e w1 ⟨rfl, hb⟩
  have B := Lib.hid hb
  clear hb VA
  go_wp2_with fail
  go_ret2
  exact ⟨rfl, B.out⟩
set_option maxHeartbeats 1000000 in
theorem line_range (zs : List Int) (al : Option Addr) (cap : Nat) (a : Int) (w : World) (hl : IsAt w al zs) (hmx : zs.length ≤ maxLen) (hv : Vld 600 zs) (ha : a < 0) :
    Calls Try.prog 16 #[.slice al zs.length cap, .int .i64 a] w (LnPost 0 2 w) := by
  have VA := Lib.hid (startsMay zs al cap w hl hmx)
  rw [goodB_yes hv] at VA
  clear hl hv
  generalize zs.length = n at *
  go_enter Try.func16, Try.ntmps16
  go_wp2_with fail
  refine VA.out.mono ?_
  rintro e w1 ⟨rfl, hb⟩
  have B := Lib.hid hb
  clear hb VA
  go_wp2_with fail
  go_ret2
  exact ⟨rfl, B.out⟩
set_option maxRecDepth 100000 in
set_option maxHeartbeats 2000000 in
theorem line_ok (zs : List Int) (al : Option Addr) (cap : Nat) (a : Int) (w : World) (hl : IsAt w al zs) (hmx : zs.length ≤ maxLen) (hv : Vld 600 zs) (ha : 0 ≤ a) :
    Calls Try.prog 16 #[.slice al zs.length cap, .int .i64 a] w (LinePost zs a w) := by
  have VA := Lib.hid (startsMay zs al cap w hl hmx)
  rw [goodB_yes hv] at VA
  have h601 := hv.len
  have h0 := hv.ne
  obtain ⟨n, hn⟩ : ∃ n, n = zs.length := ⟨_, rfl⟩
  have HN := Lib.hid hn
  have HG : Hid (∀ i, i < n → zs[i]? = some (zs.getD i 0)) := Lib.hid fun i hi => by rw [HN.out] at hi; simp [List.getD, hi]
  obtain ⟨g, off, rfl, hg0, _⟩ := hl.get (HG.out 0 (by omega))
  have HC : Hid (∀ W, Below w.heap.size w W → ∀ i, i < n → W.cell? ⟨g, off + i, none⟩ = some (.int .i64 (zs.getD i 0))) := Lib.hid fun W hW i hi => by
    obtain ⟨g', off', e', _, c⟩ := IsAt.get (hl.next hW) (HG.out i hi)
    simp only [Option.some.injEq, Addr.mk.injEq, and_true] at e'
    obtain ⟨rfl, rfl⟩ := e'
    exact c
  have Z0 : Hid (zs.getD 0 0 = 0) := Lib.hid (by have := hv.head; simp [List.getD, this])
  rw [← hn] at VA h601 h0 ⊢
  clear hn hl hv
  go_enter Try.func16, Try.ntmps16
  go_wp2_with fail
  refine VA.out.mono ?_
  rintro e w1 ⟨rfl, hb⟩
  have B := Lib.hid hb
  have CC := Lib.hid (HC.out _ hb)
  clear hb VA HC
  go_wp2_with fail
  go_loop [6, 16] (fun vn vi => ∃ k q : Nat, k ≤ n ∧ vi = .int .i64 (k : Int) ∧ vn = .int .i64 (q : Int) ∧ Hid (Last zs a k q)) (fun _ vi => n - (intOf vi).toNat)
  case atStart => exact ⟨0, 0, by omega, rfl, rfl, Lib.hid (.inl ⟨rfl, rfl⟩)⟩
  case round =>
    obtain ⟨k, q, hk, rfl, rfl, HQ⟩ := hrel
    by_cases hlt : k < n
    · have cj := CC.out k hlt
      have hx := Lib.hid (HG.out k hlt)
      have hk0 : zs.getD k 0 ≤ a ∨ 0 < k := by
        rcases Nat.eq_zero_or_pos k with rfl | h
        · left; rw [Z0.out]; exact ha
        · exact .inr h
      generalize zs.getD k 0 = x at *
      have i1 : (k : Int) < (n : Int) := by omega
      have i2 : (0 : Int) ≤ (k : Int) := by omega
      by_cases hxa : x ≤ a
      · have NX := Lib.hid (Last.yes hx.out hxa)
        clear hk0
        go_wp2_with fail
        go_round
        case rel => exact ⟨k + 1, k, by omega, by go_num, rfl, NX⟩
        case measure => simp [intOf]; omega
      · have NX := Lib.hid (HQ.out.no hx.out (by omega) (by omega))
        clear hk0
        go_wp2_with fail
        go_round
        case rel => exact ⟨k + 1, q, by omega, by go_num, rfl, NX⟩
        case measure => simp [intOf]; omega
    · obtain rfl : k = n := by omega
      have FIN : Hid (UpTo zs a (q + 1)) := Lib.hid (by
        have := HQ.out
        rw [HN.out] at this
        exact this.up (by rw [← HN.out]; omega))
      clear HQ
      go_wp2_with fail
      go_ret2
      exact ⟨q, rfl, FIN.out, B.out⟩
end Go.Proofs.Ytfikolidmpjfcaa.LineR
