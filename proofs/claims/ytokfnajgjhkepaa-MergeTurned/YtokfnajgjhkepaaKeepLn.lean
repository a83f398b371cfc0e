/-
  Lines that fustiankeep.Lines makes: within the limits, joined.
-/
import Derived.Test.YtokfnajgjhkepaaKeepLines
import Derived.Test.YtokfnajgjhkepaaBnd2
namespace Go.Proofs.Ytokfnajgjhkepaa.DiffK
open Go.RowKit Kit Lift Txt LineM StrM DiffM DiffA

theorem LnOk.ok {n : Nat} {L : List ByteArray} (h : LnOk n L) (hn : n ≤ 80) : okL L := ⟨by have := h.len; omega, fun s hs => by rw [h.one s hs]; omega⟩
theorem kinds8 (kd : Int) : 1 ≤ 1 + kd % 8 ∧ 1 + kd % 8 ≤ 8 := by
  have h1 := Int.emod_nonneg kd (show (8 : Int) ≠ 0 by omega)
  have h2 := Int.emod_lt_of_pos kd (show (0 : Int) < 8 by omega)
  omega
theorem LnOk.app {n m : Nat} {L M : List ByteArray} (h : LnOk n L) (k : LnOk m M) : LnOk (n + m) (L ++ M) := ⟨by have := h.len; have := k.len; simp; omega, fun s hs => by
  rcases List.mem_append.1 hs with hs | hs
  · exact h.one s hs
  · exact k.one s hs⟩
theorem LnOk.single {s : ByteArray} (h : s.size = 1) : LnOk 1 [s] := ⟨by simp, fun x hx => by rw [List.mem_singleton] at hx; rw [hx]; exact h⟩
end Go.Proofs.Ytokfnajgjhkepaa.DiffK
