/-
  Package lines at starts of a text that a call holds.
-/
import Derived.Test.YtfikolidmpjfcaaLineLine
namespace Go.Proofs.Ytfikolidmpjfcaa.LineC
open Go.RowKit Kit EditM LineM

theorem updateV (t : Bs) (e : EdM) (v : Value) (w : World) (hv : IsV w v (sts t)) (he : e.fits t) :
    Calls Try.prog 13 #[v, .int .i64 (t.length : Int), .agg #[.int .i64 e.at_, .int .i64 e.cut, .string e.put]] w (IsPost w (sts (e.step t)) 0) := by
  obtain ⟨al, cap, rfl, hle, ha, _⟩ := hv
  obtain ⟨a, c, p⟩ := e
  have hn := he.nat
  obtain ⟨h1, h2, h3, h4, h5⟩ := he
  dsimp only at *
  obtain ⟨a, rfl⟩ := Int.eq_ofNat_of_zero_le h1
  obtain ⟨c, rfl⟩ := Int.eq_ofNat_of_zero_le h2
  exact update_ok t al cap a c p w ha hle (by simpa using hn) h5 (by omega)
theorem lineV (t : Bs) (a : Int) (v : Value) (w : World) (hv : IsV w v (sts t)) (ht : t.length ≤ 600) (ha : 0 ≤ a) :
    Calls Try.prog 15 #[v, .int .i64 a] w (LinePost (sts t) a w) := by
  obtain ⟨al, cap, rfl, hle, hat, _⟩ := hv
  have hg := sts_good (n := 600) (t := t) (by omega) ht
  exact line_ok (sts t) al cap a w hat hle (by have := hg.len; unfold maxLen; omega) hg ha
/-- the starts of a text that is not long are few -/
theorem sts_few {t : Bs} {m : Nat} (h : t.length ≤ m) : (sts t).length ≤ m + 1 := by
  have := PosM.lns_col_le t
  rw [sts_len]; omega
end Go.Proofs.Ytfikolidmpjfcaa.LineC
