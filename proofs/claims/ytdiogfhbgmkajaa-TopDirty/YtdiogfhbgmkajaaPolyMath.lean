/-
  Plain mathematics of package poly: the hash of a list of bytes. No program is named.
-/
import Derived.WalkKit
namespace Go.Proofs.Ytdiogfhbgmkajaa.PolyM

/-- the value before any division -/
def rv (l : List UInt8) : Nat := l.foldl (fun v c => v * 257 + c.toNat + 1) 0
def hv (l : List UInt8) : Nat := rv l % 2147483647
def hs (n : Nat) : Nat := 257 ^ n % 2147483647

theorem rv_from : ∀ (l : List UInt8) (v : Nat), l.foldl (fun v c => v * 257 + c.toNat + 1) v = v * 257 ^ l.length + rv l
  | [], v => by simp [rv]
  | c :: l, v => by
    have h1 := rv_from l (v * 257 + c.toNat + 1)
    have h2 := rv_from l (0 * 257 + c.toNat + 1)
    simp only [List.foldl_cons, rv, List.length_cons] at h1 h2 ⊢
    rw [h1, h2]
    simp only [Nat.pow_succ, Nat.add_mul, Nat.zero_mul, Nat.zero_add, Nat.mul_assoc, Nat.mul_comm 257]
    omega
theorem rv_append (a b : List UInt8) : rv (a ++ b) = rv a * 257 ^ b.length + rv b := by
  have := rv_from b (rv a)
  rw [← this]; simp [rv]
theorem rv_one (c : UInt8) : rv [c] = c.toNat + 1 := by simp [rv]

theorem hv_nil : hv [] = 0 := rfl
theorem hs_zero : hs 0 = 1 := rfl
theorem hv_lt (l : List UInt8) : hv l < 2147483647 := Nat.mod_lt _ (by decide)
theorem hs_lt (n : Nat) : hs n < 2147483647 := Nat.mod_lt _ (by decide)

theorem hv_append (a b : List UInt8) : hv (a ++ b) = (hv a * hs b.length + hv b) % 2147483647 := by
  unfold hv hs
  rw [rv_append, Nat.add_mod, Nat.mul_mod]
  exact (Nat.add_mod _ _ _).symm ▸ by simp [Nat.add_mod]
theorem hs_add (m n : Nat) : hs (m + n) = hs m * hs n % 2147483647 := by
  unfold hs
  rw [Nat.pow_add, Nat.mul_mod]
theorem hv_snoc (l : List UInt8) (c : UInt8) : hv (l ++ [c]) = (hv l * 257 + c.toNat + 1) % 2147483647 := by
  unfold hv
  rw [rv_append, rv_one]
  simp only [List.length_singleton, Nat.pow_one]
  omega
theorem hs_succ (n : Nat) : hs (n + 1) = hs n * 257 % 2147483647 := by
  rw [hs_add]; rfl
theorem hv_cons (c : UInt8) (l : List UInt8) : hv (c :: l) = (hv l + (c.toNat + 1) * hs l.length) % 2147483647 := by
  have := hv_append [c] l
  rw [List.singleton_append] at this
  rw [this]
  have h1 : hv [c] = c.toNat + 1 := by
    have := c.toNat_lt
    unfold hv; rw [rv_one]; omega
  rw [h1, Nat.add_comm]

theorem base_prime : Nat.Coprime 257 2147483647 := by decide +kernel
theorem pow_prime (n : Nat) : Nat.Coprime 2147483647 (257 ^ n) := (base_prime.pow_left n).symm
theorem hs_ne (n : Nat) : hs n ≠ 0 := by
  intro h
  have hd : 2147483647 ∣ 257 ^ n := Nat.dvd_of_mod_eq_zero h
  have h1 : Nat.gcd 2147483647 (257 ^ n) = 2147483647 := Nat.gcd_eq_left hd
  have h2 : Nat.gcd 2147483647 (257 ^ n) = 1 := pow_prime n
  omega

/-- a difference that is divided even behind more bytes is divided before them -/
theorem apart {u v n r : Nat} (h : (u * 257 ^ n + r) % 2147483647 = (v * 257 ^ n + r) % 2147483647) (huv : u ≤ v) (hlt : v - u < 2147483647) : u = v := by
  obtain ⟨d, rfl⟩ := Nat.exists_eq_add_of_le huv
  have e : (u + d) * 257 ^ n + r = (u * 257 ^ n + r) + d * 257 ^ n := by rw [Nat.add_mul]; omega
  rw [e] at h
  have hd : 2147483647 ∣ d * 257 ^ n := by
    generalize d * 257 ^ n = z at *
    generalize u * 257 ^ n + r = y at *
    omega
  have hd := (pow_prime n).dvd_of_dvd_mul_right hd
  obtain ⟨q, hq⟩ := hd
  omega

theorem byte_seen (a b : List UInt8) (x y : UInt8) (h : hv (a ++ [x] ++ b) = hv (a ++ [y] ++ b)) : x = y := by
  have hx := x.toNat_lt
  have hy := y.toNat_lt
  unfold hv at h
  rw [rv_append, rv_append, rv_append, rv_append, rv_one, rv_one] at h
  simp only [List.length_singleton, Nat.pow_one] at h
  have key : x.toNat = y.toNat := by
    rcases Nat.le_total x.toNat y.toNat with hle | hle
    · have := apart h (by omega) (by omega); omega
    · have := apart h.symm (by omega) (by omega); omega
  exact UInt8.toNat_inj.1 key
theorem turn_seen (x y : UInt8) (h : hv [x, y] = hv [y, x]) : x = y := by
  have hx := x.toNat_lt
  have hy := y.toNat_lt
  apply UInt8.toNat_inj.1
  simp only [hv, rv, List.foldl_cons, List.foldl_nil] at h
  omega

/-! ### many times the same -/
def rep (l : List UInt8) (k : Nat) : List UInt8 := (List.replicate k l).flatten
theorem rep_zero (l : List UInt8) : rep l 0 = [] := rfl
theorem rep_add (l : List UInt8) (a b : Nat) : rep l (a + b) = rep l a ++ rep l b := by
  unfold rep; rw [← List.replicate_append_replicate, List.flatten_append]
theorem rep_succ (l : List UInt8) (k : Nat) : rep l (k + 1) = rep l k ++ l := by
  rw [rep_add]; simp [rep]
theorem rep_one (l : List UInt8) : rep l 1 = l := by simp [rep]
theorem rep_length (l : List UInt8) (k : Nat) : (rep l k).length = k * l.length := by
  simp [rep]

/-! ### what is valid -/
def resB (x : Int) : Bool := decide (0 ≤ x) && decide (x < 2147483647)
def mayH (v s : Int) : Bool := resB v && (resB s && s != 0)
theorem resB_iff (x : Int) : resB x = true ↔ 0 ≤ x ∧ x < 2147483647 := by simp [resB]
theorem mayH_iff (v s : Int) : mayH v s = true ↔ (0 ≤ v ∧ v < 2147483647) ∧ 0 < s ∧ s < 2147483647 := by
  simp only [mayH, Bool.and_eq_true, resB_iff, bne_iff_ne]; omega
theorem mayH_of (l : List UInt8) (n : Nat) : mayH (hv l) (hs n) = true := by
  have h1 := hv_lt l
  have h2 := hs_lt n
  have h3 := hs_ne n
  rw [mayH_iff]; omega
theorem prod_bd {a b : Int} (ha : 0 ≤ a) (ha' : a < 2147483647) (hb : 0 ≤ b) (hb' : b < 2147483647) : 0 ≤ a * b ∧ a * b ≤ 4611686009837453316 := by
  refine ⟨Int.mul_nonneg ha hb, ?_⟩
  have : a * b ≤ 2147483646 * 2147483646 := Int.mul_le_mul (by omega) (by omega) hb (by omega)
  omega

end Go.Proofs.Ytdiogfhbgmkajaa.PolyM
