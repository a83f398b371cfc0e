/-
  Insertions that are undone, on plain data. No program is named.
-/
import Derived.Test.YtllpglanpfjcnaaMoveMath
namespace Go.Proofs.Ytllpglanpfjcnaa.MarkM
open Go.RowKit Kit EditM

def modE (e : EdM) (n : Int) : EdM := ⟨e.at_ % (n + 1), 0, e.put⟩
def bkE (e : EdM) : EdM := ⟨e.at_, (e.put.size : Int), ⟨#[]⟩⟩
/-- insertions alone, each within the text -/
def modS : List EdM → Int → List EdM
  | [], _ => []
  | e :: l, n => modE e n :: modS l (n + e.put.size)
def bkS (l : List EdM) : List EdM := (l.map bkE).reverse
def szP (l : List EdM) (n : Int) : Int := l.foldl (fun n e => n + e.put.size) n
theorem modS_len (l : List EdM) (n : Int) : (modS l n).length = l.length := by
  induction l generalizing n with
  | nil => rfl
  | cons e l ih => simp [modS, ih]
theorem bkS_cons (e : EdM) (l : List EdM) : bkS (e :: l) = bkS l ++ [bkE e] := by simp [bkS]
theorem modS_append (l m : List EdM) (n : Int) : modS (l ++ m) n = modS l n ++ modS m (szP l n) := by
  induction l generalizing n with
  | nil => rfl
  | cons e l ih => simp [modS, ih, szP]
theorem szP_append (l m : List EdM) (n : Int) : szP (l ++ m) n = szP m (szP l n) := by simp [szP]
theorem szP_bound {l : List EdM} {n : Int} (h : ∀ e ∈ l, e.put.size ≤ 8) : n ≤ szP l n ∧ szP l n ≤ n + 8 * l.length := by
  induction l generalizing n with
  | nil => exact ⟨Int.le_refl _, by simp [szP]⟩
  | cons e l ih =>
    have h1 := h e (by simp)
    have := ih (n := n + e.put.size) (fun x hx => h x (by simp [hx]))
    show n ≤ szP l (n + e.put.size) ∧ szP l (n + e.put.size) ≤ n + 8 * ((l.length + 1 : Nat) : Int)
    omega
theorem back_plc {e : EdM} {n : Int} (h0 : 0 ≤ n) (m : MkM) : plc (bkE (modE e n)) (plc (modE e n) m) = m := by
  obtain ⟨x, r⟩ := m
  have h1 := Int.emod_nonneg e.at_ (show n + 1 ≠ 0 by omega)
  unfold plc bkE modE placed
  dsimp only
  congr 1
  generalize e.at_ % (n + 1) = a at *
  have hz : ((⟨#[]⟩ : ByteArray).size : Int) = 0 := rfl
  generalize e.put.size = p at *
  rw [hz]
  cases r <;> simp <;> (repeat' split) <;> omega
/-- insertions and what undoes them -/
theorem undo_all : ∀ (l : List EdM) (n : Int), 0 ≤ n → n + 8 * l.length ≤ 600 → (∀ e ∈ l, e.put.size ≤ 8) →
    szC (modS l n ++ bkS (modS l n)) n = 0 ∧ szN (modS l n ++ bkS (modS l n)) n = n ∧ ∀ m, mvd (modS l n ++ bkS (modS l n)) m = m
  | [], n, _, _, _ => ⟨rfl, rfl, fun _ => rfl⟩
  | e :: l, n, h0, hb, hp => by
    have p8 := hp e (by simp)
    rw [List.length_cons] at hb
    obtain ⟨i1, i2, i3⟩ := undo_all l (n + e.put.size) (by omega) (by omega) (fun x hx => hp x (by simp [hx]))
    have h1 := Int.emod_nonneg e.at_ (show n + 1 ≠ 0 by omega)
    have h2 := Int.emod_lt_of_pos e.at_ (show 0 < n + 1 by omega)
    have f1 : fault n (modE e n).at_ (modE e n).cut (modE e n).put.size = 0 := fault_zero.2 ⟨h0, by omega, h1, by show (0 : Int) ≤ 0; omega, by show (0 : Int) ≤ n - e.at_ % (n + 1); omega, by show n - 0 + (e.put.size : Int) ≤ 600; omega⟩
    have f2 : fault (n + e.put.size) (bkE (modE e n)).at_ (bkE (modE e n)).cut (bkE (modE e n)).put.size = 0 := fault_zero.2 ⟨by omega, by omega, h1, by show (0 : Int) ≤ (e.put.size : Int); omega, by show (e.put.size : Int) ≤ n + e.put.size - e.at_ % (n + 1); omega, by show n + (e.put.size : Int) - e.put.size + ((0 : Nat) : Int) ≤ 600; omega⟩
    have eL : modS (e :: l) n ++ bkS (modS (e :: l) n) = modE e n :: ((modS l (n + e.put.size) ++ bkS (modS l (n + e.put.size))) ++ [bkE (modE e n)]) := by
      show modE e n :: modS l (n + e.put.size) ++ bkS (modE e n :: modS l (n + e.put.size)) = _
      rw [bkS_cons]; simp
    rw [eL]
    have en : n - (modE e n).cut + (modE e n).put.size = n + e.put.size := by show n - 0 + (e.put.size : Int) = _; omega
    refine ⟨?_, ?_, fun m => ?_⟩
    · simp only [szC, if_pos f1]
      rw [en, szC_append _ _ _ i1, i2]
      simp only [szC, if_pos f2]
    · show szN ((modS l (n + e.put.size) ++ bkS (modS l (n + e.put.size))) ++ [bkE (modE e n)]) (n - (modE e n).cut + (modE e n).put.size) = n
      rw [en, szN_append, i2]
      show n + e.put.size - (e.put.size : Int) + ((0 : Nat) : Int) = n
      omega
    · show mvd ((modS l (n + e.put.size) ++ bkS (modS l (n + e.put.size))) ++ [bkE (modE e n)]) (plc (modE e n) m) = m
      rw [mvd_append, i3]
      exact back_plc h0 m
/-- the first k are made insertions -/
def modH (l : List EdM) (n : Int) (k : Nat) : List EdM := modS (l.take k) n ++ l.drop k
theorem modH_zero (l : List EdM) (n : Int) : modH l n 0 = l := by simp [modH, modS]
theorem modH_all (l : List EdM) (n : Int) : modH l n l.length = modS l n := by simp [modH]
theorem modH_len (l : List EdM) (n : Int) (k : Nat) : (modH l n k).length = l.length := by unfold modH; rw [List.length_append, modS_len, List.length_take, List.length_drop]; omega
theorem modH_get {l : List EdM} {n : Int} {k : Nat} {e : EdM} (h : l[k]? = some e) : (modH l n k)[k]? = some e := by
  have hlt := (List.getElem?_eq_some_iff.1 h).1
  unfold modH
  rw [List.getElem?_append_right (by rw [modS_len, List.length_take]; omega), modS_len, List.length_take, show k - min k l.length = 0 by omega, drop_next h]; rfl
theorem modH_next {l : List EdM} {n : Int} {k : Nat} {e : EdM} (h : l[k]? = some e) : (modH l n k).set k (modE e (szP (l.take k) n)) = modH l n (k + 1) := by
  have hlt := (List.getElem?_eq_some_iff.1 h).1
  unfold modH
  rw [drop_next h, take_next h, modS_append, List.set_append_right _ _ (by rw [modS_len, List.length_take]; omega), modS_len, List.length_take, show k - min k l.length = 0 by omega]
  simp [modS]
theorem szP_next {l : List EdM} {n : Int} {k : Nat} {e : EdM} (h : l[k]? = some e) : szP (l.take (k + 1)) n = szP (l.take k) n + e.put.size := by
  rw [take_next h, szP_append]; rfl
theorem bk_next {L : List EdM} {m : Nat} {e : EdM} (h : L[m]? = some e) : bkS (L.drop m) = bkS (L.drop (m + 1)) ++ [bkE e] := by
  rw [drop_next h, bkS_cons]
theorem modS_ok {l : List EdM} {n : Int} (h0 : 0 ≤ n) (hb : n + 8 * l.length ≤ 600) (hp : ∀ e ∈ l, e.put.size ≤ 8) : ∀ e ∈ modS l n, (0 ≤ e.at_ ∧ e.at_ ≤ 600 ∧ e.cut = 0) ∧ e.put.size ≤ 8 := by
  induction l generalizing n with
  | nil => intro e he; simp [modS] at he
  | cons x l ih =>
    have p8 := hp x (by simp)
    rw [List.length_cons] at hb
    intro e he
    simp only [modS, List.mem_cons] at he
    rcases he with rfl | he
    · have h1 := Int.emod_nonneg x.at_ (show n + 1 ≠ 0 by omega)
      have h2 := Int.emod_lt_of_pos x.at_ (show 0 < n + 1 by omega)
      exact ⟨⟨h1, by show x.at_ % (n + 1) ≤ 600; omega, rfl⟩, p8⟩
    · exact ih (by omega) (by omega) (fun y hy => hp y (by simp [hy])) e he

end Go.Proofs.Ytllpglanpfjcnaa.MarkM
