/-
  Package edit on plain data: what is refused of an edit, what an edit makes of a text, where an offset goes, what edits undo. No program is named.
-/
import Derived.Test.YtcknmaimkodaeaaKit
namespace Go.Proofs.Ytcknmaimkodaeaa.EditM
open Go.RowKit Kit

abbrev Bs := List UInt8
/-- a string of these bytes -/
def str (l : Bs) : ByteArray := ⟨l.toArray⟩
theorem str_list (s : ByteArray) : str s.data.toList = s := by cases s; simp [str]
theorem list_str (l : Bs) : (str l).data.toList = l := by simp [str]
theorem size_str (l : Bs) : (str l).size = l.length := by simp [str, ByteArray.size]
theorem size_list (s : ByteArray) : s.data.toList.length = s.size := by simp
theorem str_append (a b : Bs) : str a ++ str b = str (a ++ b) := by apply ByteArray.ext; simp [str]
theorem str_inj {a b : Bs} (h : str a = str b) : a = b := by rw [← list_str a, h, list_str]

theorem ret_str {a b : ByteArray} (h : a = b) : Ending.returned (.string a) = .returned (.string b) := by rw [h]
theorem ret_int {k : IntKind} {a b : Int} (h : a = b) : Ending.returned (.int k a) = .returned (.int k b) := by rw [h]
theorem ret_bool {a b : Bool} (h : a = b) : Ending.returned (.bool a) = .returned (.bool b) := by rw [h]
theorem ret_two {a b c : Int} (h : a = b) : Ending.returned (.tuple #[.int .i64 a, .int .i64 c]) = .returned (.tuple #[.int .i64 b, .int .i64 c]) := by rw [h]
theorem ret_strint {a b : ByteArray} {c d : Int} (h : a = b) (h2 : c = d) : Ending.returned (.tuple #[.string a, .int .i64 c]) = .returned (.tuple #[.string b, .int .i64 d]) := by rw [h, h2]

theorem bdrew {w W1 : World} (h : Below w.heap.size w W1) : Below w.heap.size w W1.drew := h.trans ⟨rfl, rfl, rfl, Nat.le_refl _, fun _ _ => rfl⟩

structure EdM where
  at_ : Int
  cut : Int
  put : ByteArray
def EdM.cells (e : EdM) : Array Value := #[.int .i64 e.at_, .int .i64 e.cut, .string e.put]
def EdM.val (e : EdM) : Value := .agg e.cells
/-- its numbers are numbers of the machine, its text is not beyond all memory -/
structure EdM.ok (e : EdM) : Prop where
  a0 : -9223372036854775808 ≤ e.at_
  a1 : e.at_ ≤ 9223372036854775807
  c0 : -9223372036854775808 ≤ e.cut
  c1 : e.cut ≤ 9223372036854775807
  p : e.put.size ≤ 140737488351232

/-- what is refused of an edit -/
def fault (size a c : Int) (p : Nat) : Int :=
  if size < 0 ∨ 600 < size ∨ a < 0 ∨ c < 0 ∨ size - a < c then 2
  else if 600 < size - c + p then 1
  else 0
theorem fault_range {size a c : Int} {p : Nat} (h : size < 0 ∨ 600 < size ∨ a < 0 ∨ c < 0 ∨ size - a < c) : fault size a c p = 2 := if_pos h
theorem fault_size {size a c : Int} {p : Nat} (h : ¬ (size < 0 ∨ 600 < size ∨ a < 0 ∨ c < 0 ∨ size - a < c)) (h2 : 600 < size - c + p) : fault size a c p = 1 := by
  unfold fault; rw [if_neg h, if_pos h2]
theorem fault_ok {size a c : Int} {p : Nat} (h : ¬ (size < 0 ∨ 600 < size ∨ a < 0 ∨ c < 0 ∨ size - a < c)) (h2 : ¬ 600 < size - c + p) : fault size a c p = 0 := by
  unfold fault; rw [if_neg h, if_neg h2]
theorem fault_zero {size a c : Int} {p : Nat} : fault size a c p = 0 ↔ 0 ≤ size ∧ size ≤ 600 ∧ 0 ≤ a ∧ 0 ≤ c ∧ c ≤ size - a ∧ size - c + p ≤ 600 := by
  constructor
  · intro h
    unfold fault at h
    split at h
    · omega
    · split at h
      · omega
      · omega
  · intro h
    exact fault_ok (by omega) (by omega)
theorem fault_cases (size a c : Int) (p : Nat) : fault size a c p = 0 ∨ fault size a c p = 1 ∨ fault size a c p = 2 := by
  unfold fault; split
  · simp
  · split <;> simp

/-- what an edit makes of a text -/
def made (t : Bs) (a c : Nat) (p : Bs) : Bs := t.take a ++ p ++ t.drop (a + c)
theorem made_length {t : Bs} {a c : Nat} {p : Bs} (h : a + c ≤ t.length) : (made t a c p).length = t.length - c + p.length := by
  simp [made]; omega
def EdM.step (e : EdM) (t : Bs) : Bs := made t e.at_.toNat e.cut.toNat e.put.data.toList
def EdM.fault (e : EdM) (t : Bs) : Int := EditM.fault t.length e.at_ e.cut e.put.size
/-- a valid edit -/
structure EdM.fits (e : EdM) (t : Bs) : Prop where
  a0 : 0 ≤ e.at_
  c0 : 0 ≤ e.cut
  le : e.cut ≤ (t.length : Int) - e.at_
  lt : (t.length : Int) - e.cut + e.put.size ≤ 600
  t6 : t.length ≤ 600
theorem EdM.fits_of {e : EdM} {t : Bs} (h : e.fault t = 0) : e.fits t := by
  obtain ⟨h1, h2, h3, h4, h5, h6⟩ := fault_zero.1 h
  exact ⟨h3, h4, h5, h6, by omega⟩
theorem EdM.fits.fault {e : EdM} {t : Bs} (h : e.fits t) : e.fault t = 0 := by
  obtain ⟨h1, h2, h3, h4, h5⟩ := h
  exact fault_zero.2 ⟨by omega, by omega, h1, h2, h3, h4⟩
theorem EdM.fits.nat {e : EdM} {t : Bs} (h : e.fits t) : e.at_.toNat + e.cut.toNat ≤ t.length := by obtain ⟨h1, h2, h3, h4, h5⟩ := h; omega
theorem EdM.fits.len {e : EdM} {t : Bs} (h : e.fits t) : (e.step t).length = t.length - e.cut.toNat + e.put.size := by
  have := h.nat
  unfold EdM.step
  rw [made_length this, size_list]
theorem EdM.fits.len6 {e : EdM} {t : Bs} (h : e.fits t) : (e.step t).length ≤ 600 := by
  rw [h.len]; obtain ⟨h1, h2, h3, h4, h5⟩ := h; omega

/-- the text behind some edits, whether they are valid or not -/
def apT : List EdM → Bs → Bs
  | [], t => t
  | e :: l, t => apT l (e.step t)
/-- the first error -/
def apC : List EdM → Bs → Int
  | [], _ => 0
  | e :: l, t => if e.fault t = 0 then apC l (e.step t) else e.fault t
theorem apT_append (l m : List EdM) (t : Bs) : apT (l ++ m) t = apT m (apT l t) := by
  induction l generalizing t with
  | nil => rfl
  | cons e l ih => simp [apT, ih]
theorem apC_append (l m : List EdM) (t : Bs) (h : apC l t = 0) : apC (l ++ m) t = apC m (apT l t) := by
  induction l generalizing t with
  | nil => rfl
  | cons e l ih =>
    by_cases h0 : e.fault t = 0
    · simp only [apC, if_pos h0, List.cons_append, apT] at h ⊢; exact ih _ h
    · simp only [apC, if_neg h0] at h; exact absurd h h0
theorem apC_head (l m : List EdM) (t : Bs) (h : apC (l ++ m) t = 0) : apC l t = 0 := by
  induction l generalizing t with
  | nil => rfl
  | cons e l ih =>
    by_cases h0 : e.fault t = 0
    · simp only [apC, if_pos h0, List.cons_append] at h ⊢; exact ih _ h
    · simp only [apC, if_neg h0, List.cons_append] at h; exact absurd h h0
theorem apC_tail (l m : List EdM) (t : Bs) (h : apC (l ++ m) t = 0) : apC m (apT l t) = 0 := by rw [← apC_append l m t (apC_head l m t h)]; exact h
theorem apT_len {l : List EdM} {t : Bs} (h : apC l t = 0) (ht : t.length ≤ 600) : (apT l t).length ≤ 600 := by
  induction l generalizing t with
  | nil => exact ht
  | cons e l ih =>
    by_cases h0 : e.fault t = 0
    · simp only [apC, if_pos h0] at h; exact ih h (EdM.fits_of h0).len6
    · simp only [apC, if_neg h0] at h; exact absurd h h0
theorem take_next {α : Type} {l : List α} {i : Nat} {e : α} (h : l[i]? = some e) : l.take (i + 1) = l.take i ++ [e] := by
  have hlt := (List.getElem?_eq_some_iff.1 h).1
  rw [List.take_succ_eq_append_getElem hlt, (List.getElem?_eq_some_iff.1 h).2]
theorem drop_next {α : Type} {l : List α} {i : Nat} {e : α} (h : l[i]? = some e) : l.drop i = e :: l.drop (i + 1) := by
  have hlt := (List.getElem?_eq_some_iff.1 h).1
  rw [List.drop_eq_getElem_cons hlt, (List.getElem?_eq_some_iff.1 h).2]
/-- the code is told by the first edit that is not valid -/
theorem apC_at {l : List EdM} {i : Nat} {e : EdM} {t : Bs} (h : l[i]? = some e) (h0 : apC (l.take i) t = 0) (hf : e.fault (apT (l.take i) t) ≠ 0) : apC l t = e.fault (apT (l.take i) t) := by
  conv => lhs; rw [← List.take_append_drop i l]
  rw [apC_append _ _ _ h0, drop_next h]
  simp only [apC, if_neg hf]
theorem apC_next {l : List EdM} {i : Nat} {e : EdM} {t : Bs} (h : l[i]? = some e) (h0 : apC (l.take i) t = 0) (hf : e.fault (apT (l.take i) t) = 0) : apC (l.take (i + 1)) t = 0 := by
  rw [take_next h, apC_append _ _ _ h0]
  simp only [apC, if_pos hf]
theorem apT_next {l : List EdM} {i : Nat} {e : EdM} {t : Bs} (h : l[i]? = some e) : apT (l.take (i + 1)) t = e.step (apT (l.take i) t) := by
  rw [take_next h, apT_append]; rfl

/-- the edit that undoes an edit of a text -/
def EdM.inv (e : EdM) (t : Bs) : EdM := ⟨e.at_, (e.put.size : Int), str ((t.drop e.at_.toNat).take e.cut.toNat)⟩
/-- those that undo some edits, the first one first -/
def invs : List EdM → Bs → List EdM
  | [], _ => []
  | e :: l, t => e.inv t :: invs l (e.step t)
theorem invs_length (l : List EdM) (t : Bs) : (invs l t).length = l.length := by
  induction l generalizing t with
  | nil => rfl
  | cons e l ih => simp [invs, ih]
theorem invs_append (l m : List EdM) (t : Bs) : invs (l ++ m) t = invs l t ++ invs m (apT l t) := by
  induction l generalizing t with
  | nil => rfl
  | cons e l ih => simp [invs, apT, ih]
theorem invs_get {l : List EdM} {i : Nat} {e : EdM} {t : Bs} (h : l[i]? = some e) : (invs l t)[i]? = some (e.inv (apT (l.take i) t)) := by
  induction l generalizing t i with
  | nil => simp at h
  | cons x l ih =>
    cases i with
    | zero => simp at h; subst h; rfl
    | succ i => simp at h; simpa [invs, apT] using ih (t := x.step t) h

/-- where an offset is behind an edit -/
def placed (a c : Int) (p : Nat) (x : Int) (right : Bool) : Int :=
  if x < a then x
  else if x < a + c ∨ (c = 0 ∧ x = a) then (if right then a + p else a)
  else x + p - c
/-- two edits conflict -/
def clash (a b : EdM) : Bool :=
  decide (max a.at_ b.at_ < min (a.at_ + a.cut) (b.at_ + b.cut)) ||
  (decide (0 < a.put.size) && decide (b.at_ < a.at_) && decide (a.at_ < b.at_ + b.cut)) ||
  (decide (0 < b.put.size) && decide (a.at_ < b.at_) && decide (b.at_ < a.at_ + a.cut))

end Go.Proofs.Ytcknmaimkodaeaa.EditM
