/-
  Package marks: what Move answers.
-/
import Derived.Test.YtfikolidmpjfcaaMoveMath
import Derived.Test.YtfikolidmpjfcaaCopyK
import Derived.Test.YtfikolidmpjfcaaEditCheck
import Derived.Test.YtfikolidmpjfcaaEditPlace
import Derived.Test.YtfikolidmpjfcaaBoxes
import Derived.Laws.MakeOwn
import Derived.Laws.OwnMore
namespace Go.Proofs.Ytfikolidmpjfcaa.MarkC
open Go.RowKit Kit EditM MarkM EditC

set_option maxHeartbeats 1000000 in
theorem outside (m : MkM) (n : Int) (p : Nat) (w : World) (hp : p < w.heap.size) (cp : w.cell? ⟨p, 0, none⟩ = some (.int .i64 n)) :
    Calls Try.prog 49 #[.agg #[.int .i64 m.at_, .bool m.right], .pointer (some ⟨p, 0, none⟩)] w fun e w' => e = .returned (.bool (decide (m.at_ < 0) || decide (n < m.at_))) ∧ Below w.heap.size w w' := by
  have hne : p ≠ w.heap.size := by omega
  by_cases h1 : m.at_ < 0
  · have E : Hid ((decide (m.at_ < 0) || decide (n < m.at_)) = true) := Lib.hid (by simp [h1])
    rw [E.out]
    go_enter Try.func49, Try.ntmps49
    go_wp2
    go_ret
    exact ⟨rfl, balloc (Below.refl _ _) _⟩
  · by_cases h2 : n < m.at_
    · have E : Hid ((decide (m.at_ < 0) || decide (n < m.at_)) = true) := Lib.hid (by simp [h2])
      rw [E.out]
      go_enter Try.func49, Try.ntmps49
      go_wp2
      go_ret
      exact ⟨rfl, balloc (Below.refl _ _) _⟩
    · have E : Hid ((decide (m.at_ < 0) || decide (n < m.at_)) = false) := Lib.hid (by simp; omega)
      rw [E.out]
      go_enter Try.func49, Try.ntmps49
      go_wp2
      go_ret
      exact ⟨rfl, balloc (Below.refl _ _) _⟩

theorem any_take {ms : List MkM} {n : Int} {k : Nat} {m : MkM} (h : ms[k]? = some m) : anyOut (ms.take (k + 1)) n = (anyOut (ms.take k) n || (decide (m.at_ < 0) || decide (n < m.at_))) := by
  unfold anyOut; rw [take_next h, List.any_append]; simp
def IdxPost (b : Bool) (w : World) (e : Ending) (w' : World) : Prop := ∃ i : Int, e = .returned (.int .i64 i) ∧ (b = decide (0 ≤ i)) ∧ Below w.heap.size w w'
set_option maxRecDepth 100000 in
set_option maxHeartbeats 2000000 in
theorem indexFunc (ms : List MkM) (al : Option Addr) (cap p : Nat) (n : Int) (w : World) (h : MksAt w al ms) (h60 : ms.length ≤ 60) (hp : p < w.heap.size) (cp : w.cell? ⟨p, 0, none⟩ = some (.int .i64 n)) :
    Calls Try.prog 54 #[.slice al ms.length cap, .func (.func 49) #[] #[.pointer (some ⟨p, 0, none⟩)]] w (IdxPost (anyOut ms n) w) := by
  have HL := Lib.hid h
  have OU := Lib.hid (fun m W (hW : Below w.heap.size w W) => outside m n p W (Nat.lt_of_lt_of_le hp hW.size) (keep hW hp cp))
  clear h hp cp
  obtain ⟨N, hN⟩ : ∃ N, N = ms.length := ⟨_, rfl⟩
  have HN := Lib.hid hN
  rw [← hN] at h60 ⊢
  clear hN
  go_enter Try.func54, Try.ntmps54
  go_wp2_with fail
  go_loopw [8] (fun vi wr => ∃ k : Nat, k ≤ N ∧ vi = .int .i64 (k : Int) ∧ Hid (anyOut (ms.take k) n = false ∧ Below w.heap.size w wr)) (fun vi _ => N - (intOf vi).toNat)
  case atStart => exact ⟨0, by omega, rfl, Lib.hid ⟨rfl, Below.refl _ _⟩⟩
  case round =>
    obtain ⟨k, hk, rfl, HK⟩ := hrel
    by_cases hlt : k < N
    · obtain ⟨m, hm⟩ : ∃ m, ms[k]? = some m := ⟨ms[k]'(by have := HN.out; omega), by simp [← HN.out, hlt]⟩
      obtain ⟨g, off, rfl, hg, c0, c1⟩ := MksAt.get (HL.out.next HK.out.2) hm
      have AT := Lib.hid (any_take (n := n) hm)
      have C := Lib.hid (OU.out m wr HK.out.2)
      have SUB : Hid (anyOut (ms.take (k + 1)) n = true → anyOut ms n = true) := Lib.hid fun h => by
        unfold anyOut at h ⊢
        rw [List.any_eq_true] at h ⊢
        obtain ⟨x, hx, hx2⟩ := h
        exact ⟨x, List.mem_of_mem_take hx, hx2⟩
      clear hm
      have i1 : (k : Int) < (N : Int) := by omega
      have i2 : (0 : Int) ≤ (k : Int) := by omega
      rw [HK.out.1, Bool.false_or] at AT
      cases hb : (decide (m.at_ < 0) || decide (n < m.at_))
      · rw [hb] at AT C
        clear hb
        go_wp2_with fail
        refine C.out.mono ?_
        rintro e w1 ⟨rfl, hb1⟩
        have B := Lib.hid (bstep HK.out.2 hb1)
        clear hb1 C c0 c1 HK
        go_wp2_with fail
        go_roundw
        case rel => exact ⟨k + 1, by omega, by go_num, Lib.hid ⟨AT.out, B.out⟩⟩
        case measure => simp [intOf]; omega
      · rw [hb] at AT C
        clear hb
        go_wp2_with fail
        refine C.out.mono ?_
        rintro e w1 ⟨rfl, hb1⟩
        have B := Lib.hid (bstep HK.out.2 hb1)
        have FIN := Lib.hid (SUB.out AT.out)
        clear hb1 C c0 c1 HK SUB
        go_wp2_with fail
        go_ret
        exact ⟨k, rfl, by rw [FIN.out, decide_eq_true (by omega)], B.out⟩
    · obtain rfl : k = N := by omega
      have FIN : Hid (anyOut ms n = false) := Lib.hid (by
        have := HK.out.1
        rw [HN.out, List.take_length] at this
        exact this)
      go_wp2_with fail
      go_ret
      exact ⟨-1, rfl, by rw [FIN.out]; rfl, HK.out.2⟩

set_option maxHeartbeats 1000000 in
theorem containsFunc (ms : List MkM) (al : Option Addr) (cap p : Nat) (n : Int) (w : World) (h : MksAt w al ms) (h60 : ms.length ≤ 60) (hp : p < w.heap.size) (cp : w.cell? ⟨p, 0, none⟩ = some (.int .i64 n)) :
    Calls Try.prog 50 #[.slice al ms.length cap, .func (.func 49) #[] #[.pointer (some ⟨p, 0, none⟩)]] w fun e w' => e = .returned (.bool (anyOut ms n)) ∧ Below w.heap.size w w' := by
  have C := Lib.hid (indexFunc ms al cap p n w h h60 hp cp)
  clear h hp cp
  generalize ms.length = N at *
  generalize anyOut ms n = b at *
  go_enter Try.func50, Try.ntmps50
  go_wp2_with fail
  refine C.out.mono ?_
  rintro e w1 ⟨i, rfl, hb, h2⟩
  have E := Lib.hid hb
  have B := Lib.hid h2
  clear hb h2 C
  by_cases hi : 0 ≤ i
  · rw [decide_eq_true hi] at E
    go_wp2_with fail
    go_ret
    exact ⟨ret_bool E.out.symm, B.out⟩
  · rw [decide_eq_false hi] at E
    have hi2 : i < 0 := by omega
    go_wp2_with fail
    go_ret
    exact ⟨ret_bool (by rw [E.out]; simp; omega), B.out⟩

set_option maxHeartbeats 1000000 in
theorem inText (ms : List MkM) (al : Option Addr) (cap : Nat) (n : Int) (w : World) (h : MksAt w al ms) (h60 : ms.length ≤ 60) :
    Calls Try.prog 39 #[.int .i64 n, .slice al ms.length cap] w fun e w' => e = .returned (.bool (!badIn ms n)) ∧ Below w.heap.size w w' := by
  have C := Lib.hid (containsFunc ms al cap w.heap.size n (w.alloc (.cells #[.int .i64 n] 3)) (h.next (balloc (Below.refl _ _) _)) h60 (by simp) (by simp))
  have E : Hid (badIn ms n = (decide (n < 0) || decide (600 < n) || anyOut ms n)) := Lib.hid rfl
  clear h
  generalize ms.length = N at *
  generalize anyOut ms n = b at *
  rw [E.out]
  by_cases h1 : n < 0
  · rw [decide_eq_true h1]
    go_enter Try.func39, Try.ntmps39
    go_wp2_with fail
    go_ret
    exact ⟨rfl, balloc (Below.refl _ _) _⟩
  · by_cases h2 : 600 < n
    · rw [decide_eq_false h1, decide_eq_true h2]
      go_enter Try.func39, Try.ntmps39
      go_wp2_with fail
      go_ret
      exact ⟨rfl, balloc (Below.refl _ _) _⟩
    · rw [decide_eq_false h1, decide_eq_false h2]
      go_enter Try.func39, Try.ntmps39
      go_wp2_with fail
      refine C.out.mono ?_
      rintro e w1 ⟨rfl, hb⟩
      have B := Lib.hid (bstep (balloc (Below.refl _ _) _) hb)
      clear hb C
      go_wp2_with fail
      go_ret
      exact ⟨by first | rfl | simp, B.out⟩

/-- the marks of the call's own -/
structure MvA (w0 : World) (g n : Nat) (l : List MkM) (W : World) : Prop where
  row : W.ownsRow w0.heap.size 50 2 (.slice (some ⟨g, 0, none⟩) n n) n (flatC MkM.cs l)
  bel : Below w0.heap.size w0 W
section
variable {w0 W W' : World} {g n : Nat} {l : List MkM}
theorem MvA.next (h : MvA w0 g n l W) (hb : Below W.heap.size W W') : MvA w0 g n l W' := ⟨row_next h.row hb, bstep h.bel hb⟩
theorem MvA.len (h : MvA w0 g n l W) : l.length = n := by have := h.row.1; rw [flatC_length MkM.cs_len] at this; omega
theorem MvA.cell (h : MvA w0 g n l W) {i : Nat} {m : MkM} (hi : l[i]? = some m) : (g < W.heap.size ∧ w0.heap.size ≤ g) ∧ W.cell? ⟨g, i * 2, none⟩ = some (.int .i64 m.at_) ∧ W.cell? ⟨g, i * 2 + 1, none⟩ = some (.bool m.right) ∧ W.frozen? ⟨g, i * 2, none⟩ = false := by
  have hlt := h.row.lt g rfl
  have hil := (List.getElem?_eq_some_iff.1 hi).1
  have hl := h.len
  have c0 := flatC_get MkM.cs_len l i m 0 hi (by omega)
  have c1 := flatC_get MkM.cs_len l i m 1 hi (by omega)
  exact ⟨⟨hlt.2, hlt.1⟩, by rw [h.row.cellAt (i * 2) (by omega)]; exact c0, by rw [h.row.cellAt (i * 2 + 1) (by omega)]; exact c1, h.row.frozenAt _⟩
theorem MvA.store (h : MvA w0 g n l W) {i : Nat} {m : MkM} (hi : l[i]? = some m) (a : Int) : MvA w0 g n (l.set i ⟨a, m.right⟩) (W.setCell ⟨g, i * 2, none⟩ (.int .i64 a)) := by
  have hlt := h.row.lt g rfl
  have s1 := (h.row.stored (i * 2) (.int .i64 a)).1
  rw [flat_set2 l i m a hi] at s1
  exact ⟨s1, h.bel.setCell (p := ⟨g, _, none⟩) hlt.1 _⟩
theorem MvA.val (h : MvA w0 g n l W) : MksV W (.slice (some ⟨g, 0, none⟩) n n) l := by
  have hl := h.len
  refine SlV.of_owns (l := l) MkM.cs_len (base := w0.heap.size) (e := 50) ?_
  rw [hl]; exact h.row
end

/-- the cells of all old blocks but one are as they were -/
def Oth (g : Nat) (w w' : World) : Prop := w.heap.size ≤ w'.heap.size ∧ ∀ k o, k < w.heap.size → k ≠ g → w'.cell? ⟨k, o, none⟩ = w.cell? ⟨k, o, none⟩
theorem Oth.next {g : Nat} {w w1 w2 : World} (h : Oth g w w1) (hb : Below w1.heap.size w1 w2) : Oth g w w2 := ⟨Nat.le_trans h.1 hb.size, fun k o h1 h2 => (hb.cell (p := ⟨k, o, none⟩) (Nat.lt_of_lt_of_le h1 h.1)).trans (h.2 k o h1 h2)⟩
theorem Oth.set {g : Nat} {w w1 : World} (h : Oth g w w1) (o : Nat) (v : Value) : Oth g w (w1.setCell ⟨g, o, none⟩ v) := ⟨by rw [setZ]; exact h.1, fun k o' h1 h2 => (setO (.inl h2) _).trans (h.2 k o' h1 h2)⟩
theorem Oth.refl (g : Nat) (w : World) : Oth g w w := ⟨Nat.le_refl _, fun _ _ _ _ => rfl⟩

set_option maxRecDepth 100000 in
set_option maxHeartbeats 2000000 in
theorem follow (w0 : World) (g n : Nat) (l : List MkM) (a c : Int) (s : ByteArray) (sz : Int) (w : World) (h : MvA w0 g n l w) (hf : fault sz a c s.size = 0) (hin : ∀ m ∈ l, m.in_ sz) (h60 : n ≤ 60) (hs : s.size ≤ 140737488351232) :
    Calls Try.prog 40 #[.slice (some ⟨g, 0, none⟩) n n, .agg #[.int .i64 a, .int .i64 c, .string s]] w fun e w' => e = .returned (.tuple #[]) ∧ MvA w0 g n (l.map (plc ⟨a, c, s⟩)) w' ∧ Oth g w w' := by
  obtain ⟨f1, f2, f3, f4, f5, f6⟩ := fault_zero.1 hf
  have HS := Lib.hid h
  have LN := Lib.hid h.len
  have HIN := Lib.hid hin
  have hgw := (h.row.lt g rfl).2
  clear h hf hin
  go_enter Try.func40, Try.ntmps40
  go_wp2_with fail
  go_loopw [8] (fun vi wr => ∃ k : Nat, k ≤ n ∧ vi = .int .i64 (k : Int) ∧ Hid (MvA w0 g n (half ⟨a, c, s⟩ l k) wr ∧ B3 w.heap.size (.int .i64 a) (.int .i64 c) (.string s) wr ∧ Oth g w wr)) (fun vi _ => n - (intOf vi).toNat)
  case atStart => exact ⟨0, by omega, rfl, Lib.hid ⟨by rw [half_zero]; exact HS.out.next (balloc (Below.refl _ _) _), B3.new _ _ _ _ _, (Oth.refl _ _).next (balloc (Below.refl _ _) _)⟩⟩
  case round =>
    obtain ⟨k, hk, rfl, HK⟩ := hrel
    clear HS
    by_cases hlt : k < n
    · obtain ⟨m, hm⟩ : ∃ m, l[k]? = some m := ⟨l[k]'(by have := LN.out; omega), by simp [LN.out, hlt]⟩
      have hmi := HIN.out m (List.mem_of_getElem? hm)
      obtain ⟨m1, m2⟩ := hmi
      have PL := Lib.hid (fun W => place_ok a c m.at_ s m.right W f3 (by omega) f4 (by omega) m1 (by omega) hs)
      have ST : Hid (∀ W, MvA w0 g n (half ⟨a, c, s⟩ l k) W → MvA w0 g n (half ⟨a, c, s⟩ l (k + 1)) (W.setCell ⟨g, k * 2, none⟩ (.int .i64 (placed a c s.size m.at_ m.right)))) := Lib.hid fun W hW => by
        have := hW.store (half_get hm) (placed a c s.size m.at_ m.right)
        rw [show (⟨placed a c s.size m.at_ m.right, m.right⟩ : MkM) = plc ⟨a, c, s⟩ m from rfl, half_next hm] at this
        exact this
      obtain ⟨⟨hgl, hg0⟩, c0, c1, fz⟩ := HK.out.1.cell (half_get hm)
      obtain ⟨bl, b0, b1, b2, _, _, _⟩ := HK.out.2.1
      have i1 : (k : Int) < (n : Int) := by omega
      have i2 : (0 : Int) ≤ (k : Int) := by omega
      clear hm
      obtain ⟨ma, mr⟩ := m
      dsimp only at *
      have KA := Lib.hid (HK.out.1.next (balloc (Below.refl _ _) (.cells #[.int .i64 ma, .bool mr] 50)))
      have KB := Lib.hid (HK.out.2.1.next (balloc (Below.refl _ _) (.cells #[.int .i64 ma, .bool mr] 50)))
      have KC := Lib.hid (HK.out.2.2.next (balloc (Below.refl _ _) (.cells #[.int .i64 ma, .bool mr] 50)))
      clear HK
      generalize placed a c s.size ma mr = v at *
      go_wp2_with fail
      refine (PL.out _).mono ?_
      rintro e w1 ⟨rfl, hb1⟩
      have c0' : w1.cell? ⟨g, k * 2, none⟩ = some (.int .i64 ma) := keep hb1 (by simp; omega) (keep (balloc (Below.refl _ _) _) hgl c0)
      have fz' : w1.frozen? ⟨g, k * 2, none⟩ = false := (hb1.frozen (p := ⟨g, k * 2, none⟩) (by simp; omega)).trans (((balloc (Below.refl _ _) _ : Below wr.heap.size wr (wr.alloc (.cells #[.int .i64 ma, .bool mr] 50))).frozen (p := ⟨g, k * 2, none⟩) hgl).trans fz)
      have S1 := Lib.hid (ST.out w1 (KA.out.next hb1))
      have S2 := Lib.hid ((KB.out.next hb1).other (j := g) (o := k * 2) (by omega) (.int .i64 v))
      have S3 := Lib.hid ((KC.out.next hb1).set (k * 2) (.int .i64 v))
      clear hb1 KA KB KC ST PL c0 c1 fz b0 b1 b2
      go_wp2_with fail
      go_roundw
      case rel => exact ⟨k + 1, by omega, by go_num, Lib.hid ⟨S1.out, S2.out, S3.out⟩⟩
      case measure => simp [intOf]; omega
    · obtain rfl : k = n := by omega
      have FIN : Hid (MvA w0 g k (l.map (plc ⟨a, c, s⟩)) wr) := Lib.hid (by
        have := HK.out.1
        rw [← LN.out, half_all] at this
        rw [← LN.out]; exact this)
      have F2 := Lib.hid HK.out.2.2
      clear HK
      go_wp2_with fail
      go_end0
      exact ⟨rfl, FIN.out, F2.out⟩

end Go.Proofs.Ytfikolidmpjfcaa.MarkC
