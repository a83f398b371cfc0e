/-
  The law FindManys, walked.
-/
import Derived.Test.YtkiebkjndmcddaaFindManyW
namespace Go.Proofs.Ytkiebkjndmcddaa.AcM
open Go.RowKit Kit FindM LineM StrM FindP EditM HitM FindR

theorem neqHit (a b : Int) (w : World) : (binOp .neq 38 (.agg #[.int .i64 a, .int .i64 b]) (.agg #[.int .i64 a, .int .i64 b])).run Try.prog w = .ok (.bool false) w := by
  have u3 := Try.underlying3
  have a3 := Try.isAgg3
  have z3 := Try.sizeOf3
  have hS : Try.prog.underlying 38 = some (.struct (Try.prog.fieldsOf 38)) := by kernel_rfl
  have hp : Try.prog.stoodInHeld 38 = false := by kernel_rfl
  rw [run_neq_struct, show (10000 : Nat) = 9999 + 1 from rfl, run_equalIn_agg w 9999 38 _ _ hS hp]
  simp only [Program.fieldsOf, Try.underlying38]
  go_simp
  try simp
theorem guardHit (op : BinOp) (x y : Operand) (xs ys : Array Value) (w : World) : (eqGuard op 38 x y (.agg xs) (.agg ys)).run Try.prog w = .ok () w := run_eqGuard_agg w op _ x y xs ys (by kernel_rfl)
theorem hit_get {w : World} {a : Option Addr} {l : List (Nat × Nat)} (h : SlAt 2 hc w a l) {i : Nat} {p : Nat × Nat} (hi : l[i]? = some p) : ∃ g off, a = some ⟨g, off, none⟩ ∧ g < w.heap.size ∧ w.cell? ⟨g, off + i * 2, none⟩ = some (.int .i64 (p.1 : Int)) ∧ w.cell? ⟨g, off + i * 2 + 1, none⟩ = some (.int .i64 (p.2 : Int)) := by
  obtain ⟨g, off, e, hg, hcc⟩ := h.cell i p hi
  refine ⟨g, off, e, hg, ?_, ?_⟩
  · have := hcc 0 (by omega)
    simpa [hc] using this
  · have := hcc 1 (by omega)
    simpa [hc] using this
theorem many_both (t : ByteArray) (al : Option Addr) (cap : Nat) (fs : List ByteArray) (w : World) (h : StAt w al fs) (hle : fs.length ≤ cap) : ∃ (R : List (Nat × Nat)) (c : Int), Calls Try.prog 19 #[.string t, .slice al fs.length cap] w (HsPost w R c) ∧ (∀ W, Below w.heap.size w W → Calls Try.prog 20 #[.string t, .slice al fs.length cap] W (HsPost W R c)) ∧ R.length ≤ 300000 := by
  by_cases hc : mfault t.size fs ffault = 0
  · refine ⟨_, 0, (many_ t al cap fs w h hle).mono fun e w' hf => hf.ok hc, fun W hW => (findMany t al cap fs W (h.next hW) hle).mono fun e w' hf => hf.ok hc, ?_⟩
    have hb : ¬ (600 < t.size ∨ 20 < fs.length) := fun hb => by
      have : mfault t.size fs ffault = 1 := if_pos hb
      rw [hc] at this; cases this
    have := manyTo_len t.data.toList (plain fs) (by rw [plain_len]; omega) t.data.toList.length
    unfold many
    rw [size_list] at this ⊢
    omega
  · exact ⟨[], _, (many_ t al cap fs w h hle).mono fun e w' hf => hf.no hc, fun W hW => (findMany t al cap fs W (h.next hW) hle).mono fun e w' hf => hf.no hc, by simp⟩
set_option maxRecDepth 100000 in
set_option maxHeartbeats 2000000 in
theorem findManys (t : ByteArray) (al : Option Addr) (cap : Nat) (fs : List ByteArray) (w : World) (_ : t.size ≤ maxLen) (hl : StAt w al fs) (_ : ∀ s ∈ fs, s.size ≤ maxLen) (hle : fs.length ≤ cap) {Y : Prop} (_ : Y) {X : Prop} (_ : X) :
    Calls Try.prog 6 #[.string t, .slice al fs.length cap] w fun e w' => e = .returned (.bool true) ∧ Below w.heap.size w w' := by
  obtain ⟨R, c, M, D, LN⟩ := many_both t al cap fs w hl hle
  have M' := Lib.hid M
  have D' := Lib.hid D
  have ns := neqHit
  have gs := guardHit
  clear M D hl
  generalize fs.length = m at *
  go_enter Try.func6, Try.ntmps6
  go_wp2_with fail
  refine M'.out.mono ?_
  rintro e w1 ⟨v1, rfl, hk1⟩
  have DD := Lib.hid (D'.out w1 hk1.bel)
  have K1 := Lib.hid hk1
  clear hk1 M' D'
  go_wp2_with fail
  refine DD.out.mono ?_
  rintro e w2 ⟨v2, rfl, hk2⟩
  have B2 := Lib.hid (bstep K1.out.bel hk2.bel)
  obtain ⟨a1, c1, rfl, _, s1, _⟩ := (K1.out.next hk2.bel).val
  obtain ⟨a2, c2, rfl, _, s2, _⟩ := hk2.val
  have H1 := Lib.hid s1
  have H2 := Lib.hid s2
  clear hk2 K1 DD s1 s2
  generalize hn : R.length = n at *
  have HN := Lib.hid hn
  clear hn
  go_wp2_with fail
  go_loopw [9] (fun vi wr => ∃ k : Nat, k ≤ n ∧ vi = .int .i64 (k : Int) ∧ ∃ q, wr = w2.drewN q) (fun vi _ => n - (intOf vi).toNat)
  case atStart => exact ⟨0, Nat.zero_le _, rfl, 0, rfl⟩
  case round =>
    obtain ⟨k, hk, rfl, q, rfl⟩ := hrel
    by_cases hlt : k < n
    · obtain ⟨p, hp⟩ : ∃ p, R[k]? = some p := ⟨R[k]'(by have := HN.out; omega), List.getElem?_eq_getElem _⟩
      obtain ⟨b1, o1, rfl, _, p1, p2⟩ := hit_get H1.out hp
      obtain ⟨b2, o2, rfl, _, q1, q2⟩ := hit_get H2.out hp
      have i0 : (0 : Int) ≤ (k : Int) := by omega
      have i1 : (k : Int) < (n : Int) := by omega
      have r1 : IntKind.i64.wrap ((k : Int) + 1) = (k : Int) + 1 := IntWalk.i64_in _ (by omega)
      clear hp
      obtain ⟨x, y⟩ := p
      dsimp only at *
      go_wp2_with fail
      go_quiet (fail)
      go_wp2_with fail
      go_roundw
      case rel => exact ⟨k + 1, by omega, by go_num, _, rfl⟩
      case measure => simp [intOf]; omega
    · have i1 : ¬ (k : Int) < (n : Int) := by omega
      go_wp2_with fail
      go_ret
      exact ⟨rfl, bstep B2.out (bdrewN (Below.refl _ _) _)⟩
end Go.Proofs.Ytkiebkjndmcddaa.AcM
