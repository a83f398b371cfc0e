/-
  The law MarksMoves.
-/
import Derived.Test.YtllpglanpfjcnaaMovedRef
import Derived.Laws.StructEq
namespace Go.Proofs.Ytllpglanpfjcnaa.MarkC
open Go.RowKit Kit EditM MarkM EditC EditR

/-- a mark is not unlike itself -/
theorem neqMark (a : Int) (r : Bool) (w : World) : (binOp .neq 28 (.agg #[.int .i64 a, .bool r]) (.agg #[.int .i64 a, .bool r])).run Try.prog w = .ok (.bool false) w := by
  have u3 := Try.underlying3
  have a3 := Try.isAgg3
  have z3 := Try.sizeOf3
  have u4 := Try.underlying4
  have a4 := Try.isAgg4
  have z4 := Try.sizeOf4
  have hS : Try.prog.underlying 28 = some (.struct (Try.prog.fieldsOf 28)) := by kernel_rfl
  have hp : Try.prog.stoodInHeld 28 = false := by kernel_rfl
  rw [run_neq_struct, show (10000 : Nat) = 9999 + 1 from rfl, run_equalIn_agg w 9999 28 _ _ hS hp]
  simp only [Program.fieldsOf, Try.underlying28]
  go_simp
  try simp
theorem guardMark (op : BinOp) (x y : Operand) (xs ys : Array Value) (w : World) : (eqGuard op 28 x y (.agg xs) (.agg ys)).run Try.prog w = .ok () w := run_eqGuard_agg w op _ x y xs ys (by kernel_rfl)

/-- two slices read alike -/
def Both (w : World) (v1 v2 : Value) (L : List MkM) : Prop := MksV w v1 L ∧ MksV w v2 L
theorem MvPost.two {ms : List MkM} {l : List EdM} {n : Int} {w w1 w2 : World} {e e' : Ending} (h : MvPost ms l n w e w1) (h' : MvPost ms l n w1 e' w2) : ∃ v1 v2 L, e = .returned (.tuple #[v1, .int .i64 (mvCode ms l n)]) ∧ e' = .returned (.tuple #[v2, .int .i64 (mvCode ms l n)]) ∧ Both w2 v1 v2 L ∧ L.length ≤ ms.length ∧ Below w.heap.size w w2 := by
  obtain ⟨v1, rfl, h1, b1⟩ := h
  obtain ⟨v2, rfl, h2, b2⟩ := h'
  rcases h1 with ⟨c1, h1⟩ | ⟨c1, rfl⟩ <;> rcases h2 with ⟨c2, h2⟩ | ⟨c2, rfl⟩
  · exact ⟨v1, v2, _, rfl, rfl, ⟨h1.next b2, h2⟩, by simp, bstep b1 b2⟩
  · exact absurd c1 c2
  · exact absurd c2 c1
  · exact ⟨_, _, [], rfl, rfl, ⟨SlV.nil _, SlV.nil _⟩, by simp, bstep b1 b2⟩
theorem move (size : Int) (ms : List MkM) (al : Option Addr) (cap : Nat) (l : List EdM) (bl : Option Addr) (bcap : Nat) (w : World) (h : MksAt w al ms) (h60 : ms.length ≤ 60) (hl : EdsAt w bl l) (hok : ∀ e ∈ l, e.ok) (hm : l.length ≤ 60) :
    Calls Try.prog 11 #[.int .i64 size, .slice al ms.length cap, .slice bl l.length bcap] w (MvPost ms l size w) := by
  cases hb : badIn ms size
  · exact move_ok size ms al cap l bl bcap w h h60 hl hok hm hb
  · refine (move_bad size ms al cap bl l.length bcap w h h60 hm hb).mono ?_
    rintro e w' ⟨rfl, b⟩
    have : mvCode ms l size = 2 := by unfold mvCode; rw [hb]; rfl
    exact ⟨_, by rw [this], .inr ⟨by rw [this]; simp, rfl⟩, b⟩

set_option maxRecDepth 100000 in
set_option maxHeartbeats 2000000 in
theorem marksMoves (size : Int) (al : Option Addr) (cap : Nat) (ms : List MkM) (bl : Option Addr) (bcap : Nat) (l : List EdM) (w : World) {X : Prop} (_ : X) (h : MksAt w al ms) (_ : ∀ e ∈ ms, e.ok) (hle : ms.length ≤ cap) (hmx : cap ≤ maxLen) {S : Prop} (_ : S) (hl : EdsAt w bl l) (hok : ∀ e ∈ l, e.ok) (hle2 : l.length ≤ bcap) (hmx2 : bcap ≤ maxLen) {T : Prop} (_ : T) :
    Calls Try.prog 3 #[.int .i64 size, .slice al ms.length cap, .slice bl l.length bcap] w fun e w' => e = .returned (.bool true) ∧ Below w.heap.size w w' := by
  unfold maxLen at hmx hmx2
  have z1 : ms.length ≤ 9223372036854775807 := by omega
  have z2 : l.length ≤ 9223372036854775807 := by omega
  clear hle hmx hle2 hmx2
  by_cases hlong : 60 < ms.length ∨ 60 < l.length
  · have C := Lib.hid (fun W => move_long size al ms.length cap bl l.length bcap W hlong)
    have R := Lib.hid (fun W => movedRef_long size al ms.length cap bl l.length bcap W hlong)
    clear h hl hok hlong
    generalize ms.length = n at *
    generalize l.length = N at *
    go_enter Try.func3, Try.ntmps3
    go_wp2_with fail
    refine (C.out _).mono ?_
    rintro e w1 ⟨rfl, rfl⟩
    go_wp2_with fail
    refine (R.out _).mono ?_
    rintro e w2 ⟨rfl, rfl⟩
    go_wp2_with fail
    refine wp_loop_rounds 1 ?_
    rw [rounds_succ]
    go_wp2_with fail
    go_ret
    exact ⟨rfl, Below.refl _ _⟩
  · have C := Lib.hid (move size ms al cap l bl bcap w h (by omega) hl hok (by omega))
    have R := Lib.hid (fun W hW => movedRef size ms al cap l bl bcap W (h.next hW) (by omega) (hl.next hW) hok (by omega))
    clear h hl hok
    have hne := neqMark
    have hgd := guardMark
    have hn60 : ms.length ≤ 60 := by omega
    have HN := Lib.hid hn60
    go_enter Try.func3, Try.ntmps3
    generalize ms.length = n at C R z1 ⊢
    generalize l.length = N at C R z2 ⊢
    clear hlong hn60
    go_wp2_with fail
    refine C.out.mono ?_
    intro e w1 p1
    have P1 := Lib.hid p1
    obtain ⟨v1, rfl, _, hb1⟩ := p1
    have C2 := Lib.hid (R.out w1 hb1)
    clear C R hb1
    go_wp2_with fail
    refine C2.out.mono ?_
    intro e w2 p2
    obtain ⟨x1, x2, L, e1, rfl, hB, hlen, hb⟩ := P1.out.two p2
    simp only [Ending.returned.injEq, Value.tuple.injEq, Array.mk.injEq, List.cons.injEq, and_true] at e1
    subst e1
    clear P1 p2 C2
    obtain ⟨⟨a1, k1, rfl, _, s1, _⟩, ⟨a2, k2, rfl, _, s2, _⟩⟩ := hB
    have S1 := Lib.hid s1
    have S2 := Lib.hid s2
    have BB := Lib.hid hb
    have hl60 : L.length ≤ 60 := Nat.le_trans hlen HN.out
    clear s1 s2 hb hlen HN
    have HG : Hid (∀ i, i < L.length → ∃ m, L[i]? = some m) := Lib.hid fun i hi => ⟨L[i], by simp [hi]⟩
    generalize mvCode ms l size = c at *
    generalize L.length = n2 at *
    go_wp2_with fail
    go_loopw [11] (fun vi wr => ∃ k : Nat, k ≤ n2 ∧ vi = .int .i64 (k : Int) ∧ ∃ q, wr = w2.drewN q) (fun vi _ => n2 - (intOf vi).toNat)
    case atStart => exact ⟨0, by omega, rfl, 0, rfl⟩
    case round =>
      obtain ⟨k, hk, rfl, q, rfl⟩ := hrel
      by_cases hlt : k < n2
      · obtain ⟨m, hm⟩ := HG.out k hlt
        obtain ⟨g, off, rfl, hg, c0, c1⟩ := MksAt.get S1.out hm
        obtain ⟨g', off', rfl, hg', d0, d1⟩ := MksAt.get S2.out hm
        have i1 : (k : Int) < (n2 : Int) := by omega
        have i2 : (0 : Int) ≤ (k : Int) := by omega
        clear hm
        obtain ⟨ma, mr⟩ := m
        dsimp only at *
        go_wp2_with fail
        go_quiet (fail)
        go_wp2_with fail
        refine ⟨⟨k + 1, by omega, by go_num, _, rfl⟩, by simp [intOf]; omega⟩
      · go_wp2_with fail
        go_ret
        exact ⟨rfl, bdrewN BB.out _⟩

end Go.Proofs.Ytllpglanpfjcnaa.MarkC
