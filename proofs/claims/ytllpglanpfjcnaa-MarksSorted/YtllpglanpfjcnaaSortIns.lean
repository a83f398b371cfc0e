/-
  slices.insertionSortCmpFunc at []int, with the comparison that marks.sorted hands in.
-/
import Derived.Test.YtllpglanpfjcnaaSortSwap
import Derived.Deep.RegionHeld3
namespace Go.Proofs.Ytllpglanpfjcnaa.SortC
open Go.RowKit Kit SortM

/-- what is asked of the comparison: it answers cf, and turns nothing -/
def CmpOk (p q : Value) (cf : Nat → Nat → Int) (w0 : World) (blk n : Nat) : Prop :=
  ∀ W, Below blk w0 W → blk < W.heap.size → ∀ x y : Nat, x < n → y < n → Calls Try.prog 48 #[.int .i64 (x : Int), .int .i64 (y : Int), p, q] W fun e w' => e = .returned (.int .i64 (cf x y)) ∧ Below W.heap.size W w'
/-- what a sort of the places a .. b - 1 leaves -/
def SortPost (lt : Nat → Nat → Prop) (w0 : World) (blk n a b : Nat) (d : Nat → Nat) (e : Ending) (w' : World) : Prop := e = .returned (.tuple #[]) ∧ ∃ d', Moved a b d d' ∧ Srt lt a b d' ∧ SR w0 blk n d' w'
/-- two cells that are loaded, while a comparison is made -/
def Two (w : World) (blk i j : Nat) (x y : Value) (W : World) : Prop := Below w.heap.size w W ∧ blk < W.heap.size ∧ W.cell? ⟨blk, i, none⟩ = some x ∧ W.cell? ⟨blk, j, none⟩ = some y
theorem Two.next {w W W' : World} {blk i j : Nat} {x y : Value} (h : Two w blk i j x y W) (hb : Below W.heap.size W W') : Two w blk i j x y W' := ⟨bstep h.1 hb, Nat.lt_of_lt_of_le h.2.1 hb.size, keep hb h.2.1 h.2.2.1, keep hb h.2.1 h.2.2.2⟩
theorem Two.drew {w W : World} {blk i j : Nat} {x y : Value} (h : Two w blk i j x y W) : Two w blk i j x y W.drew := h.next ((Below.refl _ _).drew)
theorem Two.of {w0 w : World} {blk n i j : Nat} {d : Nat → Nat} (h : SR w0 blk n d w) (hi : i < n) (hj : j < n) : Two w blk i j (.int .i64 (d i : Int)) (.int .i64 (d j : Int)) w := ⟨Below.refl _ _, h.lt, h.cell i hi, h.cell j hj⟩

set_option maxRecDepth 100000 in
set_option maxHeartbeats 4000000 in
theorem insertion {cf : Nat → Nat → Int} {lt : Nat → Nat → Prop} (O : Ord cf lt) (w0 : World) (blk n cap a b : Nat) (p q : Value) (d : Nat → Nat) (w : World) (h : SR w0 blk n d w) (HC : CmpOk p q cf w0 blk n) (hab : a ≤ b) (hb : b ≤ n) (hn : n ≤ 1000000) (hinc : ∀ i j, a ≤ i → i < j → j < b → d i < d j) :
    Calls Try.prog 52 #[.slice (some ⟨blk, 0, none⟩) n cap, .int .i64 (a : Int), .int .i64 (b : Int), .func (.func 48) #[] #[p, q]] w (SortPost lt w0 blk n a b d) := by
  have HS := Lib.hid h
  have CM := Lib.hid HC
  have OO := Lib.hid O
  have HI := Lib.hid hinc
  clear h HC O hinc
  have mixed : Try.prog.follows .mixedOrders = true := by kernel_rfl
  go_enter Try.func52, Try.ntmps52
  go_wp2_with fail
  go_loopw [8] (fun vi wr => ∃ (i : Nat) (dk : Nat → Nat), vi = .int .i64 (i : Int) ∧ a < i ∧ i ≤ b + 1 ∧ Hid (Moved a (min i b) d dk ∧ Srt lt a (min i b) dk ∧ SR w0 blk n dk wr)) (fun vi _ => b + 1 - (intOf vi).toNat)
  case atStart => exact ⟨a + 1, d, by go_num, by omega, by omega, Lib.hid ⟨Moved.refl _ _ _, fun i j h1 h2 h3 => by omega, HS.out⟩⟩
  case round =>
    obtain ⟨i, dk, rfl, hai, hib, HK⟩ := hrel
    clear HS
    by_cases hlt : i < b
    · have HK0 : Hid (InsI lt a i i d dk ∧ SR w0 blk n dk wr) := Lib.hid (by
        have := HK.out
        rw [show min i b = i by omega] at this
        exact ⟨InsI.start HI.out hlt this.1 this.2.1, this.2.2⟩)
      clear HK
      go_wp2_with fail
      go_loopw [9] (fun vj wr => ∃ (j : Nat) (dj : Nat → Nat), vj = .int .i64 (j : Int) ∧ a ≤ j ∧ j ≤ i ∧ Hid (InsI lt a i j d dj ∧ SR w0 blk n dj wr)) (fun vj _ => (intOf vj).toNat)
      case atStart => exact ⟨i, dk, rfl, by omega, by omega, HK0⟩
      case round =>
        obtain ⟨j, dj, rfl, haj, hji, HJ⟩ := hrel
        clear HK0
        by_cases hja : a < j
        · obtain ⟨jp, rfl⟩ : ∃ jp, j = jp + 1 := ⟨j - 1, by omega⟩
          have T0 := Lib.hid (Two.of HJ.out.2 (i := jp + 1) (j := jp) (by omega) (by omega))
          have hg : decide ((jp : Int) + 1 > (a : Int)) = true := decide_eq_true (by omega)
          have hg2 : (a : Int) < (jp : Int) + 1 := by omega
          have e1 : ((jp : Int) + 1).toNat = jp + 1 := by omega
          have p1 : (0 : Int) ≤ (jp : Int) + 1 := by omega
          have b1 : (jp : Int) + 1 < (n : Int) := by omega
          have p2 : (0 : Int) ≤ (jp : Int) := by omega
          have b2 : (jp : Int) < (n : Int) := by omega
          have r1 : IntKind.i64.wrap ((jp : Int) + 1) = (jp : Int) + 1 := IntWalk.i64_in _ (by omega)
          have r2 : IntKind.i64.wrap (jp : Int) = (jp : Int) := IntWalk.i64_in _ (by omega)
          have CC := Lib.hid (fun W (hW : Below wr.heap.size wr W) => CM.out W (HJ.out.2.next hW).bel (HJ.out.2.next hW).lt (dj (jp + 1)) (dj jp) (HJ.out.2.rng _ (by omega)) (HJ.out.2.rng _ (by omega)))
          by_cases hc : cf (dj (jp + 1)) (dj jp) < 0
          · have HG := Lib.hid (HJ.out.1.go OO.out (by omega) (by omega) hc)
            have hd : decide (cf (dj (jp + 1)) (dj jp) < 0) = true := decide_eq_true hc
            have HD := Lib.hid HJ.out.2
            have SWP := Lib.hid (fun W (hW : SR w0 blk n dj W) => And.intro (hW.swap (i := jp + 1) (j := jp) (by omega) (by omega) (by omega)) (And.intro (hW.two (i := jp + 1) (j := jp) (by omega) (by omega) (.int .i64 (dj jp : Int))) (And.intro (hW.free (jp + 1) (by omega)) (hW.free jp (by omega)))))
            clear HJ
            generalize dj (jp + 1) = x at *
            generalize dj jp = y at *
            generalize cf x y = v at *
            go_wp2_with fail
            go_region_held3 (fun W => Below wr.heap.size wr W ∧ blk < W.heap.size ∧ W.cell? ⟨blk, jp + 1, none⟩ = some (.int .i64 (x : Int)) ∧ W.cell? ⟨blk, jp, none⟩ = some (.int .i64 (y : Int)))
              (first | exact T0.out.drew | exact Two.next (by assumption) (by assumption))
              (first | (go_at_call 48; refine (CC.out _ ((Below.refl _ _).drew)).mono ?_; rintro e w' ⟨rfl, hb⟩))
            rename_i hH
            obtain ⟨hB, hL, c1, c2⟩ := hH
            obtain ⟨s1, c3, f1, f2⟩ := SWP.out _ (HD.out.next hB)
            have S1 := Lib.hid s1
            clear s1 SWP CC T0 HD hB hL hb hc hd
            go_wp2_with fail
            go_big_region_o
            clear c1 c2 c3 f1 f2
            generalize ((w'.setCell ⟨blk, jp + 1, none⟩ (.int .i64 (y : Int))).setCell ⟨blk, jp, none⟩ (.int .i64 (x : Int))).drew = w3 at S1 ⊢
            clear e1 p1 b1 p2 b2 r1 hg hg2
            go_wp2_with fail
            go_roundw
            case rel => exact ⟨jp, _, by go_num, by omega, by omega, Lib.hid ⟨HG.out, S1.out⟩⟩
            case measure => simp [intOf]
          · have HG := Lib.hid (HJ.out.1.stop OO.out (by omega) (by omega) (.inr hc))
            have HM := Lib.hid HJ.out.1.mv
            have hd : decide (cf (dj (jp + 1)) (dj jp) < 0) = false := decide_eq_false hc
            have HD := Lib.hid HJ.out.2
            clear HJ
            generalize dj (jp + 1) = x at *
            generalize dj jp = y at *
            generalize cf x y = v at *
            go_wp2_with fail
            go_region_held3 (fun W => Below wr.heap.size wr W ∧ blk < W.heap.size ∧ W.cell? ⟨blk, jp + 1, none⟩ = some (.int .i64 (x : Int)) ∧ W.cell? ⟨blk, jp, none⟩ = some (.int .i64 (y : Int)))
              (first | exact T0.out.drew | exact Two.next (by assumption) (by assumption))
              (first | (go_at_call 48; refine (CC.out _ ((Below.refl _ _).drew)).mono ?_; rintro e w' ⟨rfl, hb⟩))
            rename_i hH
            have S1 := Lib.hid (HD.out.next hH.1)
            clear CC T0 HD hH hb hc hd
            go_wp2_with fail
            go_roundw
            case rel => exact ⟨i + 1, dj, by go_num, by omega, by omega, Lib.hid (by rw [show min (i + 1) b = i + 1 by omega]; exact ⟨HM.out, HG.out, S1.out⟩)⟩
            case measure => simp [intOf]; omega
        · obtain rfl : j = a := by omega
          have HG := Lib.hid (HJ.out.1.stop OO.out (by omega) (by omega) (.inl rfl))
          have HM := Lib.hid HJ.out.1.mv
          have S1 := Lib.hid HJ.out.2.drew
          have hg : decide ((j : Int) > (j : Int)) = false := decide_eq_false (by omega)
          have hg2 : ¬ (j : Int) < (j : Int) := by omega
          clear HJ
          go_wp2_with fail
          go_big_region_o
          generalize wr.drew = w3 at S1 ⊢
          go_wp2_with fail
          go_roundw
          case rel => exact ⟨i + 1, dj, by go_num, by omega, by omega, Lib.hid (by rw [show min (i + 1) b = i + 1 by omega]; exact ⟨HM.out, HG.out, S1.out⟩)⟩
          case measure => simp [intOf]; omega
    · have HE := Lib.hid HK.out
      rw [show min i b = b by omega] at HE
      clear HK
      go_wp2_with fail
      go_end0
      exact ⟨rfl, dk, HE.out.1, HE.out.2.1, HE.out.2.2⟩

end Go.Proofs.Ytllpglanpfjcnaa.SortC
