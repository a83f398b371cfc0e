/-
  Package marks: what Near answers.
-/
import Derived.Test.YtllpglanpfjcnaaMarkNear
import Derived.Shelf.RegionOpenPlain
namespace Go.Proofs.Ytllpglanpfjcnaa.MarkC
open Go.RowKit Kit EditM MarkM SortM SortC

theorem NW.start {ms : List MkM} {al : Option Addr} {cap n : Nat} {d : Nat → Nat} {blk : Nat} {a : Int} {w w1 : World} {t1 t2 t3 : TypeId} (hn : ms.length = n) (h : MksAt w al ms) (hb : Below ((w.alloc (.cells #[.slice al n cap] t1)).alloc (.cells #[.int .i64 a] t2)).heap.size ((w.alloc (.cells #[.slice al n cap] t1)).alloc (.cells #[.int .i64 a] t2)) w1) (hk : w.heap.size + 2 ≤ blk) (hs : SR w1 blk n d w1) :
    NW ms al cap n d blk w.heap.size (w.heap.size + 1) w1.heap.size a (w1.alloc (.cells #[.slice (some ⟨blk, 0, none⟩) n n] t3)) := by
  have hz : ((w.alloc (.cells #[.slice al n cap] t1)).alloc (.cells #[.int .i64 a] t2)).heap.size = w.heap.size + 1 + 1 := by simp
  have hz1 := hb.size
  have b1 : Below w1.heap.size w1 (w1.alloc (.cells #[.slice (some ⟨blk, 0, none⟩) n n] t3)) := balloc (Below.refl _ _) _
  have k1 : w1.cell? ⟨w.heap.size, 0, none⟩ = some (.slice al n cap) := keep hb (by omega) (by simp)
  have k2 : w1.cell? ⟨w.heap.size + 1, 0, none⟩ = some (.int .i64 a) := keep hb (by omega) (by simp)
  have k3 : w1.frozen? ⟨w.heap.size + 1, 0, none⟩ = false := (hb.frozen (p := ⟨w.heap.size + 1, 0, none⟩) (by show w.heap.size + 1 < _; omega)).trans (by simp)
  refine ⟨hn, by simp; omega, by simp; omega, by simp, keep b1 (by omega) k1, keep b1 (by omega) k2, (b1.frozen (p := ⟨w.heap.size + 1, 0, none⟩) (by show w.heap.size + 1 < _; omega)).trans k3, by simp, ((h.next (balloc (balloc (Below.refl _ _) _) _)).next hb).next b1, Nat.lt_of_lt_of_le hs.lt b1.size, fun i hi => keep b1 hs.lt (hs.cell i hi), hs.rng, fun g off e hp => ?_, by omega, by omega, by omega⟩
  obtain ⟨g', off', e', hg, _⟩ := MksAt.get h (mk_get (i := 0) (by omega))
  rw [e] at e'
  simp only [Option.some.injEq, Addr.mk.injEq, and_true] at e'
  omega
def NearPost (f : Nat → Int) (n : Nat) (a : Int) (right : Bool) (w : World) (e : Ending) (w' : World) : Prop := ∃ x c : Int, e = .returned (.tuple #[.int .i64 x, .int .i64 c]) ∧ IsAns f n a right x c ∧ Below w.heap.size w w'

set_option maxHeartbeats 400000 in
theorem near_long (al : Option Addr) (n cap : Nat) (a : Int) (r : Bool) (w : World) (h60 : 60 < n) :
    Calls Try.prog 16 #[.slice al n cap, .int .i64 a, .bool r] w fun e w' => e = .returned (.tuple #[.int .i64 0, .int .i64 1]) ∧ Below w.heap.size w w' := by
  go_enter Try.func16, Try.ntmps16
  go_wp2_with fail
  go_ret2
  exact ⟨rfl, balloc (balloc (Below.refl _ _) _) _⟩

set_option maxRecDepth 100000 in
set_option maxHeartbeats 4000000 in
theorem near_r (ms : List MkM) (al : Option Addr) (cap n : Nat) (a : Int) (w : World) (hn : ms.length = n) (h : MksAt w al ms) (h60 : n ≤ 60) :
    Calls Try.prog 16 #[.slice al n cap, .int .i64 a, .bool true] w (NearPost (atOf ms) n a true w) := by
  have SO := Lib.hid (fun W hW => sorted_near ms al cap W (h.next hW) (by omega))
  have NS : Hid (∀ blk d w1, _ → _ → _ → _) := Lib.hid (fun blk d w1 hb hk hs => NW.start (d := d) (blk := blk) (cap := cap) (a := a) (w1 := w1) (t1 := 22) (t2 := 3) (t3 := 30) hn h hb hk hs)
  have F4 := Lib.hid (fun W d blk r hW => first4 ms al cap n d blk w.heap.size (w.heap.size + 1) r a W hW h60)
  rw [hn] at SO
  clear hn h
  go_enter Try.func16, Try.ntmps16
  go_wp2_with fail
  refine (SO.out _ (balloc (balloc (Below.refl _ _) _) _)).mono ?_
  rintro e w1 ⟨blk, d, rfl, h1, h2, h3, h4, h5⟩
  have N1 := Lib.hid (NS.out blk d w1 h2 (by simpa using h1) h3)
  have B1 : Hid (Below w.heap.size w (w1.alloc (.cells #[.slice (some ⟨blk, 0, none⟩) n n] 30))) := Lib.hid (bstep (bstep (balloc (balloc (Below.refl _ _) _) _) h2) (balloc (Below.refl _ _) _))
  have MS := Lib.hid (And.intro h4 h5)
  have C := Lib.hid (F4.out _ d blk _ N1.out)
  clear h1 h2 h3 h4 h5 SO NS F4
  go_wp2_with fail
  refine C.out.mono ?_
  rintro e w2 ⟨i, rfl, h1, h2, h3, h4⟩
  have N2 := Lib.hid (N1.out.next h4)
  have B2 := Lib.hid (bstep B1.out h4)
  have NR := near_right (f := atOf ms) MS.out.1 MS.out.2 h1 (fun c => of_decide_eq_false (h2 c)) (fun c => of_decide_eq_true (h3 c))
  clear h2 h3 h4 C N1 B1 MS
  have cr := N2.out.cr
  by_cases e : i = n
  · have FIN := Lib.hid (NR.1 e)
    have g1 : ((i : Int) == (n : Int)) = true := by simp; omega
    clear NR e
    go_wp2_with fail
    go_ret2
    exact ⟨0, 7, rfl, FIN.out, B2.out⟩
  · have hlt : i < n := by omega
    have FIN := Lib.hid (NR.2 hlt)
    have g1 : ((i : Int) == (n : Int)) = false := by simp; omega
    have c1 := N2.out.row i hlt
    have i1 : (i : Int) < (n : Int) := by omega
    have i2 : (0 : Int) ≤ (i : Int) := by omega
    clear NR e
    generalize d i = y at *
    go_wp2_with fail
    go_ret2
    exact ⟨y, 0, rfl, FIN.out, B2.out⟩

set_option maxRecDepth 100000 in
set_option maxHeartbeats 4000000 in
theorem near_l (ms : List MkM) (al : Option Addr) (cap n : Nat) (a : Int) (w : World) (hn : ms.length = n) (h : MksAt w al ms) (h60 : n ≤ 60) :
    Calls Try.prog 16 #[.slice al n cap, .int .i64 a, .bool false] w (NearPost (atOf ms) n a false w) := by
  have SO := Lib.hid (fun W hW => sorted_near ms al cap W (h.next hW) (by omega))
  have NS : Hid (∀ blk d w1, _ → _ → _ → _) := Lib.hid (fun blk d w1 hb hk hs => NW.start (d := d) (blk := blk) (cap := cap) (a := a) (w1 := w1) (t1 := 22) (t2 := 3) (t3 := 30) hn h hb hk hs)
  have F3 := Lib.hid (fun W d blk r hW => first3 ms al cap n d blk w.heap.size (w.heap.size + 1) r a W hW h60)
  have F4 := Lib.hid (fun W d blk r a hW => first4 ms al cap n d blk w.heap.size (w.heap.size + 1) r a W hW h60)
  have mixed : Try.prog.follows .mixedOrders = true := by kernel_rfl
  rw [hn] at SO
  clear h
  have HN := Lib.hid hn
  clear hn
  go_enter Try.func16, Try.ntmps16
  go_wp2_with fail
  refine (SO.out _ (balloc (balloc (Below.refl _ _) _) _)).mono ?_
  rintro e w1 ⟨blk, d, rfl, h1, h2, h3, h4, h5⟩
  have N1 := Lib.hid (NS.out blk d w1 h2 (by simpa using h1) h3)
  have B1 : Hid (Below w.heap.size w (w1.alloc (.cells #[.slice (some ⟨blk, 0, none⟩) n n] 30))) := Lib.hid (bstep (bstep (balloc (balloc (Below.refl _ _) _) _) h2) (balloc (Below.refl _ _) _))
  have MS := Lib.hid (And.intro h4 h5)
  have C := Lib.hid (F3.out _ d blk _ N1.out)
  clear h1 h2 h3 h4 h5 SO NS F3
  go_wp2_with fail
  refine C.out.mono ?_
  rintro e w2 ⟨j, rfl, h1, h2, h3, h4⟩
  have N2 := Lib.hid (N1.out.next h4)
  have B2 := Lib.hid (bstep B1.out h4)
  have J := Lib.hid (And.intro h2 h3)
  clear h2 h3 h4 C N1 B1
  by_cases e : j = 0
  · subst e
    have FIN := Lib.hid (near_left0 (f := atOf ms) (at_ := a) MS.out.1 MS.out.2 (fun c => of_decide_eq_true (J.out.2 c)))
    clear MS J F4
    go_wp2_with fail
    go_ret2
    exact ⟨0, 7, rfl, FIN.out, B2.out⟩
  · obtain ⟨jp, rfl⟩ : ∃ jp, j = jp + 1 := ⟨j - 1, by omega⟩
    have hdj := N2.out.rng jp (by omega)
    obtain ⟨g, off, hal, hg, c0, _⟩ := MksAt.get N2.out.hm (mk_get (i := d jp) (by rw [HN.out]; exact hdj))
    subst hal
    have c1 := N2.out.row jp (by omega)
    have cq := N2.out.cq
    have cr := N2.out.cr
    have cb := N2.out.cb
    have fb := N2.out.fb
    have N3 := Lib.hid ((N2.out.set (atOf ms (d jp))).next ((Below.refl _ _).drew))
    have B3 := Lib.hid (bdrew (B2.out.setCell (p := ⟨w.heap.size + 1, 0, none⟩) (by show w.heap.size ≤ w.heap.size + 1; omega) (.int .i64 (atOf ms (d jp)))))
    have NL : Hid (∀ i : Nat, i ≤ n → (0 < i → decide (atOf ms (d jp) ≤ atOf ms (d (i - 1))) = false) → (i < n → decide (atOf ms (d jp) ≤ atOf ms (d i)) = true) → i < n ∧ IsAns (atOf ms) n a false (d i : Int) 0) := Lib.hid fun i hi g1 g2 =>
      near_left (f := atOf ms) (j := jp) MS.out.1 MS.out.2 (by omega) (of_decide_eq_false (J.out.1 (by omega))) (fun c => of_decide_eq_true (J.out.2 c)) hi (fun c => of_decide_eq_false (g1 c)) (fun c => of_decide_eq_true (g2 c))
    have C4 := Lib.hid (fun W hW => F4.out W d blk w1.heap.size (atOf ms (d jp)) hW)
    have EA : Hid ((mk ms (d jp)).at_ = atOf ms (d jp)) := Lib.hid rfl
    rw [EA.out] at c0
    generalize atOf ms (d jp) = x at *
    generalize d jp = y at *
    clear MS J F4 N2 B2 EA hg
    have i1 : (jp : Int) < (n : Int) := by omega
    have i2 : (0 : Int) ≤ (jp : Int) := by omega
    have i3 : (y : Int) < (n : Int) := by omega
    have i4 : (0 : Int) ≤ (y : Int) := by omega
    have r1 : IntKind.i64.wrap (jp : Int) = (jp : Int) := IntWalk.i64_in _ (by omega)
    have hj0 : ((jp : Int) + 1 == 0) = false := by simp; omega
    go_wp2_with fail
    go_big_region_o
    clear cq cr cb fb c0 c1
    generalize (w2.setCell ⟨w.heap.size + 1, 0, none⟩ (.int .i64 x)).drew = w3 at *
    go_wp2_with fail
    refine (C4.out _ N3.out).mono ?_
    rintro e w4 ⟨i, rfl, h1, h2, h3, h4⟩
    have N4 := Lib.hid (N3.out.next h4)
    have B4 := Lib.hid (bstep B3.out h4)
    obtain ⟨hlt, hans⟩ := NL.out i h1 h2 h3
    have FIN := Lib.hid hans
    clear h2 h3 h4 C4 N3 B3 NL hans
    have cr := N4.out.cr
    have c1 := N4.out.row i hlt
    have g1 : ((i : Int) == (n : Int)) = false := by simp; omega
    have i5 : (i : Int) < (n : Int) := by omega
    have i6 : (0 : Int) ≤ (i : Int) := by omega
    clear N4
    generalize d i = z at *
    go_wp2_with fail
    go_ret2
    exact ⟨z, 0, rfl, FIN.out, B4.out⟩

theorem near (ms : List MkM) (al : Option Addr) (cap : Nat) (a : Int) (r : Bool) (w : World) (h : MksAt w al ms) (h60 : ms.length ≤ 60) :
    Calls Try.prog 16 #[.slice al ms.length cap, .int .i64 a, .bool r] w (NearPost (atOf ms) ms.length a r w) := by
  cases r
  · exact near_l ms al cap _ a w rfl h h60
  · exact near_r ms al cap _ a w rfl h h60

end Go.Proofs.Ytllpglanpfjcnaa.MarkC
