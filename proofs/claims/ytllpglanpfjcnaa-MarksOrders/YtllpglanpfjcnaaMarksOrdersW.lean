/-
  The law MarksOrders.
-/
import Derived.Test.YtllpglanpfjcnaaMarkOrder
namespace Go.Proofs.Ytllpglanpfjcnaa.MarkC
open Go.RowKit Kit EditM MarkM SortM SortC

theorem SR.row {w0 W : World} {blk n cap : Nat} {d : Nat → Nat} (h : SR w0 blk n d W) : Row W (.slice (some ⟨blk, 0, none⟩) n cap) (((List.range n).map fun p => (d p : Int)).map (.int .i64)) := by
  refine ⟨some ⟨blk, 0, none⟩, cap, by simp, fun _ => ⟨blk, 0, rfl, h.lt, fun i hi => ?_⟩⟩
  simp at hi
  rw [Nat.zero_add, h.cell i hi]
  simp [hi]
set_option maxHeartbeats 400000 in
theorem orderRef_long (al : Option Addr) (n cap : Nat) (w : World) (h60 : 60 < n) :
    Calls Try.prog 14 #[.slice al n cap] w fun e w' => e = .returned (.tuple #[.slice none 0 0, .int .i64 1]) ∧ w = w' := by
  go_enter Try.func14, Try.ntmps14
  go_wp2_with fail
  go_ret2
  exact ⟨rfl, rfl⟩

set_option maxHeartbeats 1000000 in
theorem marksOrders (al : Option Addr) (cap : Nat) (ms : List MkM) (w : World) (h : MksAt w al ms) (_ : ∀ e ∈ ms, e.ok) (hle : ms.length ≤ cap) (hmx : cap ≤ maxLen) {S : Prop} (_ : S) :
    Calls Try.prog 4 #[.slice al ms.length cap] w fun e w' => e = .returned (.bool true) ∧ Below w.heap.size w w' := by
  unfold maxLen at hmx
  have hle2 : ms.length ≤ 9223372036854775807 := by omega
  clear hle hmx
  by_cases h60 : ms.length ≤ 60
  · have C := Lib.hid (order ms al cap w h h60)
    have R := Lib.hid (fun W hW d hm hs => orderRef ms al cap W (h.next hW) h60 d hm hs)
    have SM := Lib.hid (fun v1 v2 d W h1 h2 => SameL.same v1 v2 ((List.range ms.length).map fun p => ((d : Nat → Nat) p : Int)) W h1 h2 (by simp; unfold maxLen; omega))
    clear h
    generalize ms.length = n at *
    go_enter Try.func4, Try.ntmps4
    go_wp2_with fail
    refine C.out.mono ?_
    rintro e w1 ⟨blk, d, rfl, h1, h2, h3, h4, h5⟩
    have C2 := Lib.hid (R.out w1 h2 d h4 h5)
    have K1 := Lib.hid (And.intro h2 h3)
    clear C R h1 h2 h3 h4 h5
    go_wp2_with fail
    refine C2.out.mono ?_
    rintro e w2 ⟨rfl, h1, h2⟩
    have C3 := Lib.hid (SM.out (.slice (some ⟨blk, 0, none⟩) n n) (.slice (some ⟨w1.heap.size, 0, none⟩) n n) d w2 (SR.row (K1.out.2.next h1)) (SR.row h2))
    have K2 := Lib.hid (bstep K1.out.1 h1)
    clear h1 h2 C2 K1 SM
    go_wp2_with fail
    refine C3.out.mono ?_
    rintro e w3 ⟨rfl, h1⟩
    have K3 := Lib.hid (bstep K2.out h1)
    clear h1 C3 K2
    go_wp2_with fail
    go_ret
    exact ⟨rfl, K3.out⟩
  · have C := Lib.hid (fun W => order_long al ms.length cap W (by omega))
    have R := Lib.hid (fun W => orderRef_long al ms.length cap W (by omega))
    have SM := Lib.hid (fun W => SameL.same (.slice none 0 0) (.slice none 0 0) [] W (Row.nil _) (Row.nil _) (by simp))
    clear h h60
    generalize ms.length = n at *
    go_enter Try.func4, Try.ntmps4
    go_wp2_with fail
    refine (C.out _).mono ?_
    rintro e w1 ⟨rfl, rfl⟩
    go_wp2_with fail
    refine (R.out _).mono ?_
    rintro e w2 ⟨rfl, rfl⟩
    go_wp2_with fail
    refine (SM.out _).mono ?_
    rintro e w3 ⟨rfl, h1⟩
    have K3 := Lib.hid h1
    clear h1
    go_wp2_with fail
    go_ret
    exact ⟨rfl, K3.out⟩

end Go.Proofs.Ytllpglanpfjcnaa.MarkC
