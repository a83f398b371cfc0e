/-
  Package rope: what Measure answers.
-/
import Derived.Test.YtkckhjljindgmaaRopePlay
import Derived.Test.YtkckhjljindgmaaRopeMeasure
namespace Go.Proofs.Ytkckhjljindgmaa.RopeC
open Go.RowKit Kit RopeM PosM PolyM

def posC (l : List UInt8) : List Value := [.int .i64 (l.length : Int), .int .i64 (lns l : Int), .int .i64 (col l : Int)]
def hashC (l : List UInt8) : List Value := [.int .i64 (hv l : Int), .int .i64 (hs l.length : Int)]
def posCs (ts : Tx) : List Value := (ts.map posC).flatten
def hashCs (ts : Tx) : List Value := (ts.map hashC).flatten
theorem posCs_snoc (ts : Tx) (l : List UInt8) : posCs (ts ++ [l]) = posCs ts ++ posC l := by simp [posCs]
theorem hashCs_snoc (ts : Tx) (l : List UInt8) : hashCs (ts ++ [l]) = hashCs ts ++ hashC l := by simp [hashCs]
theorem infoPos : (Try.prog.info? 68).map (fun i => (i.zero, i.size, i.bytes)) = some (some (.agg #[.int .i64 0, .int .i64 0, .int .i64 0]), 3, 24) := by kernel_rfl
theorem infoHash : (Try.prog.info? 71).map (fun i => (i.zero, i.size, i.bytes)) = some (some (.agg #[.int .i64 0, .int .i64 0]), 2, 16) := by kernel_rfl
theorem cell_three_new (w : World) (x y z : Value) (t : TypeId) : ∀ j u, [x, y, z][j]? = some u → (w.alloc (.cells #[x, y, z] t)).cell? ((⟨w.heap.size, 0, none⟩ : Addr).add j) = some u := by
  intro j u hj
  match j, hj with
  | 0, hj => simp at hj; subst hj; simp [Addr.add]
  | 1, hj => simp at hj; subst hj; simp [Addr.add]
  | 2, hj => simp at hj; subst hj; simp [Addr.add]
theorem cell_two_new (w : World) (x y : Value) (t : TypeId) : ∀ j u, [x, y][j]? = some u → (w.alloc (.cells #[x, y] t)).cell? ((⟨w.heap.size, 0, none⟩ : Addr).add j) = some u := by
  intro j u hj
  match j, hj with
  | 0, hj => simp at hj; subst hj; simp [Addr.add]
  | 1, hj => simp at hj; subst hj; simp [Addr.add]

/-- what the loop keeps -/
structure MA (w1 : World) (tx : Tx) (i : Nat) (pv hv' : Value) (wr : World) : Prop where
  prow : wr.ownsRow w1.heap.size 68 3 pv i (posCs (tx.take i))
  hrow : wr.ownsRow w1.heap.size 71 2 hv' i (hashCs (tx.take i))
  bel : Below w1.heap.size w1 wr
theorem MA.next {w1 : World} {tx : Tx} {i : Nat} {pv hv' : Value} {wr w2 : World} (h : MA w1 tx i pv hv' wr) (hb : Below wr.heap.size wr w2) : MA w1 tx i pv hv' w2 := ⟨row_next h.prow hb, row_next h.hrow hb, bstep h.bel hb⟩
theorem own_lt {W : World} {base : Nat} {e : TypeId} {size n : Nat} {v : Value} {xs : List Value} (h : W.ownsRow base e size v n xs) {k : Nat} (hk : W.heap.size ≤ k) : some k ≠ v.ownBlock := by
  intro e
  have := (h.lt k e.symm).2
  omega

set_option maxRecDepth 100000 in
set_option maxHeartbeats 4000000 in
theorem measure (l : List OpM) (a : Option Addr) (cap : Nat) (w : World) (hl : OpsAt w a l) (h80 : l.length ≤ 80) :
    Calls Try.prog 31 #[.slice a l.length cap] w fun e w' => ∃ pv hv' w1, e = .returned (.tuple #[pv, hv', .int .i64 0]) ∧ MA w1 (texts l []) (texts l []).length pv hv' w' ∧ Below w.heap.size w w' := by
  obtain ⟨i0, hi, hz0, hz1, hz2⟩ := info_parts infoPos
  have HI := Lib.hid (And.intro hi (And.intro hz0 (And.intro hz1 hz2)))
  clear hi hz0 hz1 hz2
  obtain ⟨i1, hi, hz0, hz1, hz2⟩ := info_parts infoHash
  have HJ := Lib.hid (And.intro hi (And.intro hz0 (And.intro hz1 hz2)))
  clear hi hz0 hz1 hz2
  have BU := Lib.hid (built l a cap w hl h80)
  clear hl h80
  go_enter Try.func31, Try.ntmps31
  go_wp2_with fail
  refine BU.out.mono ?_
  rintro e w1 ⟨p, cap', cv, ts, rfl, hb⟩
  have HB := Lib.hid hb
  have hlen := hb.fine.1
  have htl : (texts l []).length = ts.length := by rw [← hb.txt, txts_length]
  clear hb BU
  obtain ⟨n, hn⟩ : ∃ n, ts.length = n := ⟨_, rfl⟩
  rw [hn] at hlen htl ⊢
  go_wp2_with fail
  go_loopw [8, 9, 25] (fun pv hv' m wr => ∃ (i : Nat), i ≤ n ∧ m = .int .i64 (i : Int) ∧ MA w1 (texts l []) i pv hv' wr) (fun _ _ m _ => n - (intOf m).toNat)
  case atStart => exact ⟨0, by omega, rfl, World.ownsRow_nil _ _ _ _, World.ownsRow_nil _ _ _ _, Below.refl _ _⟩
  case round =>
    obtain ⟨i, hin, rfl, hma⟩ := hrel
    by_cases hlt : i < n
    · obtain ⟨t, ht⟩ : ∃ t, ts[i]? = some t := ⟨ts[i]'(by omega), by simp [hn, hlt]⟩
      obtain ⟨g, rfl, hg, hc⟩ := (HB.out.ropes.next hma.bel).cell i t ht
      have TO := Lib.hid (measureOf t wr ((HB.out.ropes.next hma.bel).rope i t ht) (HB.out.fine.2 i t ht))
      rw [show t.ptr = .pointer t.addr from rfl] at TO
      have HE := Lib.hid (show (texts l []).take (i + 1) = (texts l []).take i ++ [t.txt] by
        have h1 : (texts l [])[i]? = some t.txt := by rw [← HB.out.txt]; simp [txts, ht]
        have h2 := (List.getElem?_eq_some_iff.1 h1)
        rw [List.take_succ_eq_append_getElem h2.1, h2.2])
      have HM := Lib.hid hma
      clear hma
      generalize t.addr = ta at *
      unfold posL hashL at TO
      have EP : posC t.txt = [.int .i64 (t.txt.length : Int), .int .i64 (lns t.txt : Int), .int .i64 (col t.txt : Int)] := rfl
      have EH : hashC t.txt = [.int .i64 (hv t.txt : Int), .int .i64 (hs t.txt.length : Int)] := rfl
      have HEP := Lib.hid EP
      have HEH := Lib.hid EH
      clear EP EH
      generalize (t.txt.length : Int) = q0 at *
      generalize (lns t.txt : Int) = q1 at *
      generalize (col t.txt : Int) = q2 at *
      generalize (hv t.txt : Int) = q3 at *
      generalize (hs t.txt.length : Int) = q4 at *
      go_wp2_with fail
      refine TO.out.mono ?_
      rintro e w2 ⟨rfl, hb2⟩
      have HM2 := Lib.hid (HM.out.next hb2)
      clear HM hb2 TO
      have hsz : w1.heap.size ≤ w2.heap.size := HM2.out.bel.size
      have HA : Hid (MA w1 (texts l []) i u8 u9 (((w2.alloc (.cells #[.int .i64 q0, .int .i64 q1, .int .i64 q2] 68)).alloc (.cells #[.int .i64 q3, .int .i64 q4] 71)).alloc (.cells #[.int .i64 q0, .int .i64 q1, .int .i64 q2] 68))) := Lib.hid (((HM2.out.next (balloc (Below.refl _ _) _)).next (balloc (Below.refl _ _) _)).next (balloc (Below.refl _ _) _))
      have MID : Hid (∀ g3 cap3 (w3 : World), w3.ownsRow w1.heap.size 68 3 (.slice (some ⟨g3, 0, none⟩) (i + 1) cap3) (i + 1) (posCs ((texts l []).take i) ++ [.int .i64 q0, .int .i64 q1, .int .i64 q2]) → (((w2.alloc (.cells #[.int .i64 q0, .int .i64 q1, .int .i64 q2] 68)).alloc (.cells #[.int .i64 q3, .int .i64 q4] 71)).alloc (.cells #[.int .i64 q0, .int .i64 q1, .int .i64 q2] 68)).grownBy w3 u8.ownBlock →
          w3.cell? ⟨w2.heap.size + 1, 0, none⟩ = some (.int .i64 q3) ∧ w3.cell? ⟨w2.heap.size + 1, 1, none⟩ = some (.int .i64 q4) ∧ w1.heap.size ≤ w3.heap.size ∧
          Hid (w3.ownsRow w1.heap.size 68 3 (.slice (some ⟨g3, 0, none⟩) (i + 1) cap3) (i + 1) (posCs ((texts l []).take (i + 1))) ∧ w3.ownsRow w1.heap.size 71 2 u9 i (hashCs ((texts l []).take i)) ∧ Below w1.heap.size w1 w3)) := Lib.hid (by
        intro g3 cap3 w3 hown3 hgrow3
        have kb : w3.heap[w2.heap.size + 1]? = (((w2.alloc (.cells #[.int .i64 q0, .int .i64 q1, .int .i64 q2] 68)).alloc (.cells #[.int .i64 q3, .int .i64 q4] 71)).alloc (.cells #[.int .i64 q0, .int .i64 q1, .int .i64 q2] 68)).heap[w2.heap.size + 1]? := hgrow3.block _ (by simp) (own_lt HM2.out.prow (Nat.le_succ _))
        have hbb := bgrow HA.out.bel HA.out.prow hgrow3
        have bx := (B2.new (w2.alloc (.cells #[.int .i64 q0, .int .i64 q1, .int .i64 q2] 68)) (.int .i64 q3) (.int .i64 q4) 71).alloc (.cells #[.int .i64 q0, .int .i64 q1, .int .i64 q2] 68)
        rw [World.size_alloc] at bx
        exact ⟨(World.cell?_of_block (a := ⟨w2.heap.size + 1, 0, none⟩) kb).trans bx.c0, (World.cell?_of_block (a := ⟨w2.heap.size + 1, 1, none⟩) kb).trans bx.c1, hbb.size, Lib.hid ⟨by rw [HE.out, posCs_snoc, HEP.out]; exact hown3, HA.out.hrow.kept hgrow3 (apart HA.out.hrow HA.out.prow (by decide)), hbb⟩⟩)
      go_wp2_with (first
        | (at_builtin; refine wpList_append_lies _ rfl _ _ 63 rfl w1.heap.size 68 i0 _ 3 24 Try.underlying63 HI.out.1 HI.out.2.1 HI.out.2.2.1 HI.out.2.2.2 rfl (by decide) _ i (posCs ((texts l []).take i)) rfl HA.out.prow ⟨w2.heap.size + 1 + 1, 0, none⟩ 1 1 [.int .i64 q0, .int .i64 q1, .int .i64 q2] rfl rfl (by have := cell_three_new ((w2.alloc (.cells #[.int .i64 q0, .int .i64 q1, .int .i64 q2] 68)).alloc (.cells #[.int .i64 q3, .int .i64 q4] 71)) (.int .i64 q0) (.int .i64 q1) (.int .i64 q2) 68; simpa using this) (by simp [Value.oneCell']) (by omega) (by unfold maxLen; omega) (by omega) (by simp; omega) _ rfl ?_; intro g3 cap3 w3 hown3 hgrow3 _ _; obtain ⟨d0, d1, hsz3, M3⟩ := MID.out g3 cap3 w3 hown3 hgrow3; clear hown3 hgrow3)
        | (at_builtin; refine wpList_append_lies _ rfl _ _ 64 rfl w1.heap.size 71 i1 _ 2 16 Try.underlying64 HJ.out.1 HJ.out.2.1 HJ.out.2.2.1 HJ.out.2.2.2 rfl (by decide) _ i (hashCs ((texts l []).take i)) rfl (M3.out.2.1.alloc _) ⟨w3.heap.size, 0, none⟩ 1 1 [.int .i64 q3, .int .i64 q4] rfl rfl (cell_two_new _ _ _ _) (by simp [Value.oneCell']) (by omega) (by unfold maxLen; omega) (by omega) (by simp; omega) _ rfl ?_; intro g4 cap4 w4 hown4 hgrow4 _ _; have FIN := Lib.hid (show MA w1 (texts l []) (i + 1) (.slice (some ⟨g3, 0, none⟩) (i + 1) cap3) (.slice (some ⟨g4, 0, none⟩) (i + 1) cap4) w4 from ⟨(M3.out.1.alloc _).kept hgrow4 (apart (M3.out.1.alloc (.cells #[.int .i64 q3, .int .i64 q4] 71)) (M3.out.2.1.alloc _) (by decide)), by rw [HE.out, hashCs_snoc, HEH.out]; exact hown4, bgrow (balloc M3.out.2.2 _) (M3.out.2.1.alloc _) hgrow4⟩); clear hown4 hgrow4))
      go_roundw
      case rel => exact ⟨i + 1, by omega, rfl, FIN.out⟩
      case measure => simp [intOf]; omega
    · obtain rfl : i = n := by omega
      have FIN := Lib.hid (show MA w1 (texts l []) (texts l []).length u8 u9 wr ∧ Below w.heap.size w wr from ⟨by rw [htl]; exact hma, bstep HB.out.bel hma.bel⟩)
      clear hma
      go_wp2_with fail
      refine bodyPost_ret (v := .tuple #[u8, u9, .int .i64 0]) (by simp [results, Try.results31]) rfl ⟨_, _, _, rfl, FIN.out⟩

theorem measure_big (n cap : Nat) (a : Option Addr) (w : World) (h : 80 < n) :
    Calls Try.prog 31 #[.slice a n cap] w fun e w' => e = .returned (.tuple #[.slice none 0 0, .slice none 0 0, .int .i64 1]) ∧ w = w' := by
  have BU := Lib.hid (build_big n cap a w h)
  go_enter Try.func31, Try.ntmps31
  go_wp2_with fail
  refine BU.out.mono ?_
  rintro e w1 ⟨rfl, rfl⟩
  go_wp2_with fail
  refine bodyPost_ret (v := .tuple #[.slice none 0 0, .slice none 0 0, .int .i64 1]) (by simp [results, Try.results31]) rfl ⟨rfl, rfl⟩

end Go.Proofs.Ytkckhjljindgmaa.RopeC
