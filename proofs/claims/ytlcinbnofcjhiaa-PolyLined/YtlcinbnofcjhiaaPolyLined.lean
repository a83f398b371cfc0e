/-
  Package poly: the law PolyLined.
-/
import Derived.Test.YtlcinbnofcjhiaaPolyLines
import Derived.Test.YtlcinbnofcjhiaaPosOfC
import Derived.Test.YtlcinbnofcjhiaaTexts
import Derived.Test.YtlcinbnofcjhiaaSameK
import Derived.OwnWalk
import Derived.Deep.AppendLies
namespace Go.Proofs.Ytlcinbnofcjhiaa.LinesC
open Go.RowKit Go.Shelf PosM LinesM PolyM Kit StrC PolyC Txt

/-- an append that a guard lets through -/
theorem wpList_append_g {P : Program} {w : World} {ops : Array Oper} {rest : List Oper} {o : Oper} {a : Act} {Q : Exit → Act → World → Prop} (hw : Region.wanted o (yielded ops a.tmps) = true) (s x : Operand) (t : TypeId)
    (ho : o.op = .call { callee := .builtin .append, args := #[s, x], argTypes := #[t, t] })
    (base : Nat) (e : TypeId) (i : TypeInfo) (z : Value) (size bytes : Nat) (ht : P.underlying t = some (.slice e)) (hi : P.info? e = some i) (hz : i.zero = some z)
    (hsize : i.size = size) (hby : i.bytes = bytes) (hzs : z.cells.size = size) (hsz : 0 < size)
    (v : Value) (n : Nat) (xs : List Value) (hs : a.eval s = v) (hown : w.ownsRow base e size v n xs)
    (ad : Addr) (m c : Nat) (news : List Value) (hx : a.eval x = .slice (some ad) m c) (hl : news.length = m * size) (hnews : ∀ j u, news[j]? = some u → w.cell? (ad.add j) = some u) (h1 : ∀ u ∈ news, u.oneCell' = true)
    (hm : 0 < m) (h63 : n + m ≤ maxLen) (hbytes : (n + m) * bytes ≤ 140737488355328) (hbase : base ≤ w.heap.size)
    (h : ∀ g cap w', w'.ownsRow base e size (.slice (some ⟨g, 0, none⟩) (n + m) cap) (n + m) (xs ++ news) → w.grownBy w' v.ownBlock → wpList P ops Q rest (a.put o.dst (.slice (some ⟨g, 0, none⟩) (n + m) cap)) w') : wpList P ops Q (o :: rest) a w :=
  wpList_step fun _ hK => by
    rw [if_pos hw]
    exact wp_append_lies w s x t ho base e i z size bytes ht hi hz hsize hby hzs hsz v n xs hs hown ad m c news hx hl hnews h1 hm h63 hbytes hbase _ rfl fun g cap w' h2 h3 _ _ => hK _ _ (h g cap w' h2 h3)
theorem cells_of {w : World} {b off : Nat} {xs : List Value} (h : ∀ i, i < xs.length → w.cell? ⟨b, off + i, none⟩ = xs[i]?) : ∀ j u, xs[j]? = some u → w.cell? ((⟨b, off, none⟩ : Addr).add j) = some u := by
  intro j u hj
  have hlt : j < xs.length := (List.getElem?_eq_some_iff.1 hj).1
  rw [← hj, ← h j hlt]
  cases j <;> rfl
theorem one_cells (zs : List Int) : ∀ u ∈ zs.map (Value.int .i64), u.oneCell' = true := by
  intro u hu
  obtain ⟨z, _, rfl⟩ := List.mem_map.1 hu
  rfl

/-- the hash values of the lines of a text -/
def hashes (l : List UInt8) : List Int := (cut l).map fun x => (hv x : Int)
theorem hashes_mid (a b : List UInt8) : hashes (a ++ 10 :: b) = hashes a ++ hashes b := by unfold hashes; rw [cut_mid, List.map_append]
theorem hashes_length (a : List UInt8) : (hashes a).length = lns a + 1 := by unfold hashes; rw [List.length_map, cut_length]
theorem lines' (s : ByteArray) (w : World) (hs : s.size ≤ 600) :
    Calls Try.prog 17 #[.string s] w fun e w' => ∃ v, e = .returned (.tuple #[v, .int .i64 0]) ∧ Row w' v ((hashes s.data.toList).map (.int .i64)) ∧ Below w.heap.size w w' := lines s w hs
theorem posfield1 (v0 v1 v2 : Value) (w : World) : (Instr.field 40 (.agg #[v0, v1, v2]) 1).run Try.prog w = .ok v1 w := by kernel_rfl

set_option maxHeartbeats 1000000 in
set_option maxRecDepth 100000 in
theorem polyLined (a0 : Option Addr) (len0 cap0 : Nat) (z0 : List Int) (a1 : Option Addr) (len1 cap1 : Nat) (z1 : List Int) (w : World)
    (h0 : Lift.IsRow .i64 w a0 len0 cap0 z0) (h1 : Lift.IsRow .i64 w a1 len1 cap1 z1) :
    Calls Try.prog 9 #[.slice a0 len0 cap0, .slice a1 len1 cap1] w fun e w' => e = .returned (.bool true) ∧ Below w.heap.size w w' := by
  have HA := Lib.hid (fun w' (e : w = w') => e ▸ textOf a0 len0 cap0 z0 100 w h0 (by omega))
  have HB := Lib.hid (fun w' (e : w = w') => e ▸ textOf a1 len1 cap1 z1 100 w h1 (by omega))
  have s0 : (textS ((z0.take len0).take 100)).size ≤ 100 := by rw [textS_size, List.length_take]; omega
  have s1 : (textS ((z1.take len1).take 100)).size ≤ 100 := by rw [textS_size, List.length_take]; omega
  clear h0 h1
  generalize textS ((z0.take len0).take 100) = a at *
  generalize textS ((z1.take len1).take 100) = b at *
  have lf : (⟨#[10]⟩ : ByteArray).size = 1 := rfl
  have sab : (a ++ ⟨#[10]⟩ ++ b).data.toList = a.data.toList ++ 10 :: b.data.toList := by simp [ByteArray.data_append]
  have zab : (a ++ ⟨#[10]⟩ ++ b).size = a.size + 1 + b.size := by rw [ByteArray.size_append, ByteArray.size_append, lf]
  have la : a.data.toList.length = a.size := by simp
  have lb : b.data.toList.length = b.size := by simp
  have L1 := Lib.hid (fun w => lines' a w (by omega))
  have L2 := Lib.hid (fun w => lines' b w (by omega))
  have L3 := Lib.hid (fun w => lines' (a ++ ⟨#[10]⟩ ++ b) w (by omega))
  have P1 := Lib.hid (fun w => PosOfC.of a w (by unfold maxLen; omega))
  rw [sab, hashes_mid] at L3
  have n1 := hashes_length a.data.toList
  have n2 := hashes_length b.data.toList
  have n3 := lns_col_le a.data.toList
  have n4 := lns_col_le b.data.toList
  generalize hashes a.data.toList = x at *
  generalize hashes b.data.toList = y at *
  generalize col a.data.toList = ca at *
  generalize lns a.data.toList = na at *
  generalize lns b.data.toList = nb at *
  generalize col b.data.toList = cb at *
  have x1 : 0 < x.length := by omega
  have y1 : 0 < y.length := by omega
  have x2 : x.length ≤ 101 := by omega
  have y2 : y.length ≤ 101 := by omega
  have N1 := Lib.hid n1
  have n5 : na ≤ 100 := by omega
  clear n1 n2 n3 n4 sab zab la lb lf
  obtain ⟨i0, hi, hz0, hz1, hz2⟩ := info_parts infoInt
  have HI := Lib.hid (And.intro hi (And.intro hz0 (And.intro hz1 hz2)))
  clear hi hz0 hz1 hz2
  have hfl := posfield1
  go_enter Try.func9, Try.ntmps9
  go_wp2_with fail
  refine (HA.out _ rfl).mono ?_
  rintro e w1 ⟨rfl, rfl⟩
  go_wp2_with fail
  refine (HB.out _ rfl).mono ?_
  rintro e w1 ⟨rfl, rfl⟩
  go_wp2_with fail
  refine (L1.out _).mono ?_
  rintro e w1 ⟨v1, rfl, r1, b1⟩
  have R1 := Lib.hid r1
  clear r1
  go_wp2_with fail
  refine (L2.out _).mono ?_
  rintro e w2 ⟨v2, rfl, r2, b2⟩
  have R2 := Lib.hid r2
  clear r2
  go_wp2_with fail
  refine (L3.out _).mono ?_
  rintro e w3 ⟨v3, rfl, r3, b3⟩
  have R3 := Lib.hid r3
  clear r3
  obtain ⟨p1, c1, rfl, q1⟩ := (R1.out.next b2).next b3
  have q1 := q1 (by simpa using x1)
  obtain ⟨k1, o1, rfl, l1, q1⟩ := q1
  obtain ⟨p2, c2, rfl, q2⟩ := R2.out.next b3
  have q2 := q2 (by simpa using y1)
  obtain ⟨k2, o2, rfl, l2, q2⟩ := q2
  have B3 := Lib.hid (bstep (bstep b1 b2) b3)
  have Q1 := Lib.hid q1
  have Q2 := Lib.hid q2
  clear q1 q2 b1 b2 b3 R1 R2
  simp only [List.length_map] at Q1 Q2 ⊢
  have g : ((x.length : Int) == (na : Int) + 1) = true := by have := N1.out; simp; omega
  go_wp2_with fail
  refine (P1.out _).mono ?_
  rintro e w4 ⟨rfl, b4⟩
  have z4 := b4.size
  have Q1' := Lib.hid (show ∀ i, i < (x.map (Value.int .i64)).length → w4.cell? ⟨k1, o1 + i, none⟩ = (x.map (Value.int .i64))[i]? from fun i hi => (b4.cell (p := ⟨k1, o1 + i, none⟩) l1).trans (Q1.out i (by simpa using hi)))
  have Q2' := Lib.hid (show ∀ i, i < (y.map (Value.int .i64)).length → w4.cell? ⟨k2, o2 + i, none⟩ = (y.map (Value.int .i64))[i]? from fun i hi => (b4.cell (p := ⟨k2, o2 + i, none⟩) l2).trans (Q2.out i (by simpa using hi)))
  have R3' := Lib.hid (R3.out.next b4)
  have B4 := Lib.hid (bstep B3.out b4)
  have l2' : k2 < w4.heap.size := by omega
  clear Q1 Q2 R3 B3 b4
  go_wp2_with (first | (at_builtin; refine wpList_append_g rfl _ _ 31 rfl w4.heap.size 3 i0 _ 1 8 Try.underlying31 HI.out.1 HI.out.2.1 HI.out.2.2.1 HI.out.2.2.2 rfl (by decide) _ 0 [] rfl (World.ownsRow_nil _ _ _ _) ⟨k1, o1, none⟩ x.length _ (x.map (.int .i64)) rfl (by simp) (cells_of Q1'.out) (one_cells _) x1 (by unfold maxLen; omega) (by omega) (Nat.le_refl _) ?_; intro g1 cp1 w5 hown1 hgrow1; rw [Nat.zero_add, List.nil_append] at hown1; have b5 := grows_below hgrow1; have z5 := b5.size; have Q5 := Lib.hid (show ∀ i, i < (y.map (Value.int .i64)).length → w5.cell? ⟨k2, o2 + i, none⟩ = (y.map (Value.int .i64))[i]? from fun i hi => (b5.cell (p := ⟨k2, o2 + i, none⟩) l2').trans (Q2'.out i hi)); have O1 := Lib.hid hown1; have G1 := Lib.hid b5; clear hown1 hgrow1 b5) | (at_builtin; refine wpList_append_g rfl _ _ 31 rfl w4.heap.size 3 i0 _ 1 8 Try.underlying31 HI.out.1 HI.out.2.1 HI.out.2.2.1 HI.out.2.2.2 rfl (by decide) _ x.length (x.map (.int .i64)) rfl O1.out ⟨k2, o2, none⟩ y.length _ (y.map (.int .i64)) rfl (by simp) (cells_of Q5.out) (one_cells _) y1 (by unfold maxLen; omega) (by omega) z5 ?_; intro g2 cp2 w6 hown2 hgrow2; have b6 := bgrow G1.out O1.out hgrow2; have O2 := Lib.hid hown2; have G2 := Lib.hid b6; clear hown2 hgrow2 b6))
  have rr := Row.of_owns O2.out
  rw [← List.map_append] at rr
  have SM := Lib.hid (SameK.same _ v3 (x ++ y) w6 rr (R3'.out.next G2.out) (by rw [List.length_append]; unfold maxLen; omega))
  clear rr
  refine SM.out.mono ?_
  rintro e w7 ⟨rfl, b7⟩
  go_wp2
  go_ret
  exact ⟨rfl, bstep (bstep B4.out G2.out) b7⟩

end Go.Proofs.Ytlcinbnofcjhiaa.LinesC
