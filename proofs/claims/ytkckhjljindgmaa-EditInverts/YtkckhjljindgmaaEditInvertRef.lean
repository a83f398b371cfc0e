/-
  The document's answer: EditInvert.
-/
import Derived.Test.YtkckhjljindgmaaEditAppliedRef
import Derived.Test.YtkckhjljindgmaaEditInvert
import Derived.Deep.RegionHeld3
import Derived.Lib.Strings
namespace Go.Proofs.Ytkckhjljindgmaa.EditR
open Go.RowKit Kit EditM EditC

set_option maxHeartbeats 1000000 in
theorem invertRef_long (t : ByteArray) (a : Option Addr) (n cap : Nat) (w : World) (h : 60 < n ∨ 600 < t.size) :
    Calls Try.prog 19 #[.string t, .slice a n cap] w fun e w' => e = .returned (.tuple #[.slice none 0 0, .int .i64 1]) ∧ w = w' := by
  have C := Lib.hid (applied_long t a n cap w h)
  clear h
  go_enter Try.func19, Try.ntmps19
  go_wp2_with fail
  refine C.out.mono ?_
  rintro e w1 ⟨rfl, rfl⟩
  go_wp2_with fail
  go_ret2
  exact ⟨rfl, rfl⟩

/-- what the loop keeps: the last edits are undone -/
structure IvR (w : World) (l : List EdM) (t : Bs) (k : Nat) (v : Value) (wr : World) : Prop where
  row : wr.ownsRow w.heap.size 23 3 v (l.length - k) (flatC EdM.cs ((invs l t).drop k).reverse)
  bel : Below w.heap.size w wr
theorem IvR.next {w : World} {l : List EdM} {t : Bs} {k : Nat} {v : Value} {w1 w2 : World} (h : IvR w l t k v w1) (hb : Below w1.heap.size w1 w2) : IvR w l t k v w2 := ⟨row_next h.row hb, bstep h.bel hb⟩
theorem ivr_next {l : List EdM} {t : Bs} {k : Nat} {e : EdM} (h : l[k]? = some e) : flatC EdM.cs ((invs l t).drop k).reverse = flatC EdM.cs ((invs l t).drop (k + 1)).reverse ++ (e.inv (apT (l.take k) t)).cs := by
  rw [drop_next (invs_get h), List.reverse_cons, flatC_append, flatC_one]

theorem apC_take {l : List EdM} {t : Bs} (h : apC l t = 0) (k : Nat) : apC (l.take k) t = 0 := by
  rw [← List.take_append_drop k l] at h
  exact apC_head _ _ _ h
theorem apC_fault {l : List EdM} {t : Bs} {k : Nat} {e : EdM} (h : apC l t = 0) (he : l[k]? = some e) : e.fault (apT (l.take k) t) = 0 := by
  by_cases hf : e.fault (apT (l.take k) t) = 0
  · exact hf
  · rw [apC_at he (apC_take h k) hf] at h; exact absurd h hf
theorem ext_eq (sk : ByteArray) (a c : Nat) : sk.extract a (a + c) = str ((sk.data.toList.drop a).take c) := EditC.mid_str sk a c
theorem cell_three_new (w : World) (x0 x1 x2 : Value) (t : TypeId) : ∀ j u, [x0, x1, x2][j]? = some u → (w.alloc (.cells #[x0, x1, x2] t)).cell? ((⟨w.heap.size, 0, none⟩ : Addr).add j) = some u := by
  intro j u hj
  have e : (⟨w.heap.size, 0, none⟩ : Addr).add j = ⟨w.heap.size, j, none⟩ := by rw [add_of rfl]; simp
  rw [e, cells_new]
  simpa using hj

set_option maxRecDepth 100000 in
set_option maxHeartbeats 4000000 in
theorem invertRef (t : ByteArray) (l : List EdM) (al : Option Addr) (cap : Nat) (w : World) (hl : EdsAt w al l) (hok : ∀ e ∈ l, e.ok) (h60 : l.length ≤ 60) (ht : t.size ≤ 600) :
    Calls Try.prog 19 #[.string t, .slice al l.length cap] w (InvPost w l t.data.toList) := by
  have C := Lib.hid (applied t l al cap w hl hok h60 ht)
  have ht' : t.data.toList.length ≤ 600 := by rw [size_list]; exact ht
  have HL := Lib.hid hl
  generalize t.data.toList = tl at *
  obtain ⟨i0, hi, hz0, hz1, hz2⟩ := info_parts infoEdit
  have HI := Lib.hid (And.intro hi (And.intro hz0 (And.intro hz1 hz2)))
  clear hi hz0 hz1 hz2
  obtain ⟨n, hn⟩ : ∃ n, l.length = n := ⟨_, rfl⟩
  have HN := Lib.hid hn
  rw [hn] at h60 C ⊢
  clear hl hn
  go_enter Try.func19, Try.ntmps19
  go_wp2_with fail
  refine C.out.mono ?_
  rintro e w1 ⟨v, rfl, hv, hb⟩
  clear C
  have HB := Lib.hid hb
  clear hb
  rcases hv with ⟨hc, hr⟩ | ⟨hc, rfl⟩
  · rw [hc]
    have HC := Lib.hid hc
    have hlen : (allT l tl l.length).length = n + 1 := by rw [allT_len, HN.out]
    obtain ⟨a, cp, rfl, hr⟩ := hr
    obtain ⟨b, off, rfl, hlt, hcell⟩ := hr (by rw [hlen]; omega)
    rw [hlen]
    have HT : Hid (∀ k, k ≤ n → ∀ W, Below w1.heap.size w1 W → W.cell? ⟨b, off + k, none⟩ = some (.string (str (apT (l.take k) tl)))) := Lib.hid fun k hk W hW => by
      refine keep hW hlt ?_
      rw [hcell k (by rw [hlen]; omega), HN.out, allT_get l tl hk]
    clear hcell hr hlen hc
    go_wp2_with fail
    go_loopw [8, 9] (fun v i wr => ∃ k : Nat, k ≤ n ∧ i = .int .i64 ((k : Int) - 1) ∧ IvR w1 l tl k v wr) (fun _ i _ => (intOf i + 1).toNat)
    case atStart => exact ⟨n, by omega, rfl, by
      have e1 : l.length - n = 0 := by rw [HN.out]; omega
      have e2 : (invs l tl).drop n = [] := List.drop_eq_nil_of_le (by rw [invs_length, HN.out]; exact Nat.le_refl _)
      rw [e1, e2]
      exact World.ownsRow_nil _ _ _ _, Below.refl _ _⟩
    case round =>
      obtain ⟨k, hk, rfl, hiv⟩ := hrel
      have HIV := Lib.hid hiv
      clear hiv
      by_cases h0 : 0 < k
      · obtain ⟨m, rfl⟩ : ∃ m, k = m + 1 := ⟨k - 1, by omega⟩
        have hmi : ((m + 1 : Nat) : Int) - 1 = (m : Int) := by omega
        rw [hmi]
        clear hmi
        obtain ⟨e, he⟩ : ∃ e, l[m]? = some e := ⟨l[m]'(by have := HN.out; omega), by simp⟩
        have eok := hok e (List.mem_of_getElem? he)
        obtain ⟨g, offe, rfl, hg, c0, c1, c2⟩ := EdsAt.get (HL.out.next (bstep HB.out HIV.out.bel)) he
        have hf := EdM.fits_of (apC_fault HC.out he)
        have NX := Lib.hid (ivr_next (t := tl) he)
        have hsz : (str (apT (l.take m) tl)).size ≤ 600 := by rw [size_str]; exact apT_len (apC_take HC.out m) ht'
        have hx := HT.out m (by omega) wr HIV.out.bel
        have hbl : b < wr.heap.size := Nat.lt_of_lt_of_le hlt HIV.out.bel.size
        have HTL : Hid ((str (apT (l.take m) tl)).data.toList = apT (l.take m) tl) := Lib.hid (list_str _)
        have hfn := hf.nat
        obtain ⟨f1, f2, f3, f4, f5⟩ := hf
        rw [← HTL.out, size_list] at f3 f4 f5 hfn
        have INV : Hid (e.inv (apT (l.take m) tl) = ⟨e.at_, (e.put.size : Int), str (((str (apT (l.take m) tl)).data.toList.drop e.at_.toNat).take e.cut.toNat)⟩) := by
          show _ = _
          rw [HTL.out]; rfl
        generalize str (apT (l.take m) tl) = sk at *
        obtain ⟨a, c, p⟩ := e
        dsimp only at *
        obtain ⟨a, rfl⟩ := Int.eq_ofNat_of_zero_le f1
        obtain ⟨c, rfl⟩ := Int.eq_ofNat_of_zero_le f2
        simp only [Int.toNat_natCast] at INV hfn
        rw [INV.out] at NX
        have ES := Lib.hid (ext_eq sk a c)
        have hw : IntKind.i64.wrap ((a : Int) + (c : Int)) = (a : Int) + (c : Int) := IntWalk.i64_in _ (by omega)
        have hw0 : (0 : Int) ≤ (a : Int) + (c : Int) := by omega
        have hwt : ((a : Int) + (c : Int)).toNat = a + c := by omega
        have HX := Lib.hid he
        clear he INV f1 f2 f3 f4 f5
        have hbz : w1.heap.size ≤ wr.heap.size := HIV.out.bel.size
        obtain ⟨q, hq⟩ : ∃ q, q = l.length - (m + 1) := ⟨_, rfl⟩
        have hq60 : q ≤ 60 := by rw [hq, HN.out]; omega
        have HQ : Hid (l.length - m = q + 1) := by show _ = _; rw [hq, HN.out]; omega
        have B0 : Hid (Below wr.heap.size wr (wr.alloc (.cells #[.int .i64 (a : Int), .int .i64 (c : Int), .string p] 23))) := Lib.hid (balloc (Below.refl _ _) _)
        have HROW : Hid (((wr.alloc (.cells #[.int .i64 (a : Int), .int .i64 (c : Int), .string p] 23)).alloc (.cells #[.int .i64 (a : Int), .int .i64 (p.size : Int), .string (sk.extract a (a + c))] 23)).drew.ownsRow w1.heap.size 23 3 u8 q (flatC EdM.cs ((invs l tl).drop (m + 1)).reverse)) := by
          have := row_next HIV.out.row (balloc B0.out (.cells #[.int .i64 (a : Int), .int .i64 (p.size : Int), .string (sk.extract a (a + c))] 23)).drew
          rw [← hq] at this
          exact Lib.hid this
        have HNEW : Hid (∀ (j : Nat) u, [Value.int .i64 (a : Int), .int .i64 (p.size : Int), .string (sk.extract a (a + c))][j]? = some u → ((wr.alloc (.cells #[.int .i64 (a : Int), .int .i64 (c : Int), .string p] 23)).alloc (.cells #[.int .i64 (a : Int), .int .i64 (p.size : Int), .string (sk.extract a (a + c))] 23)).drew.cell? ((⟨wr.heap.size + 1, 0, none⟩ : Addr).add j) = some u) := Lib.hid (by
          have := cell_three_new (wr.alloc (.cells #[.int .i64 (a : Int), .int .i64 (c : Int), .string p] 23)) (.int .i64 (a : Int)) (.int .i64 (p.size : Int)) (.string (sk.extract a (a + c))) 23
          simpa using this)
        have HO1 : u8.ownBlock ≠ some wr.heap.size := by
          intro e
          have := (HIV.out.row.lt _ e).2
          omega
        have HO2 : u8.ownBlock ≠ some b := by
          intro e
          have := (HIV.out.row.lt _ e).1
          omega
        have hm1 : m < n + 1 := by omega
        have hm2 : (m : Int) < (n : Int) + 1 := by omega
        have hm3 : m < n := by omega
        have hfa : (a : Int) ≤ (a : Int) + (c : Int) := by omega
        have hfi : (a : Int) + (c : Int) ≤ (sk.size : Int) := by omega
        clear hq
        go_wp2_with fail
        go_region_held3 (fun W => (W.cell? ⟨wr.heap.size, 0, none⟩ = some (.int .i64 (a : Int)) ∧ W.cell? ⟨wr.heap.size, 1, none⟩ = some (.int .i64 (c : Int)) ∧ W.cell? ⟨wr.heap.size, 2, none⟩ = some (.string p)) ∧ W.cell? ⟨b, off + m, none⟩ = some (.string sk))
          (first
            | go_keep
            | (go_split_ands
               refine ⟨⟨?_, ?_, ?_⟩, ?_⟩
               · (rw [hgrow4.cell_far _ (by simp; omega) (Ne.symm HO1)]; assumption)
               · (rw [hgrow4.cell_far _ (by simp; omega) (Ne.symm HO1)]; assumption)
               · (rw [hgrow4.cell_far _ (by simp; omega) (Ne.symm HO1)]; assumption)
               · (rw [hgrow4.cell_far _ (by simp; omega) (Ne.symm HO2)]; assumption)))
          ((refine step_append_lies _ (by rfl) _ _ _ (by rfl) w1.heap.size 23 i0 _ 3 32 Try.underlying27 HI.out.1 HI.out.2.1 HI.out.2.2.1 HI.out.2.2.2 rfl (by decide) u8 q (flatC EdM.cs ((invs l tl).drop (m + 1)).reverse) (by rfl) HROW.out ⟨wr.heap.size + 1, 0, none⟩ 1 1 [.int .i64 (a : Int), .int .i64 (p.size : Int), .string (sk.extract a (a + c))] (by rfl) rfl HNEW.out (by simp [Value.oneCell']) (by omega) (by unfold maxLen; omega) (by omega) (by simp; omega) (wr.heap.size + 2) (by simp) ?_; intro g4 cap4 w4 hown4 hgrow4 hat4 hlt4))
        have FIN : Hid (IvR w1 l tl m (.slice (some ⟨g4, 0, none⟩) (q + 1) cap4) w4) := Lib.hid ⟨by
          rw [HQ.out, NX.out, ← ES.out]; exact hown4, bgrow (bstep HIV.out.bel (balloc B0.out _).drew) HROW.out hgrow4⟩
        rename_i hHeld
        clear hown4 hgrow4 hHeld hat4 hlt4 HROW HNEW HO1 HO2 B0 hw hwt hw0
        go_wp2_with fail
        go_roundw
        case rel => exact ⟨m, by omega, by go_num, FIN.out⟩
        case measure => simp [intOf]
      · obtain rfl : k = 0 := by omega
        have hro := HIV.out.row
        rw [List.drop_zero, Nat.sub_zero] at hro
        have hv : EdsV wr u8 (invs l tl).reverse := by
          refine SlV.of_owns EdM.cs_len (base := w1.heap.size) (e := 23) ?_
          rw [List.length_reverse, invs_length]
          exact hro
        have HV := Lib.hid hv
        have BB := Lib.hid (bstep HB.out HIV.out.bel)
        clear hv hro
        go_wp2_with fail
        go_ret2
        refine ⟨_, ?_, .inl ⟨HC.out, HV.out⟩, BB.out⟩
        rw [HC.out]; rfl
  · have HC := Lib.hid hc
    obtain ⟨fv, hfv⟩ : ∃ o, o = apC l tl := ⟨_, rfl⟩
    rw [← hfv] at hc ⊢
    have HF := Lib.hid hfv
    have g0 : (fv != 0) = true := by simpa using hc
    clear hc hfv
    go_wp2_with fail
    go_ret2
    refine ⟨.slice none 0 0, ?_, .inr ⟨HC.out, rfl⟩, HB.out⟩
    rw [← HF.out]; rfl

end Go.Proofs.Ytkckhjljindgmaa.EditR
