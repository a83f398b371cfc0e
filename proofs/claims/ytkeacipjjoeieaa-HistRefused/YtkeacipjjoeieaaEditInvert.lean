/-
  Package edit: what Invert answers.
-/
import Derived.Test.YtkeacipjjoeieaaEditApply
import Derived.Test.YtkeacipjjoeieaaEditInverse
import Derived.Test.YtkeacipjjoeieaaEditInfo
import Derived.Laws.MakeOwn
import Derived.OwnWalk
namespace Go.Proofs.Ytkeacipjjoeieaa.EditC
open Go.RowKit Kit EditM


theorem made_cells (n : Nat) : (madeCells (Value.agg #[.int .i64 0, .int .i64 0, .string ⟨#[]⟩]).cells (n * 3)).toList = flatC EdM.cs (List.replicate n ed0) := by
  apply List.ext_getElem?
  intro j
  by_cases hj : j < n * 3
  · have h1 := flatC_get EdM.cs_len (List.replicate n ed0) (j / 3) ed0 (j % 3) (by rw [List.getElem?_replicate, if_pos (by omega)]) (by omega)
    rw [show j / 3 * 3 + j % 3 = j by omega] at h1
    rw [h1]
    have h3 : j % 3 < 3 := by omega
    simp only [madeCells, Value.cells]
    simp [hj]
    generalize j % 3 = r at *
    match r, h3 with
    | 0, _ => rfl
    | 1, _ => rfl
    | 2, _ => rfl
  · rw [List.getElem?_eq_none (by simp [madeCells]; omega), List.getElem?_eq_none (by rw [flatC_length EdM.cs_len]; simp; omega)]
theorem flat_set : ∀ (L : List EdM) (j : Nat) (e : EdM), j < L.length → (((flatC EdM.cs L).set (j * 3) (.int .i64 e.at_)).set (j * 3 + 1) (.int .i64 e.cut)).set (j * 3 + 2) (.string e.put) = flatC EdM.cs (L.set j e)
  | [], j, e, h => by simp at h
  | x :: L, 0, e, _ => by simp [flatC_cons, EdM.cs]
  | x :: L, j + 1, e, h => by
    have ih := flat_set L j e (by simpa using h)
    rw [flatC_cons, List.set_cons_succ, flatC_cons, ← ih]
    simp only [EdM.cs, List.cons_append, List.nil_append]
    rw [show (j + 1) * 3 = j * 3 + 3 by omega]
    simp [List.set_cons_succ]
/-- the row behind k rounds -/
def invRow (l : List EdM) (t : Bs) (k : Nat) : List EdM := List.replicate (l.length - k) ed0 ++ (invs (l.take k) t).reverse
theorem invRow_len {l : List EdM} {t : Bs} {k : Nat} (h : k ≤ l.length) : (invRow l t k).length = l.length := by
  simp [invRow, invs_length]; omega
theorem invRow_next {l : List EdM} {t : Bs} {k m : Nat} {e : EdM} (h : l[k]? = some e) (hm : m + k + 1 = l.length) : (invRow l t k).set m (e.inv (apT (l.take k) t)) = invRow l t (k + 1) := by
  unfold invRow
  rw [take_next h, invs_append]
  have e1 : l.length - k = m + 1 := by omega
  have e2 : l.length - (k + 1) = m := by omega
  have hs : ∀ (A : List EdM) (x y : EdM) (R : List EdM), (A ++ x :: R).set A.length y = A ++ y :: R := by
    intro A x y R
    induction A with
    | nil => rfl
    | cons a A ih => simp
  have h1 := hs (List.replicate m ed0) ed0 (e.inv (apT (l.take k) t)) (invs (l.take k) t).reverse
  rw [List.length_replicate] at h1
  rw [e1, e2, List.replicate_succ', List.append_assoc]
  show (List.replicate m ed0 ++ ed0 :: (invs (l.take k) t).reverse).set m _ = _
  rw [h1]
  simp [invs]
theorem invRow_end (l : List EdM) (t : Bs) : invRow l t l.length = (invs l t).reverse := by simp [invRow]

structure InvA (w : World) (g : Nat) (l : List EdM) (t : Bs) (k : Nat) (wr : World) : Prop where
  row : wr.ownsRow w.heap.size 43 3 (.slice (some ⟨g, 0, none⟩) l.length l.length) l.length (flatC EdM.cs (invRow l t k))
  bel : Below w.heap.size w wr
theorem InvA.next {w : World} {g : Nat} {l : List EdM} {t : Bs} {k : Nat} {w1 w2 : World} (h : InvA w g l t k w1) (hb : Below w1.heap.size w1 w2) : InvA w g l t k w2 := ⟨row_next h.row hb, bstep h.bel hb⟩
theorem InvA.cells {w : World} {g : Nat} {l : List EdM} {t : Bs} {k : Nat} {w1 : World} (h : InvA w g l t k w1) {m : Nat} (hm : m < l.length) (hk : k ≤ l.length) : (g < w1.heap.size ∧ w.heap.size ≤ g) ∧ ∀ j, j < 3 → (∃ u, w1.cell? ⟨g, m * 3 + j, none⟩ = some u) ∧ w1.frozen? ⟨g, m * 3 + j, none⟩ = false := by
  have hlt := h.row.lt g rfl
  refine ⟨⟨hlt.2, hlt.1⟩, fun j hj => ⟨?_, h.row.frozenAt _⟩⟩
  have := h.row.cellAt (m * 3 + j) (by omega)
  rw [this]
  have hl : m * 3 + j < (flatC EdM.cs (invRow l t k)).length := by rw [flatC_length EdM.cs_len, invRow_len hk]; omega
  exact ⟨_, List.getElem?_eq_getElem hl⟩
theorem InvA.store {w : World} {g : Nat} {l : List EdM} {t : Bs} {k : Nat} {w1 : World} (h : InvA w g l t k w1) {m : Nat} {e : EdM} (he : l[k]? = some e) (hm : m + k + 1 = l.length) :
    InvA w g l t (k + 1) (((w1.setCell ⟨g, m * 3, none⟩ (.int .i64 (e.inv (apT (l.take k) t)).at_)).setCell ⟨g, m * 3 + 1, none⟩ (.int .i64 (e.inv (apT (l.take k) t)).cut)).setCell ⟨g, m * 3 + 2, none⟩ (.string (e.inv (apT (l.take k) t)).put)) := by
  have hlt := h.row.lt g rfl
  have s1 := (h.row.stored (m * 3) (.int .i64 (e.inv (apT (l.take k) t)).at_)).1
  have s2 := (s1.stored (m * 3 + 1) (.int .i64 (e.inv (apT (l.take k) t)).cut)).1
  have s3 := (s2.stored (m * 3 + 2) (.string (e.inv (apT (l.take k) t)).put)).1
  rw [flat_set _ _ _ (by rw [invRow_len (by omega)]; omega), invRow_next he hm] at s3
  exact ⟨s3, ((h.bel.setCell (p := ⟨g, _, none⟩) hlt.1 _).setCell (p := ⟨g, _, none⟩) hlt.1 _).setCell (p := ⟨g, _, none⟩) hlt.1 _⟩

set_option maxHeartbeats 1000000 in
theorem invert_long (t : ByteArray) (a : Option Addr) (n cap : Nat) (w : World) (h : 60 < n ∨ 600 < t.size) :
    Calls Try.prog 29 #[.string t, .slice a n cap] w fun e w' => e = .returned (.tuple #[.slice none 0 0, .int .i64 1]) ∧ w = w' := by
  have C := Lib.hid (tooLong_yes t a n cap w h)
  clear h
  go_enter Try.func29, Try.ntmps29
  go_wp2_with fail
  refine C.out.mono ?_
  rintro e w1 ⟨rfl, rfl⟩
  go_wp2_with fail
  go_ret2
  exact ⟨rfl, rfl⟩

/-- what is answered beside an error -/
def NoRow (v : Value) (w : World) (l : List EdM) (c : Int) : Prop := (c = 0 ∧ EdsV w v l) ∨ (c ≠ 0 ∧ v = .slice none 0 0)

def InvPost (w : World) (l : List EdM) (tl : Bs) (e : Ending) (w' : World) : Prop := ∃ v, e = .returned (.tuple #[v, .int .i64 (apC l tl)]) ∧ NoRow v w' (invs l tl).reverse (apC l tl) ∧ Below w.heap.size w w'

set_option maxRecDepth 100000 in
set_option maxHeartbeats 4000000 in
theorem invert (t : ByteArray) (l : List EdM) (al : Option Addr) (cap : Nat) (w : World) (hl : EdsAt w al l) (hok : ∀ e ∈ l, e.ok) (h60 : l.length ≤ 60) (ht : t.size ≤ 600) :
    Calls Try.prog 29 #[.string t, .slice al l.length cap] w (InvPost w l t.data.toList) := by
  have C := Lib.hid (tooLong_no t al l.length cap w h60 ht)
  have HL := Lib.hid hl
  have ht' : t.data.toList.length ≤ 600 := by rw [size_list]; exact ht
  have HS := Lib.hid (str_list t)
  generalize t.data.toList = tl at *
  obtain ⟨i0, hi, hz0, hz1, hz2⟩ := info_parts infoEdit
  have HI := Lib.hid (And.intro hi (And.intro hz0 (And.intro hz1 hz2)))
  clear hi hz0 hz1 hz2
  obtain ⟨n, hn⟩ : ∃ n, l.length = n := ⟨_, rfl⟩
  have HN := Lib.hid hn
  rw [hn] at h60 C ⊢
  clear hl hn
  go_enter Try.func29, Try.ntmps29
  go_wp2_with fail
  refine C.out.mono ?_
  rintro e w1 ⟨rfl, rfl⟩
  clear C
  go_wp2_with (refine wpList_make_full _ rfl _ _ 49 rfl w.heap.size 43 i0 _ 3 Try.underlying49 HI.out.1 HI.out.2.1 HI.out.2.2.1 .i64 .i64 _ _ n rfl rfl rfl rfl (by rw [HI.out.2.2.2]; omega) (by unfold maxLen; omega) (Nat.le_refl _) ?_; intro w1 hown hgrow)
  rw [made_cells] at hown
  have HA : Hid (InvA w w.heap.size l tl 0 w1) := Lib.hid ⟨by
    have e : invRow l tl 0 = List.replicate n ed0 := by simp [invRow, invs, HN.out]
    rw [e, HN.out]; exact hown, grows_below hgrow⟩
  clear hown hgrow
  go_loopw [0, 18] (fun s i wr => ∃ (k : Nat) (sk : ByteArray), k ≤ n ∧ i = .int .i64 (k : Int) ∧ s = .string sk ∧ sk = str (apT (l.take k) tl) ∧ apC (l.take k) tl = 0 ∧ InvA w w.heap.size l tl k wr) (fun _ i _ => n - (intOf i).toNat)
  case atStart => exact ⟨0, t, by omega, rfl, rfl, HS.out.symm, rfl, HA.out⟩
  case round =>
    obtain ⟨k, sk, hk, rfl, rfl, hsk, hc0, hinv⟩ := hrel
    clear HA
    have HC0 := Lib.hid hc0
    have HSK := Lib.hid hsk
    have HB := Lib.hid hinv
    have hsz : sk.size ≤ 600 := by rw [hsk, size_str]; exact apT_len hc0 ht'
    have HTL : Hid (sk.data.toList = apT (l.take k) tl) := by show _ = _; rw [hsk, list_str]
    clear hsk hc0 hinv
    by_cases hlt : k < n
    · obtain ⟨e, he⟩ : ∃ e, l[k]? = some e := ⟨l[k]'(by have := HN.out; omega), by simp [HN.out, hlt]⟩
      have eok := hok e (List.mem_of_getElem? he)
      obtain ⟨g, off, rfl, hg, c0, c1, c2⟩ := EdsAt.get (HL.out.next HB.out.bel) he
      have HE := Lib.hid he
      clear he
      have CK := Lib.hid (fun W => check (sk.size : Int) e.at_ e.cut e.put W eok.a1 eok.p)
      have FE : Hid (fault (sk.size : Int) e.at_ e.cut e.put.size = e.fault (apT (l.take k) tl)) := by
        show _ = _
        unfold EdM.fault; rw [← HTL.out, size_list]
      by_cases hf : fault (sk.size : Int) e.at_ e.cut e.put.size = 0
      · rw [hf] at CK
        have FT := EdM.fits_of (FE.out.symm.trans hf)
        have hf0 := Lib.hid (FE.out.symm.trans hf)
        obtain ⟨f1, f2, f3, f4, f5⟩ := FT
        rw [← HTL.out, size_list] at f3 f4 f5
        obtain ⟨m, hm⟩ : ∃ m, m + k + 1 = n := ⟨n - 1 - k, by omega⟩
        have HM : Hid (m + k + 1 = l.length) := by show _ = _; rw [HN.out]; exact hm
        have hmi : (n : Int) - 1 - (k : Int) = (m : Int) := by omega
        have hmn : m < n := by omega
        have INV : Hid (e.inv (apT (l.take k) tl) = ⟨e.at_, (e.put.size : Int), str ((sk.data.toList.drop e.at_.toNat).take e.cut.toNat)⟩) := by
          show _ = _
          rw [HTL.out]; rfl
        have ST : Hid (∀ W, InvA w w.heap.size l tl k W → _) := Lib.hid fun W (h : InvA w w.heap.size l tl k W) => h.store HE.out HM.out
        rw [INV.out] at ST
        obtain ⟨a, c, p⟩ := e
        dsimp only at *
        obtain ⟨a, rfl⟩ := Int.eq_ofNat_of_zero_le f1
        obtain ⟨c, rfl⟩ := Int.eq_ofNat_of_zero_le f2
        simp only [Int.toNat_natCast] at ST
        have RP := Lib.hid (fun W => replace sk p a c W (by omega) (by omega) (by omega))
        have IV := Lib.hid (fun W => inverse sk p a c W (by omega) (by omega))
        have NX : Hid (str (made sk.data.toList a c p.data.toList) = str (apT (l.take (k + 1)) tl)) := by
          show _ = _
          rw [apT_next HE.out, ← HTL.out]; rfl
        have NC := Lib.hid (apC_next HE.out HC0.out hf0.out)
        clear hf f1 f2 f3 f4 f5 eok FE INV hm
        go_wp2_with fail
        refine (CK.out _).mono ?_
        rintro e w1 ⟨rfl, hb1⟩
        obtain ⟨hc1, hf1, _⟩ := bfacts hb1
        have hz1 : wr.heap.size < w1.heap.size := by have := hb1.size; simp at this; omega
        have B1 := Lib.hid ((HB.out.next (balloc (Below.refl _ _) _)).next hb1)
        have HB1 := Lib.hid hb1
        clear CK hb1
        go_wp2_with fail
        refine (IV.out _).mono ?_
        rintro e w2 ⟨rfl, hb2⟩
        have B2 := Lib.hid (B1.out.next hb2)
        have hlr : w.heap.size < wr.heap.size := (HB.out.row.lt w.heap.size rfl).2
        have hne : ¬ wr.heap.size = w.heap.size := by omega
        have hne2 : ¬ w.heap.size = wr.heap.size := by omega
        have x0 : w2.cell? ⟨wr.heap.size, 0, none⟩ = some (.int .i64 (a : Int)) := keep hb2 hz1 (keep HB1.out (by simp) (by simp))
        have x1 : w2.cell? ⟨wr.heap.size, 1, none⟩ = some (.int .i64 (c : Int)) := keep hb2 hz1 (keep HB1.out (by simp) (by simp))
        have x2 : w2.cell? ⟨wr.heap.size, 2, none⟩ = some (.string p) := keep hb2 hz1 (keep HB1.out (by simp) (by simp))
        obtain ⟨_, hcs⟩ := B2.out.cells (m := m) (by rw [HN.out]; exact hmn) (by rw [HN.out]; exact hk)
        obtain ⟨⟨u0, y0⟩, z0⟩ := hcs 0 (by omega)
        obtain ⟨⟨u1, y1⟩, z1⟩ := hcs 1 (by omega)
        obtain ⟨⟨u2, y2⟩, z2⟩ := hcs 2 (by omega)
        have B3 := Lib.hid (ST.out _ B2.out)
        rw [Nat.add_zero] at y0 z0
        clear hcs hc1 hf1 hb2 B1 HB1 IV ST B2
        go_wp2_with fail
        refine (RP.out _).mono ?_
        rintro e w3 ⟨rfl, hb3⟩
        have B4 := Lib.hid (B3.out.next hb3)
        clear RP hb3
        go_wp2_with fail
        go_roundw
        case rel => exact ⟨k + 1, _, by omega, by go_num, rfl, NX.out, NC.out, B4.out⟩
        case measure => simp [intOf]; omega
      · have hnf : e.fault (apT (l.take k) tl) ≠ 0 := fun h => hf (FE.out.trans h)
        have AC := Lib.hid (apC_at HE.out HC0.out hnf)
        have FC : Hid (fault (sk.size : Int) e.at_ e.cut e.put.size = apC l tl) := by
          show _ = _
          rw [AC.out]; exact FE.out
        generalize fault (sk.size : Int) e.at_ e.cut e.put.size = fv at *
        have g0 : (fv != 0) = true := by simpa using hf
        have HF := Lib.hid hf
        clear hf hnf
        go_wp2_with fail
        refine (CK.out _).mono ?_
        rintro e w1 ⟨rfl, hb1⟩
        have B1 := Lib.hid (bstep (balloc HB.out.bel _) hb1)
        clear CK hb1
        go_wp2_with fail
        go_ret2
        refine ⟨.slice none 0 0, ?_, .inr ⟨by rw [← FC.out]; exact HF.out, rfl⟩, B1.out⟩
        rw [← FC.out]; rfl
    · obtain rfl : k = n := by omega
      have e1 : l.take k = l := by rw [← HN.out]; exact List.take_length
      rw [e1] at HC0
      have hro := HB.out.row
      rw [← HN.out, invRow_end] at hro
      have hv : EdsV wr (.slice (some ⟨w.heap.size, 0, none⟩) k k) (invs l tl).reverse := by
        refine SlV.of_owns EdM.cs_len (base := w.heap.size) (e := 43) ?_
        rw [List.length_reverse, invs_length]
        rw [HN.out] at hro ⊢
        exact hro
      have HV := Lib.hid hv
      clear hv hro e1
      go_wp2_with fail
      go_ret2
      refine ⟨_, ?_, .inl ⟨HC0.out, HV.out⟩, HB.out.bel⟩
      rw [HC0.out]; rfl

end Go.Proofs.Ytkeacipjjoeieaa.EditC
