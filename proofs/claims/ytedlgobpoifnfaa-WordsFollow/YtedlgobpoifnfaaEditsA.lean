/-
  fustiankeep.Edits: valid edits, one behind the other.
-/
import Derived.Test.YtedlgobpoifnfaaEditInfo
import Derived.Test.YtedlgobpoifnfaaChanges
import Derived.Deep.AppendLies
import Derived.Maps.AppendAt
namespace Go.Proofs.Ytedlgobpoifnfaa.EditK
open Go.RowKit Kit EditM EditC ChgM Txt Lift

def stepE (st : List EdM × Int) (c : ChgM) : List EdM × Int := (st.1 ++ [edOf c st.2], st.2 + ((edOf c st.2).put.size - (edOf c st.2).cut))
/-- the edits of some changes, of a text of n bytes -/
def edsS (l : List ChgM) (n : Int) : List EdM × Int := l.foldl stepE ([], n)
theorem edsS_next {l : List ChgM} {n : Int} {k : Nat} {c : ChgM} (h : l[k]? = some c) : edsS (l.take (k + 1)) n = stepE (edsS (l.take k) n) c := by
  unfold edsS; rw [take_next h, List.foldl_append]; rfl
structure EInv (t : Bs) (b : Int) (st : List EdM × Int) : Prop where
  code : apC st.1 t = 0
  len : ((apT st.1 t).length : Int) = st.2
  le : st.2 ≤ b
  ok : ∀ e ∈ st.1, e.ok
theorem EInv.step {t : Bs} {b : Int} {st : List EdM × Int} (h : EInv t b st) (hb : b ≤ 592) (c : ChgM) : EInv t (b + 8) (stepE st c) := by
  obtain ⟨h1, h2, h3, h4⟩ := h
  have hf := edOf_fits c (apT st.1 t) (by omega)
  rw [h2] at hf
  obtain ⟨f0, f1, f2, f3, f4, f5⟩ := edOf_facts c (n := st.2) (by omega)
  refine ⟨?_, ?_, ?_, ?_⟩
  · show apC (st.1 ++ [edOf c st.2]) t = 0
    rw [apC_append _ _ _ h1]; simp only [apC, if_pos hf.fault]
  · show ((apT (st.1 ++ [edOf c st.2]) t).length : Int) = _
    rw [apT_append]
    show (((edOf c st.2).step (apT st.1 t)).length : Int) = st.2 + _
    rw [hf.len]
    omega
  · show st.2 + _ ≤ b + 8; omega
  · intro e he
    rw [show (stepE st c).1 = st.1 ++ [edOf c st.2] from rfl, List.mem_append, List.mem_singleton] at he
    rcases he with he | rfl
    · exact h4 e he
    · exact edOf_ok c (by omega) (by omega)
theorem EInv.all {t : Bs} {l : List ChgM} : ∀ {b : Int} {st : List EdM × Int}, EInv t b st → b + 8 * l.length ≤ 600 → EInv t (b + 8 * l.length) (l.foldl stepE st) := by
  induction l with
  | nil => intro b st h _; simpa using h
  | cons c l ih =>
    intro b st h hb
    rw [List.length_cons] at hb ⊢
    have := ih (h.step (by omega) c) (by omega)
    rw [show b + 8 * ((l.length + 1 : Nat) : Int) = b + 8 + 8 * (l.length : Int) by omega]
    exact this
theorem edsS_inv (t : Bs) (l : List ChgM) (h : (t.length : Int) + 8 * l.length ≤ 600) : EInv t (t.length + 8 * l.length) (edsS l t.length) :=
  EInv.all (b := (t.length : Int)) (st := ([], (t.length : Int))) ⟨rfl, rfl, Int.le_refl _, fun e he => by simp at he⟩ h
theorem foldl_len (l : List ChgM) : ∀ st : List EdM × Int, (l.foldl stepE st).1.length = st.1.length + l.length := by
  induction l with
  | nil => intro st; simp
  | cons c l ih => intro st; rw [List.foldl_cons, ih]; simp [stepE]; omega
theorem edsS_len (l : List ChgM) (n : Int) : (edsS l n).1.length = l.length := by unfold edsS; rw [foldl_len]; simp
def edsOf (l : List ChgM) (m : Nat) (n : Int) : List EdM := (edsS (l.take m) n).1
theorem edsOf_len (l : List ChgM) (m : Nat) (n : Int) : (edsOf l m n).length ≤ m := by unfold edsOf; rw [edsS_len, List.length_take]; omega
theorem edsOf_code (l : List ChgM) (m : Nat) (t : Bs) (h : t.length + 8 * m ≤ 600) : apC (edsOf l m t.length) t = 0 ∧ ∀ e ∈ edsOf l m t.length, e.ok := by
  have := edsS_inv t (l.take m) (by rw [List.length_take]; omega)
  exact ⟨this.code, this.ok⟩

/-- what the loop keeps -/
structure EsA (w : World) (es : List EdM) (v : Value) (wr : World) : Prop where
  row : wr.ownsRow w.heap.size 34 3 v es.length (flatC EdM.cs es)
  bel : Below w.heap.size w wr
theorem EsA.next {w : World} {es : List EdM} {v : Value} {w1 w2 : World} (h : EsA w es v w1) (hb : Below w1.heap.size w1 w2) : EsA w es v w2 := ⟨row_next h.row hb, bstep h.bel hb⟩
theorem cell_three_new (w : World) (x0 x1 x2 : Value) (t : TypeId) : ∀ j u, [x0, x1, x2][j]? = some u → (w.alloc (.cells #[x0, x1, x2] t)).cell? ((⟨w.heap.size, 0, none⟩ : Addr).add j) = some u := by
  intro j u hj
  have e : (⟨w.heap.size, 0, none⟩ : Addr).add j = ⟨w.heap.size, j, none⟩ := by rw [add_of rfl]; simp
  rw [e, cells_new]
  simpa using hj

def EsPostO (w : World) (es : List EdM) (e : Ending) (w' : World) : Prop := ∃ v, e = .returned v ∧ EsA w es v w'
def EsPost (w : World) (es : List EdM) (e : Ending) (w' : World) : Prop := ∃ v, e = .returned v ∧ EdsV w' v es ∧ Below w.heap.size w w'

set_option maxRecDepth 100000 in
set_option maxHeartbeats 2000000 in
theorem editsO (l : List ChgM) (al : Option Addr) (cap m n : Nat) (w : World) (hl : ChsAt w al l) (hh : ∀ c ∈ l, c.has w) (hlen : l.length ≤ 9223372036854775807) (hm : m ≤ 20) (hn : n ≤ 400) :
    Calls Try.prog 18 #[.slice al l.length cap, .int .i64 (m : Int), .int .i64 (n : Int)] w (EsPostO w (edsOf l m n)) := by
  obtain ⟨i0, hi, hz0, hz1, hz2⟩ := info_parts infoEdit
  have HI := Lib.hid (And.intro hi (And.intro hz0 (And.intro hz1 hz2)))
  clear hi hz0 hz1 hz2
  have HL := Lib.hid hl
  have HH := Lib.hid hh
  clear hl hh
  obtain ⟨N, hN⟩ : ∃ N, l.length = N := ⟨_, rfl⟩
  have HN := Lib.hid hN
  rw [hN] at hlen ⊢
  clear hN
  have IV : Hid (∀ k : Nat, k ≤ 20 → ∃ t : Bs, EInv t ((n : Int) + 8 * (k : Int)) (edsS (l.take k) n)) := Lib.hid fun k hk => by
    refine ⟨List.replicate n 0, ?_⟩
    have := edsS_inv (List.replicate n 0) (l.take k) (by rw [List.length_take, List.length_replicate]; omega)
    rw [List.length_replicate] at this
    exact ⟨this.code, this.len, by have := this.le; rw [List.length_take] at this; omega, this.ok⟩
  go_enter Try.func18, Try.ntmps18
  go_wp2_with fail
  go_loopw [2, 7, 8] (fun sz v i wr => ∃ k : Nat, k ≤ N ∧ k ≤ m ∧ i = .int .i64 (k : Int) ∧ sz = .int .i64 (edsS (l.take k) n).2 ∧ EsA w (edsS (l.take k) n).1 v wr) (fun _ _ i _ => m - (intOf i).toNat)
  case atStart => exact ⟨0, by omega, by omega, rfl, rfl, World.ownsRow_nil _ _ _ _, Below.refl _ _⟩
  case round =>
    obtain ⟨k, hk, hkm, rfl, rfl, hes⟩ := hrel
    have HES := Lib.hid hes
    clear hes
    obtain ⟨t0, inv⟩ := IV.out k (by omega)
    have hz0 : 0 ≤ (edsS (l.take k) n).2 := by have := inv.len; omega
    have hz1 : (edsS (l.take k) n).2 ≤ 600 := by have := inv.le; omega
    clear inv t0
    by_cases hlt : k < N
    · by_cases hlm : k < m
      · obtain ⟨c, hc⟩ : ∃ c, l[k]? = some c := ⟨l[k]'(by have := HN.out; omega), by simp [HN.out, hlt]⟩
        obtain ⟨g, off, rfl, hg, c0, c1, c2⟩ := ChsAt.get (HL.out.next HES.out.bel) hc
        have EO := Lib.hid (editOf c (edsS (l.take k) n).2 wr ((HH.out c (List.mem_of_getElem? hc)).next HES.out.bel) hz0 (by omega))
        have NX := Lib.hid (edsS_next (n := (n : Int)) hc)
        have LN : Hid ((edsS (l.take k) n).1.length = k) := Lib.hid (by rw [edsS_len, List.length_take, HN.out]; omega)
        have FA := edOf_facts c hz0
        obtain ⟨f0, f1, f2, f3, f4, f5⟩ := FA
        unfold stepE at NX
        generalize edOf c (edsS (l.take k) n).2 = e at *
        obtain ⟨a, cc, p⟩ := e
        dsimp only at *
        have NX1 := Lib.hid (congrArg Prod.fst NX.out)
        have NX2 := Lib.hid (congrArg Prod.snd NX.out)
        dsimp only at NX1 NX2
        clear NX hc
        generalize (edsS (l.take k) n).2 = sz at *
        generalize (edsS (l.take k) n).1 = es at *
        have ew1 : IntKind.i64.wrap ((p.size : Int) - cc) = (p.size : Int) - cc := IntWalk.i64_in _ (by omega)
        have ew2 : IntKind.i64.wrap (sz + ((p.size : Int) - cc)) = sz + ((p.size : Int) - cc) := IntWalk.i64_in _ (by omega)
        go_wp2_with fail
        refine EO.out.mono ?_
        rintro x w1 ⟨rfl, hb1⟩
        have E1 := Lib.hid (HES.out.next hb1)
        have E2 := Lib.hid ((E1.out.next (balloc (Below.refl _ _) (.cells #[.int .i64 a, .int .i64 cc, .string p] 34))).next (balloc (Below.refl _ _) (.cells #[.int .i64 a, .int .i64 cc, .string p] 34)))
        have hzw : w.heap.size ≤ w1.heap.size := E1.out.bel.size
        have hk20 : k ≤ 20 := by omega
        have HNEW : Hid (∀ (j : Nat) u, [Value.int .i64 a, .int .i64 cc, .string p][j]? = some u → ((w1.alloc (.cells #[.int .i64 a, .int .i64 cc, .string p] 34)).alloc (.cells #[.int .i64 a, .int .i64 cc, .string p] 34)).cell? ((⟨w1.heap.size + 1, 0, none⟩ : Addr).add j) = some u) := Lib.hid (by
          have := cell_three_new (w1.alloc (.cells #[.int .i64 a, .int .i64 cc, .string p] 34)) (.int .i64 a) (.int .i64 cc) (.string p) 34
          simpa using this)
        have HROW : Hid (((w1.alloc (.cells #[.int .i64 a, .int .i64 cc, .string p] 34)).alloc (.cells #[.int .i64 a, .int .i64 cc, .string p] 34)).ownsRow w.heap.size 34 3 u7 k (flatC EdM.cs es)) := by
          have := E2.out.row
          rw [LN.out] at this
          exact Lib.hid this
        have HO1 : u7.ownBlock ≠ some w1.heap.size := by
          intro e
          have := (E1.out.row.lt _ e).2
          omega
        clear hb1 EO c0 c1 c2
        go_wp2_with (at_builtin; refine wpList_append_lies _ rfl _ _ 39 rfl w.heap.size 34 i0 _ 3 32 Try.underlying39 HI.out.1 HI.out.2.1 HI.out.2.2.1 HI.out.2.2.2 rfl (by decide) _ k (flatC EdM.cs es) rfl HROW.out ⟨w1.heap.size + 1, 0, none⟩ 1 1 [.int .i64 a, .int .i64 cc, .string p] rfl rfl HNEW.out (by simp [Value.oneCell']) (by omega) (by unfold maxLen; omega) (by omega) (by simp; omega) _ rfl ?_; intro g4 cap4 w4 hown4 hgrow4 _ _; have FIN : Hid (EsA w (es ++ [⟨a, cc, p⟩]) (.slice (some ⟨g4, 0, none⟩) (k + 1) cap4) w4) := Lib.hid ⟨by rw [flatC_append, flatC_one, List.length_append, LN.out]; exact hown4, bgrow E2.out.bel HROW.out hgrow4⟩; have y1 : w4.cell? ⟨w1.heap.size, 1, none⟩ = some (.int .i64 cc) := (hgrow4.cell_far ⟨w1.heap.size, 1, none⟩ (by simp; omega) (Ne.symm HO1)).trans (by simp); have y2 : w4.cell? ⟨w1.heap.size, 2, none⟩ = some (.string p) := (hgrow4.cell_far ⟨w1.heap.size, 2, none⟩ (by simp; omega) (Ne.symm HO1)).trans (by simp); clear hown4 hgrow4)
        go_roundw
        case rel => exact ⟨k + 1, by omega, by omega, by go_num, by rw [NX2.out], by rw [NX1.out]; exact FIN.out⟩
        case measure => simp [intOf]; omega
      · obtain rfl : k = m := by omega
        have HV : Hid (EsA w (edsOf l k n) u7 wr) := Lib.hid HES.out
        generalize (edsS (l.take k) n).2 = sz at *
        go_wp2_with fail
        go_ret
        exact ⟨_, rfl, HV.out⟩
    · obtain rfl : k = N := by omega
      have HV : Hid (EsA w (edsOf l m n) u7 wr) := Lib.hid (by
        have := HES.out
        unfold edsOf
        rw [List.take_of_length_le (by rw [HN.out]; exact hkm)]
        rw [List.take_of_length_le (by rw [HN.out]; exact Nat.le_refl _)] at this
        exact this)
      generalize (edsS (l.take k) n).2 = sz at *
      go_wp2_with fail
      go_ret
      exact ⟨_, rfl, HV.out⟩

theorem edits (l : List ChgM) (al : Option Addr) (cap m n : Nat) (w : World) (hl : ChsAt w al l) (hh : ∀ c ∈ l, c.has w) (hlen : l.length ≤ 9223372036854775807) (hm : m ≤ 20) (hn : n ≤ 400) :
    Calls Try.prog 18 #[.slice al l.length cap, .int .i64 (m : Int), .int .i64 (n : Int)] w (EsPost w (edsOf l m n)) :=
  (editsO l al cap m n w hl hh hlen hm hn).mono fun _ _ ⟨v, he, h⟩ => ⟨v, he, SlV.of_owns EdM.cs_len h.row, h.bel⟩

end Go.Proofs.Ytedlgobpoifnfaa.EditK
