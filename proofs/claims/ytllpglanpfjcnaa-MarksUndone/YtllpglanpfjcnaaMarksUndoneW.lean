/-
  The law MarksUndone.
-/
import Derived.Test.YtllpglanpfjcnaaMarksOrderedW
import Derived.Test.YtllpglanpfjcnaaMarkEq
import Derived.Test.YtllpglanpfjcnaaUndoMath
import Derived.Laws.AppendOwn
import Derived.Laws.AppendOwnNone
namespace Go.Proofs.Ytllpglanpfjcnaa.MarkK
open Go.RowKit Kit EditM MarkM MarkC EditC EditK Lift Txt ChgM

theorem flat_cut : ∀ (L : List EdM) (j : Nat) (e : EdM) (c : Int), L[j]? = some e → (flatC EdM.cs L).set (j * 3 + 1) (.int .i64 c) = flatC EdM.cs (L.set j ⟨e.at_, c, e.put⟩)
  | [], j, e, c, h => by simp at h
  | x :: L, 0, e, c, h => by simp at h; subst h; rfl
  | x :: L, j + 1, e, c, h => by
    simp at h
    have e1 : (j + 1) * 3 + 1 = j * 3 + 1 + 1 + 1 + 1 := by omega
    rw [flatC_cons, e1]
    show Value.int .i64 x.at_ :: Value.int .i64 x.cut :: Value.string x.put :: (flatC EdM.cs L).set (j * 3 + 1) (.int .i64 c) = _
    rw [flat_cut L j e c h]; rfl
theorem flat_at : ∀ (L : List EdM) (j : Nat) (e : EdM) (a : Int), L[j]? = some e → (flatC EdM.cs L).set (j * 3) (.int .i64 a) = flatC EdM.cs (L.set j ⟨a, e.cut, e.put⟩)
  | [], j, e, a, h => by simp at h
  | x :: L, 0, e, a, h => by simp at h; subst h; rfl
  | x :: L, j + 1, e, a, h => by
    simp at h
    have e1 : (j + 1) * 3 = j * 3 + 1 + 1 + 1 := by omega
    rw [flatC_cons, e1]
    show Value.int .i64 x.at_ :: Value.int .i64 x.cut :: Value.string x.put :: (flatC EdM.cs L).set (j * 3) (.int .i64 a) = _
    rw [flat_at L j e a h]; rfl
/-- edits of the call's own -/
structure EvA (w0 : World) (g n cap : Nat) (l : List EdM) (W : World) : Prop where
  row : W.ownsRow w0.heap.size 50 3 (.slice (some ⟨g, 0, none⟩) n cap) n (flatC EdM.cs l)
  bel : Below w0.heap.size w0 W
section
variable {w0 W W' : World} {g n cap : Nat} {l : List EdM}
theorem EvA.next (h : EvA w0 g n cap l W) (hb : Below W.heap.size W W') : EvA w0 g n cap l W' := ⟨row_next h.row hb, bstep h.bel hb⟩
theorem EvA.len (h : EvA w0 g n cap l W) : l.length = n := by have := h.row.1; rw [flatC_length EdM.cs_len] at this; omega
theorem EvA.cell (h : EvA w0 g n cap l W) {i : Nat} {e : EdM} (hi : l[i]? = some e) : (g < W.heap.size ∧ w0.heap.size ≤ g) ∧ W.cell? ⟨g, i * 3, none⟩ = some (.int .i64 e.at_) ∧ W.cell? ⟨g, i * 3 + 1, none⟩ = some (.int .i64 e.cut) ∧ W.cell? ⟨g, i * 3 + 2, none⟩ = some (.string e.put) ∧ W.frozen? ⟨g, i * 3, none⟩ = false ∧ W.frozen? ⟨g, i * 3 + 1, none⟩ = false := by
  have hlt := h.row.lt g rfl
  have hil := (List.getElem?_eq_some_iff.1 hi).1
  have hl := h.len
  have c0 := flatC_get EdM.cs_len l i e 0 hi (by omega)
  have c1 := flatC_get EdM.cs_len l i e 1 hi (by omega)
  have c2 := flatC_get EdM.cs_len l i e 2 hi (by omega)
  exact ⟨⟨hlt.2, hlt.1⟩, by rw [h.row.cellAt (i * 3) (by omega)]; exact c0, by rw [h.row.cellAt (i * 3 + 1) (by omega)]; exact c1, by rw [h.row.cellAt (i * 3 + 2) (by omega)]; exact c2, h.row.frozenAt _, h.row.frozenAt _⟩
theorem EvA.cut (h : EvA w0 g n cap l W) {i : Nat} {e : EdM} (hi : l[i]? = some e) (c : Int) : EvA w0 g n cap (l.set i ⟨e.at_, c, e.put⟩) (W.setCell ⟨g, i * 3 + 1, none⟩ (.int .i64 c)) := by
  have hlt := h.row.lt g rfl
  have s1 := (h.row.stored (i * 3 + 1) (.int .i64 c)).1
  rw [flat_cut l i e c hi] at s1
  exact ⟨s1, h.bel.setCell (p := ⟨g, _, none⟩) hlt.1 _⟩
theorem EvA.at_ (h : EvA w0 g n cap l W) {i : Nat} {e : EdM} (hi : l[i]? = some e) (a : Int) : EvA w0 g n cap (l.set i ⟨a, e.cut, e.put⟩) (W.setCell ⟨g, i * 3, none⟩ (.int .i64 a)) := by
  have hlt := h.row.lt g rfl
  have s1 := (h.row.stored (i * 3) (.int .i64 a)).1
  rw [flat_at l i e a hi] at s1
  exact ⟨s1, h.bel.setCell (p := ⟨g, _, none⟩) hlt.1 _⟩
theorem EvA.mod (h : EvA w0 g n cap l W) {i : Nat} {e : EdM} (hi : l[i]? = some e) (a : Int) : EvA w0 g n cap (l.set i ⟨a, 0, e.put⟩) ((W.setCell ⟨g, i * 3 + 1, none⟩ (.int .i64 0)).setCell ⟨g, i * 3, none⟩ (.int .i64 a)) := by
  have hil := (List.getElem?_eq_some_iff.1 hi).1
  have s1 := h.cut hi 0
  have s2 := s1.at_ (i := i) (e := ⟨e.at_, 0, e.put⟩) (by rw [List.getElem?_set_self hil]) a
  rw [List.set_set] at s2
  exact s2
end
theorem put8 (l : List ChgM) : ∀ st : List EdM × Int, (∀ e ∈ st.1, e.put.size ≤ 8) → ∀ e ∈ (l.foldl stepE st).1, e.put.size ≤ 8 := by
  induction l with
  | nil => intro st h; exact h
  | cons c l ih =>
    intro st h
    refine ih _ fun e he => ?_
    simp only [stepE, List.mem_append, List.mem_singleton] at he
    rcases he with he | rfl
    · exact h e he
    · exact c.put_size
theorem cell_three (w : World) (x0 x1 x2 : Value) (t : TypeId) : ∀ j u, [x0, x1, x2][j]? = some u → (w.alloc (.cells #[x0, x1, x2] t)).cell? ((⟨w.heap.size, 0, none⟩ : Addr).add j) = some u := by
  intro j u hj
  have e : (⟨w.heap.size, 0, none⟩ : Addr).add j = ⟨w.heap.size, j, none⟩ := by rw [add_of rfl]; simp
  rw [e, cells_new]
  simpa using hj

set_option maxRecDepth 100000 in
set_option maxHeartbeats 8000000 in
theorem marksUndone (a0 : Option Addr) (len0 cap0 : Nat) (z0 : List Int) (size : Int) (al : Option Addr) (cap : Nat) (l : List ChgM) (w : World) (hz : IsRow .i64 w a0 len0 cap0 z0) {X : Prop} (_ : X) (hl : ChsAt w al l) (hh : ∀ c ∈ l, c.has w) (hle : l.length ≤ cap) (hmx : cap ≤ maxLen) {S : Prop} (_ : S) :
    Calls Try.prog 8 #[.slice a0 len0 cap0, .int .i64 size, .slice al l.length cap] w fun e w' => e = .returned (.bool true) ∧ Below w.heap.size w w' := by
  have hlen : l.length ≤ 9223372036854775807 := by unfold maxLen at hmx; omega
  clear hle hmx
  have PK := Lib.hid (fun W => picked size 100 W (by omega) (by omega))
  obtain ⟨N, hN, hN1⟩ := pick100 size
  rw [hN] at PK
  clear hN
  have MK := Lib.hid (marksK a0 len0 cap0 z0 20 N w hz (by omega) (by omega))
  have ES := Lib.hid (fun W hW => editsO l al cap 10 N W (hl.next hW) (fun c hc => (hh c hc).next hW) hlen (by omega) (by omega))
  have P8 : ∀ e ∈ edsOf l 10 (N : Int), e.put.size ≤ 8 := put8 (l.take 10) ([], (N : Int)) (fun e he => by simp at he)
  have LE := edsOf_len l 10 (N : Int)
  have MI := marksOf_in ((z0.take len0).take 20) (size := (N : Int)) (by omega)
  have ML : (marksOf ((z0.take len0).take 20) (N : Int)).length ≤ 20 := by unfold marksOf; rw [List.length_map, List.length_take]; omega
  generalize marksOf ((z0.take len0).take 20) (N : Int) = ms at *
  generalize edsOf l 10 (N : Int) = es at *
  obtain ⟨u1, u2, u3⟩ := undo_all es (N : Int) (by omega) (by omega) P8
  have OK := modS_ok (l := es) (n := (N : Int)) (by omega) (by omega) P8
  have OKA : ∀ e ∈ modS es N ++ bkS (modS es N), e.ok := by
    intro e he
    rcases List.mem_append.1 he with he | he
    · obtain ⟨⟨a, b, c⟩, d⟩ := OK e he
      exact ⟨by omega, by omega, by omega, by omega, by omega⟩
    · unfold bkS at he
      obtain ⟨x, hx, rfl⟩ := List.mem_map.1 (List.mem_reverse.1 he)
      obtain ⟨⟨a, b, c⟩, d⟩ := OK x hx
      exact ⟨by show -9223372036854775808 ≤ x.at_; omega, by show x.at_ ≤ 9223372036854775807; omega, by show -9223372036854775808 ≤ (x.put.size : Int); omega, by show (x.put.size : Int) ≤ 9223372036854775807; omega, by show (⟨#[]⟩ : ByteArray).size ≤ 140737488351232; simp [ByteArray.size]⟩
  have ALEN : (modS es N ++ bkS (modS es N)).length ≤ 20 := by unfold bkS; rw [List.length_append, List.length_reverse, List.length_map, modS_len]; omega
  have MV := Lib.hid (fun W v u hv hu => moved (N : Int) ms v (modS es N ++ bkS (modS es N)) u W hv hu (by omega) (by omega) OKA (by omega) (by omega) MI u1)
  have EQ : ms.map (mvd (modS es N ++ bkS (modS es N))) = ms := by
    have : mvd (modS es N ++ bkS (modS es N)) = id := by funext m; exact u3 m
    rw [this, List.map_id]
  rw [EQ] at MV
  have SP : Hid (∀ i, 0 ≤ szP (es.take i) N ∧ szP (es.take i) N ≤ 600) := Lib.hid fun i => by
    have := szP_bound (l := es.take i) (n := (N : Int)) (fun e he => P8 e (List.mem_of_mem_take he))
    rw [List.length_take] at this
    omega
  have EG : Hid (∀ i, i < es.length → ∃ e, es[i]? = some e ∧ e.put.size ≤ 8) := Lib.hid fun i hi => ⟨es[i], by simp [hi], P8 _ (List.getElem_mem hi)⟩
  have MG : Hid (∀ i, i < es.length → ∃ e, (modS es N)[i]? = some e ∧ e.put.size ≤ 8) := Lib.hid fun i hi => ⟨(modS es N)[i]'(by rw [modS_len]; exact hi), by simp [modS_len, hi], (OK _ (List.getElem_mem _)).2⟩
  have ME : Hid ((modS es N).length = es.length) := Lib.hid (modS_len _ _)
  have HG : Hid (∀ i, i < ms.length → ∃ m, ms[i]? = some m) := Lib.hid fun i hi => ⟨ms[i], by simp [hi]⟩
  have ML2 : Hid (∀ i, modH es N i = modH es N i) := Lib.hid fun _ => rfl
  clear hz hl hh MI u1 u2 u3 OK OKA ALEN EQ P8 ML2
  generalize l.length = LL at *
  obtain ⟨j0, hi, hz0, hz1, hz2⟩ := info_parts infoEdit
  have HJ := Lib.hid (And.intro hi (And.intro hz0 (And.intro hz1 hz2)))
  clear hi hz0 hz1 hz2
  have mixed : Try.prog.follows .mixedOrders = true := by kernel_rfl
  have hne := neqMark
  have hgd := guardMark
  go_enter Try.func8, Try.ntmps8
  go_wp2_with fail
  refine (PK.out _).mono ?_
  rintro e w1 ⟨rfl, rfl⟩
  go_wp2_with fail
  refine MK.out.mono ?_
  rintro e w2 ⟨v, rfl, hv⟩
  have C2 := Lib.hid (ES.out w2 hv.bel)
  have V2 := Lib.hid hv
  clear hv ES MK PK
  go_wp2_with fail
  refine C2.out.mono ?_
  rintro e w3 ⟨u, rfl, hu⟩
  have VV : Hid (∀ W, Below w2.heap.size w2 W → MksV W v ms ∧ Below w.heap.size w W) := Lib.hid fun W hW => ⟨V2.out.val.next hW, bstep V2.out.bel hW⟩
  have B3 := Lib.hid hu.bel
  have hrow := hu.row
  clear C2 V2 hu
  have hrow2 := hrow.2
  rcases hrow2 with ⟨rfl, hn0⟩ | ⟨g, ce, cur, rfl, _, _, hce, _, _, _⟩
  · obtain rfl : es = [] := List.eq_nil_of_length_eq_zero hn0
    have C4 := Lib.hid (MV.out w3 v (.slice none 0 0) (VV.out w3 B3.out).1 (SlV.nil _))
    clear hrow MV hn0 EG MG SP ME
    go_wp2_with fail
    refine wp_loop_rounds 1 ?_
    rw [rounds_succ]
    go_wp2_with fail
    refine wp_loop_rounds 1 ?_
    rw [rounds_succ]
    go_wp2_with (at_builtin; refine wpList_append_own_none rfl _ _ 23 rfl w3.heap.size 50 j0 3 Try.underlying23 HJ.out.1 _ 0 [] rfl (World.ownsRow_nil _ _ _ _) rfl ?_)
    refine C4.out.mono ?_
    rintro e w4 ⟨xa, xcap, rfl, _, hx, hb4⟩
    have B4 := Lib.hid (B3.out.trans (hb4.mono B3.out.size))
    have X4 := Lib.hid hx
    clear hx hb4 B3 C4
    obtain ⟨hvv, hbw⟩ := VV.out _ B4.out
    obtain ⟨va, vcap, rfl, _, hva, _⟩ := hvv
    have VA := Lib.hid hva
    have BW := Lib.hid hbw
    clear hva hbw VV B4
    generalize ms.length = n at *
    go_wp2_with fail
    go_loopw [16] (fun vi wr => ∃ j : Nat, j ≤ n ∧ vi = .int .i64 (j : Int) ∧ ∃ q, wr = w4.drewN q) (fun vi _ => n - (intOf vi).toNat)
    case atStart => exact ⟨0, by omega, rfl, 0, rfl⟩
    case round =>
      obtain ⟨j, hj, rfl, q, rfl⟩ := hrel
      by_cases hlt : j < n
      · obtain ⟨m, hm⟩ := HG.out j hlt
        obtain ⟨g1, off1, rfl, _, c0, c1⟩ := MksAt.get X4.out hm
        obtain ⟨g2, off2, rfl, _, d0, d1⟩ := MksAt.get VA.out hm
        have i1 : (j : Int) < (n : Int) := by omega
        have i2 : (0 : Int) ≤ (j : Int) := by omega
        clear hm
        obtain ⟨ma, mr⟩ := m
        dsimp only at *
        go_wp2_with fail
        go_quiet (fail)
        go_wp2_with fail
        refine ⟨⟨j + 1, by omega, by go_num, _, rfl⟩, by simp [intOf]; omega⟩
      · go_wp2_with fail
        go_ret
        exact ⟨rfl, bdrewN BW.out _⟩
  · have E3 : Hid (EvA w2 g es.length ce es w3) := Lib.hid ⟨hrow, B3.out⟩
    clear hrow B3
    obtain ⟨ne, hn⟩ : ∃ n, es.length = n := ⟨_, rfl⟩
    have HNE := Lib.hid hn
    rw [hn] at E3 hce EG MG LE ME ⊢
    clear hn
    go_wp2_with fail
    go_loopw [10, 11] (fun va vi wr => ∃ i : Nat, i ≤ ne ∧ vi = .int .i64 (i : Int) ∧ va = .int .i64 (szP (es.take i) N) ∧ Hid (EvA w2 g ne ce (modH es N i) wr)) (fun _ vi _ => ne - (intOf vi).toNat)
    case atStart => exact ⟨0, by omega, rfl, rfl, Lib.hid (by rw [modH_zero]; exact E3.out)⟩
    case round =>
      obtain ⟨i, hi, rfl, rfl, HK⟩ := hrel
      clear E3
      by_cases hlt : i < ne
      · obtain ⟨e, he, hp8⟩ := EG.out i hlt
        obtain ⟨s0, s1⟩ := SP.out i
        obtain ⟨⟨hgl, hg0⟩, c0, c1, c2, f0, f1⟩ := HK.out.cell (modH_get (n := (N : Int)) he)
        have PP := Lib.hid (fun W => picked e.at_ (szP (es.take i) N + 1) W (by omega) (by omega))
        have ST : Hid (EvA w2 g ne ce (modH es N (i + 1)) ((wr.setCell ⟨g, i * 3 + 1, none⟩ (.int .i64 0)).setCell ⟨g, i * 3, none⟩ (.int .i64 (e.at_ % (szP (es.take i) N + 1))))) := Lib.hid (by
          have := HK.out.mod (modH_get (n := (N : Int)) he) (e.at_ % (szP (es.take i) N + 1))
          rw [show (⟨e.at_ % (szP (es.take i) N + 1), 0, e.put⟩ : EdM) = modE e (szP (es.take i) N) from rfl, modH_next he] at this
          exact this)
        have NX := Lib.hid (szP_next (n := (N : Int)) he)
        have i1 : (i : Int) < (ne : Int) := by omega
        have i2 : (0 : Int) ≤ (i : Int) := by omega
        have q1 : (wr.setCell ⟨g, i * 3 + 1, none⟩ (.int .i64 0)).cell? ⟨g, i * 3, none⟩ = some (.int .i64 e.at_) := (setO (.inr (by omega)) _).trans c0
        have q2 : (wr.setCell ⟨g, i * 3 + 1, none⟩ (.int .i64 0)).frozen? ⟨g, i * 3, none⟩ = false := by rw [World.frozen?_setCell]; exact f0
        have q3 : ((wr.setCell ⟨g, i * 3 + 1, none⟩ (.int .i64 0)).setCell ⟨g, i * 3, none⟩ (.int .i64 (e.at_ % (szP (es.take i) N + 1)))).cell? ⟨g, i * 3 + 2, none⟩ = some (.string e.put) := (setO (.inr (by omega)) _).trans ((setO (.inr (by omega)) _).trans c2)
        clear he HK
        generalize szP (es.take i) N = at_ at *
        generalize e.at_ % (at_ + 1) = x at *
        obtain ⟨ea, ec, ep⟩ := e
        dsimp only at *
        have r1 : IntKind.i64.wrap (at_ + 1) = at_ + 1 := IntWalk.i64_in _ (by omega)
        have r2 : IntKind.i64.wrap (at_ + (ep.size : Int)) = at_ + (ep.size : Int) := IntWalk.i64_in _ (by omega)
        go_wp2_with fail
        refine (PP.out _).mono ?_
        rintro e w4 ⟨rfl, rfl⟩
        go_wp2_with fail
        go_roundw
        case rel => exact ⟨i + 1, by omega, by go_num, by rw [NX.out], ST⟩
        case measure => simp [intOf]; omega
      · obtain rfl : i = ne := by omega
        have E4 : Hid (EvA w2 g i ce (modS es N) wr) := Lib.hid (by
          have := HK.out
          rw [← HNE.out, modH_all] at this
          rw [← HNE.out]; exact this)
        clear HK EG SP
        generalize szP (es.take i) N = at_ at *
        generalize modS es N = M at *
        obtain ⟨wq, rfl⟩ : ∃ wq, wq = wr := ⟨_, rfl⟩
        go_wp2_with fail
        go_loopw [12, 13] (fun vb vi wr => ∃ k : Nat, k ≤ i ∧ vi = .int .i64 ((k : Int) - 1) ∧ Hid (EsA wq (bkS (M.drop k)) vb wr)) (fun _ vi _ => (intOf vi + 1).toNat)
        case atStart => exact ⟨i, by omega, rfl, Lib.hid (by
          rw [List.drop_of_length_le (Nat.le_of_eq ME.out)]
          exact ⟨World.ownsRow_nil _ _ _ _, Below.refl _ _⟩)⟩
        case round =>
          obtain ⟨k0, hk0, rfl, HB⟩ := hrel
          by_cases hz : k0 = 0
          · subst hz
            have EB := Lib.hid (show EsA wq (bkS M) u12 wr from HB.out)
            have hbl : Hid ((bkS M).length = i) := Lib.hid (by unfold bkS; rw [List.length_reverse, List.length_map, ME.out])
            have EM := Lib.hid (E4.out.next HB.out.bel)
            clear HB MG E4
            have SRC : Hid (∀ j u, (flatC EdM.cs M)[j]? = some u → wr.cell? ((⟨g, 0, none⟩ : Addr).add j) = some u) := Lib.hid fun j u hj => by
              rw [add_of rfl]
              have hjl := (List.getElem?_eq_some_iff.1 hj).1
              rw [flatC_length EdM.cs_len, ME.out] at hjl
              show wr.cell? ⟨g, 0 + j, none⟩ = _
              rw [Nat.zero_add, EM.out.row.cellAt j hjl]; exact hj
            rcases EB.out.row.2 with ⟨hu12, hb0⟩ | ⟨gb, cb, curb, hu12, _, hgb, _, _, _, _⟩
            · subst hu12
              have hi0 : i ≤ 0 := by rw [← hbl.out]; omega
              have hbn : Hid (M ++ bkS M = M) := Lib.hid (by rw [List.eq_nil_of_length_eq_zero hb0, List.append_nil])
              clear EB hb0
              go_wp2_with (at_builtin; first
                | (refine wpList_append_own _ rfl _ _ 23 rfl wr.heap.size 50 j0 _ 3 32 Try.underlying23 HJ.out.1 HJ.out.2.1 HJ.out.2.2.1 HJ.out.2.2.2 rfl (by decide) _ 0 [] rfl (World.ownsRow_nil _ _ _ _) ⟨g, 0, none⟩ i ce (flatC EdM.cs M) rfl (by rw [flatC_length EdM.cs_len, ME.out]) SRC.out (flatC_all EdM.cs_one M) (by unfold maxLen; omega) (by omega) (by simp) ?_; intro v5 w5 hown5 hgrow5 _; have O5 : Hid (w5.ownsRow wr.heap.size 50 3 v5 i (flatC EdM.cs M)) := Lib.hid (by simpa using hown5); have B5 := Lib.hid (grows_below hgrow5); clear hown5 hgrow5)
                | (refine wpList_append_own_none rfl _ _ 23 rfl wr.heap.size 50 j0 3 Try.underlying23 HJ.out.1 _ i (flatC EdM.cs M) rfl O5.out rfl ?_))
              have ED : Hid (EdsV w5 v5 (M ++ bkS M)) := Lib.hid (by
                rw [hbn.out]
                refine SlV.of_owns EdM.cs_len (base := wr.heap.size) (e := 50) ?_
                rw [ME.out]; exact O5.out)
              have BB5 := Lib.hid (EM.out.bel.trans (B5.out.mono EM.out.bel.size))
              clear EM O5 B5 SRC
              refine (MV.out _ _ _ (VV.out _ BB5.out).1 ED.out).mono ?_
              rintro e w7 ⟨xa, xcap, rfl, _, hx, hb7⟩
              have B7 := Lib.hid (BB5.out.trans (hb7.mono BB5.out.size))
              have X4 := Lib.hid hx
              clear hx hb7 BB5 ED MV
              obtain ⟨hvv, hbw⟩ := VV.out _ B7.out
              obtain ⟨va, vcap, rfl, _, hva, _⟩ := hvv
              have VA := Lib.hid hva
              have BW := Lib.hid hbw
              clear hva hbw VV B7
              generalize ms.length = n at *
              go_wp2_with fail
              go_loopw [16] (fun vi wr => ∃ j : Nat, j ≤ n ∧ vi = .int .i64 (j : Int) ∧ ∃ q, wr = w7.drewN q) (fun vi _ => n - (intOf vi).toNat)
              case atStart => exact ⟨0, by omega, rfl, 0, rfl⟩
              case round =>
                obtain ⟨j, hj, rfl, q, rfl⟩ := hrel
                by_cases hlt : j < n
                · obtain ⟨m, hm⟩ := HG.out j hlt
                  obtain ⟨g1, off1, rfl, _, c0, c1⟩ := MksAt.get X4.out hm
                  obtain ⟨g2, off2, rfl, _, d0, d1⟩ := MksAt.get VA.out hm
                  have i1 : (j : Int) < (n : Int) := by omega
                  have i2 : (0 : Int) ≤ (j : Int) := by omega
                  clear hm
                  obtain ⟨ma, mr⟩ := m
                  dsimp only at *
                  go_wp2_with fail
                  go_quiet (fail)
                  go_wp2_with fail
                  refine ⟨⟨j + 1, by omega, by go_num, _, rfl⟩, by simp [intOf]; omega⟩
                · go_wp2_with fail
                  go_ret
                  exact ⟨rfl, bdrewN BW.out _⟩
            · rw [hbl.out] at hu12
              subst hu12
              have SRC2 : Hid (∀ j u, (flatC EdM.cs (bkS M))[j]? = some u → wr.cell? ((⟨gb, 0, none⟩ : Addr).add j) = some u ∧ gb < wr.heap.size) := Lib.hid fun j u hj => by
                have hro := EB.out.row
                rw [hbl.out] at hro
                rw [add_of rfl]
                have hjl := (List.getElem?_eq_some_iff.1 hj).1
                rw [flatC_length EdM.cs_len, hbl.out] at hjl
                refine ⟨?_, (hro.lt gb rfl).2⟩
                show wr.cell? ⟨gb, 0 + j, none⟩ = _
                rw [Nat.zero_add, hro.cellAt j hjl]; exact hj
              clear EB hgb
              go_wp2_with (at_builtin; first
                | (refine wpList_append_own _ rfl _ _ 23 rfl wr.heap.size 50 j0 _ 3 32 Try.underlying23 HJ.out.1 HJ.out.2.1 HJ.out.2.2.1 HJ.out.2.2.2 rfl (by decide) _ 0 [] rfl (World.ownsRow_nil _ _ _ _) ⟨g, 0, none⟩ i ce (flatC EdM.cs M) rfl (by rw [flatC_length EdM.cs_len, ME.out]) SRC.out (flatC_all EdM.cs_one M) (by unfold maxLen; omega) (by omega) (by simp) ?_; intro v5 w5 hown5 hgrow5 _; have O5 : Hid (w5.ownsRow wr.heap.size 50 3 v5 i (flatC EdM.cs M)) := Lib.hid (by simpa using hown5); have B5 := Lib.hid (grows_below hgrow5); clear hown5 hgrow5)
                | (refine wpList_append_own _ rfl _ _ 23 rfl wr.heap.size 50 j0 _ 3 32 Try.underlying23 HJ.out.1 HJ.out.2.1 HJ.out.2.2.1 HJ.out.2.2.2 rfl (by decide) _ i (flatC EdM.cs M) rfl O5.out ⟨gb, 0, none⟩ i cb (flatC EdM.cs (bkS M)) rfl (by rw [flatC_length EdM.cs_len, hbl.out]) (fun j u hj => (B5.out.cell (p := (⟨gb, 0, none⟩ : Addr).add j) (by rw [add_of rfl]; exact (SRC2.out j u hj).2)).trans (SRC2.out j u hj).1) (flatC_all EdM.cs_one (bkS M)) (by unfold maxLen; omega) (by omega) B5.out.size ?_; intro v6 w6 hown6 hgrow6 _; have O6 : Hid (w6.ownsRow wr.heap.size 50 3 v6 (i + i) (flatC EdM.cs (M ++ bkS M))) := Lib.hid (by rw [flatC_append]; exact hown6); have B6 := Lib.hid (bgrow B5.out O5.out hgrow6); clear hown6 hgrow6))
              have ED : Hid (EdsV w6 v6 (M ++ bkS M)) := Lib.hid (by
                refine SlV.of_owns EdM.cs_len (base := wr.heap.size) (e := 50) ?_
                rw [List.length_append, ME.out, hbl.out]; exact O6.out)
              have BB5 := Lib.hid (EM.out.bel.trans (B6.out.mono EM.out.bel.size))
              clear EM O5 O6 B5 B6 SRC SRC2
              refine (MV.out _ _ _ (VV.out _ BB5.out).1 ED.out).mono ?_
              rintro e w7 ⟨xa, xcap, rfl, _, hx, hb7⟩
              have B7 := Lib.hid (BB5.out.trans (hb7.mono BB5.out.size))
              have X4 := Lib.hid hx
              clear hx hb7 BB5 ED MV
              obtain ⟨hvv, hbw⟩ := VV.out _ B7.out
              obtain ⟨va, vcap, rfl, _, hva, _⟩ := hvv
              have VA := Lib.hid hva
              have BW := Lib.hid hbw
              clear hva hbw VV B7
              generalize ms.length = n at *
              go_wp2_with fail
              go_loopw [16] (fun vi wr => ∃ j : Nat, j ≤ n ∧ vi = .int .i64 (j : Int) ∧ ∃ q, wr = w7.drewN q) (fun vi _ => n - (intOf vi).toNat)
              case atStart => exact ⟨0, by omega, rfl, 0, rfl⟩
              case round =>
                obtain ⟨j, hj, rfl, q, rfl⟩ := hrel
                by_cases hlt : j < n
                · obtain ⟨m, hm⟩ := HG.out j hlt
                  obtain ⟨g1, off1, rfl, _, c0, c1⟩ := MksAt.get X4.out hm
                  obtain ⟨g2, off2, rfl, _, d0, d1⟩ := MksAt.get VA.out hm
                  have i1 : (j : Int) < (n : Int) := by omega
                  have i2 : (0 : Int) ≤ (j : Int) := by omega
                  clear hm
                  obtain ⟨ma, mr⟩ := m
                  dsimp only at *
                  go_wp2_with fail
                  go_quiet (fail)
                  go_wp2_with fail
                  refine ⟨⟨j + 1, by omega, by go_num, _, rfl⟩, by simp [intOf]; omega⟩
                · go_wp2_with fail
                  go_ret
                  exact ⟨rfl, bdrewN BW.out _⟩
          · obtain ⟨k, rfl⟩ : ∃ k, k0 = k + 1 := ⟨k0 - 1, by omega⟩
            obtain ⟨e, he, hp8⟩ := MG.out k (by omega)
            obtain ⟨⟨hgl, hg0⟩, c0', c1', c2', _, _⟩ := E4.out.cell he
            have c0 : wr.cell? ⟨g, k * 3, none⟩ = some (.int .i64 e.at_) := keep HB.out.bel hgl c0'
            have c2 : wr.cell? ⟨g, k * 3 + 2, none⟩ = some (.string e.put) := keep HB.out.bel hgl c2'
            have NX := Lib.hid (bk_next he)
            have LN : Hid ((bkS (M.drop (k + 1))).length = i - (k + 1)) := Lib.hid (by unfold bkS; rw [List.length_reverse, List.length_map, List.length_drop, ME.out])
            have BE : Hid (bkE e = ⟨e.at_, (e.put.size : Int), ⟨#[]⟩⟩) := Lib.hid rfl
            have ek : ((k + 1 : Nat) : Int) - 1 = (k : Int) := by omega
            have i1 : (k : Int) < (i : Int) := by omega
            have i2 : (0 : Int) ≤ (k : Int) := by omega
            clear he c0' c1' c2'
            obtain ⟨q, hq⟩ : ∃ q, q = i - (k + 1) := ⟨_, rfl⟩
            rw [← hq] at LN
            have hq2 : q ≤ 20 := by omega
            clear hq
            generalize bkS (M.drop (k + 1)) = bs at *
            obtain ⟨ea, ec, ep⟩ := e
            dsimp only at *
            have hzw : wq.heap.size ≤ wr.heap.size := HB.out.bel.size
            have E2 : Hid (EsA wq bs u12 (wr.alloc (.cells #[.int .i64 ea, .int .i64 (ep.size : Int), .string ⟨#[]⟩] 50)).drew) := Lib.hid (HB.out.next (balloc (Below.refl _ _) _).drew)
            have HNEW := Lib.hid (cell_three wr (.int .i64 ea) (.int .i64 (ep.size : Int)) (.string ⟨#[]⟩) 50)
            have HROW : Hid ((wr.alloc (.cells #[.int .i64 ea, .int .i64 (ep.size : Int), .string ⟨#[]⟩] 50)).drew.ownsRow wq.heap.size 50 3 u12 q (flatC EdM.cs bs)) := by
              have := E2.out.row
              rw [LN.out] at this
              exact Lib.hid this
            have HO : u12.ownBlock ≠ some g := by
              intro e
              have := (HB.out.row.lt _ e).1
              omega
            rw [ek]
            go_wp2_with fail
            go_region_held3 (fun W => W.cell? ⟨g, k * 3, none⟩ = some (.int .i64 ea) ∧ W.cell? ⟨g, k * 3 + 2, none⟩ = some (.string ep))
              (first
                | go_keep
                | (go_split_ands
                   refine ⟨?_, ?_⟩
                   · (rw [hgrow4.cell_far _ (by simp; omega) (Ne.symm HO)]; assumption)
                   · (rw [hgrow4.cell_far _ (by simp; omega) (Ne.symm HO)]; assumption)))
              ((refine step_append_lies _ (by rfl) _ _ _ (by rfl) wq.heap.size 50 j0 _ 3 32 Try.underlying23 HJ.out.1 HJ.out.2.1 HJ.out.2.2.1 HJ.out.2.2.2 rfl (by decide) u12 q (flatC EdM.cs bs) (by rfl) HROW.out ⟨wr.heap.size, 0, none⟩ 1 1 [.int .i64 ea, .int .i64 (ep.size : Int), .string ⟨#[]⟩] (by rfl) rfl HNEW.out (by simp [Value.oneCell']) (by omega) (by unfold maxLen; omega) (by omega) (by simp; omega) (wr.heap.size + 1) (by simp) ?_; intro g4 cap4 w4 hown4 hgrow4 hat4 hlt4))
            have FIN : Hid (EsA wq (bs ++ [⟨ea, (ep.size : Int), ⟨#[]⟩⟩]) (.slice (some ⟨g4, 0, none⟩) (q + 1) cap4) w4) := Lib.hid ⟨by rw [flatC_append, flatC_one, List.length_append, LN.out]; exact hown4, bgrow E2.out.bel HROW.out hgrow4⟩
            rename_i hHeld
            clear hown4 hgrow4 hHeld hat4 hlt4 HROW HNEW HO E2 HB
            go_wp2_with fail
            go_roundw
            case rel => exact ⟨k, by omega, by go_num, Lib.hid (by rw [NX.out, BE.out]; exact FIN.out)⟩
            case measure => simp [intOf]

end Go.Proofs.Ytllpglanpfjcnaa.MarkK
