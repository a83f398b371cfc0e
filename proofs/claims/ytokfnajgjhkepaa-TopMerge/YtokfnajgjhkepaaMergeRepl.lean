/-
  Package merge: replace.
-/
import Derived.Test.YtokfnajgjhkepaaMergeRow
namespace Go.Proofs.Ytokfnajgjhkepaa.MergeT
open Go.RowKit Kit LineM StrM DiffM DiffA DiffR DiffP DiffK

/-- a range of a list of lines, as the slice that the program takes of it -/
theorem range_sl {W : World} {g off : Nat} {l : List ByteArray} {n cap lo hi : Nat} (h : StAt W (some ⟨g, off, none⟩) l) (hg : g < W.heap.size) (hn : l.length = n) (h1 : lo ≤ hi) (h2 : hi ≤ n) (h3 : n ≤ cap) :
    SlV 1 sc W (.slice (if cap = lo then some ⟨g, off, none⟩ else some ⟨g, off + lo, none⟩) (hi - lo) (cap - lo)) ((l.drop lo).take (hi - lo)) := by
  have hlen : ((l.drop lo).take (hi - lo)).length = hi - lo := by rw [List.length_take, List.length_drop]; omega
  split
  · have hz : hi - lo = 0 := by omega
    rw [hz, List.take_zero]
    exact ⟨_, _, rfl, Nat.zero_le _, SlAt.nil _ _, .inr ⟨g, off, rfl, hg⟩⟩
  · have hat := SlAt.drop (k := 1) h lo
    rw [Nat.mul_one] at hat
    exact ⟨_, _, by rw [hlen], by rw [hlen]; omega, hat.take _, .inr ⟨g, off + lo, rfl, hg⟩⟩
/-- an empty slice, wherever it lies, is appended: nothing turns -/
theorem wpList_append_nothing (W : World) {ops : Array Oper} {rest : List Oper} {o : Oper} {a : Act} {Q : Exit → Act → World → Prop} (hgd : o.guard = none)
    (s x : Operand) (ho : o.op = .call { callee := .builtin .append, args := #[s, x], argTypes := #[22, 22] })
    (v : Value) (hs : a.eval s = v) {base n : Nat} {xs : List Value} (hv : W.ownsRow base 9 1 v n xs) (A : Option Addr) (C : Nat) (hx : a.eval x = .slice A 0 C)
    (h : wpList Try.prog ops Q rest (a.put o.dst v) W) : wpList Try.prog ops Q (o :: rest) a W := by
  obtain ⟨i0, hi, hz0, hz1, hz2⟩ := info_parts infoStr
  have hsrc : Src Try.prog i0.size 22 (.slice A 0 C) 0 [] W := by
    cases A with
    | none => exact Src.ofNil W Try.underlying22 _
    | some ad => exact Src.ofSlice W Try.underlying22 ad 0 C [] (by simp) (fun j u hj => by simp at hj) (by simp)
  obtain ⟨ba, nl, nc, rfl, hlc⟩ : ∃ b n c, v = .slice b n c ∧ n ≤ c := by
    rcases hv.2 with ⟨e, _⟩ | ⟨g, c, cur, e, _, _, hc, _⟩
    · exact ⟨none, 0, 0, e, Nat.le_refl _⟩
    · exact ⟨_, _, _, e, hc⟩
  have hrun := run_append_nothing (P := Try.prog) W 22 22 o.type 9 i0 Try.underlying22 hi ba nl nc hlc _ hsrc
  refine wpList_plain hgd fun K hK => ?_
  unfold Oper.wp
  simp [execOp, ho, resolve, invoke, builtin, hs, hx, hrun, Result.andThen]
  exact hK _ _ h
set_option maxRecDepth 100000 in
set_option maxHeartbeats 1000000 in
theorem replaceF (w : World) (base : List ByteArray) (aa : Option Addr) (cap : Nat) (hb : StAt w aa base) (hn : base.length ≤ 80) (hcap : base.length ≤ cap) (p q : Nat) (u : Value) (r : List HV) (hr : SlV 3 hkc w u r) (hl : ∀ h ∈ r, SlV 1 sc w h.2 h.1.l) (hrl : r.length ≤ 1000) (hc : Chn q p (r.map Prod.fst)) (hq : q ≤ base.length) (hlen : (repl base p q (r.map Prod.fst)).length ≤ 100000) :
    Calls Try.prog 25 #[.slice aa base.length cap, .int .i64 (p : Int), .int .i64 (q : Int), u] w (OwPost (repl base p q (r.map Prod.fst)) w) := by
  have HB := Lib.hid hb
  have HD : Hid (base = [] ∨ ∃ g off, aa = some ⟨g, off, none⟩ ∧ g < w.heap.size) := Lib.hid (by
    cases base with
    | nil => exact .inl rfl
    | cons s l =>
      obtain ⟨g, off, e, hg, _⟩ := StAt.get hb (i := 0) (s := s) rfl
      exact .inr ⟨g, off, e, hg⟩)
  have HR := Lib.hid hr
  have HL := Lib.hid hl
  obtain ⟨au, cu, rfl, _⟩ := id hr
  obtain ⟨N, hN⟩ : ∃ N, r.length = N := ⟨_, rfl⟩
  have HN := Lib.hid hN
  -- the state ahead of hunk t
  obtain ⟨st, hst⟩ : ∃ st : Nat → List ByteArray × Nat, ∀ t, st t = emit base ([], p) ((r.map Prod.fst).take t) := ⟨_, fun _ => rfl⟩
  have st0 : st 0 = ([], p) := by rw [hst]; rfl
  have stS : ∀ t h, r[t]? = some h → st (t + 1) = ((st t).1 ++ (base.drop (st t).2).take (h.1.b - (st t).2) ++ h.1.l, h.1.e) := fun t h hh => by
    have e : (r.map Prod.fst)[t]? = some h.1 := by rw [List.getElem?_map, hh]; rfl
    rw [hst, hst, List.take_add_one, e, Option.toList_some, emit_snoc]
  have stE : repl base p q (r.map Prod.fst) = (st N).1 ++ (base.drop (st N).2).take (q - (st N).2) := by
    rw [hst, List.take_of_length_le (by rw [List.length_map, hN]; exact Nat.le_refl _)]; rfl
  have stC : ∀ t h, r[t]? = some h → (st t).2 ≤ h.1.b ∧ h.1.b ≤ q := fun t h hh => by
    have e : (r.map Prod.fst)[t]? = some h.1 := by rw [List.getElem?_map, hh]; rfl
    rw [hst]; exact chn_at _ ([], p) t hc e
  have stN : (st N).2 ≤ q := by
    rw [hst, List.take_of_length_le (by rw [List.length_map, hN]; exact Nat.le_refl _)]; exact chn_end _ ([], p) hc
  have stL : ∀ t, (st t).1.length ≤ 100000 := fun t => by
    have h1 := emit_le (base := base) p ((r.map Prod.fst).take t) ((r.map Prod.fst).drop t)
    rw [List.take_append_drop] at h1
    rw [hst]
    unfold repl at hlen
    rw [List.length_append] at hlen
    omega
  have R0 := Lib.hid st0
  have RS := Lib.hid stS
  have RE := Lib.hid stE
  have RC := Lib.hid stC
  have RN := Lib.hid stN
  have RL := Lib.hid stL
  rw [stE]
  obtain ⟨RES, hRES⟩ : ∃ RES, (st N).1 ++ (base.drop (st N).2).take (q - (st N).2) = RES := ⟨_, rfl⟩
  have HRES := Lib.hid hRES
  rw [hRES] at RE ⊢
  clear hRES st0 stS stE stC stN stL hst hc hr hl hb hlen
  rw [hN] at hrl ⊢
  clear hN
  obtain ⟨n, hn'⟩ : ∃ n, base.length = n := ⟨_, rfl⟩
  have HNB := Lib.hid hn'
  rw [hn'] at hn hcap hq ⊢
  clear hn'
  go_enter Try.func25, Try.ntmps25
  go_wp2_with fail
  go_loopw [1, 9, 14] (fun vb vo vt wr => ∃ t b : Nat, t ≤ N ∧ b = (st t).2 ∧ vb = .int .i64 (b : Int) ∧ vt = .int .i64 (t : Int) ∧ Hid (SK w (st t).1 vo wr)) (fun _ _ vt _ => N - (intOf vt).toNat)
  case atStart => exact ⟨0, p, by omega, by rw [R0.out], rfl, rfl, Lib.hid (by rw [R0.out]; exact SK.nil (Below.refl _ _))⟩
  case round =>
    obtain ⟨t, b, htN, hbt, rfl, rfl, HS⟩ := hrel
    have BS := Lib.hid HS.out.bel
    by_cases hlt : t < N
    · obtain ⟨h, hh⟩ : ∃ h, r[t]? = some h := ⟨r[t]'(by have := HN.out; omega), List.getElem?_eq_getElem _⟩
      obtain ⟨g, off, c', e', _, hg, hcell⟩ := SlV.get HR.out hh
      cases e'
      have z0 := keep BS.out hg (hcell 0 (by omega))
      have z1 := keep BS.out hg (hcell 1 (by omega))
      have z2 := keep BS.out hg (hcell 2 (by omega))
      have hgr := Nat.lt_of_lt_of_le hg BS.out.size
      obtain ⟨cb, cq⟩ := RC.out t h hh
      have HNX := Lib.hid (RS.out t h hh)
      have HLt := Lib.hid (RL.out t)
      have HLn := Lib.hid (RL.out (t + 1))
      have HLH := Lib.hid (HL.out h (List.mem_of_getElem? hh))
      obtain ⟨⟨hb, he, hl⟩, hv⟩ := h
      dsimp only at cb cq HNX HLH
      rw [← hbt] at cb HNX
      rw [Nat.add_zero] at z0
      obtain ⟨ah, ch, rfl, _⟩ := id HLH.out
      obtain ⟨nh, hnh⟩ : ∃ nh, hl.length = nh := ⟨_, rfl⟩
      have HNH := Lib.hid hnh
      rw [hnh] at z2 HLH
      clear hnh
      have hbb : b ≤ hb := cb
      have u0 : (0 : Int) ≤ (t : Int) := by omega
      have u1 : (t : Int) < (N : Int) := by omega
      have rt : IntKind.i64.wrap ((t : Int) + 1) = (t : Int) + 1 := IntWalk.i64_in _ (by omega)
      obtain ⟨w8, hw8⟩ : ∃ w8, w8 = wr.alloc (.cells #[.int .i64 (hb : Int), .int .i64 (he : Int), .slice ah nh ch] 54) := ⟨_, rfl⟩
      have hB8 : Below wr.heap.size wr w8 := by rw [hw8]; exact balloc (Below.refl _ _) _
      have hO : Hid (Ot w w8 wr.heap.size (st t).1 u9 w8) := Lib.hid ⟨HS.out.next hB8, fun k hk => .inl (HS.out.row.lt k hk).2, Nat.le_refl _, fun _ _ _ => rfl⟩
      have hb80 : (wr.heap.size < w8.heap.size) := by rw [hw8]; simp
      have KB := Lib.hid (fun (W : World) (L : List ByteArray) (v : Value) (hv0 : Ot w w8 wr.heap.size L v W) => (by
        have hm := hv0.mid wr.heap.size (Nat.le_refl _) hb80
        refine ⟨?_, ?_, Nat.lt_of_lt_of_le hb80 hv0.size⟩
        · rw [World.cell?_of_block (a := ⟨wr.heap.size, 1, none⟩) hm, hw8, cells_new]; rfl
        · rw [World.cell?_of_block (a := ⟨wr.heap.size, 2, none⟩) hm, hw8, cells_new]; rfl : W.cell? ⟨wr.heap.size, 1, none⟩ = some (.int .i64 (he : Int)) ∧ W.cell? ⟨wr.heap.size, 2, none⟩ = some (.slice ah nh ch) ∧ wr.heap.size < W.heap.size))
      rw [hw8] at hO KB
      clear hB8 hb80 hw8 hcell
      have q3 : (b : Int) ≤ (hb : Int) := by omega
      have q4 : (hb : Int) ≤ (cap : Int) := by omega
      have q5 : (0 : Int) ≤ (b : Int) := by omega
      have HBT := Lib.hid hbt
      have FIN : Hid (∀ W v, SK w (st (t + 1)).1 v W → ∃ t' b' : Nat, t' ≤ N ∧ b' = (st t').2 ∧ Value.int .i64 (he : Int) = .int .i64 (b' : Int) ∧ Value.int .i64 ((t : Int) + 1) = .int .i64 (t' : Int) ∧ Hid (SK w (st t').1 v W)) := Lib.hid (fun W v hs => ⟨t + 1, he, hlt, by rw [HNX.out], rfl, by simp, Lib.hid hs⟩)
      have hbn : hb ≤ n := by omega
      clear hbt cb cq
      have L1 : Hid ((st t).1.length + ((base.drop b).take (hb - b)).length ≤ 1000000) := Lib.hid (by
        have h1 := HLt.out
        have h2 := HNB.out
        rw [List.length_take, List.length_drop]; omega)
      have L2 : Hid (((st t).1 ++ (base.drop b).take (hb - b)).length + hl.length ≤ 1000000) := Lib.hid (by
        have h1 := HLn.out
        rw [HNX.out] at h1
        simp only [List.length_append] at h1 ⊢
        omega)
      have LH := Lib.hid (fun W (hW : Below w.heap.size w W) => SlV.next HLH.out hW)
      rcases HD.out with hnil | ⟨g2, off2, rfl, hg2⟩
      · have hn0 := HNB.out
        rw [hnil] at hn0
        simp only [List.length_nil] at hn0
        subst hn0
        obtain rfl : hb = 0 := by omega
        obtain rfl : b = 0 := by omega
        have HNY : Hid ((st (t + 1)).1 = (st t).1 ++ hl) := Lib.hid (by rw [HNX.out, hnil]; simp)
        have L3 : Hid ((st t).1.length + hl.length ≤ 1000000) := Lib.hid (by
          have h1 := HLn.out
          rw [HNY.out, List.length_append] at h1
          omega)
        cases aa with
        | none =>
          go_wp2_with (first
            | (at_builtin; refine wpList_append_nothing _ rfl _ _ rfl _ rfl hO.out.sk.row _ _ rfl ?_; have k3 := KB.out _ _ _ hO.out; have O3 := hO; clear hO)
            | (at_builtin; refine wpList_appendOt w _ wr.heap.size _ rfl _ _ rfl _ _ rfl O3.out _ hl rfl (LH.out _ O3.out.sk.bel) L3.out ?_; intro v4 w4 hv4; have k4 := KB.out _ _ _ hv4; have O4 := Lib.hid hv4; clear hv4 O3))
          go_roundw
          case rel => exact FIN.out _ _ (by rw [HNY.out]; exact O4.out.sk)
          case measure => simp only [intOf]; omega
        | some ad =>
          go_wp2_with (first
            | (at_builtin; refine wpList_append_nothing _ rfl _ _ rfl _ rfl hO.out.sk.row _ _ rfl ?_; have k3 := KB.out _ _ _ hO.out; have O3 := hO; clear hO)
            | (at_builtin; refine wpList_appendOt w _ wr.heap.size _ rfl _ _ rfl _ _ rfl O3.out _ hl rfl (LH.out _ O3.out.sk.bel) L3.out ?_; intro v4 w4 hv4; have k4 := KB.out _ _ _ hv4; have O4 := Lib.hid hv4; clear hv4 O3))
          all_goals
            go_roundw
            case rel => exact FIN.out _ _ (by rw [HNY.out]; exact O4.out.sk)
            case measure => simp only [intOf]; omega
      · have HX : Hid (∀ W, Below w.heap.size w W → SlV 1 sc W (.slice (if cap = b then some ⟨g2, off2, none⟩ else some ⟨g2, off2 + b, none⟩) (hb - b) (cap - b)) ((base.drop b).take (hb - b))) := Lib.hid (fun W hW => (range_sl (HB.out) hg2 HNB.out hbb (by omega) hcap).next hW)
        go_wp2_with (first
          | (at_builtin; refine wpList_appendOt w _ wr.heap.size _ rfl _ _ rfl _ (st t).1 rfl hO.out _ _ rfl (HX.out _ hO.out.sk.bel) L1.out ?_; intro v3 w3 hv3; have k3 := KB.out _ _ _ hv3; have O3 := Lib.hid hv3; clear hv3 hO)
          | (at_builtin; refine wpList_appendOt w _ wr.heap.size _ rfl _ _ rfl _ _ rfl O3.out _ hl rfl (LH.out _ O3.out.sk.bel) L2.out ?_; intro v4 w4 hv4; have k4 := KB.out _ _ _ hv4; have O4 := Lib.hid hv4; clear hv4 O3))
        go_roundw
        case rel => exact FIN.out _ _ (by rw [HNX.out]; exact O4.out.sk)
        case measure => simp only [intOf]; omega
    · have hte : t = N := by omega
      have HBT := Lib.hid hbt
      have hbq : b ≤ q := by rw [hbt, hte]; exact RN.out
      have u1 : ¬ (t : Int) < (N : Int) := by omega
      have L1 : Hid ((st t).1.length + ((base.drop b).take (q - b)).length ≤ 1000000) := Lib.hid (by
        have h1 := RL.out t
        have h2 := HNB.out
        rw [List.length_take, List.length_drop]; omega)
      have FIN : Hid (∀ W v, SK w ((st t).1 ++ (base.drop b).take (q - b)) v W → OwPost RES w (.returned v) W) := Lib.hid (fun W v hs => ⟨v, rfl, by rw [← HRES.out, ← hte, ← HBT.out]; exact hs⟩)
      clear hbt hte
      have q3 : (b : Int) ≤ (q : Int) := by omega
      have q4 : (q : Int) ≤ (cap : Int) := by omega
      have q5 : (0 : Int) ≤ (b : Int) := by omega
      rcases HD.out with hnil | ⟨g2, off2, rfl, hg2⟩
      · have hn0 := HNB.out
        rw [hnil] at hn0
        simp only [List.length_nil] at hn0
        subst hn0
        obtain rfl : q = 0 := by omega
        obtain rfl : b = 0 := by omega
        have FIN2 : Hid (OwPost RES w (.returned u9) wr) := Lib.hid (FIN.out _ _ (by rw [hnil]; simpa using HS.out))
        cases aa with
        | none =>
          go_wp2_with (at_builtin; refine wpList_append_nothing _ rfl _ _ rfl _ rfl HS.out.row _ _ rfl ?_)
          go_ret
          exact FIN2.out
        | some ad =>
          go_wp2_with (at_builtin; refine wpList_append_nothing _ rfl _ _ rfl _ rfl HS.out.row _ _ rfl ?_)
          all_goals
            go_ret
            exact FIN2.out
      · have HX : Hid (∀ W, Below w.heap.size w W → SlV 1 sc W (.slice (if cap = b then some ⟨g2, off2, none⟩ else some ⟨g2, off2 + b, none⟩) (q - b) (cap - b)) ((base.drop b).take (q - b))) := Lib.hid (fun W hW => (range_sl (HB.out) hg2 HNB.out hbq hq hcap).next hW)
        go_wp2_with (at_builtin; refine wpList_appendSK w _ rfl _ _ rfl _ (st t).1 rfl HS.out _ _ rfl (HX.out _ BS.out) L1.out ?_; intro v3 w3 hv3; have O3 := Lib.hid hv3; clear hv3)
        all_goals
          go_ret
          exact FIN.out _ _ O3.out
end Go.Proofs.Ytokfnajgjhkepaa.MergeT
