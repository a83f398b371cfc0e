/-
  Package find: build.
-/
import Derived.Test.YtkiebkjndmcddaaAcBuildI
import Derived.Test.YtkiebkjndmcddaaFindExt
namespace Go.Proofs.Ytkiebkjndmcddaa.AcM
open Go.RowKit Go.Maps Kit FindM LineM HistM StrM FindP EditM

theorem bui_start {w w1 w2 : World} {fs : List (List UInt8)} {mb eb base cap : Nat} {e : TypeId} (hmb : w.heap.size ≤ mb) (hm : OM w1 mb 0 (.map [])) (hb : Below w.heap.size w w1) (he : eb = (w1.alloc (.cells #[.map (some mb), .int .i64 ((0 : Nat) : Int), .int .i64 (-1)] 72)).heap.size) {n : Nat} (hn : fs.length = n)
    (hown : w2.ownsRow base e 1 (.slice (some ⟨eb, 0, none⟩) n cap) n (madeCells (Value.int .i64 0).cells (n * 1)).toList) (hgrow : Below (w1.alloc (.cells #[.map (some mb), .int .i64 ((0 : Nat) : Int), .int .i64 (-1)] 72)).heap.size (w1.alloc (.cells #[.map (some mb), .int .i64 ((0 : Nat) : Int), .int .i64 (-1)] 72)) w2) :
    BuI w fs eb 0 0 (.slice (some ⟨w1.heap.size, 0, none⟩) 1 1) [[]] [⟨mb, 0, -1⟩] (fun _ => 0) w2 := by
  subst hn
  have hM := mac_one hm hmb hb.size
  refine ⟨hM.next hgrow, fun st hst => ?_, EN.made hown, fun hf => ?_, ?_, bstep (balloc hb _) hgrow, fun j hj => ⟨by simp, by simp [sq]⟩, fun p hp => ?_, fun p hp => ?_, by simp⟩
  · rw [List.mem_singleton] at hst; rw [hst]
  · have := hM.lt hf
    omega
  · have h1 := hb.size
    have h2 := (balloc (Below.refl _ w1) (.cells #[.map (some mb), .int .i64 ((0 : Nat) : Int), .int .i64 (-1)] 72)).size
    omega
  · rw [List.mem_singleton] at hp; rw [hp]; simp
  · rw [List.mem_singleton] at hp; rw [hp]; simp
theorem MacAt.free {B : Nat} {w : World} {g off n cap : Nat} {ps : List (List UInt8)} {ss : List St} (h : MacAt B w (.slice (some ⟨g, off, none⟩) n cap) ps ss) {s : Nat} {st : St} (hs : ss[s]? = some st) : n = ss.length ∧ s < n ∧ g < w.heap.size ∧ w.cell? ⟨g, off + s * 3 + 2, none⟩ = some (.int .i64 st.fi) ∧ w.frozen? ⟨g, off + s * 3 + 2, none⟩ = false := by
  have hsl := (List.getElem?_eq_some_iff.1 hs).1
  obtain ⟨g', off', cap', e, hg, hc⟩ := h.form
  cases e
  refine ⟨rfl, hsl, hg, (hc s st hs).2.2, ?_⟩
  rcases h.row.is with ⟨e1, _⟩ | ⟨g', off', cap', e1, h1, _, _, _, h5⟩
  · cases e1
  · cases e1
    rw [Nat.add_assoc]
    exact (h5 (s * 3 + 2) (by omega)).2
set_option maxRecDepth 100000 in
set_option maxHeartbeats 4000000 in
theorem build (al : Option Addr) (cap : Nat) (l : List ByteArray) (w : World) (hl : StAt w al l) (hn : l.length ≤ 20) (hs : ∀ s ∈ l, s.size ≤ 20) :
    Calls Try.prog 37 #[.slice al l.length cap] w (BuPost w (plain l)) := by
  obtain ⟨i0, hi, hz0, hz1, hz2⟩ := info_parts infoInt
  have HI := Lib.hid (And.intro hi (And.intro hz0 (And.intro hz1 hz2)))
  clear hi hz0 hz1 hz2
  have HL := Lib.hid hl
  have HS := Lib.hid hs
  have NS := Lib.hid (fun (sf : Nat) W => newState sf W)
  obtain ⟨n, hln⟩ : ∃ n, l.length = n := ⟨_, rfl⟩
  have HPL : Hid ((plain l).length = n) := Lib.hid (by rw [plain_len, hln])
  have HLN := Lib.hid hln
  rw [hln] at hn ⊢
  clear hl hs hln
  go_enter Try.func37, Try.ntmps37
  go_wp2_with (first
    | (go_at_call 41; refine (NS.out 0 _).mono ?_; rintro e w1 ⟨mb, rfl, hmb, hom1, hb1⟩; have HN := Lib.hid (And.intro hmb (And.intro hom1 hb1)); clear hmb hom1 hb1)
    | (refine wpList_make_full _ rfl _ _ 22 rfl w1.heap.size 3 i0 _ 1 Try.underlying22 HI.out.1 HI.out.2.1 HI.out.2.2.1 .i64 .i64 _ _ n rfl rfl rfl rfl (by rw [HI.out.2.2.2]; omega) (by unfold maxLen; omega) (by simp) ?_; intro w2 hown hgrow))
  have hsz : (w1.alloc (.cells #[.map (some mb), .int .i64 0, .int .i64 (-1)] 72)).heap.size = w1.heap.size + 1 := by simp
  rw [hsz] at hown
  have S0 := Lib.hid (bui_start (fs := plain l) (eb := w1.heap.size + 1) HN.out.1 HN.out.2.1 HN.out.2.2 (by simp) HPL.out hown (grows_below hgrow))
  clear hown hgrow HN hsz
  generalize w1.heap.size + 1 = eb at *
  have hebl : Hid (∀ (v : Value) ps ss d W size i, BuI w (plain l) eb size i v ps ss d W → eb < W.heap.size) := Lib.hid fun v ps ss d W size i h => h.ends.lt
  go_loopw [3, 15] (fun vm vs wr => ∃ size : Nat, size ≤ 20 ∧ vs = .int .i64 (size : Int) ∧ Hid (∃ ps ss d, BuI w (plain l) eb size 0 vm ps ss d wr)) (fun _ vs _ => 20 - (intOf vs).toNat)
  case atStart => exact ⟨0, by omega, rfl, Lib.hid ⟨_, _, _, S0.out⟩⟩
  case round =>
    obtain ⟨size, hsize, rfl, HB⟩ := hrel
    clear S0
    by_cases hlt : size < 20
    · have q1 : decide ((size : Int) < 20) = true := decide_eq_true (by omega)
      have r1 : IntKind.i64.wrap ((size : Int) + 1) = (size : Int) + 1 := IntWalk.i64_in _ (by omega)
      have b1 : (0 : Int) ≤ (size : Int) := by omega
      go_wp2_with fail
      go_loopw [3, 20] (fun vm vi wr => ∃ i : Nat, i ≤ n ∧ vi = .int .i64 (i : Int) ∧ Hid (∃ ps ss d, BuI w (plain l) eb size i vm ps ss d wr)) (fun _ vi _ => n - (intOf vi).toNat)
      case atStart => exact ⟨0, by omega, rfl, HB⟩
      case round =>
        obtain ⟨i, hi, rfl, HJ⟩ := hrel
        clear HB
        by_cases hin : i < n
        · obtain ⟨s, hs⟩ : ∃ s, l[i]? = some s := ⟨l[i]'(by have := HLN.out; omega), List.getElem?_eq_getElem (by have := HLN.out; omega)⟩
          obtain ⟨ps, ss, d, hb⟩ := HJ.out
          clear HJ
          obtain ⟨g, off, rfl, hg, c0⟩ := StAt.get (HL.out.next hb.bel) hs
          have hfi : (plain l).getD i [] = s.data.toList := plain_get hs
          have hs20 := HS.out s (List.mem_of_getElem? hs)
          have u0 : (0 : Int) ≤ (i : Int) := by omega
          have u1 : (i : Int) < (n : Int) := by omega
          have r2 : IntKind.i64.wrap ((i : Int) + 1) = (i : Int) + 1 := IntWalk.i64_in _ (by omega)
          have hil : i < (plain l).length := by rw [HPL.out]; exact hin
          have HB := Lib.hid hb
          clear hs
          by_cases hsz : size < s.size
          · have u2 : (size : Int) < (s.size : Int) := by omega
            have hgc := sget s size hsz
            have c1 := hb.ends.cell i hil
            have c2 := hb.ends.free i hil
            have c3 := hb.ends.lt
            have E : Hid (Calls Try.prog 42 #[u3, .int .i64 (d i : Int), .int .u8 (s[size].toNat : Int)] wr.drew (fun e W2 => ∃ v' n', e = .returned (.tuple #[v', .int .i64 ((n' : Nat) : Int)]) ∧ (eb < W2.heap.size ∧ W2.cell? ⟨eb, i, none⟩ = some (.int .i64 (d i : Int)) ∧ W2.frozen? ⟨eb, i, none⟩ = false) ∧ ∃ ps' ss' d', BuI w (plain l) eb size (i + 1) v' ps' ss' d' (W2.setCell ⟨eb, i, none⟩ (.int .i64 (n' : Int))))) := Lib.hid (by
              have hbd := hb.drew
              have hg := grow hbd.mac (hbd.reach i hil).1 s[size] (hbd.long hil (by rw [hfi, size_list]; exact hsz)) (by
                have h1 := hbd.cnt
                rw [HPL.out] at h1
                have h2 : size * n ≤ 20 * 20 := Nat.mul_le_mul hsize hn
                omega) hbd.bel.size
              refine hg.mono ?_
              intro e W2 h2
              obtain ⟨v', n', ps', ss', d', h3, h4, h5⟩ := hbd.next hil hlt (by rw [hfi]; exact hgc) h2
              exact ⟨v', n', h3, h4, ps', ss', d', h5⟩)
            clear hb hfi hgc
            generalize d i = di at *
            go_wp2_with fail
            go_region_with (first | (refine E.out.mono ?_; rintro e w2 ⟨v', n', rfl, ⟨e1, e2, e3⟩, hbn⟩; have HBN := Lib.hid hbn; clear hbn))
            all_goals
              clear HB E c0 c1 c2 e2 e3
              go_wp2_with fail
              go_roundw
              case rel => exact ⟨i + 1, by omega, by go_num, HBN⟩
              case measure => simp [intOf]; omega
          · have u2 : ¬ (size : Int) < (s.size : Int) := by omega
            have HBN : Hid (∃ ps ss d, BuI w (plain l) eb size (i + 1) u3 ps ss d wr) := Lib.hid ⟨ps, ss, d, HB.out.skip (by rw [hfi, size_list]; omega)⟩
            clear hb hfi HB
            go_wp2_with fail
            go_roundw
            case rel => exact ⟨i + 1, by omega, by go_num, HBN⟩
            case measure => simp [intOf]; omega
        · have u1 : ¬ (i : Int) < (n : Int) := by omega
          have HT : Hid (∃ ps ss d, BuI w (plain l) eb (size + 1) 0 u3 ps ss d wr) := Lib.hid (by
            obtain ⟨ps, ss, d, h⟩ := HJ.out
            have e : i = (plain l).length := by rw [HPL.out]; omega
            rw [e] at h
            exact ⟨ps, ss, d, h.turn⟩)
          clear HJ
          go_wp2_with fail
          go_roundw
          case rel => exact ⟨size + 1, by omega, by go_num, HT⟩
          case measure => simp [intOf]; omega
    · have q1 : decide ((size : Int) < 20) = false := decide_eq_false (by omega)
      obtain ⟨ps, ss0, d, hb⟩ := HB.out
      have e20 : size = 20 := by omega
      rw [e20] at hb
      have hf0 := hb.done (fun j hj => by
        obtain ⟨s, hs⟩ : ∃ s, l[j]? = some s := ⟨l[j]'(by rw [HPL.out] at hj; have := HLN.out; omega), List.getElem?_eq_getElem _⟩
        rw [plain_get hs, size_list]
        exact HS.out s (List.mem_of_getElem? hs)) (by rw [HPL.out]; exact hn)
      obtain ⟨g, off, cap2, rfl, _, _⟩ := hb.mac.form
      generalize ss0.length = N at *
      have F0 := Lib.hid hf0
      have REACH := Lib.hid hf0.reach
      clear hb hf0 HB e20
      go_wp2_with fail
      go_loopw [48] (fun vi wr => ∃ i : Nat, i ≤ n ∧ vi = .int .i64 (i : Int) ∧ Hid (∃ ss, BuF w (plain l) eb i (.slice (some ⟨g, off, none⟩) N cap2) ps ss d wr)) (fun vi _ => n - (intOf vi).toNat)
      case atStart => exact ⟨0, by omega, rfl, Lib.hid ⟨_, F0.out⟩⟩
      case round =>
        obtain ⟨i, hi, rfl, HF⟩ := hrel
        clear F0
        by_cases hin : i < n
        · obtain ⟨ss, hf⟩ := HF.out
          clear HF
          have hil : i < (plain l).length := by rw [HPL.out]; exact hin
          obtain ⟨st, hst, hnx⟩ := hf.next hil
          obtain ⟨_, hdl, hgl, c4, c5⟩ := hf.mac.free hst
          have c1 := hf.ends.cell i hil
          have c3 := hf.ends.lt
          have HNX : Hid (∃ ss, BuF w (plain l) eb (i + 1) (.slice (some ⟨g, off, none⟩) N cap2) ps ss d (wr.setCell ⟨g, off + d i * 3 + 2, none⟩ (.int .i64 (i : Int)))) := Lib.hid ⟨_, hnx⟩
          have u0 : (0 : Int) ≤ (i : Int) := by omega
          have u1 : (i : Int) < (n : Int) := by omega
          have u2 : (0 : Int) ≤ (d i : Int) := by omega
          have u3 : (d i : Int) < (N : Int) := by omega
          have r2 : IntKind.i64.wrap ((i : Int) + 1) = (i : Int) + 1 := IntWalk.i64_in _ (by omega)
          clear hf hnx hst
          generalize d i = di at *
          go_wp2_with fail
          go_roundw
          case rel => exact ⟨i + 1, by omega, by go_num, HNX⟩
          case measure => simp [intOf]; omega
        · have u1 : ¬ (i : Int) < (n : Int) := by omega
          have HFIN : Hid (BuPost w (plain l) (.returned (.slice (some ⟨g, off, none⟩) N cap2)) wr) := Lib.hid (by
            obtain ⟨ss, hf⟩ := HF.out
            have e : i = (plain l).length := by rw [HPL.out]; omega
            rw [e] at hf
            exact hf.done)
          clear HF
          go_wp2_with fail
          go_ret
          exact HFIN.out
end Go.Proofs.Ytkiebkjndmcddaa.AcM
