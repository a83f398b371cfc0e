/-
  The document: the version of a region (the function literal of Merged).
-/
import Derived.Test.YtokfnajgjhkepaaBnd3
import Derived.Test.YtokfnajgjhkepaaBnd1
namespace Go.Proofs.Ytokfnajgjhkepaa.MergeT
open Go.RowKit Kit LineM StrM DiffM DiffA DiffR DiffP DiffK

/-- lines of the call's own -/
def OwPost (L : List ByteArray) (w : World) (e : Ending) (w' : World) : Prop := ∃ v, e = .returned v ∧ SK w L v w'
/-- what has been put together ahead of the place i -/
def sofar (base : List ByteArray) (T : TS ByteArray) (lo hi i : Nat) : List ByteArray := if i ≤ hi then seg base T.gone T.puts lo (i - lo) else made base T.gone T.puts lo hi
theorem sofar_start (base : List ByteArray) (T : TS ByteArray) {lo hi : Nat} (h : lo ≤ hi) : sofar base T lo hi lo = [] := by unfold sofar; rw [if_pos h, Nat.sub_self]; rfl
theorem sofar_end (base : List ByteArray) (T : TS ByteArray) (lo hi : Nat) : sofar base T lo hi (hi + 1) = made base T.gone T.puts lo hi := by unfold sofar; rw [if_neg (by omega)]
theorem sofar_last (base : List ByteArray) (T : TS ByteArray) (lo hi : Nat) : sofar base T lo hi (hi + 1) = sofar base T lo hi hi ++ T.puts hi := by rw [sofar_end]; unfold sofar made; rw [if_pos (Nat.le_refl _)]
theorem sofar_gone {base : List ByteArray} {T : TS ByteArray} {lo hi i : Nat} (h1 : lo ≤ i) (h2 : i < hi) (hg : T.gone i = true) : sofar base T lo hi (i + 1) = sofar base T lo hi i ++ T.puts i := by
  unfold sofar
  rw [if_pos (by omega), if_pos (by omega), show i + 1 - lo = (i - lo) + 1 by omega]
  show seg base T.gone T.puts lo (i - lo) ++ cellv base T.gone T.puts (lo + (i - lo)) = _
  unfold cellv
  rw [show lo + (i - lo) = i by omega, hg]; simp
theorem sofar_kept {base : List ByteArray} {T : TS ByteArray} {lo hi i : Nat} {x : ByteArray} (h1 : lo ≤ i) (h2 : i < hi) (hg : T.gone i = false) (hx : base[i]? = some x) : sofar base T lo hi (i + 1) = sofar base T lo hi i ++ T.puts i ++ [x] := by
  unfold sofar
  rw [if_pos (by omega), if_pos (by omega), show i + 1 - lo = (i - lo) + 1 by omega]
  show seg base T.gone T.puts lo (i - lo) ++ cellv base T.gone T.puts (lo + (i - lo)) = _
  unfold cellv
  rw [show lo + (i - lo) = i by omega, hg, hx]; simp
set_option maxRecDepth 100000 in
set_option maxHeartbeats 8000000 in
theorem make1 (w W : World) (gb ob pb n bx lo hi : Nat) (T : TS ByteArray) (vs : Nat → Value) (aa : Option Addr) (ca : Nat) (base : List ByteArray) (hT : TW w gb ob pb n T vs W) (hbx : W.cell? ⟨bx, 0, none⟩ = some (.slice aa base.length ca)) (hb : StAt W aa base) (hn : base.length = n) (hlo : lo ≤ hi) (hhi : hi ≤ n) (hn8 : n ≤ 80) (hlen : ∀ i, (sofar base T lo hi i).length + (T.puts i).length ≤ 100000) :
    Calls Try.prog 28 #[.int .i64 (lo : Int), .int .i64 (hi : Int), .slice (some ⟨ob, 0, none⟩) n n, .slice (some ⟨pb, 0, none⟩) (n + 1) (n + 1), .pointer (some ⟨bx, 0, none⟩)] W (OwPost (made base T.gone T.puts lo hi) W) := by
  have HT := Lib.hid hT
  have HB := Lib.hid hb
  have HBX := Lib.hid hbx
  have HLEN := Lib.hid hlen
  have HN := Lib.hid hn
  have hbl := block_lt hbx
  rw [hn] at HBX
  clear hT hb hbx hlen hn
  go_enter Try.func28, Try.ntmps28
  go_wp2_with fail
  go_loopw [10, 11] (fun vo vi wr => ∃ i : Nat, lo ≤ i ∧ i ≤ hi + 1 ∧ vi = .int .i64 (i : Int) ∧ Hid (SK W (sofar base T lo hi i) vo wr)) (fun _ vi _ => hi + 1 - (intOf vi).toNat)
  case atStart => exact ⟨lo, by omega, by omega, rfl, Lib.hid (by rw [sofar_start base T hlo]; exact SK.nil (Below.refl _ _))⟩
  case round =>
    obtain ⟨i, hli, hih, rfl, HS⟩ := hrel
    have BS := Lib.hid HS.out.bel
    by_cases hlt : i ≤ hi
    · have u0 : (i : Int) ≤ (hi : Int) := by omega
      have u1 : (0 : Int) ≤ (i : Int) := by omega
      have u2 : (i : Int) < ((n + 1 : Nat) : Int) := by omega
      have u3 : (i : Int) < (n : Int) + 1 := by omega
      have ri : IntKind.i64.wrap ((i : Int) + 1) = (i : Int) + 1 := IntWalk.i64_in _ (by omega)
      have hT := HT.out.next BS.out
      have p0 := hT.puts.cell i (by omega)
      have p1 := hT.puts.lt
      have HRD := Lib.hid (hT.read (i := i) (by omega))
      obtain ⟨vu, hvu⟩ : ∃ vu, vs i = vu := ⟨_, rfl⟩
      rw [hvu] at p0 HRD
      have hb0 := keep BS.out hbl HBX.out
      have hb1 : bx < wr.heap.size := block_lt hb0
      have HL := Lib.hid (HLEN.out i)
      clear hvu
      by_cases hlast : i = hi
      · have HNX : Hid (sofar base T lo hi (i + 1) = sofar base T lo hi i ++ T.puts i) := Lib.hid (by rw [hlast]; exact sofar_last base T lo hi)
        have w0 : (hi : Int) ≤ (i : Int) := by omega
        clear hT hlast
        generalize T.puts i = P at *
        go_wp2_with (at_builtin; refine wpList_appendSK W wr rfl _ _ rfl _ (sofar base T lo hi i) rfl HS.out vu P rfl HRD.out (by have := HL.out; omega) ?_; intro v3 w3 hv3; have HS3 := Lib.hid hv3; clear hv3)
        go_roundw
        case rel => exact ⟨i + 1, by omega, by omega, by first | rfl | go_num, Lib.hid (by rw [HNX.out]; exact HS3.out)⟩
        case measure => simp only [intOf]; omega
      · have g0 := HT.out.gone.cell i (by omega)
        have g1 := HT.out.gone.lt
        have w0 : (i : Int) < (hi : Int) := by omega
        have w1 : (i : Int) < (n : Int) := by omega
        have HG := Lib.hid (fun (hz : T.gone i = true) => sofar_gone (base := base) (T := T) (hi := hi) hli (by omega) hz)
        obtain ⟨x, hx⟩ : ∃ x, base[i]? = some x := ⟨base[i]'(by have := HN.out; omega), List.getElem?_eq_getElem _⟩
        have HKP := Lib.hid (fun (hz : T.gone i = false) => sofar_kept (base := base) (T := T) (hi := hi) hli (by omega) hz hx)
        have HX := Lib.hid hx
        clear hlast hx hT
        generalize T.puts i = P at *
        cases hgo : T.gone i
        · have HNX := Lib.hid (HKP.out hgo)
          rw [hgo] at g0
          obtain ⟨g2, off2, rfl, hg2, c2⟩ := StAt.get HB.out HX.out
          have G0 := Lib.hid g0
          clear HG HKP hgo g0
          go_wp2_with (first
            | (at_builtin; refine wpList_appendSK W wr rfl _ _ rfl _ (sofar base T lo hi i) rfl HS.out vu P rfl HRD.out (by have := HL.out; omega) ?_; intro v3 w3 hv3; have HS4 := Lib.hid (hv3.next (balloc (Below.refl _ _) (.cells #[.string x] 9))); have c3 := keep hv3.bel hg2 c2; have b3 := keep hv3.bel hbl HBX.out; have g3 := keep hv3.bel g1 G0.out; clear hv3 HRD)
            | (at_builtin; refine wpList_appendSK W _ rfl _ _ rfl _ (sofar base T lo hi i ++ P) rfl HS4.out _ [x] rfl (lit_one w3 x) (by have := HL.out; simp; omega) ?_; intro v5 w5 hv5; have HS5 := Lib.hid hv5; clear hv5))
          go_roundw
          case rel => exact ⟨i + 1, by omega, by omega, by first | rfl | go_num, Lib.hid (by rw [HNX.out]; exact HS5.out)⟩
          case measure => simp only [intOf]; omega
        · have HNX := Lib.hid (HG.out hgo)
          rw [hgo] at g0
          have G0 := Lib.hid g0
          clear HG HKP hgo g0
          go_wp2_with (at_builtin; refine wpList_appendSK W wr rfl _ _ rfl _ (sofar base T lo hi i) rfl HS.out vu P rfl HRD.out (by have := HL.out; omega) ?_; intro v3 w3 hv3; have HS4 := Lib.hid hv3; have g3 := keep hv3.bel g1 G0.out; clear hv3 HRD)
          go_roundw
          case rel => exact ⟨i + 1, by omega, by omega, by first | rfl | go_num, Lib.hid (by rw [HNX.out]; exact HS4.out)⟩
          case measure => simp only [intOf]; omega
    · have u0 : ¬ (i : Int) ≤ (hi : Int) := by omega
      have FIN : Hid (OwPost (made base T.gone T.puts lo hi) W (.returned u10) wr) := Lib.hid (by
        have e : i = hi + 1 := by omega
        have h := HS.out
        rw [e, sofar_end] at h
        exact ⟨_, rfl, h⟩)
      clear HS
      go_wp2_with fail
      go_ret
      exact FIN.out
end Go.Proofs.Ytokfnajgjhkepaa.MergeT
