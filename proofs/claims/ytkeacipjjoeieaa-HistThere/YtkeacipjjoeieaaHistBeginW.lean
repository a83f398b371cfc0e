/-
  The law HistBegin.
-/
import Derived.Test.YtkeacipjjoeieaaHistEd
import Derived.Test.YtkeacipjjoeieaaHistCount
import Derived.Test.YtkeacipjjoeieaaHistLaws
namespace Go.Proofs.Ytkeacipjjoeieaa.HistK
open Go.RowKit Kit EditM HistM HistC Lift Txt

theorem countsV (t : Bs) (l : List DeedM) (v : Value) (w : World) (hv : DdsV w v l) (hok : ∀ d ∈ l, d.ed.ok) (ht : t.length ≤ 600) (h80 : l.length ≤ 80) :
    Calls Try.prog 13 #[.string (str t), v] w (CtPost t l w) := by
  obtain ⟨a, cap, rfl, _, ha, _⟩ := hv
  exact counts t l a cap w ha hok ht h80
theorem mem_rep {l : List DeedM} {d e : DeedM} {n : Nat} (hl : ∀ d ∈ l, d.ed.ok) (he : e.ed.ok) (hd : d ∈ l ++ List.replicate n e) : d.ed.ok := by
  rcases List.mem_append.1 hd with h | h
  · exact hl d h
  · rw [(List.mem_replicate.1 h).2]; exact he
theorem Row.at_ {w : World} {a : Option Addr} {n c : Nat} {xs : List Value} (h : Row w (.slice a n c) xs) {i : Nat} {x : Value} (hi : xs[i]? = some x) : ∃ b off, a = some ⟨b, off, none⟩ ∧ b < w.heap.size ∧ w.cell? ⟨b, off + i, none⟩ = some x := by
  obtain ⟨a', c', e, h⟩ := h
  cases e
  have hlt := (List.getElem?_eq_some_iff.1 hi).1
  obtain ⟨b, off, rfl, hb, hc⟩ := h (by omega)
  exact ⟨b, off, rfl, hb, (hc i hlt).trans hi⟩

set_option maxRecDepth 100000 in
set_option maxHeartbeats 2000000 in
theorem histBegin (a0 : Option Addr) (len0 cap0 : Nat) (z0 : List Int) (a1 : Option Addr) (cap1 : Nat) (l : List TurnM) (w : World) (h0 : IsRow .i64 w a0 len0 cap0 z0) (hl : TnsAt w a1 l) (hh : ∀ c ∈ l, c.chg.has w) (hle : l.length ≤ cap1) (hmx : cap1 ≤ maxLen) {X : Prop} (_ : X) :
    Calls Try.prog 6 #[.slice a0 len0 cap0, .slice a1 l.length cap1] w fun e w' => e = .returned (.bool true) ∧ Below w.heap.size w w' := by
  obtain ⟨i0, hi, hz0, hz1, hz2⟩ := info_parts infoDeed
  have HI := Lib.hid (And.intro hi (And.intro hz0 (And.intro hz1 hz2)))
  clear hi hz0 hz1 hz2
  unfold maxLen at hmx
  have TO := Lib.hid (textOf a0 len0 cap0 z0 40 w h0 (by omega))
  have hs : (textS ((z0.take len0).take 40)).size ≤ 40 := by rw [textS_size, List.length_take]; omega
  have HS := Lib.hid (str_list (textS ((z0.take len0).take 40)))
  generalize textS ((z0.take len0).take 40) = s at *
  have DS := Lib.hid (deeds l a1 cap1 20 s.size w hl hh (by omega) (by omega) (by omega))
  have hdl := dsOf_len l 20 (s.size : Int)
  have HOK := Lib.hid (dsOf_ok (n := (s.size : Int)) (by omega) (by omega) l 20)
  generalize dsOf l 20 (s.size : Int) = ds at *
  have ht : s.data.toList.length ≤ 600 := by rw [size_list]; omega
  have HT := Lib.hid ht
  have BG := Lib.hid (begin_ ht ds hdl)
  have LST := Lib.hid (TL.texts_last (TL.start s.data.toList) (l := ds ++ List.replicate 20 uD) (n := ds.length + 19) (by simp))
  rw [BG.out.2] at LST
  have HD := Lib.hid (fun W u (hu : DdsV W u (ds ++ List.replicate 20 uD)) => histed s.data.toList _ u W hu (fun d hd => mem_rep HOK.out (plain_ok 3) hd) ht (by simp; omega))
  have CT := Lib.hid (fun W u (hu : DdsV W u (ds ++ List.replicate 20 uD)) => countsV s.data.toList _ u W hu (fun d hd => mem_rep HOK.out (plain_ok 3) hd) ht (by simp; omega))
  unfold CtPost at CT
  rw [BG.out.1, HS.out] at CT
  rw [HS.out] at HD
  clear h0 hl hh ht
  go_enter Try.func6, Try.ntmps6
  go_wp2_with fail
  refine TO.out.mono ?_
  rintro x w1 ⟨rfl, rfl⟩
  go_wp2_with fail
  refine DS.out.mono ?_
  rintro x w1 ⟨v1, rfl, hv1⟩
  have V1 := Lib.hid hv1
  clear hv1 TO DS
  go_wp2_with fail
  go_loopw [6, 7] (fun v i wr => ∃ k : Nat, k ≤ 20 ∧ i = .int .i64 (k : Int) ∧ DsO w (ds ++ List.replicate k uD) v wr) (fun _ i _ => 20 - (intOf i).toNat)
  case atStart => exact ⟨0, by omega, rfl, by simpa using V1.out⟩
  case round =>
    obtain ⟨k, hk, rfl, hds⟩ := hrel
    by_cases hlt : k < 20
    · have E2 := Lib.hid (hds.next (balloc (Below.refl _ _) (.cells #[.int .i64 3, .int .i64 0, .int .i64 0, .string ⟨#[]⟩] 45)))
      have hlen : (ds ++ List.replicate k uD).length ≤ 40 := by simp; omega
      have NX : Hid (ds ++ List.replicate (k + 1) uD = ds ++ List.replicate k uD ++ [uD]) := Lib.hid (by rw [List.replicate_succ', List.append_assoc])
      clear hds
      generalize ds ++ List.replicate k uD = dk at *
      go_wp2_with (at_builtin; refine wpList_append_rx _ rfl _ _ 22 rfl 45 i0 _ 4 40 Try.underlying22 HI.out.1 HI.out.2.1 HI.out.2.2.1 HI.out.2.2.2 rfl (by decide) u6 dk.length (flatC DeedM.cs dk) rfl E2.out.row ⟨wr.heap.size, 0, none⟩ 1 [.int .i64 3, .int .i64 0, .int .i64 0, .string ⟨#[]⟩] rfl rfl (cells_six_new wr [.int .i64 3, .int .i64 0, .int .i64 0, .string ⟨#[]⟩] _) (by simp [Value.oneCell']) (by unfold maxLen; omega) (by omega) ?_; intro a4 cap4 w4 hown4 hgrow4 hat4; have FIN := Lib.hid (RO.push E2.out (o := uD) hown4 hgrow4 hat4); clear hown4 hgrow4 hat4)
      go_roundw
      case rel => exact ⟨k + 1, by omega, by go_num, by rw [NX.out]; exact FIN.out⟩
      case measure => simp [intOf]; omega
    · obtain rfl : k = 20 := by omega
      have V2 := Lib.hid hds
      clear hds V1
      have hl2 : (ds ++ List.replicate 20 uD).length = ds.length + 20 := by simp
      unfold HdPost at HD
      rw [hl2] at HD
      clear hl2
      generalize ds ++ List.replicate 20 uD = dk at *
      obtain ⟨m, hm⟩ : ∃ m, m = ds.length := ⟨_, rfl⟩
      rw [← hm] at hdl HD LST
      clear hm
      go_wp2_with fail
      refine (HD.out _ _ (V2.out.sl DeedM.cs_len)).mono ?_
      rintro x w2 ⟨a1, c1, a2, c2, rfl, ht, _, hb⟩
      have R2 := Lib.hid ht
      have B2 := Lib.hid hb
      clear ht hb HD
      have e20 : (w2.heap.size : Int) = w2.heap.size := rfl
      clear e20
      go_wp2_with fail
      refine (CT.out _ _ ((V2.out.next B2.out).sl DeedM.cs_len)).mono ?_
      rintro x w3 ⟨rfl, hb⟩
      have B3 := Lib.hid (bstep (bstep V2.out.bel B2.out) hb)
      obtain ⟨b, off, rfl, hbl, hcell⟩ := Row.at_ (R2.out.next hb) (i := m + 19) (x := .string s) (by rw [List.getElem?_map, LST.out]; show some (Value.string (str s.data.toList)) = _; rw [HS.out])
      clear hb CT R2
      generalize (((TL.start s.data.toList).run dk).ts.length : Int) = mm at *
      go_wp2_with fail
      go_ret
      exact ⟨rfl, B3.out⟩

end Go.Proofs.Ytkeacipjjoeieaa.HistK
