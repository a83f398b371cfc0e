/-
  What deeds are made of (fustiankeep.Turn), and the deeds that are made of them (fustiankeep.Deeds).
-/
import Derived.Test.YtkeacipjjoeieaaRowO
import Derived.Test.YtkeacipjjoeieaaHistDeed
import Derived.Test.YtkeacipjjoeieaaChange1
import Derived.Test.YtkeacipjjoeieaaHistRecord
namespace Go.Proofs.Ytkeacipjjoeieaa.HistK
open Go.ChangeShapes Go.WideShapes Go.RowKit Kit EditM ChgM HistM HistC Lift Txt

structure TurnM where
  kind : Int
  chg : ChgM.ChgM
def TurnM.cs (m : TurnM) : List Value := [.int .i64 m.kind, .int .i64 m.chg.at_, .int .i64 m.chg.cut, .slice m.chg.ta m.chg.tlen m.chg.tcap]
theorem TurnM.cs_len (e : TurnM) : e.cs.length = 4 := rfl
abbrev TnsAt (w : World) (a : Option Addr) (l : List TurnM) : Prop := SlAt 4 TurnM.cs w a l
theorem TnsAt.get {w : World} {a : Option Addr} {l : List TurnM} (h : TnsAt w a l) {i : Nat} {d : TurnM} (hi : l[i]? = some d) : ∃ g off, a = some ⟨g, off, none⟩ ∧ g < w.heap.size ∧ w.cell? ⟨g, off + i * 4, none⟩ = some (.int .i64 d.kind) ∧ w.cell? ⟨g, off + i * 4 + 1, none⟩ = some (.int .i64 d.chg.at_) ∧ w.cell? ⟨g, off + i * 4 + 2, none⟩ = some (.int .i64 d.chg.cut) ∧ w.cell? ⟨g, off + i * 4 + 3, none⟩ = some (.slice d.chg.ta d.chg.tlen d.chg.tcap) := by
  obtain ⟨g, off, h0, h1, h2⟩ := SlAt.cell h i d hi
  exact ⟨g, off, h0, h1, h2 0 (by omega), h2 1 (by omega), h2 2 (by omega), h2 3 (by omega)⟩
theorem open_turn {H : Type} {enc : TypeId × Value → H} {W : World} {n : Nat} {cs : List Value} {x : DataW H × List MemPlace} (h : DataW.trod enc Try.prog W 0 (fun _ => true) true n 62 cs = some x) : ∃ d : TurnM, cs = d.cs ∧ d.chg.has W := by
  obtain ⟨xs, k, _, hx, hl, hxl, hf⟩ := DataW.trod_struct Try.underlying62 h
  have hc : Try.prog.cellsOf 62 = 4 := by kernel_rfl
  have h1 : Try.prog.cellsOf 3 = 1 := by kernel_rfl
  have h2 : Try.prog.cellsOf 60 = 3 := by kernel_rfl
  rw [hc] at hl
  obtain ⟨y0, y1, rfl⟩ := list2 hxl
  obtain ⟨v0, v1, v2, v3, rfl⟩ := list4 hl
  have g0 := hf 0 _ rfl
  have g1 := hf 1 _ rfl
  simp [h1, h2] at g0 g1
  obtain ⟨z0, e0, _, w0⟩ := DataW.trod_int Try.underlying3 g0
  simp at e0
  subst e0
  obtain ⟨e, he, hok⟩ := open_change g1
  refine ⟨⟨z0, e⟩, ?_, hok⟩
  simp [ChgM.cs] at he
  obtain ⟨rfl, rfl, rfl⟩ := he
  rfl
theorem open_turns {H : Type} {enc : TypeId × Value → H} {W : World} {fuel : Nat} {a : Option Addr} {len cap : Nat} {x : DataW H × List MemPlace} (h : DataW.trod enc Try.prog W 0 (fun _ => true) true fuel 36 [.slice a len cap] = some x) (hs : ∀ m ∈ x.1.weights Try.prog 36, m ≤ reachBytes) :
    ∃ l : List TurnM, len = l.length ∧ TnsAt W a l ∧ (∀ e ∈ l, e.chg.has W) ∧ len ≤ cap ∧ cap ≤ maxLen ∧ ((a = none ∧ cap = 0) ∨ ∃ g off, a = some ⟨g, off, none⟩ ∨ len = 0) :=
  open_list Try.underlying36 (by kernel_rfl) (by omega) TurnM.cs_len (fun d => d.chg.has W) (fun _ _ _ h _ => open_turn h) h hs

/-- the deed of a turn, for a text of so many bytes -/
def deedOf (n : Int) (t : TurnM) : DeedM := if 4 < t.kind % 8 then ⟨2 + t.kind % 8 - 5, ⟨0, 0, ⟨#[]⟩⟩⟩ else ⟨1, edOf t.chg n⟩
theorem deedOf_ok {n : Int} (h : 0 ≤ n) (h1 : n ≤ 1000) (t : TurnM) : (deedOf n t).ed.ok := by
  unfold deedOf
  split
  · exact ⟨by show (_ : Int) ≤ 0; omega, by show (0 : Int) ≤ _; omega, by show (_ : Int) ≤ 0; omega, by show (0 : Int) ≤ _; omega, by show (0 : Nat) ≤ _; omega⟩
  · exact edOf_ok _ h h1
def dsOf (l : List TurnM) (m : Nat) (n : Int) : List DeedM := (l.take m).map (deedOf n)
theorem dsOf_ok {n : Int} (h : 0 ≤ n) (h1 : n ≤ 1000) (l : List TurnM) (m : Nat) : ∀ d ∈ dsOf l m n, d.ed.ok := by
  intro d hd
  obtain ⟨t, _, rfl⟩ := List.mem_map.1 hd
  exact deedOf_ok h h1 t
theorem dsOf_len (l : List TurnM) (m : Nat) (n : Int) : (dsOf l m n).length ≤ m := by unfold dsOf; rw [List.length_map, List.length_take]; omega
theorem infoDeed : (Try.prog.info? 45).map (fun i => (i.zero, i.size, i.bytes)) = some (some (.agg #[.int .i64 0, .int .i64 0, .int .i64 0, .string ⟨#[]⟩]), 4, 40) := by kernel_rfl
abbrev DsO (w : World) (l : List DeedM) (v : Value) (w' : World) : Prop := RO 4 DeedM.cs w l v w'
def DsPost (w : World) (l : List DeedM) (e : Ending) (w' : World) : Prop := ∃ v, e = .returned v ∧ DsO w l v w'
set_option maxRecDepth 100000 in
set_option maxHeartbeats 2000000 in
theorem deeds (l : List TurnM) (al : Option Addr) (cap m n : Nat) (w : World) (hl : TnsAt w al l) (hh : ∀ c ∈ l, c.chg.has w) (hlen : l.length ≤ 9223372036854775807) (hm : m ≤ 100) (hn : n ≤ 400) :
    Calls Try.prog 15 #[.slice al l.length cap, .int .i64 (m : Int), .int .i64 (n : Int)] w (DsPost w (dsOf l m n)) := by
  obtain ⟨i0, hi, hz0, hz1, hz2⟩ := info_parts infoDeed
  have HI := Lib.hid (And.intro hi (And.intro hz0 (And.intro hz1 hz2)))
  clear hi hz0 hz1 hz2
  have HL := Lib.hid hl
  have HH := Lib.hid hh
  clear hl hh
  obtain ⟨N, hN⟩ : ∃ N, l.length = N := ⟨_, rfl⟩
  have HN := Lib.hid hN
  rw [hN] at hlen ⊢
  clear hN
  go_enter Try.func15, Try.ntmps15
  go_wp2_with fail
  go_loopw [7, 8] (fun v i wr => ∃ k : Nat, k ≤ N ∧ k ≤ m ∧ i = .int .i64 (k : Int) ∧ DsO w ((l.take k).map (deedOf n)) v wr) (fun _ i _ => m - (intOf i).toNat)
  case atStart => exact ⟨0, by omega, by omega, rfl, RO.nil _⟩
  case round =>
    obtain ⟨k, hk, hkm, rfl, hes⟩ := hrel
    have HES := Lib.hid hes
    clear hes
    by_cases hlt : k < N
    · by_cases hlm : k < m
      · obtain ⟨c, hc⟩ : ∃ c, l[k]? = some c := ⟨l[k]'(by have := HN.out; omega), by simp [HN.out, hlt]⟩
        obtain ⟨g, off, rfl, hg, c0, c1, c2, c3⟩ := TnsAt.get (HL.out.next HES.out.bel) hc
        have EO := Lib.hid (fun W (hW : Below w.heap.size w W) => editOf c.chg n W ((HH.out c (List.mem_of_getElem? hc)).next hW) (by omega) (by omega))
        have NX : Hid ((l.take (k + 1)).map (deedOf n) = (l.take k).map (deedOf n) ++ [deedOf n c]) := Lib.hid (by rw [take_next hc, List.map_append]; rfl)
        have PK := Lib.hid (fun W => picked c.kind 8 W (by omega) (by omega))
        have LN : Hid (((l.take k).map (deedOf n)).length = k) := Lib.hid (by rw [List.length_map, List.length_take, HN.out]; omega)
        have DO : Hid (deedOf n c = if 4 < c.kind % 8 then ⟨2 + c.kind % 8 - 5, ⟨0, 0, ⟨#[]⟩⟩⟩ else ⟨1, edOf c.chg n⟩) := Lib.hid rfl
        have hp1 := Int.emod_nonneg c.kind (show (8 : Int) ≠ 0 by omega)
        have hp2 := Int.emod_lt_of_pos c.kind (show (0 : Int) < 8 by omega)
        obtain ⟨pk, hpk⟩ : ∃ pk, pk = c.kind % 8 := ⟨_, rfl⟩
        rw [← hpk] at PK DO hp1 hp2
        clear hpk hc
        generalize edOf c.chg n = ed at *
        obtain ⟨a, cc, p⟩ := ed
        obtain ⟨knd, ac, acc, ta, tlen, tcap, zs⟩ := c
        dsimp only at *
        generalize (l.take k).map (deedOf n) = ds at *
        go_wp2_with fail
        refine (EO.out _ HES.out.bel).mono ?_
        rintro x w1 ⟨rfl, hb1⟩
        have E1 := Lib.hid (HES.out.next hb1)
        obtain ⟨hc1, hf1, _⟩ := bfacts hb1
        have hz1 : g < w1.heap.size := Nat.lt_of_lt_of_le hg hb1.size
        clear hb1 EO
        go_wp2_with fail
        refine (PK.out _).mono ?_
        rintro x w2 ⟨rfl, rfl⟩
        by_cases h4 : 4 < pk
        · rw [if_pos h4] at DO
          have E2 := Lib.hid ((E1.out.next (balloc (Below.refl _ _) (.cells #[.int .i64 (2 + pk - 5), .int .i64 0, .int .i64 0, .string ⟨#[]⟩] 45))).next (balloc (Below.refl _ _) (.cells #[.int .i64 (2 + pk - 5), .int .i64 0, .int .i64 0, .string ⟨#[]⟩] 45)))
          have hds : ds.length ≤ 100 := by rw [LN.out]; omega
          have HNEW : Hid (∀ (j : Nat) u, [Value.int .i64 (2 + pk - 5), .int .i64 0, .int .i64 0, .string ⟨#[]⟩][j]? = some u → ((w1.alloc (.cells #[.int .i64 (2 + pk - 5), .int .i64 0, .int .i64 0, .string ⟨#[]⟩] 45)).alloc (.cells #[.int .i64 (2 + pk - 5), .int .i64 0, .int .i64 0, .string ⟨#[]⟩] 45)).cell? ((⟨w1.heap.size + 1, 0, none⟩ : Addr).add j) = some u) := Lib.hid (by
            have := cells_six_new (w1.alloc (.cells #[.int .i64 (2 + pk - 5), .int .i64 0, .int .i64 0, .string ⟨#[]⟩] 45)) [.int .i64 (2 + pk - 5), .int .i64 0, .int .i64 0, .string ⟨#[]⟩] 45
            simpa using this)
          go_wp2_with (at_builtin; refine wpList_append_rx _ rfl _ _ 22 rfl 45 i0 _ 4 40 Try.underlying22 HI.out.1 HI.out.2.1 HI.out.2.2.1 HI.out.2.2.2 rfl (by decide) u7 ds.length (flatC DeedM.cs ds) rfl E2.out.row ⟨w1.heap.size + 1, 0, none⟩ 1 [.int .i64 (2 + pk - 5), .int .i64 0, .int .i64 0, .string ⟨#[]⟩] rfl rfl HNEW.out (by simp [Value.oneCell']) (by unfold maxLen; omega) (by omega) ?_; intro a4 cap4 w4 hown4 hgrow4 hat4; have FIN := Lib.hid (RO.push E2.out (o := deedOf n ⟨knd, ac, acc, ta, tlen, tcap, zs⟩) (by rw [DO.out]; exact hown4) hgrow4 hat4); clear hown4 hgrow4 hat4)
          go_roundw
          case rel => exact ⟨k + 1, by omega, by omega, by go_num, by rw [NX.out]; exact FIN.out⟩
          case measure => simp [intOf]; omega
        · rw [if_neg h4] at DO
          have E2 := Lib.hid ((E1.out.next (balloc (Below.refl _ _) (.cells #[.int .i64 1, .int .i64 a, .int .i64 cc, .string p] 45))).next (balloc (Below.refl _ _) (.cells #[.int .i64 1, .int .i64 a, .int .i64 cc, .string p] 45)))
          have hds : ds.length ≤ 100 := by rw [LN.out]; omega
          have HNEW : Hid (∀ (j : Nat) u, [Value.int .i64 1, .int .i64 a, .int .i64 cc, .string p][j]? = some u → ((w1.alloc (.cells #[.int .i64 1, .int .i64 a, .int .i64 cc, .string p] 45)).alloc (.cells #[.int .i64 1, .int .i64 a, .int .i64 cc, .string p] 45)).cell? ((⟨w1.heap.size + 1, 0, none⟩ : Addr).add j) = some u) := Lib.hid (by
            have := cells_six_new (w1.alloc (.cells #[.int .i64 1, .int .i64 a, .int .i64 cc, .string p] 45)) [.int .i64 1, .int .i64 a, .int .i64 cc, .string p] 45
            simpa using this)
          go_wp2_with (at_builtin; refine wpList_append_rx _ rfl _ _ 22 rfl 45 i0 _ 4 40 Try.underlying22 HI.out.1 HI.out.2.1 HI.out.2.2.1 HI.out.2.2.2 rfl (by decide) u7 ds.length (flatC DeedM.cs ds) rfl E2.out.row ⟨w1.heap.size + 1, 0, none⟩ 1 [.int .i64 1, .int .i64 a, .int .i64 cc, .string p] rfl rfl HNEW.out (by simp [Value.oneCell']) (by unfold maxLen; omega) (by omega) ?_; intro a4 cap4 w4 hown4 hgrow4 hat4; have FIN := Lib.hid (RO.push E2.out (o := deedOf n ⟨knd, ac, acc, ta, tlen, tcap, zs⟩) (by rw [DO.out]; exact hown4) hgrow4 hat4); clear hown4 hgrow4 hat4)
          go_roundw
          case rel => exact ⟨k + 1, by omega, by omega, by go_num, by rw [NX.out]; exact FIN.out⟩
          case measure => simp [intOf]; omega
      · obtain rfl : k = m := by omega
        have HV : Hid (DsO w (dsOf l k n) u7 wr) := Lib.hid HES.out
        go_wp2_with fail
        go_ret
        exact ⟨_, rfl, HV.out⟩
    · obtain rfl : k = N := by omega
      have HV : Hid (DsO w (dsOf l m n) u7 wr) := Lib.hid (by
        have := HES.out
        unfold dsOf
        rw [List.take_of_length_le (by rw [HN.out]; exact hkm)]
        rw [List.take_of_length_le (by rw [HN.out]; exact Nat.le_refl _)] at this
        exact this)
      go_wp2_with fail
      go_ret
      exact ⟨_, rfl, HV.out⟩

end Go.Proofs.Ytkeacipjjoeieaa.HistK
