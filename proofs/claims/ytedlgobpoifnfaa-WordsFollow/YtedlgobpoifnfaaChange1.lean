/-
  What an edit is made of (fustiankeep.Change), opened where it comes in; the edit that is made of it.
-/
import Derived.Test.YtedlgobpoifnfaaEditAt
import Derived.Test.YtedlgobpoifnfaaTexts
import Derived.ChangeSlices
import Derived.Lib.SmallJoins
import Derived.Deep.RegionHeld3
import Derived.Deep.Cut
import Derived.Deep.DeepCutAuto
namespace Go.Proofs.Ytedlgobpoifnfaa.ChgM
open Go.ChangeShapes Go.WideShapes Go.RowKit Kit EditM Lift Txt

structure ChgM where
  at_ : Int
  cut : Int
  ta : Option Addr
  tlen : Nat
  tcap : Nat
  zs : List Int
def ChgM.cs (m : ChgM) : List Value := [.int .i64 m.at_, .int .i64 m.cut, .slice m.ta m.tlen m.tcap]
theorem ChgM.cs_len (e : ChgM) : e.cs.length = 3 := rfl
def ChgM.has (W : World) (m : ChgM) : Prop := IsRow .i64 W m.ta m.tlen m.tcap m.zs
theorem isRow_next {w w' : World} {a : Option Addr} {len cap : Nat} {zs : List Int} (h : IsRow .i64 w a len cap zs) (hb : Below w.heap.size w w') : IsRow .i64 w' a len cap zs := by
  rcases h with h | ⟨x, e, h1, h2, h3, h4, h5⟩
  · exact .inl h
  · exact .inr ⟨x, e, h1, h2, h3, fun i hi => (hb.cell (block_lt (h4 i hi))).trans (h4 i hi), h5⟩
theorem ChgM.has.next {w w' : World} {m : ChgM} (h : m.has w) (hb : Below w.heap.size w w') : m.has w' := isRow_next h hb

theorem open_change {H : Type} {enc : TypeId × Value → H} {W : World} {n : Nat} {cs : List Value} {x : DataW H × List MemPlace} (h : DataW.trod enc Try.prog W 0 (fun _ => true) true n 61 cs = some x) : ∃ m : ChgM, cs = m.cs ∧ m.has W := by
  obtain ⟨xs, k, _, _, hl, hxl, hf⟩ := DataW.trod_struct Try.underlying61 h
  have hc : Try.prog.cellsOf 61 = 3 := by kernel_rfl
  have h1 : Try.prog.cellsOf 3 = 1 := by kernel_rfl
  have h2 : Try.prog.cellsOf 28 = 1 := by kernel_rfl
  rw [hc] at hl
  obtain ⟨y0, y1, y2, rfl⟩ := list3 hxl
  obtain ⟨v0, v1, v2, rfl⟩ := list3 hl
  have g0 := hf 0 _ rfl
  have g1 := hf 1 _ rfl
  have g2 := hf 2 _ rfl
  simp [h1, h2] at g0 g1 g2
  obtain ⟨z0, e0, -⟩ := DataW.trod_int Try.underlying3 g0
  obtain ⟨z1, e1, -⟩ := DataW.trod_int Try.underlying3 g1
  simp at e0 e1
  subst e0 e1
  rcases open_ints Try.underlying28 Try.underlying3 (by kernel_rfl) g2 with ⟨hcs, _⟩ | ⟨x, l, c, zs, hcs, _, hle, hm, hz, _, hcell, hwz⟩
  · simp at hcs; subst hcs
    exact ⟨⟨z0, z1, none, 0, 0, []⟩, rfl, .inl ⟨rfl, rfl, rfl, rfl⟩⟩
  · simp at hcs; subst hcs
    exact ⟨⟨z0, z1, some x, l, c, zs⟩, rfl, .inr ⟨_, rfl, hle, hm, by simpa using hz, hcell, hwz⟩⟩
set_option maxRecDepth 100000 in
theorem open_changeV {H : Type} {enc : TypeId × Value → H} {W : World} {r : Reach} {b0 : Nat} {v : Value} {d : DataW H} {p : List MemPlace} (hv : Value.okWide Try.prog W r b0 61 v) (h : DataW.Trod enc Try.prog W 0 (fun _ => true) true 61 v d p) :
    ∃ e : ChgM, v = .agg #[.int .i64 e.at_, .int .i64 e.cut, .slice e.ta e.tlen e.tcap] ∧ e.has W := by
  obtain ⟨c0, c1, c2, y0, y1, y2, m, rfl, hd, _, hy0, hy1, hy2⟩ := Joins.open_agg3 Try.underlying61 (by kernel_rfl) (by kernel_rfl) hv h
  obtain ⟨z0, e0, -⟩ := DataW.trod_int Try.underlying3 hy0
  obtain ⟨z1, e1, -⟩ := DataW.trod_int Try.underlying3 hy1
  simp at e0 e1
  subst e0 e1
  rcases open_ints Try.underlying28 Try.underlying3 (by kernel_rfl) hy2 with ⟨hcs, _⟩ | ⟨x, l, c, zs, hcs, _, hle, hm, hz, _, hcell, hwz⟩
  · simp at hcs; subst hcs
    exact ⟨⟨z0, z1, none, 0, 0, []⟩, rfl, .inl ⟨rfl, rfl, rfl, rfl⟩⟩
  · simp at hcs; subst hcs
    exact ⟨⟨z0, z1, some x, l, c, zs⟩, rfl, .inr ⟨_, rfl, hle, hm, by simpa using hz, hcell, hwz⟩⟩

/-- the text of an edit -/
def ChgM.put (c : ChgM) : ByteArray := textS ((c.zs.take c.tlen).take 8)
theorem ChgM.put_size (c : ChgM) : c.put.size ≤ 8 := by unfold ChgM.put; rw [textS_size]; simp only [List.length_take]; omega
/-- the edit of a text of so many bytes -/
def edOf (c : ChgM) (n : Int) : EdM := ⟨c.at_ % (n + 1), c.cut % (min (n - c.at_ % (n + 1)) 12 + 1), c.put⟩
theorem edOf_facts (c : ChgM) {n : Int} (h : 0 ≤ n) : 0 ≤ (edOf c n).at_ ∧ (edOf c n).at_ ≤ n ∧ 0 ≤ (edOf c n).cut ∧ (edOf c n).cut ≤ n - (edOf c n).at_ ∧ (edOf c n).cut ≤ 12 ∧ (edOf c n).put.size ≤ 8 := by
  have h1 := Int.emod_nonneg c.at_ (show n + 1 ≠ 0 by omega)
  have h2 := Int.emod_lt_of_pos c.at_ (show 0 < n + 1 by omega)
  have h3 := Int.emod_nonneg c.cut (show min (n - c.at_ % (n + 1)) 12 + 1 ≠ 0 by omega)
  have h4 := Int.emod_lt_of_pos c.cut (show 0 < min (n - c.at_ % (n + 1)) 12 + 1 by omega)
  refine ⟨h1, ?_, h3, ?_, ?_, c.put_size⟩
  · show c.at_ % (n + 1) ≤ n; omega
  · show c.cut % _ ≤ n - c.at_ % (n + 1); omega
  · show c.cut % _ ≤ 12; omega
theorem edOf_ok (c : ChgM) {n : Int} (h : 0 ≤ n) (h1 : n ≤ 1000) : (edOf c n).ok := by
  obtain ⟨a, b, c, d, e, f⟩ := edOf_facts c h
  exact ⟨by omega, by omega, by omega, by omega, by omega⟩
theorem edOf_fits (c : ChgM) (t : Bs) (h : t.length ≤ 592) : (edOf c t.length).fits t := by
  obtain ⟨a, b, c, d, e, f⟩ := edOf_facts c (n := (t.length : Int)) (by omega)
  exact ⟨a, c, d, by omega, by omega⟩

set_option maxRecDepth 100000 in
set_option maxHeartbeats 1000000 in
theorem editOf (c : ChgM) (n : Int) (w : World) (hc : c.has w) (h0 : 0 ≤ n) (h1 : n ≤ 1000) :
    Calls Try.prog 36 #[.agg #[.int .i64 c.at_, .int .i64 c.cut, .slice c.ta c.tlen c.tcap], .int .i64 n] w fun e w' => e = .returned (.agg #[.int .i64 (edOf c n).at_, .int .i64 (edOf c n).cut, .string (edOf c n).put]) ∧ Below w.heap.size w w' := by
  have P1 := Lib.hid (fun W => picked c.at_ (n + 1) W (by omega) (by omega))
  have TO := Lib.hid (fun W (hW : Below w.heap.size w W) => textOf c.ta c.tlen c.tcap c.zs 8 W (hc.next hW) (by omega))
  have x1 := Int.emod_nonneg c.at_ (show n + 1 ≠ 0 by omega)
  have x2 := Int.emod_lt_of_pos c.at_ (show 0 < n + 1 by omega)
  have P2 := Lib.hid (fun W => picked c.cut (min (n - c.at_ % (n + 1)) 12 + 1) W (by omega) (by omega))
  have E : Hid (edOf c n = ⟨c.at_ % (n + 1), c.cut % (min (n - c.at_ % (n + 1)) 12 + 1), textS ((c.zs.take c.tlen).take 8)⟩) := Lib.hid rfl
  obtain ⟨ec, hec⟩ : ∃ x, x = c.cut % (min (n - c.at_ % (n + 1)) 12 + 1) := ⟨_, rfl⟩
  rw [← hec] at P2 E
  clear hec hc
  generalize c.at_ % (n + 1) = ea at *
  generalize textS ((c.zs.take c.tlen).take 8) = ep at *
  have ew1 : IntKind.i64.wrap (n - ea) = n - ea := IntWalk.i64_in _ (by omega)
  by_cases h12 : 12 < n - ea
  all_goals
    first
      | (rw [show min (n - ea) 12 + 1 = 13 by omega] at P2
         have ew2 : IntKind.i64.wrap 13 = 13 := by decide)
      | (rw [show min (n - ea) 12 + 1 = n - ea + 1 by omega] at P2
         have ew2 : IntKind.i64.wrap ((if 12 < n - ea then 12 else n - ea) + 1) = n - ea + 1 := by rw [if_neg h12]; exact IntWalk.i64_in _ (by omega)
         have ew3 : IntKind.i64.wrap (n - ea + 1) = n - ea + 1 := IntWalk.i64_in _ (by omega))
    go_enter Try.func36, Try.ntmps36
    go_wp2_with fail
    refine (P1.out _).mono ?_
    rintro e w1 ⟨rfl, rfl⟩
    go_upto_region 2 with fail
    go_region_held3 (fun W => W.cell? ⟨w.heap.size, 1, none⟩ = some (.int .i64 c.cut) ∧ W.cell? ⟨w.heap.size, 2, none⟩ = some (.slice c.ta c.tlen c.tcap))
      ((refine ⟨?_, ?_⟩ <;> simp))
      (first | (go_at_call 23; ((with_reducible refine (P2.out _).mono ?_); rintro e wz ⟨rfl, rfl⟩)) | (go_at_call 17; refine (TO.out _ ((balloc (balloc (Below.refl _ _) _) _).drew)).mono ?_; rintro e wz ⟨rfl, rfl⟩))
    go_wp2_with fail
    refine bodyPost_ret (v := .agg #[.int .i64 ea, .int .i64 ec, .string ep]) (by simp [results, Try.results36, go_sem, *]) rfl ⟨by rw [E.out], (balloc (balloc (Below.refl _ _) _) _).drew⟩

end Go.Proofs.Ytedlgobpoifnfaa.ChgM
