/-
  Package merge: firstRegion.
-/
import Derived.Test.YtokfnajgjhkepaaMergeGrow
import Derived.Test.YtokfnajgjhkepaaBnd1
namespace Go.Proofs.Ytokfnajgjhkepaa.MergeT
open Go.RowKit Kit LineM StrM DiffM DiffA DiffR DiffP DiffK HistM

def hks (rs : Nat → List HV) : Nat → List (Hk ByteArray) := fun j => (rs j).map Prod.fst
/-- the box of the sides: what is left of each of them -/
structure SB (w : World) (sb : Nat) (us : Nat → Value) (rs : Nat → List HV) : Prop where
  sl : sb < w.heap.size
  su : ∀ j, j < 2 → w.cell? ⟨sb, j, none⟩ = some (us j)
  sf : ∀ j, j < 2 → w.frozen? ⟨sb, j, none⟩ = false
  rd : ∀ j, j < 2 → SlV 3 hkc w (us j) (rs j) ∧ (us j).ownBlock ≠ some sb
/-- the first hunk of the sides ahead of k -/
def MinTo (rs : Nat → List HV) (k : Nat) (m : Int) : Prop :=
  (m = 9223372036854775807 ∧ ∀ j, j < k → rs j = []) ∨ (∃ j h r, j < k ∧ rs j = h :: r ∧ m = (h.1.b : Int)) ∧ ∀ j h r, j < k → rs j = h :: r → m ≤ (h.1.b : Int)
theorem MinTo.skip {rs : Nat → List HV} {k : Nat} {m : Int} (h : MinTo rs k m) (hk : rs k = []) : MinTo rs (k + 1) m := by
  rcases h with ⟨h1, h2⟩ | ⟨⟨j, x, r, h1, h2, h3⟩, h4⟩
  · refine .inl ⟨h1, fun j hj => ?_⟩
    by_cases e : j = k
    · rw [e]; exact hk
    · exact h2 j (by omega)
  · refine .inr ⟨⟨j, x, r, by omega, h2, h3⟩, fun j' x' r' hj hr => ?_⟩
    by_cases e : j' = k
    · rw [e, hk] at hr; cases hr
    · exact h4 j' x' r' (by omega) hr
theorem MinTo.le {rs : Nat → List HV} {k : Nat} {m : Int} (h : MinTo rs k m) {x : HV} {r : List HV} (hk : rs k = x :: r) (hx : (x.1.b : Int) ≤ m) : MinTo rs (k + 1) (x.1.b : Int) := by
  refine .inr ⟨⟨k, x, r, Nat.lt_succ_self _, hk, rfl⟩, fun j' x' r' hj hr => ?_⟩
  by_cases e : j' = k
  · rw [e, hk] at hr; cases hr; exact Int.le_refl _
  · rcases h with ⟨h1, h2⟩ | ⟨_, h4⟩
    · rw [h2 j' (by omega)] at hr; cases hr
    · have := h4 j' x' r' (by omega) hr; omega
theorem MinTo.gt {rs : Nat → List HV} {k : Nat} {m : Int} (h : MinTo rs k m) {x : HV} {r : List HV} (hk : rs k = x :: r) (hx : m < (x.1.b : Int)) (hb : (x.1.b : Int) ≤ 1000) : MinTo rs (k + 1) m := by
  rcases h with ⟨h1, h2⟩ | ⟨⟨j, y, q, h1, h2, h3⟩, h4⟩
  · omega
  · refine .inr ⟨⟨j, y, q, by omega, h2, h3⟩, fun j' x' r' hj hr => ?_⟩
    by_cases e : j' = k
    · rw [e, hk] at hr; cases hr; omega
    · exact h4 j' x' r' (by omega) hr
theorem MinTo.is {rs : Nat → List HV} {m : Int} {i : Nat} (h : MinTo rs 2 m) (hf : Fst (hks rs) i) : m = (i : Int) := by
  obtain ⟨j0, x0, q0, hj0, hr0, hb0⟩ := hf.at_
  have hx : ∃ x r, rs j0 = x :: r ∧ x.1 = x0 := by
    unfold hks at hr0
    cases hr : rs j0 with
    | nil => rw [hr] at hr0; cases hr0
    | cons x r => rw [hr] at hr0; simp at hr0; exact ⟨x, r, rfl, hr0.1⟩
  obtain ⟨x, r, hr, hx0⟩ := hx
  rcases h with ⟨_, h2⟩ | ⟨⟨j, y, q, h1, h2, h3⟩, h4⟩
  · rw [h2 j0 hj0] at hr; cases hr
  · have k1 := h4 j0 x r hj0 hr
    have k2 := hf.le j y.1 (q.map Prod.fst) h1 (by unfold hks; rw [h2]; rfl)
    rw [hx0, hb0] at k1
    omega
/-- the region, and what is left -/
def FsPost (w : World) (sb i : Nat) (us : Nat → Value) (rs : Nat → List HV) (x : Ending) (W : World) : Prop :=
  ∃ (e : Nat) (vs us' : Nat → Value) (ts rs' : Nat → List HV), x = .returned (.agg #[.int .i64 (i : Int), .int .i64 (e : Int), vs 0, vs 1]) ∧ Grw i (hks rs) e (hks ts) (hks rs') ∧ (∀ j h r, j < 2 → rs' j = h :: r → e < h.1.b) ∧ (∀ j, j < 2 → rs j = ts j ++ rs' j) ∧ Fr (fun b => b = sb) w W ∧ SB W sb us' rs' ∧ (∀ j, j < 2 → SlV 3 hkc W (vs j) (ts j)) ∧ (∀ j, j < 2 → (us' j).ownBlock = (us j).ownBlock)
/-- how much is left -/
def left (sb : Nat) (W : World) : Nat := (match W.cell? ⟨sb, 0, none⟩ with | some (.slice _ n _) => n | _ => 0) + (match W.cell? ⟨sb, 1, none⟩ with | some (.slice _ n _) => n | _ => 0)
theorem left_is {w W : World} {sb rk i e : Nat} {vs us : Nat → Value} {ts rs : Nat → List HV} (h : GS w sb rk i e vs us ts rs W) : left sb W = (rs 0).length + (rs 1).length := by
  obtain ⟨a0, c0, e0, _⟩ := (h.rd 0 (by omega)).1
  obtain ⟨a1, c1, e1, _⟩ := (h.rd 1 (by omega)).1
  unfold left
  rw [h.su 0 (by omega), h.su 1 (by omega), e0, e1]
theorem hks_upd (ts : Nat → List HV) (k : Nat) (l : List HV) : hks (upd ts k l) = fun j => if j = k then l.map Prod.fst else hks ts j := by
  funext j
  unfold hks upd
  split <;> rfl
/-- the region's value stands in the box of the result -/
theorem B4.put {k : Nat} {a b c d : Value} {W : World} (h : B4 k a b c d W) (a' b' c' d' : Value) : B4 k a' b' c' d' ((((W.setCell ⟨k, 0, none⟩ a').setCell ⟨k, 1, none⟩ b').setCell ⟨k, 2, none⟩ c').setCell ⟨k, 3, none⟩ d') := (((h.set0 a').set1 b').set2 c').set3 d'
set_option maxRecDepth 100000 in
set_option maxHeartbeats 1000000 in
theorem fs_ret (w W : World) (sb i e : Nat) (us : Nat → Value) (rs : Nat → List HV) (tm : Array Value) (h : Nat) (a0 a1 : Option Addr) (n0 n1 c0 c1 : Nat) (h2 : tm[2]?.getD undef = .pointer (some ⟨h, 0, none⟩)) (hB : B4 h (.int .i64 (i : Int)) (.int .i64 (e : Int)) (.slice a0 n0 c0) (.slice a1 n1 c1) W) (hp : FsPost w sb i us rs (.returned (.agg #[.int .i64 (i : Int), .int .i64 (e : Int), .slice a0 n0 c0, .slice a1 n1 c1])) W) :
    bodyPost Try.prog Try.f23 (FsPost w sb i us rs) Exit.ret { tmps := tm, defers := [] } W := by
  have d0 := hB.c0
  have d1 := hB.c1
  have d2 := hB.c2
  have d3 := hB.c3
  have FIN := Lib.hid hp
  clear hB hp
  refine bodyPost_ret (v := .agg #[.int .i64 (i : Int), .int .i64 (e : Int), .slice a0 n0 c0, .slice a1 n1 c1]) ?_ rfl FIN.out
  simp [results, Try.results23, go_sem, *]
set_option maxRecDepth 100000 in
set_option maxHeartbeats 1000000 in
theorem firstR (w : World) (sb i : Nat) (us : Nat → Value) (rs : Nat → List HV) (h : SB w sb us rs) (hf : Fst (hks rs) i) (hfm : ∀ j, j < 2 → ∀ h ∈ rs j, ∃ a n c, h.2 = .slice a n c) (hln : ∀ j, j < 2 → (rs j).length ≤ 1000) (hbd : ∀ j, j < 2 → ∀ h ∈ rs j, h.1.b ≤ 1000) :
    Calls Try.prog 23 #[.pointer (some ⟨sb, 0, none⟩)] w (FsPost w sb i us rs) := by
  have HS := Lib.hid h
  have HF := Lib.hid hf
  have HFM := Lib.hid hfm
  have HLN := Lib.hid hln
  have HBD := Lib.hid hbd
  have x0 := h.sl
  have hb1 := balloc (Below.refl w.heap.size w) (.cells #[.int .i64 0, .int .i64 0, .slice none 0 0, .slice none 0 0] 57)
  have s1 : (w.alloc (.cells #[.int .i64 0, .int .i64 0, .slice none 0 0, .slice none 0 0] 57)).heap.size = w.heap.size + 1 := by simp
  have hx : B4 w.heap.size (.int .i64 0) (.int .i64 0) (.slice none 0 0) (.slice none 0 0) (w.alloc (.cells #[.int .i64 0, .int .i64 0, .slice none 0 0, .slice none 0 0] 57)) := ⟨by omega, by rw [cells_new]; rfl, by rw [cells_new]; rfl, by rw [cells_new]; rfl, by rw [cells_new]; rfl, fun j => by simp⟩
  have BB := Lib.hid (And.intro hb1 (And.intro s1 hx))
  clear h hf hfm hln hbd hx hb1 s1
  go_enter Try.func23, Try.ntmps23
  go_wp2_with fail
  generalize (w.alloc (.cells #[.int .i64 0, .int .i64 0, .slice none 0 0, .slice none 0 0] 57)) = w1 at *
  go_loopw [3, 9] (fun vm vk wr => ∃ (k : Nat) (m : Int), k ≤ 2 ∧ vk = .int .i64 (k : Int) ∧ vm = .int .i64 m ∧ wr = w1 ∧ Hid (MinTo rs k m)) (fun _ vk _ => 2 - (intOf vk).toNat)
  case atStart => exact ⟨0, 9223372036854775807, by omega, rfl, rfl, rfl, Lib.hid (.inl ⟨rfl, fun j hj => by omega⟩)⟩
  case round =>
    obtain ⟨k, m, hk, rfl, rfl, rfl, HM⟩ := hrel
    have hk3 : k = 0 ∨ k = 1 ∨ k = 2 := by omega
    clear hk
    have x1 : sb < wr.heap.size := by have := BB.out.1.size; omega
    rcases hk3 with rfl | rfl | hk2
    · have c0 := keep BB.out.1 x0 (HS.out.su 0 (by omega))
      obtain ⟨a, cap, hu, hle, _⟩ := id ((HS.out.rd 0 (by omega)).1)
      rw [hu] at c0
      cases hrs : rs 0 with
      | nil =>
        have HM2 := Lib.hid (HM.out.skip hrs)
        rw [hrs] at c0
        simp only [List.length_nil] at c0
        clear hu hrs HM
        go_wp2_with fail
        go_roundw
        case rel => exact ⟨1, m, by omega, by first | trivial | rfl | go_num, by first | trivial | rfl | go_num, by first | trivial | rfl, HM2⟩
        case measure => simp only [intOf]; omega
      | cons h r =>
        have hsl := SlV.next (HS.out.rd 0 (by omega)).1 BB.out.1
        have HB1 := Lib.hid (HBD.out 0 (by omega) h (by rw [hrs]; simp))
        have HML := Lib.hid (fun hx => HM.out.le hrs hx)
        have HMG := Lib.hid (fun hx => HM.out.gt hrs hx (by have := HB1.out; omega))
        rw [hrs] at hsl c0 hu
        obtain ⟨g, off, cap', e', _, hg, hcell⟩ := SlV.get hsl (i := 0) (o := h) rfl
        rw [hu] at e'
        cases e'
        have z0 : wr.cell? ⟨g, off, none⟩ = some (.int .i64 (h.1.b : Int)) := hcell 0 (by omega)
        have hpos : (0 : Int) < ((r.length + 1 : Nat) : Int) := by omega
        have hpos2 : ((r.length + 1 : Nat) : Int) > 0 := by omega
        simp only [List.length_cons] at c0
        obtain ⟨⟨hb, he, hl⟩, hv⟩ := h
        dsimp only at z0 HML HMG HB1
        obtain ⟨n, hn⟩ : ∃ n, r.length = n := ⟨_, rfl⟩
        rw [hn] at c0 hpos hpos2
        clear hn hcell hsl hrs hu hle HM
        by_cases hx : (hb : Int) ≤ m
        · have HM2 := Lib.hid (HML.out hx)
          have hx2 : ¬ m < (hb : Int) := by omega
          clear HML HMG
          go_wp2_with fail
          go_roundw
          case rel => exact ⟨1, (hb : Int), by omega, by first | trivial | rfl | go_num, by first | trivial | rfl | go_num, by first | trivial | rfl, HM2⟩
          case measure => simp only [intOf]; omega
        · have hx2 : m < (hb : Int) := by omega
          have HM2 := Lib.hid (HMG.out hx2)
          clear HML HMG
          go_wp2_with fail
          go_roundw
          case rel => exact ⟨1, m, by omega, by first | trivial | rfl | go_num, by first | trivial | rfl | go_num, by first | trivial | rfl, HM2⟩
          case measure => simp only [intOf]; omega
    · have c0 := keep BB.out.1 x0 (HS.out.su 1 (by omega))
      obtain ⟨a, cap, hu, hle, _⟩ := id ((HS.out.rd 1 (by omega)).1)
      rw [hu] at c0
      cases hrs : rs 1 with
      | nil =>
        have HM2 := Lib.hid (HM.out.skip hrs)
        rw [hrs] at c0
        simp only [List.length_nil] at c0
        clear hu hrs HM
        go_wp2_with fail
        go_roundw
        case rel => exact ⟨2, m, by omega, by first | trivial | rfl | go_num, by first | trivial | rfl | go_num, by first | trivial | rfl, HM2⟩
        case measure => simp only [intOf]; omega
      | cons h r =>
        have hsl := SlV.next (HS.out.rd 1 (by omega)).1 BB.out.1
        have HB1 := Lib.hid (HBD.out 1 (by omega) h (by rw [hrs]; simp))
        have HML := Lib.hid (fun hx => HM.out.le hrs hx)
        have HMG := Lib.hid (fun hx => HM.out.gt hrs hx (by have := HB1.out; omega))
        rw [hrs] at hsl c0 hu
        obtain ⟨g, off, cap', e', _, hg, hcell⟩ := SlV.get hsl (i := 0) (o := h) rfl
        rw [hu] at e'
        cases e'
        have z0 : wr.cell? ⟨g, off, none⟩ = some (.int .i64 (h.1.b : Int)) := hcell 0 (by omega)
        have hpos : (0 : Int) < ((r.length + 1 : Nat) : Int) := by omega
        have hpos2 : ((r.length + 1 : Nat) : Int) > 0 := by omega
        simp only [List.length_cons] at c0
        obtain ⟨⟨hb, he, hl⟩, hv⟩ := h
        dsimp only at z0 HML HMG HB1
        obtain ⟨n, hn⟩ : ∃ n, r.length = n := ⟨_, rfl⟩
        rw [hn] at c0 hpos hpos2
        clear hn hcell hsl hrs hu hle HM
        by_cases hx : (hb : Int) ≤ m
        · have HM2 := Lib.hid (HML.out hx)
          have hx2 : ¬ m < (hb : Int) := by omega
          clear HML HMG
          go_wp2_with fail
          go_roundw
          case rel => exact ⟨2, (hb : Int), by omega, by first | trivial | rfl | go_num, by first | trivial | rfl | go_num, by first | trivial | rfl, HM2⟩
          case measure => simp only [intOf]; omega
        · have hx2 : m < (hb : Int) := by omega
          have HM2 := Lib.hid (HMG.out hx2)
          clear HML HMG
          go_wp2_with fail
          go_roundw
          case rel => exact ⟨2, m, by omega, by first | trivial | rfl | go_num, by first | trivial | rfl | go_num, by first | trivial | rfl, HM2⟩
          case measure => simp only [intOf]; omega
    · have hmi := (hk2 ▸ HM.out).is HF.out
      have hk4 : ¬ (k : Int) < 2 := by omega
      subst hmi
      clear HM hk2
      have hb2 := balloc BB.out.1 (.cells #[.int .i64 (i : Int), .int .i64 (i : Int), .slice none 0 0, .slice none 0 0] 57)
      have G0 : Hid (GS w sb (w.heap.size + 1) i i (fun _ => .slice none 0 0) us (fun _ => []) rs (wr.alloc (.cells #[.int .i64 (i : Int), .int .i64 (i : Int), .slice none 0 0, .slice none 0 0] 57))) := Lib.hid (by
        have hr : B4 wr.heap.size (.int .i64 (i : Int)) (.int .i64 (i : Int)) (.slice none 0 0) (.slice none 0 0) (wr.alloc (.cells #[.int .i64 (i : Int), .int .i64 (i : Int), .slice none 0 0, .slice none 0 0] 57)) := ⟨by simp, by rw [cells_new]; rfl, by rw [cells_new]; rfl, by rw [cells_new]; rfl, by rw [cells_new]; rfl, fun j => by simp⟩
        rw [BB.out.2.1] at hr
        refine ⟨Fr.of_below hb2, x0, Nat.lt_succ_self _, hr.lt, BB.out.2.2.next (balloc (Below.refl _ _) _), hr.c0, hr.c1, fun j hj => ?_, fun o _ => hr.fr o, fun j hj => keep hb2 x0 (HS.out.su j hj), fun j hj => (hb2.frozen (p := ⟨sb, j, none⟩) x0).trans (HS.out.sf j hj), fun j hj => World.ownsRow_nil _ _ _ _, fun j k _ _ _ b hb => (by cases hb), HS.out.rd⟩
        have hj2 : j = 0 ∨ j = 1 := by omega
        rcases hj2 with rfl | rfl
        · exact hr.c2
        · exact hr.c3)
      have e1 := BB.out.2.1
      clear hb2
      go_wp2_with fail
      generalize (wr.alloc (.cells #[.int .i64 (i : Int), .int .i64 (i : Int), .slice none 0 0, .slice none 0 0] 57)) = w2 at *
      go_loopw [28] (fun _ wx => ∃ (e : Nat) (vs us' : Nat → Value) (ts rs' : Nat → List HV), Hid (GS w sb (w.heap.size + 1) i e vs us' ts rs' wx ∧ Grw i (hks rs) e (hks ts) (hks rs') ∧ (∀ j, j < 2 → rs j = ts j ++ rs' j) ∧ ∀ j, j < 2 → (us' j).ownBlock = (us j).ownBlock)) (fun _ wx => left sb wx)
      case atStart => exact ⟨i, _, _, _, _, Lib.hid ⟨G0.out, Grw.start, fun j _ => rfl, fun j _ => rfl⟩⟩
      case round =>
        obtain ⟨e, vs, us', ts, rs', HG⟩ := hrel
        clear G0
        have LF := left_is HG.out.1
        have CG := Lib.hid (grow w wr sb (w.heap.size + 1) i e vs us' ts rs' HG.out.1 (fun j hj => by
          have h1 := HLN.out j hj
          rw [HG.out.2.2.1 j hj, List.length_append] at h1
          omega) (fun j hj h hh => HFM.out j hj h (by rw [HG.out.2.2.1 j hj]; simp [hh])))
        have LFH := Lib.hid LF
        clear LF
        go_wp2_with fail
        refine CG.out.mono ?_
        rintro x w4 (⟨rfl, k, h, r, v, u, hk, hr, hb, hob, hg⟩ | ⟨rfl, hst, hg⟩)
        · have HNX : Hid (GS w sb (w.heap.size + 1) i (max e h.1.e) (upd vs k v) (upd us' k u) (upd ts k (ts k ++ [h])) (upd rs' k r) w4 ∧ Grw i (hks rs) (max e h.1.e) (hks (upd ts k (ts k ++ [h]))) (hks (upd rs' k r)) ∧ (∀ j, j < 2 → rs j = upd ts k (ts k ++ [h]) j ++ upd rs' k r j) ∧ ∀ j, j < 2 → (upd us' k u j).ownBlock = (us j).ownBlock) := Lib.hid ⟨hg, by
            have h1 : hks rs' k = h.1 :: r.map Prod.fst := by unfold hks; rw [hr]; rfl
            have h2 := Grw.take HG.out.2.1 hk h1 hb
            rw [hks_upd, hks_upd, List.map_append]
            exact h2, fun j hj => by
            by_cases e1 : j = k
            · subst e1; rw [upd_same, upd_same, HG.out.2.2.1 j hj, hr]; simp
            · rw [upd_other _ _ e1, upd_other _ _ e1]; exact HG.out.2.2.1 j hj, fun j hj => by
            by_cases e1 : j = k
            · subst e1; rw [upd_same, hob]; exact HG.out.2.2.2 j hj
            · rw [upd_other _ _ e1]; exact HG.out.2.2.2 j hj⟩
          have HLT : Hid (left sb w4 < left sb wr) := Lib.hid (by
            rw [left_is hg, LFH.out]
            have hk2 : k = 0 ∨ k = 1 := by omega
            rcases hk2 with rfl | rfl
            · rw [upd_same, upd_other _ _ (by omega), hr]; simp
            · rw [upd_same, upd_other _ _ (by omega), hr]; simp)
          clear hg hr hb hk hob HG CG
          go_wp2_with fail
          go_roundw
          case rel => exact ⟨_, _, _, _, _, HNX⟩
          case measure => exact HLT.out
        · have HST := Lib.hid hst
          have HGE := Lib.hid hg
          obtain ⟨a0, c0, e0, _⟩ := SlV.of_owns hkc_len (hg.row 0 (by omega))
          obtain ⟨a1, c1, e1, _⟩ := SlV.of_owns hkc_len (hg.row 1 (by omega))
          have z0 := hg.r0
          have z1 := hg.r1
          have z2 : w4.cell? ⟨w.heap.size + 1, 2, none⟩ = some (vs 0) := hg.rv 0 (by omega)
          have z3 : w4.cell? ⟨w.heap.size + 1, 3, none⟩ = some (vs 1) := hg.rv 1 (by omega)
          have y0 := hg.xb.c0
          have y1 := hg.xb.c1
          have y2 := hg.xb.c2
          have y3 := hg.xb.c3
          have y4 := hg.xb.fr 0
          have y5 := hg.xb.fr 1
          have y6 := hg.xb.fr 2
          have y7 := hg.xb.fr 3
          have y8 := hg.xb.lt
          have y9 := hg.rlt
          rw [e0] at z2
          rw [e1] at z3
          have XB := Lib.hid (B4.put hg.xb (.int .i64 (i : Int)) (.int .i64 (e : Int)) (.slice a0 (ts 0).length c0) (.slice a1 (ts 1).length c1))
          have FIN : Hid (FsPost w sb i us rs (.returned (.agg #[.int .i64 (i : Int), .int .i64 (e : Int), .slice a0 (ts 0).length c0, .slice a1 (ts 1).length c1])) ((((w4.setCell ⟨w.heap.size, 0, none⟩ (.int .i64 (i : Int))).setCell ⟨w.heap.size, 1, none⟩ (.int .i64 (e : Int))).setCell ⟨w.heap.size, 2, none⟩ (.slice a0 (ts 0).length c0)).setCell ⟨w.heap.size, 3, none⟩ (.slice a1 (ts 1).length c1))) := Lib.hid (by
            refine ⟨e, vs, us', ts, rs', by rw [e0, e1], HG.out.2.1, hst, HG.out.2.2.1, (((hg.fr.set (.inr (Nat.le_refl _)) _).set (.inr (Nat.le_refl _)) _).set (.inr (Nat.le_refl _)) _).set (.inr (Nat.le_refl _)) _, ⟨by rw [setZ, setZ, setZ, setZ]; exact hg.slt, fun j hj => ?_, fun j hj => by simp only [World.frozen?_setCell]; exact hg.sf j hj, fun j hj => ⟨?_, (hg.rd j hj).2⟩⟩, fun j hj => ?_, HG.out.2.2.2⟩
            · have := hg.sl
              rw [setO (.inl (by omega)), setO (.inl (by omega)), setO (.inl (by omega)), setO (.inl (by omega))]
              exact hg.su j hj
            · exact SlV.fr (hg.rd j hj).1 (hg.rd j hj).2 ((((hg.fr.set (.inr (Nat.le_refl _)) _).set (.inr (Nat.le_refl _)) _).set (.inr (Nat.le_refl _)) _).set (.inr (Nat.le_refl _)) _)
            · exact SlV.of_owns hkc_len (ownsRow_setCell_below (ownsRow_setCell_below (ownsRow_setCell_below (ownsRow_setCell_below (hg.row j hj) (by show w.heap.size < _; omega) _) (by show w.heap.size < _; omega) _) (by show w.heap.size < _; omega) _) (by show w.heap.size < _; omega) _))
          clear hg hst HG CG e0 e1 HST HGE
          generalize (ts 0).length = n0 at *
          generalize (ts 1).length = n1 at *
          go_wp2_with fail
          exact fs_ret w _ sb i e us rs _ w.heap.size a0 a1 n0 n1 c0 c1 rfl XB.out FIN.out
end Go.Proofs.Ytokfnajgjhkepaa.MergeT
