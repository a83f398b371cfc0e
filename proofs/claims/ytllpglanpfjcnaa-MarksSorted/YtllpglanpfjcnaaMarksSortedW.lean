/-
  The law MarksSorted.
-/
import Derived.Test.YtllpglanpfjcnaaMarkOrder
import Derived.Test.YtllpglanpfjcnaaMarkNear2
import Derived.Test.YtllpglanpfjcnaaMarksK
import Derived.Test.YtllpglanpfjcnaaCopyV
import Derived.Test.YtllpglanpfjcnaaEditsA
namespace Go.Proofs.Ytllpglanpfjcnaa.MarkK
open Go.RowKit Kit EditM MarkM MarkC SortM Lift Txt ChgM

/-- the first one that is found, of i places -/
def FstI (f : Nat → Int) (d : Nat → Nat) (k : Int) (i : Nat) (v : Int) : Prop :=
  (v = -1 ∧ ∀ p, p < i → f (d p) < k) ∨ (∃ p, p < i ∧ v = f (d p) ∧ k ≤ f (d p) ∧ ∀ q, q < p → f (d q) < k)
section
variable {f : Nat → Int} {d : Nat → Nat} {k v : Int} {i n : Nat}
theorem FstI.skip (h : FstI f d k i v) (hv : 0 ≤ v ∨ f (d i) < k) : FstI f d k (i + 1) v := by
  rcases h with ⟨rfl, h⟩ | ⟨p, h1, h2, h3, h4⟩
  · refine .inl ⟨rfl, fun p hp => ?_⟩
    by_cases e : p = i
    · subst e; rcases hv with hv | hv
      · omega
      · exact hv
    · exact h p (by omega)
  · exact .inr ⟨p, by omega, h2, h3, h4⟩
theorem FstI.take (h : FstI f d k i v) (hk : 0 ≤ k) (hv : v < 0) (hf : k ≤ f (d i)) : FstI f d k (i + 1) (f (d i)) := by
  rcases h with ⟨rfl, h⟩ | ⟨p, h1, h2, h3, h4⟩
  · exact .inr ⟨i, by omega, rfl, hf, h⟩
  · omega
theorem FstI.range (h : FstI f d k i v) (hk : 0 ≤ k) : v = -1 ∨ 0 ≤ v := by
  rcases h with ⟨rfl, _⟩ | ⟨p, _, h2, h3, _⟩
  · exact .inl rfl
  · exact .inr (by omega)
theorem FstI.ans {x c : Int} (h : FstI f d k n v) (hk : 0 ≤ k) (hr : ∀ p, p < n → d p < n) (hsur : ∀ y, y < n → ∃ p, p < n ∧ d p = y) (hs : ∀ p q, p ≤ q → q < n → f (d p) ≤ f (d q)) (A : IsAns f n k true x c) : (v < 0 → c = 7) ∧ (¬ v < 0 → c = 0 ∧ ∃ r : Nat, x = (r : Int) ∧ r < n ∧ f r = v) := by
  rcases h with ⟨rfl, h⟩ | ⟨p, h1, h2, h3, h4⟩
  · refine ⟨fun _ => ?_, fun hn => absurd (by omega) hn⟩
    rcases A with ⟨r, hrr, _, _⟩ | ⟨_, _, rfl⟩
    · obtain ⟨q, hq, rfl⟩ := hsur r hrr.lt
      have := hrr.ok
      simp only [fits, if_true] at this
      have := h q hq
      omega
    · rfl
  · refine ⟨fun hn => by omega, fun _ => ?_⟩
    rcases A with ⟨r, hrr, rfl, rfl⟩ | ⟨hno, _, _⟩
    · refine ⟨rfl, r, rfl, hrr.lt, ?_⟩
      obtain ⟨q, hq, rfl⟩ := hsur r hrr.lt
      have a := hrr.best (d p) (hr p h1) (by simp only [fits, if_true]; exact h3)
      simp only [closer, if_true] at a
      have b := hrr.ok
      simp only [fits, if_true] at b
      have hpq : p ≤ q := by
        rcases Nat.lt_or_ge q p with e | e
        · have := h4 q e; omega
        · exact e
      have c := hs p q hpq hq
      omega
    · exact absurd (by simp only [fits, if_true]; exact h3) (hno (d p) (hr p h1))
end
theorem key_at {ms : List MkM} {x y : Nat} (h : keyO ms x ≤ keyO ms y) : atOf ms x ≤ atOf ms y := by
  unfold keyO key2 at h
  unfold atOf
  generalize mk ms x = a at *
  generalize mk ms y = b at *
  obtain ⟨p, r⟩ := a
  obtain ⟨q, s⟩ := b
  dsimp only at *
  cases r <;> cases s <;> simp at h <;> omega
theorem srt_at {ms : List MkM} {n : Nat} {d : Nat → Nat} (hs : Srt (ltK (keyO ms)) 0 n d) (p q : Nat) (h : p ≤ q) (hq : q < n) : atOf ms (d p) ≤ atOf ms (d q) := key_at (srt_le hs h hq)

/-- a row of truths of the call's own -/
structure SB (w0 : World) (blk n : Nat) (b : Nat → Bool) (W : World) : Prop where
  bel : Below blk w0 W
  lt : blk < W.heap.size
  cell : ∀ i, i < n → W.cell? ⟨blk, i, none⟩ = some (.bool (b i))
  free : ∀ i, i < n → W.frozen? ⟨blk, i, none⟩ = false
theorem SB.drew {w0 W : World} {blk n : Nat} {b : Nat → Bool} (h : SB w0 blk n b W) : SB w0 blk n b W.drew := ⟨h.bel.drew, h.lt, h.cell, h.free⟩
theorem SB.set {w0 W : World} {blk n : Nat} {b : Nat → Bool} (h : SB w0 blk n b W) {i : Nat} (hi : i < n) : SB w0 blk n (fun j => if j = i then true else b j) (W.setCell ⟨blk, i, none⟩ (.bool true)) := by
  refine ⟨h.bel.setCell (p := ⟨blk, i, none⟩) (Nat.le_refl _) _, by rw [setZ]; exact h.lt, fun j hj => ?_, fun j hj => by rw [World.frozen?_setCell]; exact h.free j hj⟩
  by_cases e : j = i
  · subst e; rw [if_pos rfl]; exact setS (h.cell j hj) _
  · rw [if_neg e, setO (.inr e)]; exact h.cell j hj
theorem SB.made {w0 W : World} {base n e blk cap : Nat} (hb : Below blk w0 W) (h : W.ownsRow base e 1 (.slice (some ⟨blk, 0, none⟩) n cap) n (madeCells (Value.bool false).cells (n * 1)).toList) : SB w0 blk n (fun _ => false) W := by
  refine ⟨hb, (h.lt blk rfl).2, fun i hi => ?_, fun i hi => h.frozenAt i⟩
  rw [h.cellAt i (by omega)]
  simp [madeCells, Value.cells, hi, Nat.mod_one]
theorem infoBool : (Try.prog.info? 4).map (fun i => (i.zero, i.size, i.bytes)) = some (some (.bool false), 1, 1) := by kernel_rfl
theorem block_lt' {w W : World} {ms : List MkM} {g n cap : Nat} (h : MsK w ms (.slice (some ⟨g, 0, none⟩) n cap) W) : g < W.heap.size := (h.row.lt g rfl).2
theorem bstep' {w W W' : World} {sb : Nat} (h : Below w.heap.size w W) (hb : Below sb W W') (hs : w.heap.size ≤ sb) : Below w.heap.size w W' := h.trans (hb.mono hs)
theorem picked_nat (x : Int) (N : Nat) : ∃ K : Nat, x % ((N : Int) + 1) = (K : Int) ∧ K ≤ N := by
  have h1 := Int.emod_nonneg x (show (N : Int) + 1 ≠ 0 by omega)
  have h2 := Int.emod_lt_of_pos x (show (0 : Int) < (N : Int) + 1 by omega)
  exact ⟨(x % ((N : Int) + 1)).toNat, by omega, by omega⟩

set_option maxRecDepth 100000 in
set_option maxHeartbeats 8000000 in
theorem marksSorted (a0 : Option Addr) (len0 cap0 : Nat) (z0 : List Int) (size at_ : Int) (w : World) (hz : IsRow .i64 w a0 len0 cap0 z0) {X : Prop} (_ : X) {Y : Prop} (_ : Y) :
    Calls Try.prog 9 #[.slice a0 len0 cap0, .int .i64 size, .int .i64 at_] w fun e w' => e = .returned (.bool true) ∧ Below w.heap.size w w' := by
  have PK := Lib.hid (fun W => picked size 100 W (by omega) (by omega))
  obtain ⟨N, hN, hN1⟩ : ∃ N : Nat, size % 100 = (N : Int) ∧ N < 100 := by
    have h1 := Int.emod_nonneg size (show (100 : Int) ≠ 0 by omega)
    have h2 := Int.emod_lt_of_pos size (show (0 : Int) < 100 by omega)
    exact ⟨(size % 100).toNat, by omega, by omega⟩
  rw [hN] at PK
  clear hN
  have PC := Lib.hid (fun W => picked at_ ((N : Int) + 1) W (by omega) (by omega))
  obtain ⟨K, hK, hK1⟩ := picked_nat at_ N
  rw [hK] at PC
  clear hK
  have MK := Lib.hid (marksK a0 len0 cap0 z0 30 N w hz (by omega) (by omega))
  have ML : (marksOf ((z0.take len0).take 30) (N : Int)).length ≤ 30 := by unfold marksOf; rw [List.length_map, List.length_take]; omega
  generalize marksOf ((z0.take len0).take 30) (N : Int) = ms0 at *
  obtain ⟨h2, hh2⟩ : ∃ h2, h2 = N / 2 := ⟨_, rfl⟩
  have ez : (N : Int).tdiv 2 = (h2 : Int) := by rw [Int.tdiv_eq_ediv_of_nonneg (by omega)]; omega
  have hh3 : h2 ≤ 100 := by omega
  clear hh2
  obtain ⟨ms, hms⟩ : ∃ ms, ms = ms0 ++ [⟨(h2 : Int), false⟩] := ⟨_, rfl⟩
  have HMS := Lib.hid hms
  have hL : ms.length = ms0.length + 1 := by rw [hms]; simp
  have HL := Lib.hid hL
  have OR := Lib.hid (fun W a cap (h : MksAt W a ms) => order ms a cap W h (by omega))
  have NR := Lib.hid (fun W a cap (h : MksAt W a ms) => near ms a cap (K : Int) true W h (by omega))
  have hL60 : ms.length ≤ 31 := by omega
  clear hz hms hL
  obtain ⟨i0, hi, hz0, hz1, hz2⟩ := info_parts infoMark
  have HI := Lib.hid (And.intro hi (And.intro hz0 (And.intro hz1 hz2)))
  clear hi hz0 hz1 hz2
  obtain ⟨j0, hi, hz0, hz1, hz2⟩ := info_parts infoBool
  have HJ := Lib.hid (And.intro hi (And.intro hz0 (And.intro hz1 hz2)))
  clear hi hz0 hz1 hz2
  have mixed : Try.prog.follows .mixedOrders = true := by kernel_rfl
  have rw1 : IntKind.i64.wrap (h2 : Int) = (h2 : Int) := IntWalk.i64_in _ (by omega)
  go_enter Try.func9, Try.ntmps9
  go_wp2_with fail
  refine (PK.out _).mono ?_
  rintro e w1 ⟨rfl, rfl⟩
  go_wp2_with fail
  refine MK.out.mono ?_
  rintro e w2 ⟨v, rfl, hv⟩
  have E2 := Lib.hid (hv.next (balloc (Below.refl _ _) (.cells #[.int .i64 (h2 : Int), .bool false] 28)))
  have HNEW := Lib.hid (cell_two_new w2 (.int .i64 (h2 : Int)) (.bool false) 28)
  have hzw : w.heap.size ≤ w2.heap.size := hv.bel.size
  clear hv MK PK
  go_wp2_with (at_builtin; first
    | (refine wpList_append_lies _ rfl _ _ 22 rfl w.heap.size 28 i0 _ 2 16 Try.underlying22 HI.out.1 HI.out.2.1 HI.out.2.2.1 HI.out.2.2.2 rfl (by decide) v ms0.length (flatC MkM.cs ms0) rfl E2.out.row ⟨w2.heap.size, 0, none⟩ 1 1 [.int .i64 (h2 : Int), .bool false] rfl rfl HNEW.out (by simp [Value.oneCell']) (by omega) (by unfold maxLen; omega) (by omega) (by simp; omega) _ rfl ?_; intro g3 cap3 w3 hown3 hgrow3 _ _; have V3 : Hid (MsK w ms (.slice (some ⟨g3, 0, none⟩) ms.length cap3) w3) := Lib.hid ⟨by rw [HL.out, HMS.out, flatC_append, flatC_one]; exact hown3, bgrow E2.out.bel E2.out.row hgrow3⟩; rw [← HL.out]; clear hown3 hgrow3)
    | (refine wpList_copyV MkM.cs_len MkM.cs_one (by omega) rfl _ _ 22 rfl 28 i0 _ 16 Try.underlying22 HI.out.1 HI.out.2.1 HI.out.2.2.1 HI.out.2.2.2 rfl rfl _ rfl ms V3.out.val (by unfold maxLen; omega) (by omega) ?_; intro v4 w4 hv4 hb4; obtain ⟨a4, cap4, rfl, _, ha4, _⟩ := hv4; have O4 := Lib.hid (OR.out _ _ cap4 ha4); have B4 := Lib.hid hb4; clear ha4 hb4))
  refine O4.out.mono ?_
  rintro e w5 ⟨blk, d, rfl, hblk, hb5, hsr, hmv, hsrt⟩
  have M5 := Lib.hid ((V3.out.next B4.out).next hb5)
  have D5 := Lib.hid (And.intro hmv hsrt)
  have SR5 := Lib.hid hsr
  have g3lt : g3 < w3.heap.size := (V3.out.row.lt g3 rfl).2
  have hz4 := B4.out.size
  have hz5 := hb5.size
  have hb5l := hsr.lt
  have hws5 : w.heap.size ≤ w5.heap.size := M5.out.bel.size
  clear hblk hb5 hsr hmv hsrt O4 B4 V3 E2 HNEW OR
  go_wp2_with fail
  refine (PC.out _).mono ?_
  rintro e w6 ⟨rfl, rfl⟩
  obtain ⟨n, hn⟩ : ∃ n, ms.length = n := ⟨_, rfl⟩
  rw [hn] at M5 D5 SR5 NR hL60 ⊢
  have HN := Lib.hid hn
  clear hn HL
  have e1 : ((n : Int) != (n : Int)) = false := by simp
  go_wp2_with (refine wpList_make_full _ rfl _ _ 51 rfl w.heap.size 4 j0 _ 1 Try.underlying51 HJ.out.1 HJ.out.2.1 HJ.out.2.2.1 .i64 .i64 _ _ n rfl rfl rfl rfl (by rw [HJ.out.2.2.2]; omega) (by unfold maxLen; omega) (by have := M5.out.bel.size; omega) ?_; intro w6 hown hgrow)
  have B6 := grows_below hgrow
  have S0 : Hid (SB w6 w5.heap.size n (fun _ => false) w6) := Lib.hid (SB.made (Below.refl _ _) hown)
  have M6 := Lib.hid (M5.out.next B6)
  have SR6 := Lib.hid (SR5.out.next B6)
  clear hown hgrow B6 M5 SR5
  obtain ⟨sb, hsb⟩ : ∃ sb, sb = w5.heap.size := ⟨_, rfl⟩
  rw [← hsb] at S0 hb5l hws5 ⊢
  have hg3 : g3 < sb := by omega
  have hwsb : w.heap.size ≤ sb := by omega
  clear hsb hz4 hz5 g3lt
  have RD : Hid (∀ W, Below sb w6 W → ∀ j, j < n → W.cell? ⟨g3, j * 2, none⟩ = some (.int .i64 (atOf ms j))) := Lib.hid fun W hW j hj => by
    have hr := M6.out.row
    have hg := flatC_get MkM.cs_len ms j (mk ms j) 0 (mk_get (by rw [HN.out]; exact hj)) (by omega)
    rw [hW.cell (p := ⟨g3, j * 2, none⟩) hg3]
    rw [HN.out] at hr
    rw [hr.cellAt (j * 2) (by omega)]
    exact hg
  have MA : Hid (∀ W, Below sb w6 W → MksAt W (some ⟨g3, 0, none⟩) ms) := Lib.hid fun W hW => by
    obtain ⟨a, c, e, _, h, _⟩ := M6.out.val
    simp only [Value.slice.injEq] at e
    obtain ⟨rfl, _, _⟩ := e
    refine ⟨fun i o hi => ?_⟩
    obtain ⟨g', off', e', _, hc⟩ := h.cell i o hi
    simp only [Option.some.injEq, Addr.mk.injEq, and_true] at e'
    obtain ⟨rfl, rfl⟩ := e'
    exact ⟨g3, 0, rfl, Nat.lt_of_lt_of_le (block_lt' M6.out) hW.size, fun j hj => (hW.cell (p := ⟨g3, _, none⟩) hg3).trans (hc j hj)⟩
  have RO : Hid (∀ W, Below sb w6 W → ∀ i, i < n → W.cell? ⟨blk, i, none⟩ = some (.int .i64 (d i : Int))) := Lib.hid fun W hW i hi => (hW.cell (p := ⟨blk, i, none⟩) hb5l).trans (SR6.out.cell i hi)
  have DR : Hid (∀ p, p < n → d p < n) := Lib.hid D5.out.1.rng
  have DI := Lib.hid D5.out.1.injd
  have DS := Lib.hid D5.out.1.sur
  have SA : Hid (∀ p q, p ≤ q → q < n → atOf ms (d p) ≤ atOf ms (d q)) := Lib.hid (srt_at D5.out.2)
  have BW : Hid (Below w.heap.size w w6) := Lib.hid M6.out.bel
  clear M6 SR6 D5
  go_wp2_with fail
  go_loopw [13, 14] (fun vf vi wr => ∃ (i : Nat) (fv : Int) (b : Nat → Bool), i ≤ n ∧ vi = .int .i64 (i : Int) ∧ vf = .int .i64 fv ∧ Hid (FstI (atOf ms) d K i fv ∧ (∀ p, i ≤ p → b (d p) = false) ∧ SB w6 sb n b wr)) (fun _ vi _ => n - (intOf vi).toNat)
  case atStart => exact ⟨0, -1, _, by omega, rfl, rfl, Lib.hid ⟨.inl ⟨rfl, fun p hp => by omega⟩, fun _ _ => rfl, S0.out⟩⟩
  case round =>
    obtain ⟨i, fv, b, hi, rfl, rfl, HK⟩ := hrel
    clear S0
    by_cases hlt : i < n
    · have hdi := DR.out i hlt
      have ro := RO.out wr HK.out.2.2.bel i hlt
      have sc := HK.out.2.2.cell (d i) hdi
      rw [HK.out.2.1 i (Nat.le_refl _)] at sc
      have mc := RD.out wr HK.out.2.2.bel (d i) hdi
      have RG := Lib.hid (HK.out.1.range (by omega))
      have FS := Lib.hid HK.out.1.skip
      have FT := Lib.hid (fun h1 h2 => HK.out.1.take (by omega) h1 h2)
      have NS : Hid (∀ p, i + 1 ≤ p → (fun j => if j = d i then true else b j) (d p) = false) := Lib.hid fun p hp => by
        dsimp only
        rw [if_neg (fun e => by have := DI.out _ _ e; omega)]
        exact HK.out.2.1 p (by omega)
      have S1 := Lib.hid HK.out.2.2.drew
      have S2 := Lib.hid (HK.out.2.2.drew.set hdi)
      have fz := S1.out.free (d i) hdi
      have ro2 := RO.out _ S1.out.bel i hlt
      have ro3 := RO.out _ S2.out.bel i hlt
      have mc3 := RD.out _ S2.out.bel (d i) hdi
      have sc2 : wr.drew.cell? ⟨sb, d i, none⟩ = some (.bool false) := sc
      have PREV : Hid (0 < i → ∃ y, wr.cell? ⟨blk, i - 1, none⟩ = some (.int .i64 (d (i - 1) : Int)) ∧ d (i - 1) < n ∧ wr.cell? ⟨g3, d (i - 1) * 2, none⟩ = some (.int .i64 y) ∧ y ≤ atOf ms (d i)) := Lib.hid fun h0 =>
        ⟨atOf ms (d (i - 1)), RO.out wr HK.out.2.2.bel (i - 1) (by omega), DR.out (i - 1) (by omega), RD.out wr HK.out.2.2.bel (d (i - 1)) (DR.out (i - 1) (by omega)), SA.out (i - 1) i (by omega) hlt⟩
      have j1 : (i : Int) < (n : Int) := by omega
      have j2 : (0 : Int) ≤ (i : Int) := by omega
      have j3 : (d i : Int) < (n : Int) := by omega
      have j4 : (0 : Int) ≤ (d i : Int) := by omega
      clear HK S1
      obtain ⟨x, hx⟩ : ∃ x, x = atOf ms (d i) := ⟨_, rfl⟩
      rw [← hx] at mc mc3 FS FT PREV
      obtain ⟨y, hy⟩ : ∃ y, y = d i := ⟨_, rfl⟩
      rw [← hy] at hdi ro sc mc fz ro2 ro3 mc3 sc2 j3 j4 S2 NS
      clear hx hy
      have g1 : decide ((y : Int) < 0) = false := decide_eq_false (by omega)
      have g2 : decide ((n : Int) ≤ (y : Int)) = false := decide_eq_false (by omega)
      have g2n : decide (n ≤ y) = false := decide_eq_false (by omega)
      by_cases h0 : i = 0
      · subst h0
        clear PREV
        by_cases hf : fv < 0
        · by_cases hx : (K : Int) ≤ x
          · have F2 := Lib.hid (FT.out hf hx)
            clear FS FT RG
            go_wp2_with fail
            go_big_region_o
            go_wp2_with fail
            go_roundw
            case rel => exact ⟨_, x, _, by omega, by go_num, rfl, Lib.hid ⟨F2.out, NS.out, S2.out⟩⟩
            case measure => simp [intOf]; omega
          · have F2 := Lib.hid (FS.out (.inr (by omega)))
            clear FS FT RG
            go_wp2_with fail
            go_big_region_o
            go_wp2_with fail
            go_roundw
            case rel => exact ⟨_, fv, _, by omega, by go_num, rfl, Lib.hid ⟨F2.out, NS.out, S2.out⟩⟩
            case measure => simp [intOf]; omega
        · have F2 := Lib.hid (FS.out (.inl (by omega)))
          clear FS FT RG
          go_wp2_with fail
          go_big_region_o
          go_wp2_with fail
          go_roundw
          case rel => exact ⟨_, fv, _, by omega, by go_num, rfl, Lib.hid ⟨F2.out, NS.out, S2.out⟩⟩
          case measure => simp [intOf]; omega
      · obtain ⟨ip, rfl⟩ : ∃ ip, i = ip + 1 := ⟨i - 1, by omega⟩
        obtain ⟨z, p1, p2, p3, p4⟩ := PREV.out (by omega)
        rw [show ip + 1 - 1 = ip by omega] at p1 p2 p3
        clear PREV
        generalize d ip = yp at *
        have j5 : (ip : Int) < (n : Int) := by omega
        have j6 : (0 : Int) ≤ (ip : Int) := by omega
        have j7 : (yp : Int) < (n : Int) := by omega
        have j8 : (0 : Int) ≤ (yp : Int) := by omega
        have r1 : IntKind.i64.wrap (ip : Int) = (ip : Int) := IntWalk.i64_in _ (by omega)
        have ei : ((ip : Int) + 1).toNat = ip + 1 := by omega
        have g3' : decide ((ip : Int) + 1 > 0) = true := decide_eq_true (by omega)
        have g4 : decide (x < z) = false := decide_eq_false (by omega)
        by_cases hf : fv < 0
        · by_cases hx : (K : Int) ≤ x
          · have F2 := Lib.hid (FT.out hf hx)
            clear FS FT RG
            go_wp2_with fail
            go_big_region_o
            go_wp2_with fail
            go_roundw
            case rel => exact ⟨_, x, _, by omega, by go_num, rfl, Lib.hid ⟨F2.out, NS.out, S2.out⟩⟩
            case measure => simp [intOf]; omega
          · have F2 := Lib.hid (FS.out (.inr (by omega)))
            clear FS FT RG
            go_wp2_with fail
            go_big_region_o
            go_wp2_with fail
            go_roundw
            case rel => exact ⟨_, fv, _, by omega, by go_num, rfl, Lib.hid ⟨F2.out, NS.out, S2.out⟩⟩
            case measure => simp [intOf]; omega
        · have F2 := Lib.hid (FS.out (.inl (by omega)))
          clear FS FT RG
          go_wp2_with fail
          go_big_region_o
          go_wp2_with fail
          go_roundw
          case rel => exact ⟨_, fv, _, by omega, by go_num, rfl, Lib.hid ⟨F2.out, NS.out, S2.out⟩⟩
          case measure => simp [intOf]; omega
    · obtain rfl : i = n := by omega
      have C := Lib.hid (NR.out wr _ cap3 (MA.out wr HK.out.2.2.bel))
      have FA := Lib.hid (fun x c A => HK.out.1.ans (x := x) (c := c) (by omega) DR.out DS.out SA.out A)
      have BB := Lib.hid (bstep' BW.out HK.out.2.2.bel hwsb)
      have RW := Lib.hid (RD.out)
      have BE := Lib.hid HK.out.2.2.bel
      clear HK RO MA NR
      go_wp2_with fail
      refine C.out.mono ?_
      rintro e w7 ⟨x, c, rfl, hA, hb7⟩
      obtain ⟨fa1, fa2⟩ := FA.out x c hA
      have B7 := Lib.hid (bstep BB.out hb7)
      by_cases hf : fv < 0
      · obtain rfl := fa1 hf
        clear fa2 hA hb7 C FA RW BE BB
        go_wp2_with fail
        go_ret
        exact ⟨rfl, B7.out⟩
      · obtain ⟨rfl, r, rfl, hr, hfr⟩ := fa2 (by omega)
        have mc : w7.cell? ⟨g3, r * 2, none⟩ = some (.int .i64 fv) := by
          have h1 := RW.out wr BE.out r hr
          rw [hfr] at h1
          exact keep hb7 (block_lt (a := ⟨g3, r * 2, none⟩) h1) h1
        have j1 : (r : Int) < (i : Int) := by omega
        have j2 : (0 : Int) ≤ (r : Int) := by omega
        have g1 : decide ((0 : Int) ≤ (r : Int)) = true := decide_eq_true j2
        clear fa1 fa2 hA hb7 C FA RW BE BB hfr
        go_wp2_with fail
        go_ret
        exact ⟨rfl, B7.out⟩

end Go.Proofs.Ytllpglanpfjcnaa.MarkK
