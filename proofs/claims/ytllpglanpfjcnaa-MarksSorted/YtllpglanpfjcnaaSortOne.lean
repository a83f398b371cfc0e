/-
  slices.symMergeCmpFunc at []int where the one part has one element.
-/
import Derived.Test.YtllpglanpfjcnaaSortIns
namespace Go.Proofs.Ytllpglanpfjcnaa.SortC
open Go.RowKit Kit SortM

/-- what the search for the place of the first one keeps -/
def FirstI (cf : Nat → Nat → Int) (d : Nat → Nat) (a m b i j : Nat) : Prop := (m < i → cf (d (i - 1)) (d a) < 0) ∧ (j < b → ¬ cf (d j) (d a) < 0)
/-- what the search for the place of the last one keeps -/
def LastI (cf : Nat → Nat → Int) (d : Nat → Nat) (a m i j : Nat) : Prop := (a < i → ¬ cf (d m) (d (i - 1)) < 0) ∧ (j < m → cf (d m) (d j) < 0)

set_option maxRecDepth 100000 in
set_option maxHeartbeats 4000000 in
theorem symFirst {cf : Nat → Nat → Int} {lt : Nat → Nat → Prop} (O : Ord cf lt) (w0 : World) (blk n cap a m b : Nat) (p q : Value) (d : Nat → Nat) (w : World) (h : SR w0 blk n d w) (HC : CmpOk p q cf w0 blk n) (hm : m = a + 1) (hmb : m ≤ b) (hb : b ≤ n) (hn : n ≤ 1000000) (h2 : Srt lt m b d) (hl : Less a m b d) :
    Calls Try.prog 53 #[.slice (some ⟨blk, 0, none⟩) n cap, .int .i64 (a : Int), .int .i64 (m : Int), .int .i64 (b : Int), .func (.func 48) #[] #[p, q]] w (SortPost lt w0 blk n a b d) := by
  have HS := Lib.hid h
  have CM := Lib.hid HC
  have OO := Lib.hid O
  have H2 := Lib.hid (And.intro h2 hl)
  clear h HC O h2 hl
  have mixed : Try.prog.follows .mixedOrders = true := by kernel_rfl
  have r0 : (m : Int) - (a : Int) = 1 := by omega
  have HM := Lib.hid hm
  have hm1 : m ≤ a + 1 := by omega
  have hm2 : a + 1 ≤ m := by omega
  clear hm
  go_enter Try.func53, Try.ntmps53
  go_wp2_with fail
  go_loopw [10, 11] (fun vi vj wr => ∃ (i j : Nat), vi = .int .i64 (i : Int) ∧ vj = .int .i64 (j : Int) ∧ m ≤ i ∧ i ≤ j ∧ j ≤ b ∧ Hid (FirstI cf d a m b i j ∧ SR w0 blk n d wr)) (fun vi vj _ => (intOf vj).toNat - (intOf vi).toNat)
  case atStart => exact ⟨m, b, rfl, rfl, by omega, by omega, by omega, Lib.hid ⟨⟨fun h => by omega, fun h => by omega⟩, HS.out⟩⟩
  case round =>
    obtain ⟨i, j, rfl, rfl, hmi, hij, hjb, HK⟩ := hrel
    clear HS
    by_cases hlt : i < j
    · obtain ⟨hh, hhe⟩ : ∃ hh, hh = (i + j) / 2 := ⟨_, rfl⟩
      have ez : ((i : Int) + (j : Int)) / 2 = (hh : Int) := by omega
      have q1 : i ≤ hh := by omega
      have q2 : hh < j := by omega
      clear hhe
      have T0 := Lib.hid (Two.of HK.out.2 (i := hh) (j := a) (by omega) (by omega))
      have p1 : (0 : Int) ≤ (hh : Int) := by omega
      have b1 : (hh : Int) < (n : Int) := by omega
      have p2 : (0 : Int) ≤ (a : Int) := by omega
      have b2 : (a : Int) < (n : Int) := by omega
      have CC := Lib.hid (fun W (hW : Below wr.heap.size wr W) => CM.out W (HK.out.2.next hW).bel (HK.out.2.next hW).lt (d hh) (d a) (HK.out.2.rng _ (by omega)) (HK.out.2.rng _ (by omega)))
      by_cases hc : cf (d hh) (d a) < 0
      · have hd : decide (cf (d hh) (d a) < 0) = true := decide_eq_true hc
        have HN : Hid (FirstI cf d a m b (hh + 1) j) := Lib.hid ⟨fun _ => hc, HK.out.1.2⟩
        have HD := Lib.hid HK.out.2
        clear HK
        obtain ⟨x, hx⟩ : ∃ x, x = d hh := ⟨_, rfl⟩
        rw [← hx] at T0 CC hc hd
        clear hx
        obtain ⟨y, hy⟩ : ∃ y, y = d a := ⟨_, rfl⟩
        rw [← hy] at T0 CC hc hd
        clear hy
        obtain ⟨v, hv⟩ : ∃ v, v = cf x y := ⟨_, rfl⟩
        rw [← hv] at CC hc hd
        clear hv
        go_wp2_with fail
        go_region_held3 (fun W => Below wr.heap.size wr W ∧ blk < W.heap.size ∧ W.cell? ⟨blk, hh, none⟩ = some (.int .i64 (x : Int)) ∧ W.cell? ⟨blk, a, none⟩ = some (.int .i64 (y : Int)))
          (first | exact T0.out.drew | exact Two.next (by assumption) (by assumption))
          (first | (go_at_call 48; refine (CC.out _ ((Below.refl _ _).drew)).mono ?_; rintro e w' ⟨rfl, hb⟩))
        rename_i hH
        have S1 := Lib.hid (HD.out.next hH.1)
        clear CC T0 HD hH hb hc hd
        go_wp2_with fail
        go_roundw
        case rel => exact ⟨hh + 1, j, by go_num, rfl, by omega, by omega, by omega, Lib.hid ⟨HN.out, S1.out⟩⟩
        case measure => simp [intOf]; omega
      · have hd : decide (cf (d hh) (d a) < 0) = false := decide_eq_false hc
        have HN : Hid (FirstI cf d a m b i hh) := Lib.hid ⟨HK.out.1.1, fun _ => hc⟩
        have HD := Lib.hid HK.out.2
        clear HK
        obtain ⟨x, hx⟩ : ∃ x, x = d hh := ⟨_, rfl⟩
        rw [← hx] at T0 CC hc hd
        clear hx
        obtain ⟨y, hy⟩ : ∃ y, y = d a := ⟨_, rfl⟩
        rw [← hy] at T0 CC hc hd
        clear hy
        obtain ⟨v, hv⟩ : ∃ v, v = cf x y := ⟨_, rfl⟩
        rw [← hv] at CC hc hd
        clear hv
        go_wp2_with fail
        go_region_held3 (fun W => Below wr.heap.size wr W ∧ blk < W.heap.size ∧ W.cell? ⟨blk, hh, none⟩ = some (.int .i64 (x : Int)) ∧ W.cell? ⟨blk, a, none⟩ = some (.int .i64 (y : Int)))
          (first | exact T0.out.drew | exact Two.next (by assumption) (by assumption))
          (first | (go_at_call 48; refine (CC.out _ ((Below.refl _ _).drew)).mono ?_; rintro e w' ⟨rfl, hb⟩))
        rename_i hH
        have S1 := Lib.hid (HD.out.next hH.1)
        clear CC T0 HD hH hb hc hd
        go_wp2_with fail
        go_roundw
        case rel => exact ⟨i, hh, rfl, rfl, by omega, by omega, by omega, Lib.hid ⟨HN.out, S1.out⟩⟩
        case measure => simp [intOf]; omega
    · obtain rfl : j = i := by omega
      have FIN : Hid (Srt lt a b (rot a (a + 1) j d)) := Lib.hid (by
        obtain ⟨⟨k1, k2⟩, _⟩ := HK.out
        have := H2.out
        rw [HM.out] at this k1
        exact merge_first OO.out this.1 this.2 (by omega) (by omega) k1 k2)
      have HD := Lib.hid HK.out.2
      clear HK CM OO H2 HM
      obtain ⟨i, rfl⟩ : ∃ i, j = i + 1 := ⟨j - 1, by omega⟩
      go_wp2_with fail
      go_loopw [13] (fun vk wr => ∃ k : Nat, vk = .int .i64 (k : Int) ∧ a ≤ k ∧ k ≤ i ∧ Hid (SR w0 blk n (rot a (a + 1) (k + 1) d) wr)) (fun vk _ => i - (intOf vk).toNat)
      case atStart => exact ⟨a, rfl, by omega, by omega, Lib.hid (by rw [rot_none a (a + 1) (a + 1) d (by omega) (by omega) (by omega)]; exact HD.out)⟩
      case round =>
        obtain ⟨k, rfl, hak, hki, HR⟩ := hrel
        by_cases hlt2 : k < i
        · have S2 := Lib.hid (HR.out.swap (i := k) (j := k + 1) (by omega) (by omega) (by omega))
          rw [rot_up d hak] at S2
          have c1 := HR.out.cell k (by omega)
          have c2 := HR.out.cell (k + 1) (by omega)
          have f1 := HR.out.free k (by omega)
          have f2 := HR.out.free (k + 1) (by omega)
          have c3 := HR.out.two (i := k) (j := k + 1) (by omega) (by omega) (.int .i64 (rot a (a + 1) (k + 1) d (k + 1) : Int))
          generalize rot a (a + 1) (k + 1) d (k + 1) = y at *
          generalize rot a (a + 1) (k + 1) d k = x at *
          have p1 : (0 : Int) ≤ (k : Int) := by omega
          have b1 : (k : Int) < (n : Int) := by omega
          have p2 : (0 : Int) ≤ (k : Int) + 1 := by omega
          have b2 : (k : Int) + 1 < (n : Int) := by omega
          have e2 : ((k : Int) + 1).toNat = k + 1 := by omega
          have r2 : IntKind.i64.wrap ((k : Int) + 1) = (k : Int) + 1 := IntWalk.i64_in _ (by omega)
          clear HR HD
          go_wp2_with fail
          go_big_region_o
          clear c1 c2 c3 f1 f2
          generalize ((wr.setCell ⟨blk, k, none⟩ (.int .i64 (y : Int))).setCell ⟨blk, k + 1, none⟩ (.int .i64 (x : Int))).drew = w3 at S2 ⊢
          clear p1 b1 p2 b2 e2 r2
          go_wp2_with fail
          go_roundw
          case rel => exact ⟨k + 1, by go_num, by omega, by omega, S2⟩
          case measure => simp [intOf]; omega
        · obtain rfl : k = i := by omega
          go_wp2_with fail
          go_end0
          exact ⟨rfl, _, (rot_moved a (a + 1) (k + 1) d (by omega) (by omega)).mono (Nat.le_refl _) (by omega), FIN.out, HR.out⟩

set_option maxRecDepth 100000 in
set_option maxHeartbeats 4000000 in
theorem symLast {cf : Nat → Nat → Int} {lt : Nat → Nat → Prop} (O : Ord cf lt) (w0 : World) (blk n cap a m b : Nat) (p q : Value) (d : Nat → Nat) (w : World) (h : SR w0 blk n d w) (HC : CmpOk p q cf w0 blk n) (hb1 : b = m + 1) (ham : a ≤ m) (hne : m ≠ a + 1) (hb : b ≤ n) (hn : n ≤ 1000000) (h1 : Srt lt a m d) (hl : Less a m b d) :
    Calls Try.prog 53 #[.slice (some ⟨blk, 0, none⟩) n cap, .int .i64 (a : Int), .int .i64 (m : Int), .int .i64 (b : Int), .func (.func 48) #[] #[p, q]] w (SortPost lt w0 blk n a b d) := by
  have HS := Lib.hid h
  have CM := Lib.hid HC
  have OO := Lib.hid O
  have H2 := Lib.hid (And.intro h1 hl)
  clear h HC O h1 hl
  have mixed : Try.prog.follows .mixedOrders = true := by kernel_rfl
  have g0 : ((m : Int) - (a : Int) == 1) = false := by simp; omega
  have r0 : (b : Int) - (m : Int) = 1 := by omega
  have HM := Lib.hid hb1
  have hm1 : b ≤ m + 1 := by omega
  have hm2 : m + 1 ≤ b := by omega
  clear hb1 hne
  go_enter Try.func53, Try.ntmps53
  go_wp2_with fail
  go_loopw [14, 15] (fun vi vj wr => ∃ (i j : Nat), vi = .int .i64 (i : Int) ∧ vj = .int .i64 (j : Int) ∧ a ≤ i ∧ i ≤ j ∧ j ≤ m ∧ Hid (LastI cf d a m i j ∧ SR w0 blk n d wr)) (fun vi vj _ => (intOf vj).toNat - (intOf vi).toNat)
  case atStart => exact ⟨a, m, rfl, rfl, by omega, by omega, by omega, Lib.hid ⟨⟨fun h => by omega, fun h => by omega⟩, HS.out⟩⟩
  case round =>
    obtain ⟨i, j, rfl, rfl, hmi, hij, hjb, HK⟩ := hrel
    clear HS
    by_cases hlt : i < j
    · obtain ⟨hh, hhe⟩ : ∃ hh, hh = (i + j) / 2 := ⟨_, rfl⟩
      have ez : ((i : Int) + (j : Int)) / 2 = (hh : Int) := by omega
      have q1 : i ≤ hh := by omega
      have q2 : hh < j := by omega
      clear hhe
      have T0 := Lib.hid (Two.of HK.out.2 (i := m) (j := hh) (by omega) (by omega))
      have p1 : (0 : Int) ≤ (hh : Int) := by omega
      have b1 : (hh : Int) < (n : Int) := by omega
      have p2 : (0 : Int) ≤ (m : Int) := by omega
      have b2 : (m : Int) < (n : Int) := by omega
      have CC := Lib.hid (fun W (hW : Below wr.heap.size wr W) => CM.out W (HK.out.2.next hW).bel (HK.out.2.next hW).lt (d m) (d hh) (HK.out.2.rng _ (by omega)) (HK.out.2.rng _ (by omega)))
      by_cases hc : cf (d m) (d hh) < 0
      · have hd : decide (cf (d m) (d hh) < 0) = true := decide_eq_true hc
        have HN : Hid (LastI cf d a m i hh) := Lib.hid ⟨HK.out.1.1, fun _ => hc⟩
        have HD := Lib.hid HK.out.2
        clear HK
        obtain ⟨y, hy⟩ : ∃ y, y = d hh := ⟨_, rfl⟩
        rw [← hy] at T0 CC hc hd
        clear hy
        obtain ⟨x, hx⟩ : ∃ x, x = d m := ⟨_, rfl⟩
        rw [← hx] at T0 CC hc hd
        clear hx
        obtain ⟨v, hv⟩ : ∃ v, v = cf x y := ⟨_, rfl⟩
        rw [← hv] at CC hc hd
        clear hv
        go_wp2_with fail
        go_region_held3 (fun W => Below wr.heap.size wr W ∧ blk < W.heap.size ∧ W.cell? ⟨blk, m, none⟩ = some (.int .i64 (x : Int)) ∧ W.cell? ⟨blk, hh, none⟩ = some (.int .i64 (y : Int)))
          (first | exact T0.out.drew | exact Two.next (by assumption) (by assumption))
          (first | (go_at_call 48; refine (CC.out _ ((Below.refl _ _).drew)).mono ?_; rintro e w' ⟨rfl, hb⟩))
        rename_i hH
        have S1 := Lib.hid (HD.out.next hH.1)
        clear CC T0 HD hH hb hc hd
        go_wp2_with fail
        go_roundw
        case rel => exact ⟨i, hh, rfl, rfl, by omega, by omega, by omega, Lib.hid ⟨HN.out, S1.out⟩⟩
        case measure => simp [intOf]; omega
      · have hd : decide (cf (d m) (d hh) < 0) = false := decide_eq_false hc
        have HN : Hid (LastI cf d a m (hh + 1) j) := Lib.hid ⟨fun _ => hc, HK.out.1.2⟩
        have HD := Lib.hid HK.out.2
        clear HK
        obtain ⟨y, hy⟩ : ∃ y, y = d hh := ⟨_, rfl⟩
        rw [← hy] at T0 CC hc hd
        clear hy
        obtain ⟨x, hx⟩ : ∃ x, x = d m := ⟨_, rfl⟩
        rw [← hx] at T0 CC hc hd
        clear hx
        obtain ⟨v, hv⟩ : ∃ v, v = cf x y := ⟨_, rfl⟩
        rw [← hv] at CC hc hd
        clear hv
        go_wp2_with fail
        go_region_held3 (fun W => Below wr.heap.size wr W ∧ blk < W.heap.size ∧ W.cell? ⟨blk, m, none⟩ = some (.int .i64 (x : Int)) ∧ W.cell? ⟨blk, hh, none⟩ = some (.int .i64 (y : Int)))
          (first | exact T0.out.drew | exact Two.next (by assumption) (by assumption))
          (first | (go_at_call 48; refine (CC.out _ ((Below.refl _ _).drew)).mono ?_; rintro e w' ⟨rfl, hb⟩))
        rename_i hH
        have S1 := Lib.hid (HD.out.next hH.1)
        clear CC T0 HD hH hb hc hd
        go_wp2_with fail
        go_roundw
        case rel => exact ⟨hh + 1, j, by go_num, rfl, by omega, by omega, by omega, Lib.hid ⟨HN.out, S1.out⟩⟩
        case measure => simp [intOf]; omega
    · obtain rfl : j = i := by omega
      have FIN : Hid (Srt lt a b (rot j m (m + 1) d)) := Lib.hid (by
        obtain ⟨⟨k1, k2⟩, _⟩ := HK.out
        have := H2.out
        rw [HM.out] at this ⊢
        exact merge_last OO.out this.1 this.2 (by omega) (by omega) k1 k2)
      have HD := Lib.hid HK.out.2
      clear HK CM OO H2 HM
      go_wp2_with fail
      go_loopw [17] (fun vk wr => ∃ k : Nat, vk = .int .i64 (k : Int) ∧ j ≤ k ∧ k ≤ m ∧ Hid (SR w0 blk n (rot k m (m + 1) d) wr)) (fun vk _ => (intOf vk).toNat)
      case atStart => exact ⟨m, rfl, by omega, by omega, Lib.hid (by rw [rot_none m m (m + 1) d (by omega) (by omega) (by omega)]; exact HD.out)⟩
      case round =>
        obtain ⟨k0, rfl, hak, hki, HR⟩ := hrel
        by_cases hlt2 : j < k0
        · obtain ⟨k, rfl⟩ : ∃ k, k0 = k + 1 := ⟨k0 - 1, by omega⟩
          have S2 := Lib.hid (HR.out.swap (i := k + 1) (j := k) (by omega) (by omega) (by omega))
          rw [rot_down d (by omega)] at S2
          have c1 := HR.out.cell k (by omega)
          have c2 := HR.out.cell (k + 1) (by omega)
          have f1 := HR.out.free k (by omega)
          have f2 := HR.out.free (k + 1) (by omega)
          have c3 := HR.out.two (i := k + 1) (j := k) (by omega) (by omega) (.int .i64 (rot (k + 1) m (m + 1) d k : Int))
          generalize rot (k + 1) m (m + 1) d (k + 1) = x at *
          generalize rot (k + 1) m (m + 1) d k = y at *
          have p1 : (0 : Int) ≤ (k : Int) := by omega
          have b1 : (k : Int) < (n : Int) := by omega
          have p2 : (0 : Int) ≤ (k : Int) + 1 := by omega
          have b2 : (k : Int) + 1 < (n : Int) := by omega
          have e2 : ((k : Int) + 1).toNat = k + 1 := by omega
          have r1 : IntKind.i64.wrap (k : Int) = (k : Int) := IntWalk.i64_in _ (by omega)
          have r2 : IntKind.i64.wrap ((k : Int) + 1) = (k : Int) + 1 := IntWalk.i64_in _ (by omega)
          have hz : (j : Int) < (k : Int) + 1 := by omega
          clear HR HD
          go_wp2_with fail
          go_big_region_o
          clear c1 c2 c3 f1 f2
          generalize ((wr.setCell ⟨blk, k + 1, none⟩ (.int .i64 (y : Int))).setCell ⟨blk, k, none⟩ (.int .i64 (x : Int))).drew = w3 at S2 ⊢
          clear p1 b1 p2 b2 e2 r2
          go_wp2_with fail
          go_roundw
          case rel => exact ⟨k, by go_num, by omega, by omega, S2⟩
          case measure => simp [intOf]
        · obtain rfl : k0 = j := by omega
          have hz : ¬ (k0 : Int) < (k0 : Int) := by omega
          go_wp2_with fail
          go_end0
          exact ⟨rfl, _, (rot_moved k0 m (m + 1) d (by omega) (by omega)).mono (by omega) (by omega), FIN.out, HR.out⟩

end Go.Proofs.Ytllpglanpfjcnaa.SortC
