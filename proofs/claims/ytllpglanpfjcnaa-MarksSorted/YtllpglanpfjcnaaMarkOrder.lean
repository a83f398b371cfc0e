/-
  Package marks: Order, and what the document answers (fustianref.MarksOrder).
-/
import Derived.Test.YtllpglanpfjcnaaMarkSort
import Derived.Test.YtllpglanpfjcnaaMarkMath
import Derived.Test.YtllpglanpfjcnaaSameL
import Derived.Deep.Cut
import Derived.Deep.DeepCutAuto
namespace Go.Proofs.Ytllpglanpfjcnaa.MarkC
open Go.RowKit Kit EditM MarkM SortM SortC

def keyO (ms : List MkM) (i : Nat) : Int := key2 (mk ms i)
/-- what Order answers -/
def OrderPost (k : Nat → Int) (n : Nat) (w : World) (e : Ending) (w' : World) : Prop := ∃ blk d, e = .returned (.tuple #[.slice (some ⟨blk, 0, none⟩) n n, .int .i64 0]) ∧ w.heap.size ≤ blk ∧ Below w.heap.size w w' ∧ SR w' blk n d w' ∧ Moved 0 n (fun i => i) d ∧ Srt (ltK k) 0 n d
set_option maxHeartbeats 1000000 in
theorem order (ms : List MkM) (al : Option Addr) (cap : Nat) (w : World) (h : MksAt w al ms) (h60 : ms.length ≤ 60) :
    Calls Try.prog 13 #[.slice al ms.length cap] w (OrderPost (keyO ms) ms.length w) := by
  have C := Lib.hid (sorted_order ms al cap w h h60)
  clear h
  generalize ms.length = n at *
  go_enter Try.func13, Try.ntmps13
  go_wp2_with fail
  refine C.out.mono ?_
  rintro e w1 ⟨blk, d, rfl, h1, h2, h3, h4, h5⟩
  have FIN : Hid (OrderPost (keyO ms) n w (.returned (.tuple #[.slice (some ⟨blk, 0, none⟩) n n, .int .i64 0])) w1) := Lib.hid ⟨blk, d, rfl, h1, h2, h3, h4, h5⟩
  clear h1 h2 h3 h4 h5 C
  go_wp2_with fail
  go_ret2
  exact FIN.out
set_option maxHeartbeats 400000 in
theorem order_long (al : Option Addr) (n cap : Nat) (w : World) (h60 : 60 < n) :
    Calls Try.prog 13 #[.slice al n cap] w fun e w' => e = .returned (.tuple #[.slice none 0 0, .int .i64 1]) ∧ w = w' := by
  go_enter Try.func13, Try.ntmps13
  go_wp2_with fail
  go_ret2
  exact ⟨rfl, rfl⟩

/-- one place stands ahead of another one -/
def ltB (k : Nat → Int) (x y : Nat) : Bool := decide (k x < k y) || (decide (k x = k y) && decide (x < y))
theorem ltB_iff (k : Nat → Int) (x y : Nat) : ltB k x y = true ↔ ltK k x y := by simp [ltB, ltK]
theorem ltK_trans (k : Nat → Int) (x y z : Nat) (h1 : ltK k x y) (h2 : ltK k y z) : ltK k x z := by unfold ltK at *; omega
theorem ltK_irr (k : Nat → Int) (x : Nat) : ¬ ltK k x x := by unfold ltK; omega
theorem ltB_key (ms : List MkM) (x y : Nat) : ltB (keyO ms) x y = (decide ((mk ms x).at_ < (mk ms y).at_) || ((mk ms x).at_ == (mk ms y).at_ && ((!(mk ms x).right && (mk ms y).right) || ((mk ms x).right == (mk ms y).right && decide (x < y))))) := by
  unfold ltB keyO key2
  generalize mk ms x = a
  generalize mk ms y = b
  obtain ⟨p, r⟩ := a
  obtain ⟨q, s⟩ := b
  dsimp only
  apply Bool.eq_iff_iff.2
  cases r <;> cases s <;> simp <;> omega

/-- what the document's loop keeps -/
structure RO (w : World) (n i : Nat) (c : Nat → Nat) (dk : Nat → Nat) (wr : World) : Prop where
  sr : SR w w.heap.size n dk wr
  put : ∀ j, j < i → dk (c j) = j
theorem RO.next {w wr w' : World} {n i : Nat} {c dk : Nat → Nat} (h : RO w n i c dk wr) (hb : Below wr.heap.size wr w') : RO w n i c dk w' := ⟨h.sr.next hb, h.put⟩
theorem RO.store {w wr : World} {n i : Nat} {c dk : Nat → Nat} (h : RO w n i c dk wr) (hi : i < n) (hc : c i < n) (hj : ∀ j, j < i → c j ≠ c i) : RO w n (i + 1) c (fun k => if k = c i then i else dk k) (wr.setCell ⟨w.heap.size, c i, none⟩ (.int .i64 (i : Int))) := by
  refine ⟨h.sr.set hc i hi, fun j hji => ?_⟩
  by_cases e : j = i
  · subst e; rw [if_pos rfl]
  · rw [if_neg (hj j (by omega))]; exact h.put j (by omega)

/-- the same inside, beside the box of the mark -/
structure RI (w wq : World) (n i : Nat) (c dk : Nat → Nat) (ma : Int) (mr : Bool) (wr : World) : Prop where
  ro : RO w n i c dk wr
  bel : Below wq.heap.size wq wr
  lt : wq.heap.size < wr.heap.size
  b0 : wr.cell? ⟨wq.heap.size, 0, none⟩ = some (.int .i64 ma)
  b1 : wr.cell? ⟨wq.heap.size, 1, none⟩ = some (.bool mr)
theorem RI.next {w wq wr w' : World} {n i : Nat} {c dk : Nat → Nat} {ma : Int} {mr : Bool} (h : RI w wq n i c dk ma mr wr) (hb : Below wr.heap.size wr w') : RI w wq n i c dk ma mr w' :=
  ⟨h.ro.next hb, bstep h.bel hb, Nat.lt_of_lt_of_le h.lt hb.size, keep hb h.lt h.b0, keep hb h.lt h.b1⟩

set_option maxRecDepth 100000 in
set_option maxHeartbeats 4000000 in
theorem orderRef (ms : List MkM) (al : Option Addr) (cap : Nat) (w : World) (h : MksAt w al ms) (h60 : ms.length ≤ 60) (d : Nat → Nat) (hm : Moved 0 ms.length (fun i => i) d) (hs : Srt (ltK (keyO ms)) 0 ms.length d) :
    Calls Try.prog 14 #[.slice al ms.length cap] w fun e w' => e = .returned (.tuple #[.slice (some ⟨w.heap.size, 0, none⟩) ms.length ms.length, .int .i64 0]) ∧ Below w.heap.size w w' ∧ SR w w.heap.size ms.length d w' := by
  have CA : Hid (∀ p, p < ms.length → cnt (ltB (keyO ms)) ms.length (d p) = p) := Lib.hid fun p hp => cnt_at (ltB_iff _) (ltK_trans _) (ltK_irr _) hm hs hp
  have CLT : Hid (∀ i, i < ms.length → cnt (ltB (keyO ms)) ms.length i < ms.length) := Lib.hid fun i hi => by
    obtain ⟨p, hp, rfl⟩ := hm.sur i hi
    rw [CA.out p hp]; exact hp
  have CNE : Hid (∀ i j, i < ms.length → j < ms.length → i ≠ j → cnt (ltB (keyO ms)) ms.length i ≠ cnt (ltB (keyO ms)) ms.length j) := Lib.hid fun i j hi hj hij e => by
    obtain ⟨p, hp, rfl⟩ := hm.sur i hi
    obtain ⟨q, hq, rfl⟩ := hm.sur j hj
    rw [CA.out p hp, CA.out q hq] at e
    exact hij (by rw [e])
  have DR : Hid (∀ p, p < ms.length → d p < ms.length) := Lib.hid hm.rng
  obtain ⟨i0, hi, hz0, hz1, hz2⟩ := info_parts infoInt
  have HI := Lib.hid (And.intro hi (And.intro hz0 (And.intro hz1 hz2)))
  clear hi hz0 hz1 hz2 hm hs
  have HL := Lib.hid h
  clear h
  obtain ⟨n, hn⟩ : ∃ n, n = ms.length := ⟨_, rfl⟩
  have HG : Hid (∀ i, i < n → ms[i]? = some (mk ms i)) := Lib.hid fun i hi => mk_get (by omega)
  rw [← hn] at h60 CA CLT CNE DR ⊢
  clear hn
  go_enter Try.func14, Try.ntmps14
  go_wp2_with (refine wpList_make_full _ rfl _ _ 30 rfl w.heap.size 3 i0 _ 1 Try.underlying30 HI.out.1 HI.out.2.1 HI.out.2.2.1 .i64 .i64 _ _ n rfl rfl rfl rfl (by rw [HI.out.2.2.2]; omega) (by unfold maxLen; omega) (by simp) ?_; intro w1 hown hgrow)
  have S0 : Hid (RO w n 0 (cnt (ltB (keyO ms)) n) (fun j => if j < 0 then j else 0) w1) := Lib.hid ⟨SR.made (grows_below hgrow) hown, fun j hj => by omega⟩
  clear hown hgrow HI
  go_loopw [19] (fun vi wr => ∃ (i : Nat) (dk : Nat → Nat), i ≤ n ∧ vi = .int .i64 (i : Int) ∧ Hid (RO w n i (cnt (ltB (keyO ms)) n) dk wr)) (fun vi _ => n - (intOf vi).toNat)
  case atStart => exact ⟨0, _, by omega, rfl, S0⟩
  case round =>
    obtain ⟨i, dk, hin, rfl, HR⟩ := hrel
    clear S0
    by_cases hlt : i < n
    · obtain ⟨g, off, rfl, hg, c0, c1⟩ := MksAt.get (HL.out.next (HR.out.sr.bel)) (HG.out i hlt)
      have i1 : (i : Int) < (n : Int) := by omega
      have i2 : (0 : Int) ≤ (i : Int) := by omega
      have KEY := Lib.hid (fun k => ltB_key ms k i)
      have X : Hid (∀ W, Below wr.heap.size wr W → MksAt W (some ⟨g, off, none⟩) ms) := Lib.hid fun W hW => (HL.out.next HR.out.sr.bel).next hW
      have hcl := CLT.out i hlt
      have hne : Hid (∀ j, j < i → cnt (ltB (keyO ms)) n j ≠ cnt (ltB (keyO ms)) n i) := Lib.hid fun j hj => CNE.out j i (by omega) hlt (by omega)
      generalize mk ms i = m at *
      obtain ⟨ma, mr⟩ := m
      dsimp only at *
      obtain ⟨wq, rfl⟩ : ∃ wq, wq = wr := ⟨_, rfl⟩
      have I0 : Hid (RI w wq n i (cnt (ltB (keyO ms)) n) dk ma mr (wq.alloc (.cells #[.int .i64 ma, .bool mr] 28))) := Lib.hid ⟨HR.out.next (balloc (Below.refl _ _) _), balloc (Below.refl _ _) _, by simp, by simp, by simp⟩
      clear HR HL
      go_wp2_with fail
      go_loopw [7, 26] (fun vc vk wr => ∃ k : Nat, k ≤ n ∧ vk = .int .i64 (k : Int) ∧ vc = .int .i64 (cnt (ltB (keyO ms)) k i : Int) ∧ Hid (RI w wq n i (cnt (ltB (keyO ms)) n) dk ma mr wr)) (fun _ vk _ => n - (intOf vk).toNat)
      case atStart => exact ⟨0, by omega, rfl, rfl, I0⟩
      case round =>
        obtain ⟨k, hkn, rfl, rfl, HI⟩ := hrel
        clear I0
        by_cases hkl : k < n
        · obtain ⟨g', off', eg, hg2, d0, d1⟩ := MksAt.get (X.out _ HI.out.bel) (HG.out k hkl)
          simp only [Option.some.injEq, Addr.mk.injEq, and_true] at eg
          obtain ⟨rfl, rfl⟩ := eg
          obtain ⟨_, _, hb1, b0, b1⟩ := HI.out
          have NX := Lib.hid (cnt_next (ltB (keyO ms)) k i)
          have cb := cnt_le (ltB (keyO ms)) k i
          have KB := Lib.hid (KEY.out k)
          have j1 : (k : Int) < (n : Int) := by omega
          have j2 : (0 : Int) ≤ (k : Int) := by omega
          generalize mk ms k = o at *
          obtain ⟨oa, orr⟩ := o
          dsimp only at *
          generalize cnt (ltB (keyO ms)) k i = c at *
          clear c0 c1 X KEY
          have hwb : wq.heap.size ≠ wr.heap.size := by omega
          by_cases h1 : oa < ma
          · rw [decide_eq_true h1, Bool.true_or] at KB
            go_wp2_with fail
            go_roundw
            case rel => exact ⟨k + 1, by omega, by go_num, by rw [NX.out, KB.out]; first | rfl | go_num, Lib.hid (RI.next HI.out (balloc (Below.refl _ _) _))⟩
            case measure => simp [intOf]; omega
          · by_cases h2 : oa = ma
            · have h3 : (oa == ma) = true := by simpa using h2
              rw [decide_eq_false h1, h3, Bool.false_or, Bool.true_and] at KB
              clear h2
              cases orr
              · cases mr
                · by_cases h4 : k < i
                  · rw [decide_eq_true h4] at KB
                    go_wp2_with fail
                    go_roundw
                    case rel => exact ⟨k + 1, by omega, by go_num, by rw [NX.out, KB.out]; first | rfl | go_num, Lib.hid (RI.next HI.out (balloc (Below.refl _ _) _))⟩
                    case measure => simp [intOf]; omega
                  · rw [decide_eq_false h4] at KB
                    go_wp2_with fail
                    go_roundw
                    case rel => exact ⟨k + 1, by omega, by go_num, by rw [NX.out, KB.out]; first | rfl | go_num, Lib.hid (RI.next HI.out (balloc (Below.refl _ _) _))⟩
                    case measure => simp [intOf]; omega
                · go_wp2_with fail
                  go_roundw
                  case rel => exact ⟨k + 1, by omega, by go_num, by rw [NX.out, KB.out]; first | rfl | go_num, Lib.hid (RI.next HI.out (balloc (Below.refl _ _) _))⟩
                  case measure => simp [intOf]; omega
              · cases mr
                · go_wp2_with fail
                  go_roundw
                  case rel => exact ⟨k + 1, by omega, by go_num, by rw [NX.out, KB.out]; first | rfl | go_num, Lib.hid (RI.next HI.out (balloc (Below.refl _ _) _))⟩
                  case measure => simp [intOf]; omega
                · by_cases h4 : k < i
                  · rw [decide_eq_true h4] at KB
                    go_wp2_with fail
                    go_roundw
                    case rel => exact ⟨k + 1, by omega, by go_num, by rw [NX.out, KB.out]; first | rfl | go_num, Lib.hid (RI.next HI.out (balloc (Below.refl _ _) _))⟩
                    case measure => simp [intOf]; omega
                  · rw [decide_eq_false h4] at KB
                    go_wp2_with fail
                    go_roundw
                    case rel => exact ⟨k + 1, by omega, by go_num, by rw [NX.out, KB.out]; first | rfl | go_num, Lib.hid (RI.next HI.out (balloc (Below.refl _ _) _))⟩
                    case measure => simp [intOf]; omega
            · have h3 : (oa == ma) = false := by simpa using h2
              rw [decide_eq_false h1, h3, Bool.false_or, Bool.false_and] at KB
              go_wp2_with fail
              go_roundw
              case rel => exact ⟨k + 1, by omega, by go_num, by rw [NX.out, KB.out]; first | rfl | go_num, Lib.hid (RI.next HI.out (balloc (Below.refl _ _) _))⟩
              case measure => simp [intOf]; omega
        · obtain rfl : k = n := by omega
          have c1 := HI.out.ro.sr.cell _ hcl
          have f1 := HI.out.ro.sr.free _ hcl
          have S1 := Lib.hid (RO.store HI.out.ro hlt hcl hne.out)
          have p1 : (0 : Int) ≤ (cnt (ltB (keyO ms)) k i : Int) := by omega
          have p2 : (cnt (ltB (keyO ms)) k i : Int) < (k : Int) := by omega
          generalize cnt (ltB (keyO ms)) k i = c at *
          clear HI CA CLT CNE DR HG KEY X
          go_wp2_with fail
          go_roundw
          case rel => exact ⟨i + 1, _, by omega, by go_num, S1⟩
          case measure => simp [intOf]; omega
    · obtain rfl : i = n := by omega
      have FIN : Hid (Below w.heap.size w wr ∧ SR w w.heap.size i d wr) := Lib.hid ⟨HR.out.sr.bel, SR.ext HR.out.sr fun p hp => by
        have := HR.out.put (d p) (DR.out p hp)
        rw [CA.out p hp] at this
        exact this.symm⟩
      clear HR CA CLT CNE DR HG HL
      go_wp2_with fail
      go_ret2
      exact ⟨rfl, FIN.out.1, FIN.out.2⟩

end Go.Proofs.Ytllpglanpfjcnaa.MarkC
