/-
  The law MarksOrdered.
-/
import Derived.Test.YtllpglanpfjcnaaMarksK
import Derived.Test.YtllpglanpfjcnaaMovedK
import Derived.Test.YtllpglanpfjcnaaEditsA
namespace Go.Proofs.Ytllpglanpfjcnaa.MarkK
open Go.RowKit Kit EditM MarkM MarkC EditC EditK Lift Txt ChgM

/-- one mark is not behind another one, and is not alone Right -/
def ahead (a b : MkM) : Prop := a.at_ ≤ b.at_ ∧ (a.right = false ∨ b.right = true)
theorem plc_ahead {e : EdM} {a b : MkM} (h : ahead a b) : ahead (plc e a) (plc e b) := by
  obtain ⟨x, r⟩ := a
  obtain ⟨y, s⟩ := b
  unfold ahead plc placed at *
  dsimp only at *
  refine ⟨?_, h.2⟩
  obtain ⟨h1, h2⟩ := h
  cases r <;> cases s <;> simp at h2 ⊢ <;> (repeat' split) <;> omega
theorem mvd_ahead {l : List EdM} {n : Int} {a b : MkM} (hc : szC l n = 0) (h : ahead a b) : ahead (mvd l a) (mvd l b) := by
  induction l generalizing n a b with
  | nil => exact h
  | cons e l ih =>
    by_cases hf : fault n e.at_ e.cut e.put.size = 0
    · simp only [szC, if_pos hf] at hc
      exact ih hc (plc_ahead h)
    · simp only [szC, if_neg hf] at hc; exact absurd hc hf
/-- the number that is drawn -/
theorem pick100 (size : Int) : ∃ N : Nat, size % 100 = (N : Int) ∧ N < 100 := by
  have h1 := Int.emod_nonneg size (show (100 : Int) ≠ 0 by omega)
  have h2 := Int.emod_lt_of_pos size (show (0 : Int) < 100 by omega)
  exact ⟨(size % 100).toNat, by omega, by omega⟩
/-- the code of the edits that are drawn -/
theorem edsOf_szC (l : List ChgM) (m N : Nat) (h : N + 8 * m ≤ 600) : szC (edsOf l m N) N = 0 ∧ ∀ e ∈ edsOf l m N, e.ok := by
  have := edsOf_code l m (List.replicate N 0) (by simpa using h)
  rw [List.length_replicate] at this
  refine ⟨?_, this.2⟩
  have e := szC_apC (edsOf l m N) (List.replicate N 0)
  rw [List.length_replicate] at e
  rw [e]; exact this.1

set_option maxRecDepth 100000 in
set_option maxHeartbeats 4000000 in
theorem marksOrdered (a0 : Option Addr) (len0 cap0 : Nat) (z0 : List Int) (size : Int) (al : Option Addr) (cap : Nat) (l : List ChgM) (w : World) (hz : IsRow .i64 w a0 len0 cap0 z0) {X : Prop} (_ : X) (hl : ChsAt w al l) (hh : ∀ c ∈ l, c.has w) (hle : l.length ≤ cap) (hmx : cap ≤ maxLen) {S : Prop} (_ : S) :
    Calls Try.prog 6 #[.slice a0 len0 cap0, .int .i64 size, .slice al l.length cap] w fun e w' => e = .returned (.bool true) ∧ Below w.heap.size w w' := by
  have hlen : l.length ≤ 9223372036854775807 := by unfold maxLen at hmx; omega
  clear hle hmx
  have PK := Lib.hid (fun W => picked size 100 W (by omega) (by omega))
  obtain ⟨N, hN, hN1⟩ := pick100 size
  rw [hN] at PK
  clear hN
  have MK := Lib.hid (marksK a0 len0 cap0 z0 20 N w hz (by omega) (by omega))
  have ES := Lib.hid (fun W hW => edits l al cap 15 N W (hl.next hW) (fun c hc => (hh c hc).next hW) hlen (by omega) (by omega))
  have CO := edsOf_szC l 15 N (by omega)
  have LE := edsOf_len l 15 (N : Int)
  have MI := marksOf_in ((z0.take len0).take 20) (size := (N : Int)) (by omega)
  have ML : (marksOf ((z0.take len0).take 20) (N : Int)).length ≤ 20 := by unfold marksOf; rw [List.length_map, List.length_take]; omega
  generalize marksOf ((z0.take len0).take 20) (N : Int) = ms at *
  generalize edsOf l 15 (N : Int) = es at *
  have MV := Lib.hid (fun W v u hv hu => moved (N : Int) ms v es u W hv hu (by omega) (by omega) CO.2 (by omega) (by omega) MI CO.1)
  have AH := Lib.hid (fun a b h => mvd_ahead (a := a) (b := b) CO.1 h)
  clear hz hl hh CO LE MI
  generalize l.length = LL at *
  have mixed : Try.prog.follows .mixedOrders = true := by kernel_rfl
  go_enter Try.func6, Try.ntmps6
  go_wp2_with fail
  refine (PK.out _).mono ?_
  rintro e w1 ⟨rfl, rfl⟩
  go_wp2_with fail
  refine MK.out.mono ?_
  rintro e w2 ⟨v, rfl, hv⟩
  have C2 := Lib.hid (ES.out w2 hv.bel)
  have V2 := Lib.hid hv
  clear hv ES MK PK
  go_wp2_with fail
  refine C2.out.mono ?_
  rintro e w3 ⟨u, rfl, hu, hb3⟩
  have V3 := Lib.hid (V2.out.next hb3)
  have C3 := Lib.hid (MV.out w3 v u V3.out.val hu)
  clear hu hb3 C2 V2 MV
  go_wp2_with fail
  refine C3.out.mono ?_
  rintro e w4 ⟨xa, xcap, rfl, _, hx, hb4⟩
  have V4 := V3.out.val.next hb4
  have B4 := Lib.hid (bstep V3.out.bel hb4)
  obtain ⟨va, vcap, rfl, _, hva, _⟩ := V4
  have XA := Lib.hid hx
  have VA := Lib.hid hva
  have HG : Hid (∀ i, i < ms.length → ∃ m, ms[i]? = some m ∧ (ms.map (mvd es))[i]? = some (mvd es m)) := Lib.hid fun i hi => ⟨ms[i], by simp [hi], by simp [hi]⟩
  clear hx hva hb4 C3 V3
  generalize ms.length = n at *
  go_wp2_with fail
  go_loopw [12] (fun vi wr => ∃ i : Nat, i ≤ n ∧ vi = .int .i64 (i : Int) ∧ Hid (Below w4.heap.size w4 wr)) (fun vi _ => n - (intOf vi).toNat)
  case atStart => exact ⟨0, by omega, rfl, Lib.hid (Below.refl _ _)⟩
  case round =>
    obtain ⟨i, hi, rfl, HB⟩ := hrel
    by_cases hlt : i < n
    · go_wp2_with fail
      go_loopw [13] (fun vk wr => ∃ k : Nat, k ≤ n ∧ vk = .int .i64 (k : Int) ∧ Hid (Below w4.heap.size w4 wr)) (fun vk _ => n - (intOf vk).toNat)
      case atStart => exact ⟨0, by omega, rfl, HB⟩
      case round =>
        obtain ⟨k, hk, rfl, HB2⟩ := hrel
        clear HB
        by_cases hkl : k < n
        · obtain ⟨mi, hmi, hxi⟩ := HG.out i hlt
          obtain ⟨mk, hmk, hxk⟩ := HG.out k hkl
          obtain ⟨g, off, rfl, _, c0, c1⟩ := MksAt.get (VA.out.next HB2.out) hmi
          obtain ⟨g1, off1, e1, _, d0, d1⟩ := MksAt.get (VA.out.next HB2.out) hmk
          simp only [Option.some.injEq, Addr.mk.injEq, and_true] at e1
          obtain ⟨rfl, rfl⟩ := e1
          obtain ⟨g2, off2, rfl, _, e0, e1⟩ := MksAt.get (XA.out.next HB2.out) hxi
          obtain ⟨g3, off3, e3, _, f0, _⟩ := MksAt.get (XA.out.next HB2.out) hxk
          simp only [Option.some.injEq, Addr.mk.injEq, and_true] at e3
          obtain ⟨rfl, rfl⟩ := e3
          have AA : ahead mi mk → (mvd es mi).at_ ≤ (mvd es mk).at_ := fun h => (AH.out mi mk h).1
          rw [mvd_right] at e1
          have B5 := Lib.hid HB2.out.drew.drew
          clear hmi hxi hmk hxk HB2
          generalize (mvd es mi).at_ = xi at *
          generalize (mvd es mk).at_ = xk at *
          obtain ⟨ia, ir⟩ := mi
          obtain ⟨ka, kr⟩ := mk
          unfold ahead at AA
          dsimp only at *
          have i1 : (i : Int) < (n : Int) := by omega
          have i2 : (0 : Int) ≤ (i : Int) := by omega
          have i3 : (k : Int) < (n : Int) := by omega
          have i4 : (0 : Int) ≤ (k : Int) := by omega
          by_cases hle : ia ≤ ka
          · have g1 : decide (ia ≤ ka) = true := decide_eq_true hle
            cases ir
            · have hx := AA ⟨hle, .inl rfl⟩
              have g2 : decide (xk < xi) = false := decide_eq_false (by omega)
              clear AA
              go_wp2_with fail
              go_big_region_o
              go_wp2_with fail
              go_big_region_o
              go_wp2_with fail
              go_roundw
              case rel => exact ⟨k + 1, by omega, by go_num, B5⟩
              case measure => simp [intOf]; omega
            · cases kr
              · clear AA
                go_wp2_with fail
                go_big_region_o
                go_wp2_with fail
                go_big_region_o
                go_wp2_with fail
                go_roundw
                case rel => exact ⟨k + 1, by omega, by go_num, B5⟩
                case measure => simp [intOf]; omega
              · have hx := AA ⟨hle, .inr rfl⟩
                have g2 : decide (xk < xi) = false := decide_eq_false (by omega)
                clear AA
                go_wp2_with fail
                go_big_region_o
                go_wp2_with fail
                go_big_region_o
                go_wp2_with fail
                go_roundw
                case rel => exact ⟨k + 1, by omega, by go_num, B5⟩
                case measure => simp [intOf]; omega
          · have g1 : decide (ia ≤ ka) = false := decide_eq_false hle
            clear AA
            cases ir
            · go_wp2_with fail
              go_big_region_o
              go_wp2_with fail
              go_big_region_o
              go_wp2_with fail
              go_roundw
              case rel => exact ⟨k + 1, by omega, by go_num, B5⟩
              case measure => simp [intOf]; omega
            · go_wp2_with fail
              go_big_region_o
              go_wp2_with fail
              go_big_region_o
              go_wp2_with fail
              go_roundw
              case rel => exact ⟨k + 1, by omega, by go_num, B5⟩
              case measure => simp [intOf]; omega
        · obtain rfl : k = n := by omega
          go_wp2_with fail
          go_roundw
          case rel => exact ⟨i + 1, by omega, by go_num, HB2⟩
          case measure => simp [intOf]; omega
    · have BB := Lib.hid (bstep B4.out HB.out)
      go_wp2_with fail
      go_ret
      exact ⟨rfl, BB.out⟩

end Go.Proofs.Ytllpglanpfjcnaa.MarkK
