/-
  What the document answers for Near (fustianref.MarksNear), and the law MarksNears.
-/
import Derived.Test.YtllpglanpfjcnaaMarkNear2
namespace Go.Proofs.Ytllpglanpfjcnaa.MarkC
open Go.RowKit Kit EditM MarkM SortM SortC

/-- what the loop keeps: of the marks from k on -/
def From (f : Nat → Int) (n : Nat) (a : Int) (right : Bool) (k : Nat) (found : Bool) (best : Nat) : Prop :=
  if found then (k ≤ best ∧ best < n ∧ fits right a (f best) ∧ ∀ i, k ≤ i → i < n → fits right a (f i) → closer right (f best) (f i) ∨ (f best = f i ∧ best ≤ i))
  else best = 0 ∧ ∀ i, k ≤ i → i < n → ¬ fits right a (f i)
section
variable {f : Nat → Int} {n : Nat} {a : Int} {k : Nat} {found : Bool} {best : Nat} {right : Bool}
theorem From.skip (h : From f n a right (k + 1) found best) (hf : ¬ fits right a (f k)) : From f n a right k found best := by
  cases found
  · simp only [From, Bool.false_eq_true, if_false] at h ⊢
    refine ⟨h.1, fun i h1 h2 => ?_⟩
    by_cases e : i = k
    · subst e; exact hf
    · exact h.2 i (by omega) h2
  · simp only [From, if_true] at h ⊢
    refine ⟨by omega, h.2.1, h.2.2.1, fun i h1 h2 h3 => ?_⟩
    by_cases e : i = k
    · subst e; exact absurd h3 hf
    · exact h.2.2.2 i (by omega) h2 h3
theorem From.take (h : From f n a right (k + 1) found best) (hk : k < n) (hf : fits right a (f k)) (hb : found = true → ¬ closer right (f best) (f k)) : From f n a right k true k := by
  simp only [From, if_true]
  refine ⟨Nat.le_refl _, hk, hf, fun i h1 h2 h3 => ?_⟩
  by_cases e : i = k
  · subst e; exact .inr ⟨rfl, Nat.le_refl _⟩
  · cases found
    · simp only [From, Bool.false_eq_true, if_false] at h
      exact absurd h3 (h.2 i (by omega) h2)
    · simp only [From, if_true] at h
      have x := h.2.2.2 i (by omega) h2 h3
      have y := hb rfl
      unfold closer at x y ⊢
      cases right <;> simp at x y ⊢ <;> omega
theorem From.keep (h : From f n a right (k + 1) true best) (hb : closer right (f best) (f k)) : From f n a right k true best := by
  simp only [From, if_true] at h ⊢
  refine ⟨by omega, h.2.1, h.2.2.1, fun i h1 h2 h3 => ?_⟩
  by_cases e : i = k
  · subst e; exact .inl hb
  · exact h.2.2.2 i (by omega) h2 h3
theorem From.ans (h : From f n a right 0 found best) : IsAns f n a right (best : Int) (if found then 0 else 7) := by
  cases found
  · simp only [From, Bool.false_eq_true, if_false] at h
    exact .inr ⟨fun i hi => h.2 i (Nat.zero_le _) hi, by rw [h.1]; rfl, rfl⟩
  · simp only [From, if_true] at h
    exact .inl ⟨best, ⟨h.2.1, h.2.2.1, fun i hi hf => h.2.2.2 i (Nat.zero_le _) hi hf⟩, rfl, rfl⟩
end

set_option maxHeartbeats 400000 in
theorem nearRef_long (al : Option Addr) (n cap : Nat) (a : Int) (r : Bool) (w : World) (h60 : 60 < n) :
    Calls Try.prog 17 #[.slice al n cap, .int .i64 a, .bool r] w fun e w' => e = .returned (.tuple #[.int .i64 0, .int .i64 1]) ∧ w = w' := by
  go_enter Try.func17, Try.ntmps17
  go_wp2_with fail
  go_ret2
  exact ⟨rfl, rfl⟩

set_option maxRecDepth 100000 in
set_option maxHeartbeats 4000000 in
theorem nearRef (ms : List MkM) (al : Option Addr) (cap : Nat) (a : Int) (right : Bool) (w : World) (h : MksAt w al ms) (h60 : ms.length ≤ 60) :
    Calls Try.prog 17 #[.slice al ms.length cap, .int .i64 a, .bool right] w (NearPost (atOf ms) ms.length a right w) := by
  have HL := Lib.hid h
  clear h
  obtain ⟨n, hn⟩ : ∃ n, n = ms.length := ⟨_, rfl⟩
  have HG : Hid (∀ i, i < n → ms[i]? = some (mk ms i)) := Lib.hid fun i hi => mk_get (by omega)
  rw [← hn] at h60 ⊢
  clear hn
  go_enter Try.func17, Try.ntmps17
  go_wp2_with fail
  go_loop [8, 9, 10] (fun vf vb vi => ∃ (k best : Nat) (found : Bool), k ≤ n ∧ vi = .int .i64 ((k : Int) - 1) ∧ vf = .bool found ∧ vb = .int .i64 (best : Int) ∧ Hid (From (atOf ms) n a right k found best)) (fun _ _ vi => (intOf vi + 1).toNat)
  case atStart => exact ⟨n, 0, false, Nat.le_refl _, rfl, rfl, rfl, Lib.hid (by unfold From; rw [if_neg (by simp)]; exact ⟨rfl, fun i h1 h2 => by omega⟩)⟩
  case round =>
    obtain ⟨k0, best, found, hk, rfl, rfl, rfl, HF⟩ := hrel
    by_cases hz : k0 = 0
    · subst hz
      have FIN := Lib.hid HF.out.ans
      cases found
      · go_wp2_with fail
        go_ret2
        refine ⟨0, 7, rfl, ?_, Below.refl _ _⟩
        have := HF.out
        simp only [From, Bool.false_eq_true, if_false] at this
        have q := FIN.out
        rw [this.1] at q
        exact q
      · go_wp2_with fail
        go_ret2
        exact ⟨best, 0, rfl, FIN.out, Below.refl _ _⟩
    · obtain ⟨k, rfl⟩ : ∃ k, k0 = k + 1 := ⟨k0 - 1, by omega⟩
      obtain ⟨g, off, rfl, hg, c0, _⟩ := MksAt.get HL.out (HG.out k (by omega))
      have ek : ((k + 1 : Nat) : Int) - 1 = (k : Int) := by omega
      have i1 : (k : Int) < (n : Int) := by omega
      have i2 : (0 : Int) ≤ (k : Int) := by omega
      have EX : Hid (atOf ms k = (mk ms k).at_) := Lib.hid rfl
      have SK := Lib.hid HF.out.skip
      have TK := Lib.hid (fun h1 h2 => HF.out.take (k := k) (by omega) h1 h2)
      rw [EX.out] at SK TK
      generalize hx : (mk ms k).at_ = x at *
      rw [ek]
      clear ek
      cases right
      · by_cases h1 : a < x
        · have S1 := Lib.hid (SK.out (by simp only [fits, Bool.false_eq_true, if_false]; omega))
          clear SK TK HF
          cases found
          · go_wp2_with fail
            go_round
            case rel => exact ⟨k, best, false, by omega, by go_num, rfl, rfl, S1⟩
            case measure => simp [intOf]
          · go_wp2_with fail
            go_round
            case rel => exact ⟨k, best, true, by omega, by go_num, rfl, rfl, S1⟩
            case measure => simp [intOf]
        · have hfit : fits false a x := by simp only [fits, Bool.false_eq_true, if_false]; omega
          cases found
          · have S1 := Lib.hid (TK.out hfit (fun h => by simp at h))
            clear SK TK HF hfit
            go_wp2_with fail
            go_round
            case rel => exact ⟨k, k, true, by omega, by go_num, rfl, rfl, S1⟩
            case measure => simp [intOf]
          · have hbb : k + 1 ≤ best ∧ best < n := by
              have := HF.out
              unfold From at this
              rw [if_pos rfl] at this
              exact ⟨this.1, this.2.1⟩
            obtain ⟨g', off', eg, _, e0, _⟩ := MksAt.get HL.out (HG.out best hbb.2)
            simp only [Option.some.injEq, Addr.mk.injEq, and_true] at eg
            obtain ⟨rfl, rfl⟩ := eg
            have EY : Hid (atOf ms best = (mk ms best).at_) := Lib.hid rfl
            have KP := Lib.hid HF.out.keep
            rw [EY.out, EX.out] at KP
            rw [EY.out] at TK
            generalize (mk ms best).at_ = y at *
            have j1 : (best : Int) < (n : Int) := by omega
            have j2 : (0 : Int) ≤ (best : Int) := by omega
            by_cases h2 : y ≤ x
            · have S1 := Lib.hid (TK.out hfit (fun _ => by simp only [closer, Bool.false_eq_true, if_false]; omega))
              clear SK TK HF hfit KP
              go_wp2_with fail
              go_round
              case rel => exact ⟨k, k, true, by omega, by go_num, rfl, rfl, S1⟩
              case measure => simp [intOf]
            · have S1 := Lib.hid (KP.out (by simp only [closer, Bool.false_eq_true, if_false]; omega))
              clear SK TK HF hfit KP
              go_wp2_with fail
              go_round
              case rel => exact ⟨k, best, true, by omega, by go_num, rfl, rfl, S1⟩
              case measure => simp [intOf]
      · by_cases h1 : x < a
        · have S1 := Lib.hid (SK.out (by simp only [fits, if_true]; omega))
          clear SK TK HF
          cases found
          · go_wp2_with fail
            go_round
            case rel => exact ⟨k, best, false, by omega, by go_num, rfl, rfl, S1⟩
            case measure => simp [intOf]
          · go_wp2_with fail
            go_round
            case rel => exact ⟨k, best, true, by omega, by go_num, rfl, rfl, S1⟩
            case measure => simp [intOf]
        · have hfit : fits true a x := by simp only [fits, if_true]; omega
          cases found
          · have S1 := Lib.hid (TK.out hfit (fun h => by simp at h))
            clear SK TK HF hfit
            go_wp2_with fail
            go_round
            case rel => exact ⟨k, k, true, by omega, by go_num, rfl, rfl, S1⟩
            case measure => simp [intOf]
          · have hbb : k + 1 ≤ best ∧ best < n := by
              have := HF.out
              unfold From at this
              rw [if_pos rfl] at this
              exact ⟨this.1, this.2.1⟩
            obtain ⟨g', off', eg, _, e0, _⟩ := MksAt.get HL.out (HG.out best hbb.2)
            simp only [Option.some.injEq, Addr.mk.injEq, and_true] at eg
            obtain ⟨rfl, rfl⟩ := eg
            have EY : Hid (atOf ms best = (mk ms best).at_) := Lib.hid rfl
            have KP := Lib.hid HF.out.keep
            rw [EY.out, EX.out] at KP
            rw [EY.out] at TK
            generalize (mk ms best).at_ = y at *
            have j1 : (best : Int) < (n : Int) := by omega
            have j2 : (0 : Int) ≤ (best : Int) := by omega
            by_cases h2 : x ≤ y
            · have S1 := Lib.hid (TK.out hfit (fun _ => by simp only [closer, if_true]; omega))
              clear SK TK HF hfit KP
              go_wp2_with fail
              go_round
              case rel => exact ⟨k, k, true, by omega, by go_num, rfl, rfl, S1⟩
              case measure => simp [intOf]
            · have S1 := Lib.hid (KP.out (by simp only [closer, if_true]; omega))
              clear SK TK HF hfit KP
              go_wp2_with fail
              go_round
              case rel => exact ⟨k, best, true, by omega, by go_num, rfl, rfl, S1⟩
              case measure => simp [intOf]

set_option maxHeartbeats 1000000 in
theorem marksNears (al : Option Addr) (cap : Nat) (ms : List MkM) (a : Int) (r : Bool) (w : World) (h : MksAt w al ms) (_ : ∀ e ∈ ms, e.ok) (hle : ms.length ≤ cap) (hmx : cap ≤ maxLen) {S : Prop} (_ : S) {T : Prop} (_ : T) :
    Calls Try.prog 5 #[.slice al ms.length cap, .int .i64 a, .bool r] w fun e w' => e = .returned (.bool true) ∧ Below w.heap.size w w' := by
  unfold maxLen at hmx
  have hle2 : ms.length ≤ 9223372036854775807 := by omega
  clear hle hmx
  by_cases h60 : ms.length ≤ 60
  · have C := Lib.hid (near ms al cap a r w h h60)
    have R := Lib.hid (fun W hW => nearRef ms al cap a r W (h.next hW) h60)
    clear h
    generalize ms.length = n at *
    go_enter Try.func5, Try.ntmps5
    go_wp2_with fail
    refine C.out.mono ?_
    rintro e w1 ⟨x, c, rfl, h1, h2⟩
    have C2 := Lib.hid (R.out w1 h2)
    have K1 := Lib.hid (And.intro h1 h2)
    clear C R h1 h2
    go_wp2_with fail
    refine C2.out.mono ?_
    rintro e w2 ⟨y, c', rfl, h1, h2⟩
    obtain ⟨rfl, rfl⟩ := ans_one K1.out.1 h1
    have K2 := Lib.hid (bstep K1.out.2 h2)
    clear h1 h2 C2 K1
    go_wp2_with fail
    go_ret
    exact ⟨rfl, K2.out⟩
  · have C := Lib.hid (fun W => near_long al ms.length cap a r W (by omega))
    have R := Lib.hid (fun W => nearRef_long al ms.length cap a r W (by omega))
    clear h h60
    generalize ms.length = n at *
    go_enter Try.func5, Try.ntmps5
    go_wp2_with fail
    refine (C.out _).mono ?_
    rintro e w1 ⟨rfl, hb⟩
    have K1 := Lib.hid hb
    clear hb
    go_wp2_with fail
    refine (R.out _).mono ?_
    rintro e w2 ⟨rfl, rfl⟩
    go_wp2_with fail
    go_ret
    exact ⟨rfl, K1.out⟩

end Go.Proofs.Ytllpglanpfjcnaa.MarkC
