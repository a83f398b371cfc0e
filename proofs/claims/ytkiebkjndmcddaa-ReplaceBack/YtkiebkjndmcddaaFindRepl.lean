/-
  Package find: Replace.
-/
import Derived.Test.YtkiebkjndmcddaaFindApart
import Derived.Test.YtkiebkjndmcddaaRefReplace
import Derived.Test.YtkiebkjndmcddaaBuilder
namespace Go.Proofs.Ytkiebkjndmcddaa.FindP
open Go.RowKit Kit LineM FindM FindR EditM BuildC

theorem restTo_le {z m : Nat} : ∀ (k : List Nat) (r : Nat), r ≤ m → (∀ a ∈ k, a + z ≤ m) → restTo z r k ≤ m
  | [], _, h, _ => h
  | a :: k, _, _, hk => restTo_le k (a + z) (hk a (by simp)) (fun b hb => hk b (by simp [hb]))
theorem restTo_next {z : Nat} : ∀ (k : List Nat) (r i x : Nat), (∀ a ∈ k, r ≤ a) → k.Pairwise (fun a b => a + z ≤ b) → k[i]? = some x → restTo z r (k.take i) ≤ x
  | [], _, _, _, _, _, h => by simp at h
  | a :: k, r, 0, x, h, _, he => by
    simp at he
    subst he
    exact h _ (by simp)
  | a :: k, r, i + 1, x, _, hp, he => by
    rw [List.pairwise_cons] at hp
    simp only [List.take_succ_cons, restTo]
    exact restTo_next k (a + z) i x hp.1 hp.2 (by simpa using he)
theorem asmTo_take (t p : List UInt8) (z : Nat) : ∀ (k : List Nat) (r i : Nat), (asmTo t p z r (k.take i)).length ≤ (asmTo t p z r k).length
  | [], _, _ => by simp
  | a :: k, r, 0 => by simp [asmTo]
  | a :: k, r, i + 1 => by
    have := asmTo_take t p z k (a + z) i
    simp only [List.take_succ_cons, asmTo, List.length_append]
    omega
theorem take_next {l : List Nat} {k x : Nat} (h : l[k]? = some x) : l.take (k + 1) = l.take k ++ [x] := by rw [List.take_add_one, h]; rfl
theorem mul_small (d : Int) (h1 : -281474976710656 ≤ d) (h2 : d ≤ 281474976710656) : ∀ n : Nat, -((n : Int) * 281474976710656) ≤ (n : Int) * d ∧ (n : Int) * d ≤ (n : Int) * 281474976710656
  | 0 => by simp
  | n + 1 => by
    obtain ⟨h3, h4⟩ := mul_small d h1 h2 n
    have e : ((n + 1 : Nat) : Int) * d = (n : Int) * d + d := by rw [Int.natCast_add, Int.add_mul]; simp
    rw [e]
    omega
/-- the size, reckoned ahead -/
theorem size_ahead {T R n p f : Nat} (h : R + n * f = T + n * p) : (T : Int) + (n : Int) * ((p : Int) - (f : Int)) = (R : Int) := by
  have h1 : (R : Int) + (n : Int) * (f : Int) = (T : Int) + (n : Int) * (p : Int) := by exact_mod_cast h
  rw [Int.mul_sub]
  generalize (n : Int) * (f : Int) = a at *
  generalize (n : Int) * (p : Int) = b at *
  omega
theorem rep_nums {t f p : List UInt8} (hf : f ≠ []) : ∃ K : List Nat, rep f p t = (asm t p f.length 0 K, K.length) ∧ K = keep f.length 0 (hits t f) ∧ (∀ a ∈ K, a + f.length ≤ t.length) ∧ K.Pairwise (fun a b => a + f.length ≤ b) ∧ K.length ≤ t.length := by
  refine ⟨_, rep_asm hf, rfl, fun a ha => (stands_iff.1 ((mem_hits hf).1 (keep_mem _ _ _ a ha))).1, (keep_apart _ _ _).2, ?_⟩
  exact Nat.le_trans (keep_len _ _ _) (hits_len t f)
/-- a builder that has been given bs, above a world -/
structure BuR (B : Nat) (w0 : World) (bs : List UInt8) (W : World) : Prop where
  bel : Below B w0 W
  bu : Lib.IsBuilderF BT BY B B (Lib.byteCells bs) W
theorem BuR.write {B : Nat} {w0 W : World} {bs : List UInt8} (h : BuR B w0 bs W) (s : ByteArray) (hl : bs.length + s.size ≤ 140737488355328) (hB : B ≤ w0.heap.size) :
    Calls Try.prog 29 #[.pointer (some ⟨B, 0, none⟩), .string s] W fun e W' => e = .returned (.tuple #[.int .i64 s.size, .nilIface]) ∧ BuR B w0 (bs ++ s.data.toList) W' := by
  refine (writeString B B (Lib.byteCells bs) s W h.bu (by simpa [Lib.byteCells] using hl) (Nat.le_trans hB h.bel.size)).mono ?_
  rintro e W' ⟨rfl, h1, h2, _⟩
  exact ⟨rfl, h.bel.trans h2, by rw [Lib.byteCells_append]; exact .inr h1⟩
theorem BuR.string {B : Nat} {w0 W : World} {bs : List UInt8} (h : BuR B w0 bs W) (hB : B ≤ w0.heap.size) :
    Calls Try.prog 30 #[.pointer (some ⟨B, 0, none⟩)] W fun e W' => e = .returned (.string (str bs)) ∧ Below B w0 W' := by
  refine (string_ B B bs W h.bu (Nat.le_trans hB h.bel.size)).mono ?_
  rintro e W' ⟨rfl, _, h2, _⟩
  exact ⟨rfl, h.bel.trans h2⟩
set_option maxHeartbeats 1000000 in
theorem replace_no (t f p : ByteArray) (w : World) (h : ffault t.size f.size ≠ 0) : Calls Try.prog 17 #[.string t, .string f, .string p] w (RpPost w [] 0 (ffault t.size f.size)) := by
  have F := Lib.hid (all_no t f w h)
  have hb : (ffault t.size f.size != 0) = true := by simpa using h
  have hc := ffault_cases t.size f.size
  clear h
  generalize ffault t.size f.size = c at *
  go_enter Try.func17, Try.ntmps17
  go_wp2_with (go_at_call 12; refine F.out.mono ?_; rintro e w1 ⟨v, rfl, hv, hbv⟩; have HB := Lib.hid hbv; clear hv hbv)
  go_ret3
  exact ⟨rfl, HB.out⟩
set_option maxRecDepth 100000 in
set_option maxHeartbeats 4000000 in
theorem replace (t f p : ByteArray) (w : World) (h : ffault t.size f.size = 0) (hp : p.size ≤ 140737488351232) :
    Calls Try.prog 17 #[.string t, .string f, .string p] w (RpFin w (rep f.data.toList p.data.toList t.data.toList)) := by
  obtain ⟨ht, hf, hf0⟩ := ffault_ok h
  have hne : f.data.toList ≠ [] := fun e => by have := size_list f; rw [e] at this; simp at this; omega
  obtain ⟨K, hR, hKd, hKm, hKp, hKl⟩ := rep_nums (t := t.data.toList) (p := p.data.toList) hne
  have hln := rep_len (p := p.data.toList) hne t.data.toList
  rw [hR] at hln ⊢
  dsimp only at hln
  rw [size_list, size_list, size_list] at hln
  rw [size_list, size_list] at hKm
  rw [size_list] at hKl hKp hKd ⊢
  have HSZ := Lib.hid (size_ahead hln)
  have ALL := Lib.hid (all_ok t f w h)
  have AP := Lib.hid fun v W (hv : IsV W v (ints (hits t.data.toList f.data.toList))) => apart (hits t.data.toList f.data.toList) f.size v W hv (by have := hits_len t.data.toList f.data.toList; rw [size_list] at this; omega) (fun a ha => by have := (stands_iff.1 ((mem_hits hne).1 ha)).1; rw [size_list, size_list] at this; omega) (by omega)
  rw [← hKd] at AP
  have ADONE := Lib.hid (asm_done t.data.toList p.data.toList f.size K 0)
  have ATAKE := Lib.hid (fun i => asmTo_take t.data.toList p.data.toList f.size K 0 i)
  obtain ⟨R, hRd⟩ : ∃ R, asm t.data.toList p.data.toList f.size 0 K = R := ⟨_, rfl⟩
  rw [hRd] at HSZ ADONE ⊢
  obtain ⟨n, hn⟩ : ∃ n, K.length = n := ⟨_, rfl⟩
  rw [hn] at HSZ hKl ⊢
  obtain ⟨M, hM⟩ : ∃ M, (n : Int) * ((p.size : Int) - (f.size : Int)) = M := ⟨_, rfl⟩
  rw [hM] at HSZ
  have hms := mul_small ((p.size : Int) - (f.size : Int)) (by omega) (by omega) n
  rw [hM] at hms
  have r1 : IntKind.i64.wrap ((p.size : Int) - (f.size : Int)) = (p.size : Int) - (f.size : Int) := IntWalk.i64_in _ (by omega)
  have r2 : IntKind.i64.wrap ((n : Int) * ((p.size : Int) - (f.size : Int))) = M := by rw [hM]; exact IntWalk.i64_in _ (by omega)
  have r3 : IntKind.i64.wrap ((t.size : Int) + M) = (R.length : Int) := by rw [HSZ.out]; exact IntWalk.i64_in _ (by have := HSZ.out; omega)
  have HM := Lib.hid hKm
  have HP := Lib.hid hKp
  have HN := Lib.hid hn
  clear hM hms hKd hKm hKp hn hRd hR hln h hne
  go_enter Try.func17, Try.ntmps17
  go_wp2_with fail
  refine ALL.out.mono ?_
  rintro e w1 ⟨v1, rfl, hv1, hb1⟩
  have AP1 := Lib.hid (AP.out v1 w1 hv1)
  have B1 := Lib.hid hb1
  clear hv1 hb1 AP ALL
  go_wp2_with fail
  refine AP1.out.mono ?_
  rintro e w2 ⟨v2, rfl, hk2⟩
  have B2 := Lib.hid (bstep B1.out hk2.bel)
  obtain ⟨al, cap, rfl, hle, ha, _⟩ := hk2.val
  rw [ints_len, HN.out] at hle ⊢
  have HA := Lib.hid ha
  clear AP1 hk2 ha B1
  by_cases hbig : 600 < R.length
  · have q1 : decide ((R.length : Int) > 600) = true := decide_eq_true (by omega)
    go_wp2_with fail
    go_ret3
    exact ⟨fun _ => ⟨rfl, B2.out⟩, fun h => absurd h (by show ¬ R.length ≤ 600; omega)⟩
  · have q1 : decide ((R.length : Int) > 600) = false := decide_eq_false (by omega)
    have hR600 : R.length ≤ 600 := by omega
    go_wp2_with fail
    obtain ⟨W0, hW0⟩ : ∃ W0, W0 = w2.alloc (.cells #[.pointer none, .slice none 0 0] 55) := ⟨_, rfl⟩
    have S0 : Hid (BuR w2.heap.size w2 [] W0) := Lib.hid (by rw [hW0]; exact ⟨balloc (Below.refl _ _) _, Lib.IsBuilderF.of (Lib.fresh_isBuilder BT BY w2)⟩)
    rw [← hW0]
    clear hW0
    have hA2 : Hid (∀ W, Below w2.heap.size w2 W → IsAt W al (ints K)) := Lib.hid fun W hW => HA.out.next hW
    have B3 : Hid (∀ W, Below w2.heap.size w2 W → Below w.heap.size w W) := Lib.hid fun W hW => bstep B2.out hW
    obtain ⟨B, hB⟩ : ∃ B, w2.heap.size = B := ⟨_, rfl⟩
    have hBle : Hid (B ≤ w2.heap.size) := Lib.hid (by omega)
    rw [hB] at S0 hA2 B3 ⊢
    clear hB
    go_loopw [14, 45] (fun vr vi wr => ∃ k r : Nat, k ≤ n ∧ r ≤ t.size ∧ vi = .int .i64 (k : Int) ∧ vr = .int .i64 (r : Int) ∧ Hid (r = restTo f.size 0 (K.take k)) ∧ Hid (BuR B w2 (asmTo t.data.toList p.data.toList f.size 0 (K.take k)) wr)) (fun _ vi _ => n - (intOf vi).toNat)
    case atStart => exact ⟨0, 0, by omega, by omega, rfl, rfl, Lib.hid rfl, S0⟩
    case round =>
      obtain ⟨k, r, hk, hr, rfl, rfl, HR, HB⟩ := hrel
      clear S0
      by_cases hlt : k < n
      · obtain ⟨x, hx⟩ : ∃ x, K[k]? = some x := ⟨K[k]'(by have := HN.out; omega), List.getElem?_eq_getElem (by have := HN.out; omega)⟩
        obtain ⟨g, off, rfl, hg, c0⟩ := IsAt.get (hA2.out _ HB.out.bel) (ints_get hx)
        have hxm := HM.out x (List.mem_of_getElem? hx)
        have hrx : r ≤ x := by rw [HR.out]; exact restTo_next K 0 k x (fun _ _ => Nat.zero_le _) HP.out hx
        have hlen := ATAKE.out (k + 1)
        have HTN := Lib.hid (asmTo_snoc t.data.toList p.data.toList f.size (K.take k) 0 x)
        rw [← take_next hx, ← HR.out] at HTN
        clear hx hA2
        have hdl : (t.extract r x).data.toList = (t.data.toList.take x).drop r := by rw [Lib.extract_data, List.drop_take]
        have hl2 : (asmTo t.data.toList p.data.toList f.size 0 (K.take k)).length + (t.extract r x).size + p.size ≤ 600 := by
          have h1 := congrArg List.length ADONE.out
          have h2 := congrArg List.length HTN.out.1
          rw [← hdl] at h2
          simp only [List.length_append, size_list] at h1 h2
          omega
        have HD := Lib.hid hdl
        have W1 := Lib.hid (HB.out.write (t.extract r x) (by omega) hBle.out)
        have hpl : Hid (∀ l : List UInt8, l.length = (asmTo t.data.toList p.data.toList f.size 0 (K.take k)).length + (t.extract r x).size → l.length + p.size ≤ 140737488355328) := Lib.hid (fun l hl => by omega)
        have u0 : (0 : Int) ≤ (k : Int) := by omega
        have u1 : (k : Int) < (n : Int) := by omega
        have u2 : (0 : Int) ≤ (r : Int) := by omega
        have u3 : (r : Int) ≤ (x : Int) := by omega
        have u4 : (x : Int) ≤ (t.size : Int) := by omega
        have r5 : IntKind.i64.wrap ((x : Int) + (f.size : Int)) = (x : Int) + (f.size : Int) := IntWalk.i64_in _ (by omega)
        have r6 : IntKind.i64.wrap ((k : Int) + 1) = (k : Int) + 1 := IntWalk.i64_in _ (by omega)
        clear hdl hl2 hlen
        go_wp2_with fail
        refine W1.out.mono ?_
        rintro e wa ⟨rfl, hwa⟩
        have W2 := Lib.hid (hwa.write p (hpl.out _ (by rw [List.length_append, size_list])) hBle.out)
        clear hwa hpl W1
        go_wp2_with fail
        refine W2.out.mono ?_
        rintro e wb ⟨rfl, hwb⟩
        have HWB : Hid (BuR B w2 (asmTo t.data.toList p.data.toList f.size 0 (K.take (k + 1))) wb) := Lib.hid (by
          rw [HTN.out.1, ← HD.out, ← List.append_assoc]; exact hwb)
        have HRN : Hid (x + f.size = restTo f.size 0 (K.take (k + 1))) := Lib.hid HTN.out.2.symm
        clear hwb W2 HTN HB HR HD
        go_wp2_with fail
        go_roundw
        case rel => exact ⟨k + 1, x + f.size, by omega, by omega, by go_num, by go_num, HRN, HWB⟩
        case measure => simp [intOf]; omega
      · have e1 : K.take k = K := List.take_of_length_le (by have := HN.out; omega)
        have u1 : ¬ (k : Int) < (n : Int) := by omega
        rw [e1] at HB HR
        have hdl : (t.extract r t.size).data.toList = t.data.toList.drop r := by
          rw [Lib.extract_data, List.take_of_length_le (by rw [List.length_drop, size_list]; exact Nat.le_refl _)]
        have HFIN : Hid (asmTo t.data.toList p.data.toList f.size 0 K ++ (t.extract r t.size).data.toList = R) := Lib.hid (by rw [hdl, HR.out]; exact ADONE.out.symm)
        have hl2 : (asmTo t.data.toList p.data.toList f.size 0 K).length + (t.extract r t.size).size ≤ 600 := by
          have h1 := congrArg List.length HFIN.out
          simp only [List.length_append, size_list] at h1
          omega
        have W1 := Lib.hid (HB.out.write (t.extract r t.size) (by omega) hBle.out)
        have u2 : (0 : Int) ≤ (r : Int) := by omega
        have u3 : (r : Int) ≤ (t.size : Int) := by omega
        clear e1 hdl hl2 HB HR hA2 ATAKE ADONE
        go_wp2_with fail
        refine W1.out.mono ?_
        rintro e wa ⟨rfl, hwa⟩
        rw [HFIN.out] at hwa
        have W2 := Lib.hid (hwa.string hBle.out)
        clear hwa W1
        go_wp2_with fail
        refine W2.out.mono ?_
        rintro e wb ⟨rfl, hwb⟩
        have HB5 := Lib.hid (B3.out _ hwb)
        clear hwb W2
        go_wp2_with fail
        go_ret3
        exact ⟨fun h => absurd h (by show ¬ 600 < R.length; omega), fun _ => ⟨rfl, HB5.out⟩⟩
end Go.Proofs.Ytkiebkjndmcddaa.FindP
