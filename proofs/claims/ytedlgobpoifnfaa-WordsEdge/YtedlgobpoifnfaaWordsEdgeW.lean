/-
  The law WordsEdge, walked.
-/
import Derived.Test.YtedlgobpoifnfaaWordFind
import Derived.Test.YtedlgobpoifnfaaWordJoin
import Derived.Test.YtedlgobpoifnfaaRefFind
import Derived.Test.YtedlgobpoifnfaaFew
import Derived.Test.YtedlgobpoifnfaaSameK
namespace Go.Proofs.Ytedlgobpoifnfaa.WordK
open Go.RowKit Kit LineM Txt Lift FewT WordM WordC

theorem isWord_letters {l : List UInt8} (h : ∀ c ∈ l, letB c = true) (h0 : l ≠ []) (h12 : l.length ≤ 12) : isWord l = true := by
  unfold isWord
  rw [occ_letters h h0 h12]
  simp [lastIs]
theorem pos_one (l w : List UInt8) : pos [((0 : Int), l)] w = if l = w then [0] else [] := by
  have := pos_snoc [] 0 l w
  simpa [pos] using this
theorem edge_pos {S : List UInt8} (h : ∀ c ∈ S, letB c = true) (h0 : S ≠ []) (h11 : S.length ≤ 11) :
    pos (occ ((98 :: S) ++ 32 :: ((S ++ [98]) ++ 32 :: (S ++ 10 :: S)))) S = [2 * (S.length : Int) + 4, 3 * (S.length : Int) + 5] := by
  have hb : letB 98 = true := by decide
  have o1 : occ (98 :: S) = [(0, 98 :: S)] := occ_letters (fun c hc => by
    rcases List.mem_cons.1 hc with rfl | hc
    · exact hb
    · exact h c hc) (by simp) (by simp; omega)
  have o2 : occ (S ++ [98]) = [(0, S ++ [98])] := occ_letters (fun c hc => by
    rcases List.mem_append.1 hc with hc | hc
    · exact h c hc
    · simp at hc; subst hc; exact hb) (by simp) (by simp; omega)
  have o3 := occ_letters h h0 (by omega)
  have n1 : 98 :: S ≠ S := fun e => by have := congrArg List.length e; simp at this
  have n2 : S ++ [98] ≠ S := fun e => by have := congrArg List.length e; simp at this
  rw [pos_join _ _ 32 (by decide), pos_join _ _ 32 (by decide), pos_join _ _ 10 (by decide), o1, o2, o3, pos_one, pos_one, pos_one, if_neg n1, if_neg n2, if_pos rfl]
  simp
  constructor <;> omega
theorem edge_own {S : List UInt8} (h : ∀ c ∈ S, letB c = true) (h11 : S.length ≤ 11) : pos (occ (98 :: S)) (98 :: S) = [0] ∧ isWord (98 :: S) = true := by
  have hb : ∀ c ∈ 98 :: S, letB c = true := fun c hc => by
    rcases List.mem_cons.1 hc with rfl | hc
    · decide
    · exact h c hc
  refine ⟨?_, isWord_letters hb (by simp) (by simp; omega)⟩
  rw [occ_letters hb (by simp) (by simp; omega), pos_one, if_pos rfl]
theorem sz1 (c : UInt8) : (⟨#[c]⟩ : ByteArray).size = 1 := rfl
theorem sz2 (c d : UInt8) : (⟨#[c, d]⟩ : ByteArray).size = 2 := rfl
/-- what is made of the drawn word -/
structure EdgeW (z : ByteArray) : Prop where
  all : ∀ c ∈ z.data.toList, letB c = true
  pos : 0 < z.size
  len : z.size ≤ 11
abbrev edgeT (z : ByteArray) : ByteArray := ((((((⟨#[98]⟩ ++ z) ++ ⟨#[32]⟩) ++ z) ++ ⟨#[98, 32]⟩) ++ z) ++ ⟨#[10]⟩) ++ z
theorem edge_find {z : ByteArray} (h : EdgeW z) (W : World) : Calls Try.prog 12 #[.string (edgeT z), .string z] W (IsPost W [2 * (z.size : Int) + 4, 3 * (z.size : Int) + 5] 0) := by
  have hz : z.data.toList.length = z.size := by simp
  have hne : z.data.toList ≠ [] := fun e => by
    have := h.pos
    rw [← hz, e] at this
    simp at this
  have h11 : z.data.toList.length ≤ 11 := by rw [hz]; exact h.len
  have hlen := h.len
  have := find (edgeT z) z W (by omega) (isWord_letters h.all hne (by omega)) (by simp only [edgeT, ByteArray.size_append, sz1, sz2]; omega)
  have e : (edgeT z).data.toList = (98 :: z.data.toList) ++ 32 :: ((z.data.toList ++ [98]) ++ 32 :: (z.data.toList ++ 10 :: z.data.toList)) := by
    simp [ByteArray.data_append, Array.toList_append]
  rw [e, edge_pos h.all hne h11, hz] at this
  exact this
theorem edge_self {z : ByteArray} (h : EdgeW z) (W : World) : Calls Try.prog 12 #[.string (⟨#[98]⟩ ++ z), .string (⟨#[98]⟩ ++ z)] W (IsPost W [0] 0) := by
  have hz : z.data.toList.length = z.size := by simp
  have hlen := h.len
  obtain ⟨h1, h2⟩ := edge_own h.all (by rw [hz]; exact hlen)
  have e : (⟨#[98]⟩ ++ z : ByteArray).data.toList = 98 :: z.data.toList := by simp [ByteArray.data_append, Array.toList_append]
  have := find (⟨#[98]⟩ ++ z) (⟨#[98]⟩ ++ z) W (by simp only [ByteArray.size_append, sz1]; omega) (by rw [e]; exact h2) (by simp only [ByteArray.size_append, sz1]; omega)
  rw [e, h1] at this
  exact this
theorem lit_one (w : World) (a : Int) : IsV (w.alloc (.cells #[.int .i64 a] 3)) (.slice (some ⟨w.heap.size, 0, none⟩) 1 1) [a] :=
  SlV.of_owns ic_len (e := 3) (World.ownsRow_lit w #[.int .i64 a] 1 (Nat.le_refl _) (by unfold maxLen; decide) rfl)
theorem lit_two (w : World) (a b : Int) : IsV (w.alloc (.cells #[.int .i64 a, .int .i64 b] 3)) (.slice (some ⟨w.heap.size, 0, none⟩) 2 2) [a, b] :=
  SlV.of_owns ic_len (e := 3) (World.ownsRow_lit w #[.int .i64 a, .int .i64 b] 2 (Nat.le_refl _) (by unfold maxLen; decide) rfl)
set_option maxRecDepth 100000 in
set_option maxHeartbeats 4000000 in
theorem wordsEdge (a0 : Option Addr) (len0 cap0 : Nat) (zs : List Int) (n : Int) (w : World) (h0 : IsRow .i64 w a0 len0 cap0 zs) {X : Prop} (_ : X) :
    Calls Try.prog 8 #[.slice a0 len0 cap0, .int .i64 n] w fun e w' => e = .returned (.bool true) ∧ Below w.heap.size w w' := by
  have FW := Lib.hid (few a0 len0 cap0 zs 10 w h0 (by omega))
  have hsz : (fewS ((zs.take len0).take 10)).size ≤ 10 := by rw [fewS_size]; simp only [List.length_take]; omega
  have HAB : Hid (∀ c ∈ (fewS ((zs.take len0).take 10)).data.toList, letB c = true) := Lib.hid (fun c hc => by
    rw [fewS_list] at hc
    rcases few_ab hc with rfl | rfl <;> decide)
  have PK := Lib.hid (fun w => picked n 2 w (by omega) (by omega))
  clear h0
  generalize fewS ((zs.take len0).take 10) = F at *
  by_cases hp : n % 2 = 0
  · rw [hp] at PK
    have hall : ∀ c ∈ (⟨#[97]⟩ ++ (F ++ ⟨#[97]⟩) : ByteArray).data.toList, letB c = true := fun c hc => by
      rw [ByteArray.data_append, Array.toList_append, ByteArray.data_append, Array.toList_append] at hc
      rcases List.mem_append.1 hc with hc | hc
      · simp at hc; subst hc; decide
      · rcases List.mem_append.1 hc with hc | hc
        · exact HAB.out c hc
        · simp at hc; subst hc; decide
    have hN : (⟨#[97]⟩ ++ (F ++ ⟨#[97]⟩) : ByteArray).size = 1 + (F.size + 1) := by simp only [ByteArray.size_append, sz1]
    by_cases h12 : 12 ≤ 1 + (F.size + 1)
    · have hX : ((⟨#[97]⟩ ++ (F ++ ⟨#[97]⟩) : ByteArray).extract 0 11).size = 11 := by rw [ByteArray.size_extract, hN]; omega
      have E : EdgeW ((⟨#[97]⟩ ++ (F ++ ⟨#[97]⟩) : ByteArray).extract 0 11) := ⟨fun c hc => by
        rw [extract_bs] at hc
        have hc' : c ∈ ((⟨#[97]⟩ ++ (F ++ ⟨#[97]⟩) : ByteArray).data.toList.drop 0).take (11 - 0) := hc
        exact hall c (List.mem_of_mem_drop (List.mem_of_mem_take hc')), by omega, by omega⟩
      have FD := Lib.hid (fun W => edge_find E W)
      have FS := Lib.hid (fun W => edge_self E W)
      rw [hX] at FD
      have g1 : (12 : Int) ≤ 1 + ((F.size : Int) + 1) := by omega
      have g2 : decide ((12 : Int) ≤ 1 + ((F.size : Int) + 1)) = true := decide_eq_true g1
      clear hp HAB E hN hall
      go_enter Try.func8, Try.ntmps8
      go_wp2_with (first
        | (go_at_call 22; refine FW.out.mono ?_; rintro e w1 ⟨rfl, hb1⟩)
        | (go_at_call 23; refine (PK.out _).mono ?_; rintro e w2 ⟨rfl, rfl⟩))
      refine (FD.out _).mono ?_
      rintro e w3 ⟨v3, rfl, hk3⟩
      have B3 := Lib.hid (bstep hb1 hk3.bel)
      have V3 := Lib.hid hk3.val
      clear hk3 FD hb1
      go_wp2_with fail
      refine (FS.out _).mono ?_
      rintro e w4 ⟨v4, rfl, hk4⟩
      have B4 := Lib.hid (bstep B3.out hk4.bel)
      have V4 := Lib.hid hk4.val
      have V34 := Lib.hid (V3.out.next hk4.bel)
      clear hk4 FS B3 V3
      have S1 := Lib.hid (SameK.same v4 _ [0] (w4.alloc (.cells #[.int .i64 0] 3)) (IsV.row (V4.out.next (balloc (Below.refl _ _) _))) (IsV.row (lit_one w4 0)) (by unfold maxLen; decide))
      have EL : Hid ([2 * (((11 : Nat) : Int) : Int) + 4, 3 * (((11 : Nat) : Int) : Int) + 5] = [2 * (11 : Int) + 4, 2 * (11 : Int) + 4 + (11 : Int) + 1]) := Lib.hid (by
        have q1 : 2 * (((11 : Nat) : Int) : Int) + 4 = 2 * (11 : Int) + 4 := by omega
        have q2 : 3 * (((11 : Nat) : Int) : Int) + 5 = 2 * (11 : Int) + 4 + (11 : Int) + 1 := by omega
        rw [q1, q2])
      rw [EL.out] at V34
      have S2 := Lib.hid (fun w5 (hb : Below w4.heap.size w4 w5) => SameK.same v3 _ [2 * (11 : Int) + 4, 2 * (11 : Int) + 4 + (11 : Int) + 1] (w5.alloc (.cells #[.int .i64 (2 * (11 : Int) + 4), .int .i64 (2 * (11 : Int) + 4 + (11 : Int) + 1)] 3)) (IsV.row (SlV.next (V34.out.next hb) (balloc (Below.refl _ _) _))) (IsV.row (lit_two w5 _ _)) (by unfold maxLen; simp))
      clear EL V34 V4
      go_wp2_with fail
      refine S1.out.mono ?_
      rintro e w5 ⟨rfl, hb5⟩
      have S3 := Lib.hid (S2.out w5 ((balloc (Below.refl _ _) _).trans (hb5.mono (by simp))))
      have B5 := Lib.hid (bstep (balloc B4.out _) hb5)
      clear S1 S2 hb5 B4
      go_wp2_with fail
      refine S3.out.mono ?_
      rintro e w6 ⟨rfl, hb6⟩
      have B6 := Lib.hid (bstep (balloc B5.out _) hb6)
      clear hb6 S3 B5
      go_wp2_with fail
      go_ret
      exact ⟨by first | rfl | simp, B6.out⟩
    · have E : EdgeW (⟨#[97]⟩ ++ (F ++ ⟨#[97]⟩)) := ⟨hall, by omega, by omega⟩
      have FD := Lib.hid (fun W => edge_find E W)
      have FS := Lib.hid (fun W => edge_self E W)
      rw [hN] at FD
      have g1 : ¬ (12 : Int) ≤ 1 + ((F.size : Int) + 1) := by omega
      have g2 : decide ((12 : Int) ≤ 1 + ((F.size : Int) + 1)) = false := decide_eq_false g1
      clear hp HAB E hN hall
      go_enter Try.func8, Try.ntmps8
      go_wp2_with (first
        | (go_at_call 22; refine FW.out.mono ?_; rintro e w1 ⟨rfl, hb1⟩)
        | (go_at_call 23; refine (PK.out _).mono ?_; rintro e w2 ⟨rfl, rfl⟩))
      refine (FD.out _).mono ?_
      rintro e w3 ⟨v3, rfl, hk3⟩
      have B3 := Lib.hid (bstep hb1 hk3.bel)
      have V3 := Lib.hid hk3.val
      clear hk3 FD hb1
      go_wp2_with fail
      refine (FS.out _).mono ?_
      rintro e w4 ⟨v4, rfl, hk4⟩
      have B4 := Lib.hid (bstep B3.out hk4.bel)
      have V4 := Lib.hid hk4.val
      have V34 := Lib.hid (V3.out.next hk4.bel)
      clear hk4 FS B3 V3
      have S1 := Lib.hid (SameK.same v4 _ [0] (w4.alloc (.cells #[.int .i64 0] 3)) (IsV.row (V4.out.next (balloc (Below.refl _ _) _))) (IsV.row (lit_one w4 0)) (by unfold maxLen; decide))
      have EL : Hid ([2 * (((1 + (F.size + 1) : Nat) : Int) : Int) + 4, 3 * (((1 + (F.size + 1) : Nat) : Int) : Int) + 5] = [2 * (1 + ((F.size : Int) + 1)) + 4, 2 * (1 + ((F.size : Int) + 1)) + 4 + (1 + ((F.size : Int) + 1)) + 1]) := Lib.hid (by
        have q1 : 2 * (((1 + (F.size + 1) : Nat) : Int) : Int) + 4 = 2 * (1 + ((F.size : Int) + 1)) + 4 := by omega
        have q2 : 3 * (((1 + (F.size + 1) : Nat) : Int) : Int) + 5 = 2 * (1 + ((F.size : Int) + 1)) + 4 + (1 + ((F.size : Int) + 1)) + 1 := by omega
        rw [q1, q2])
      rw [EL.out] at V34
      have S2 := Lib.hid (fun w5 (hb : Below w4.heap.size w4 w5) => SameK.same v3 _ [2 * (1 + ((F.size : Int) + 1)) + 4, 2 * (1 + ((F.size : Int) + 1)) + 4 + (1 + ((F.size : Int) + 1)) + 1] (w5.alloc (.cells #[.int .i64 (2 * (1 + ((F.size : Int) + 1)) + 4), .int .i64 (2 * (1 + ((F.size : Int) + 1)) + 4 + (1 + ((F.size : Int) + 1)) + 1)] 3)) (IsV.row (SlV.next (V34.out.next hb) (balloc (Below.refl _ _) _))) (IsV.row (lit_two w5 _ _)) (by unfold maxLen; simp))
      clear EL V34 V4
      go_wp2_with fail
      refine S1.out.mono ?_
      rintro e w5 ⟨rfl, hb5⟩
      have S3 := Lib.hid (S2.out w5 ((balloc (Below.refl _ _) _).trans (hb5.mono (by simp))))
      have B5 := Lib.hid (bstep (balloc B4.out _) hb5)
      clear S1 S2 hb5 B4
      go_wp2_with fail
      refine S3.out.mono ?_
      rintro e w6 ⟨rfl, hb6⟩
      have B6 := Lib.hid (bstep (balloc B5.out _) hb6)
      clear hb6 S3 B5
      go_wp2_with fail
      go_ret
      exact ⟨by first | rfl | simp, B6.out⟩
  · have E : EdgeW (F ++ ⟨#[97]⟩) := ⟨fun c hc => by
      rw [ByteArray.data_append, Array.toList_append] at hc
      rcases List.mem_append.1 hc with hc | hc
      · exact HAB.out c hc
      · simp at hc; subst hc; decide, by simp only [ByteArray.size_append, sz1]; omega, by simp only [ByteArray.size_append, sz1]; omega⟩
    have FD := Lib.hid (fun W => edge_find E W)
    have FS := Lib.hid (fun W => edge_self E W)
    have hN : (F ++ ⟨#[97]⟩).size = F.size + 1 := by simp only [ByteArray.size_append, sz1]
    rw [hN] at FD
    have hb : (n % 2 == 0) = false := by simpa using hp
    clear hp HAB E hN
    generalize n % 2 = m at *
    go_enter Try.func8, Try.ntmps8
    go_wp2_with (first
      | (go_at_call 22; refine FW.out.mono ?_; rintro e w1 ⟨rfl, hb1⟩)
      | (go_at_call 23; refine (PK.out _).mono ?_; rintro e w2 ⟨rfl, rfl⟩))
    refine (FD.out _).mono ?_
    rintro e w3 ⟨v3, rfl, hk3⟩
    have B3 := Lib.hid (bstep hb1 hk3.bel)
    have V3 := Lib.hid hk3.val
    clear hk3 FD hb1
    go_wp2_with fail
    refine (FS.out _).mono ?_
    rintro e w4 ⟨v4, rfl, hk4⟩
    have B4 := Lib.hid (bstep B3.out hk4.bel)
    have V4 := Lib.hid hk4.val
    have V34 := Lib.hid (V3.out.next hk4.bel)
    clear hk4 FS B3 V3
    have S1 := Lib.hid (SameK.same v4 _ [0] (w4.alloc (.cells #[.int .i64 0] 3)) (IsV.row (V4.out.next (balloc (Below.refl _ _) _))) (IsV.row (lit_one w4 0)) (by unfold maxLen; decide))
    have EL : Hid ([2 * (((F.size + 1 : Nat) : Int) : Int) + 4, 3 * (((F.size + 1 : Nat) : Int) : Int) + 5] = [2 * ((F.size : Int) + 1) + 4, 2 * ((F.size : Int) + 1) + 4 + ((F.size : Int) + 1) + 1]) := Lib.hid (by
      have q1 : 2 * (((F.size + 1 : Nat) : Int) : Int) + 4 = 2 * ((F.size : Int) + 1) + 4 := by omega
      have q2 : 3 * (((F.size + 1 : Nat) : Int) : Int) + 5 = 2 * ((F.size : Int) + 1) + 4 + ((F.size : Int) + 1) + 1 := by omega
      rw [q1, q2])
    rw [EL.out] at V34
    have S2 := Lib.hid (fun w5 (hb : Below w4.heap.size w4 w5) => SameK.same v3 _ [2 * ((F.size : Int) + 1) + 4, 2 * ((F.size : Int) + 1) + 4 + ((F.size : Int) + 1) + 1] (w5.alloc (.cells #[.int .i64 (2 * ((F.size : Int) + 1) + 4), .int .i64 (2 * ((F.size : Int) + 1) + 4 + ((F.size : Int) + 1) + 1)] 3)) (IsV.row (SlV.next (V34.out.next hb) (balloc (Below.refl _ _) _))) (IsV.row (lit_two w5 _ _)) (by unfold maxLen; simp))
    clear EL V34 V4
    go_wp2_with fail
    refine S1.out.mono ?_
    rintro e w5 ⟨rfl, hb5⟩
    have S3 := Lib.hid (S2.out w5 ((balloc (Below.refl _ _) _).trans (hb5.mono (by simp))))
    have B5 := Lib.hid (bstep (balloc B4.out _) hb5)
    clear S1 S2 hb5 B4
    go_wp2_with fail
    refine S3.out.mono ?_
    rintro e w6 ⟨rfl, hb6⟩
    have B6 := Lib.hid (bstep (balloc B5.out _) hb6)
    clear hb6 S3 B5
    go_wp2_with fail
    go_ret
    exact ⟨by first | rfl | simp, B6.out⟩
end Go.Proofs.Ytedlgobpoifnfaa.WordK
