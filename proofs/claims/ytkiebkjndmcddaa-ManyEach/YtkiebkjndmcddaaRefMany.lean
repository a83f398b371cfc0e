/-
  The document: FindMany.
-/
import Derived.Test.YtkiebkjndmcddaaRefHits
import Derived.Test.YtkiebkjndmcddaaHitAt
namespace Go.Proofs.Ytkiebkjndmcddaa.FindR
open Go.RowKit Kit FindM LineM EditM StrM HitM

theorem same_iff (a b : ByteArray) : (a.toList == b.toList) = true ↔ a = b := by
  rw [Lib.toList_data, Lib.toList_data, beq_iff_eq]
  constructor
  · intro h
    rw [← str_list a, ← str_list b, h]
  · rintro rfl; rfl
theorem same_not {a b : ByteArray} (h : a ≠ b) : (a.toList == b.toList) = false := by
  rw [Bool.eq_false_iff]; exact fun e => h ((same_iff a b).1 e)
theorem cell_two_new (w : World) (x0 x1 : Value) (t : TypeId) : ∀ j u, [x0, x1][j]? = some u → (w.alloc (.cells #[x0, x1] t)).cell? ((⟨w.heap.size, 0, none⟩ : Addr).add j) = some u := by
  intro j u hj
  have e : (⟨w.heap.size, 0, none⟩ : Addr).add j = ⟨w.heap.size, j, none⟩ := by rw [add_of rfl]; simp
  rw [e, cells_new]
  simpa using hj
/-- what comes behind one more string -/
theorem rowI_step (t : Bs) (fs : List ByteArray) (e long n : Nat) (s : ByteArray) (hs : fs[n]? = some s) :
    rowI t (plain fs) e long (n + 1) = rowI t (plain fs) e long n ++ (if s.size = long ∧ stn t s.data.toList ((e : Int) - (long : Int)) = true then [(e - long, n)] else []) := by
  rw [rowI_succ]
  congr 1
  have e1 : (plain fs).getD n [] = s.data.toList := plain_get hs
  have e2 : fl (plain fs) n = s.size := by unfold fl; rw [e1, size_list]
  rw [e1, e2]
  by_cases hl : long ≤ e
  · have e3 : (e : Int) - (long : Int) = ((e - long : Nat) : Int) := by omega
    rw [e3, stn_nat]
    simp [hl]
  · have e3 : stn t s.data.toList ((e : Int) - (long : Int)) = false := by
      unfold stn
      rw [decide_eq_false (by omega)]
      rfl
    rw [e3]
    simp [hl]
/-- all of it: refused, or found -/
structure MnFin (w : World) (R : List (Nat × Nat)) (c : Int) (e : Ending) (w' : World) : Prop where
  ok : c = 0 → HsPost w R 0 e w'
  no : c ≠ 0 → HsPost w [] c e w'
set_option maxRecDepth 100000 in
set_option maxHeartbeats 4000000 in
theorem findMany (t : ByteArray) (a : Option Addr) (cap : Nat) (fs : List ByteArray) (w : World) (h : StAt w a fs) (hle : fs.length ≤ cap) :
    Calls Try.prog 20 #[.string t, .slice a fs.length cap] w (MnFin w (many t.data.toList (plain fs)) (mfault t.size fs ffault)) := by
  by_cases hbig : 600 < t.size ∨ 20 < fs.length
  · have e0 : mfault t.size fs ffault = 1 := if_pos hbig
    rw [e0]
    by_cases h1 : 600 < t.size
    · have q1 : decide ((600 : Int) < (t.size : Int)) = true := decide_eq_true (by omega)
      clear hbig e0 h
      go_enter Try.func20, Try.ntmps20
      go_wp2_with fail
      go_ret2
      exact ⟨fun h => absurd h (by decide), fun _ => ⟨_, rfl, HK.nil (Below.refl _ _)⟩⟩
    · have q1 : decide ((600 : Int) < (t.size : Int)) = false := decide_eq_false (by omega)
      have q2 : decide ((20 : Int) < (fs.length : Int)) = true := decide_eq_true (by omega)
      clear hbig e0 h
      go_enter Try.func20, Try.ntmps20
      go_wp2_with fail
      go_ret2
      exact ⟨fun h => absurd h (by decide), fun _ => ⟨_, rfl, HK.nil (Below.refl _ _)⟩⟩
  · have e0 : mfault t.size fs ffault = mfTo t.size fs ffault fs.length := if_neg hbig
    have ht : t.size ≤ 600 := by omega
    have hn : fs.length ≤ 20 := by omega
    have q1 : decide ((600 : Int) < (t.size : Int)) = false := decide_eq_false (by omega)
    have q2 : decide ((20 : Int) < (fs.length : Int)) = false := decide_eq_false (by omega)
    rw [e0]
    have H := Lib.hid h
    have STOP : Hid (∀ n c, mfTo t.size fs ffault n = c → c ≠ 0 → n ≤ fs.length → MnFin w (many t.data.toList (plain fs)) (mfTo t.size fs ffault fs.length) (.returned (.tuple #[.slice none 0 0, .int .i64 c])) w) := Lib.hid (fun n c h1 h2 h3 => by
      rw [mfTo_stop h1 h2 _ h3]
      exact ⟨fun h => absurd h h2, fun _ => ⟨_, rfl, HK.nil (Below.refl _ _)⟩⟩)
    have FA := Lib.hid fun (s : ByteArray) W => findFault t s W
    clear hbig e0 h
    go_enter Try.func20, Try.ntmps20
    go_wp2_with fail
    go_loopw [26] (fun vi wr => ∃ i : Nat, i ≤ fs.length ∧ vi = .int .i64 (i : Int) ∧ wr = w ∧ Hid (mfTo t.size fs ffault i = 0)) (fun vi _ => fs.length - (intOf vi).toNat)
    case atStart => exact ⟨0, by omega, rfl, rfl, Lib.hid rfl⟩
    case round =>
      obtain ⟨i, hi, rfl, rfl, HM⟩ := hrel
      by_cases hlt : i < fs.length
      · obtain ⟨s, hs⟩ : ∃ s, fs[i]? = some s := ⟨fs[i], by simp [hlt]⟩
        obtain ⟨g, off, rfl, hg, c1⟩ := StAt.get H.out hs
        have j1 : (i : Int) < (fs.length : Int) := by omega
        have j2 : (i : Int) ≤ (cap : Int) := by omega
        have r1 : IntKind.i64.wrap ((i : Int) + 1) = (i : Int) + 1 := IntWalk.i64_in _ (by omega)
        by_cases hf : ffault t.size s.size = 0
        · have F := Lib.hid (FA.out s wr)
          rw [hf] at F
          go_wp2_with (go_at_call 25; refine F.out.mono ?_; rintro e w1 ⟨rfl, rfl⟩)
          go_loopw [41] (fun vj wx => ∃ j : Nat, j ≤ i ∧ vj = .int .i64 (j : Int) ∧ wx = wr ∧ Hid (∀ k, k < j → fs[k]? ≠ some s)) (fun vj _ => i - (intOf vj).toNat)
          case atStart => exact ⟨0, by omega, rfl, rfl, Lib.hid (fun k hk => by omega)⟩
          case round =>
            obtain ⟨j, hj, rfl, rfl, HN⟩ := hrel
            by_cases hjl : j < i
            · obtain ⟨x, hx⟩ : ∃ x, fs[j]? = some x := ⟨fs[j], by simp [Nat.lt_trans hjl hlt]⟩
              obtain ⟨g', off', ea, _, c2⟩ := StAt.get H.out hx
              simp only [Option.some.injEq, Addr.mk.injEq, and_true] at ea
              obtain ⟨rfl, rfl⟩ := ea
              have j3 : (j : Int) < (i : Int) := by omega
              have r2 : IntKind.i64.wrap ((j : Int) + 1) = (j : Int) + 1 := IntWalk.i64_in _ (by omega)
              by_cases hsx : s = x
              · have HE := (same_iff s x).2 hsx
                have FIN := Lib.hid (STOP.out (i + 1) 4 (mfTo_twice HM.out hs hf (List.mem_iff_getElem?.2 ⟨j, by rw [List.getElem?_take_of_lt hjl, hx, hsx]⟩)) (by decide) (by omega))
                clear HM HN hs hx
                generalize (s.toList == x.toList) = b at *
                go_wp2_with fail
                go_ret2
                exact FIN.out
              · have HE := same_not hsx
                have HN2 : Hid (∀ k, k < j + 1 → fs[k]? ≠ some s) := Lib.hid (fun k hk => by
                  by_cases e : k = j
                  · subst e; rw [hx]; intro h; cases h; exact hsx rfl
                  · exact HN.out k (by omega))
                clear HN hs hx
                go_wp2_with fail
                go_roundw
                case rel => exact ⟨j + 1, by omega, by go_num, trivial, HN2⟩
                case measure => simp [intOf]; omega
            · obtain rfl : j = i := by omega
              have HM2 := Lib.hid (mfTo_ok HM.out hs hf (fun hm => by
                obtain ⟨k, hk⟩ := List.mem_iff_getElem?.1 hm
                have hkl := (List.getElem?_eq_some_iff.1 hk).1
                rw [List.length_take] at hkl
                rw [List.getElem?_take_of_lt (by omega)] at hk
                exact HN.out k (by omega) hk))
              clear HM HN hs
              go_wp2_with fail
              go_roundw
              case rel => exact ⟨j + 1, by omega, by go_num, trivial, HM2⟩
              case measure => simp [intOf]; omega
        · have F := Lib.hid (FA.out s wr)
          have hb : (ffault t.size s.size == 0) = false := by simpa using hf
          have FIN := Lib.hid (STOP.out (i + 1) (ffault t.size s.size) (mfTo_fault HM.out hs hf) hf (by omega))
          clear hf HM hs
          generalize ffault t.size s.size = c at *
          go_wp2_with (go_at_call 25; refine F.out.mono ?_; rintro e w1 ⟨rfl, rfl⟩)
          go_ret2
          exact FIN.out
      · have e1 : i = fs.length := by omega
        subst e1
        rename World => w0
        obtain ⟨i0, hi, hz0, hz1, hz2⟩ := info_parts infoHit
        have HI := Lib.hid (And.intro hi (And.intro hz0 (And.intro hz1 hz2)))
        clear hi hz0 hz1 hz2
        have ALL := Lib.hid (mfTo_all HM.out)
        have ML := Lib.hid (manyTo_len t.data.toList (plain fs) (by rw [plain_len]; exact hn))
        have RL := Lib.hid (fun e m => rowL_len t.data.toList (plain fs) e (by rw [plain_len]; exact hn) m)
        have IL := Lib.hid (rowI_len t.data.toList (plain fs))
        have PL := Lib.hid (plain_len fs)
        have SS := Lib.hid (rowI_step t.data.toList fs)
        have ST := Lib.hid (fun (s : ByteArray) (x : Int) W (hs : s.size ≤ 20) (h1 : -1000 ≤ x) (h2 : x ≤ 1000) => standsAt t s x W hs h1 h2)
        clear STOP FA
        go_wp2_with fail
        go_loopw [11, 12] (fun vo vi wx => ∃ e : Nat, e ≤ t.size ∧ vi = .int .i64 ((e : Int) + 1) ∧ Hid (HK w0 (manyTo t.data.toList (plain fs) e) vo wx)) (fun _ vi _ => t.size + 1 - (intOf vi).toNat)
        case atStart => exact ⟨0, by omega, rfl, Lib.hid (HK.nil (Below.refl _ _))⟩
        case round =>
          obtain ⟨e, he, rfl, HE⟩ := hrel
          by_cases hlt : e < t.size
          · have q3 : decide ((e : Int) + 1 ≤ (t.size : Int)) = true := decide_eq_true (by omega)
            have r1 : IntKind.i64.wrap ((e : Int) + 1 + 1) = (e : Int) + 1 + 1 := IntWalk.i64_in _ (by omega)
            have HS := Lib.hid (manyTo_succ t.data.toList (plain fs) e)
            have M0 := ML.out e
            have RL2 := Lib.hid (RL.out (e + 1))
            generalize manyTo t.data.toList (plain fs) e = A at *
            go_wp2_with fail
            go_loopw [11, 13] (fun vo vm wy => ∃ m : Nat, m ≤ 20 ∧ vm = .int .i64 (20 - (m : Int)) ∧ Hid (HK w0 (A ++ rowL t.data.toList (plain fs) (e + 1) m) vo wy)) (fun _ vm _ => (intOf vm).toNat)
            case atStart => exact ⟨0, by omega, by go_num, Lib.hid (by simpa [rowL] using HE.out)⟩
            case round =>
              obtain ⟨m, hm, rfl, HB⟩ := hrel
              by_cases hml : m < 20
              · have q4 : decide ((0 : Int) < 20 - (m : Int)) = true := decide_eq_true (by omega)
                have q4' : (0 : Int) < 20 - (m : Int) := by omega
                have q4a : decide ((m : Int) < 20) = true := decide_eq_true (by omega)
                have r2 : IntKind.i64.wrap (20 - (m : Int) - 1) = 20 - (m : Int) - 1 := IntWalk.i64_in _ (by omega)
                have r3 : IntKind.i64.wrap ((e : Int) + 1 - (20 - (m : Int))) = (e : Int) + 1 - (20 - (m : Int)) := IntWalk.i64_in _ (by omega)
                have HS2 := Lib.hid (rowL_succ t.data.toList (plain fs) (e + 1) m)
                have M1 := RL2.out m
                generalize rowL t.data.toList (plain fs) (e + 1) m = B at *
                go_wp2_with fail
                go_loopw [11, 62] (fun vo vi wz => ∃ i : Nat, i ≤ fs.length ∧ vi = .int .i64 (i : Int) ∧ Hid (HK w0 (A ++ B ++ rowI t.data.toList (plain fs) (e + 1) (20 - m) i) vo wz)) (fun _ vi _ => fs.length - (intOf vi).toNat)
                case atStart => exact ⟨0, by omega, rfl, Lib.hid (by simpa [rowI] using HB.out)⟩
                case round =>
                  obtain ⟨i, hi, rfl, HJ⟩ := hrel
                  by_cases hil : i < fs.length
                  · obtain ⟨s, hs⟩ : ∃ s, fs[i]? = some s := ⟨fs[i], by simp [hil]⟩
                    obtain ⟨g, off, rfl, hg, c1⟩ := StAt.get (H.out.next HJ.out.bel) hs
                    have j1 : (i : Int) < (fs.length : Int) := by omega
                    have r4 : IntKind.i64.wrap ((i : Int) + 1) = (i : Int) + 1 := IntWalk.i64_in _ (by omega)
                    have SI := Lib.hid (SS.out (e + 1) (20 - m) i s hs)
                    have hss : s.size ≤ 20 := (ffault_ok (ALL.out i hil s hs).1).2.1
                    have M2 := IL.out (e + 1) (20 - m) i
                    generalize rowI t.data.toList (plain fs) (e + 1) (20 - m) i = C at *
                    have L0 : Hid ((A ++ B ++ C).length ≤ 300000) := Lib.hid (by rw [List.length_append, List.length_append]; omega)
                    have ea : ((e + 1 : Nat) : Int) - ((20 - m : Nat) : Int) = (e : Int) + 1 - (20 - (m : Int)) := by omega
                    rw [ea] at SI
                    have NX : Hid (∀ vo wy, HK w0 (A ++ B ++ C ++ (if s.size = 20 - m ∧ stn t.data.toList s.data.toList ((e : Int) + 1 - (20 - (m : Int))) = true then [(e + 1 - (20 - m), i)] else [])) vo wy → HK w0 (A ++ B ++ rowI t.data.toList (plain fs) (e + 1) (20 - m) (i + 1)) vo wy) := Lib.hid (fun _ _ h => by rw [SI.out, ← List.append_assoc]; exact h)
                    clear SI ea hs
                    generalize A ++ B ++ C = X at *
                    by_cases hsz : s.size = 20 - m
                    · have q5 : decide ((s.size : Int) = 20 - (m : Int)) = true := decide_eq_true (by omega)
                      have q6 : (s.size : Int) = 20 - (m : Int) := by omega
                      have q7 : ((s.size : Int) == 20 - (m : Int)) = true := by rw [q6]; simp
                      have HW := Lib.hid (ST.out s ((e : Int) + 1 - (20 - (m : Int))) wr hss (by omega) (by omega))
                      cases hst : stn t.data.toList s.data.toList ((e : Int) + 1 - (20 - (m : Int)))
                      · rw [hst] at HW NX
                        simp only [Bool.false_eq_true, and_false, if_false, List.append_nil] at NX
                        have HR := Lib.hid (NX.out _ _ HJ.out)
                        clear NX HJ hst HE HB
                        go_wp2_with (go_at_call 26; refine HW.out.mono ?_; rintro e w1 ⟨rfl, rfl⟩)
                        go_roundw
                        case rel => exact ⟨i + 1, by omega, by go_num, HR⟩
                        case measure => simp [intOf]; omega
                      · have h0 : (20 : Int) - (m : Int) ≤ (e : Int) + 1 := by
                          unfold stn at hst
                          rw [Bool.and_eq_true, decide_eq_true_eq] at hst
                          omega
                        rw [hst] at HW NX
                        rw [if_pos ⟨hsz, rfl⟩] at NX
                        clear hst HE HB
                        obtain ⟨x, hx⟩ : ∃ x : Nat, (e : Int) + 1 - (20 - (m : Int)) = (x : Int) := ⟨e + 1 - (20 - m), by omega⟩
                        have hx2 : e + 1 - (20 - m) = x := by omega
                        rw [hx2] at NX
                        rw [hx] at HW r3
                        have HROW := Lib.hid HJ.out.row
                        have hzz := HJ.out.bel.size
                        have L1 := L0.out
                        have HNEW := Lib.hid (cell_two_new wr (.int .i64 (x : Int)) (.int .i64 (i : Int)) 38)
                        go_wp2_with (first
                          | (go_at_call 26; refine HW.out.mono ?_; rintro e w1 ⟨rfl, rfl⟩)
                          | (at_builtin; refine wpList_append_lies _ rfl _ _ 34 rfl w0.heap.size 38 i0 _ 2 16 Try.underlying34 HI.out.1 HI.out.2.1 HI.out.2.2.1 HI.out.2.2.2 rfl (by decide) _ X.length (flatC hc X) rfl (HROW.out.alloc _) ⟨wr.heap.size, 0, none⟩ 1 1 [.int .i64 (x : Int), .int .i64 (i : Int)] rfl rfl HNEW.out (by simp [Value.oneCell']) (by omega) (by unfold maxLen; omega) (by omega) (by simp; omega) _ rfl ?_; intro g4 cap4 w4 hown4 hgrow4 _ _))
                        go_roundw
                        case rel => exact ⟨i + 1, by omega, by go_num, Lib.hid (NX.out _ _ ⟨by rw [flatC_append, flatC_one, List.length_append]; exact hown4, bgrow (balloc HJ.out.bel _) (HROW.out.alloc _) hgrow4⟩)⟩
                        case measure => simp [intOf]; omega
                    · have q5 : decide ((s.size : Int) = 20 - (m : Int)) = false := decide_eq_false (by omega)
                      have q6 : ¬ (s.size : Int) = 20 - (m : Int) := by omega
                      have q7 : ((s.size : Int) == 20 - (m : Int)) = false := by rw [beq_eq_false_iff_ne]; exact q6
                      rw [if_neg (fun h => hsz h.1), List.append_nil] at NX
                      have HR := Lib.hid (NX.out _ _ HJ.out)
                      clear NX HJ HE HB
                      go_wp2_with fail
                      go_roundw
                      case rel => exact ⟨i + 1, by omega, by go_num, HR⟩
                      case measure => simp [intOf]; omega
                  · have e1 : i = fs.length := by omega
                    rw [e1, ← PL.out, List.append_assoc, ← HS2.out] at HJ
                    clear e1
                    go_wp2_with fail
                    go_roundw
                    case rel => exact ⟨m + 1, by omega, by go_num, HJ⟩
                    case measure => simp [intOf]; omega
              · obtain rfl : m = 20 := by omega
                have q4a : decide (((20 : Nat) : Int) < 20) = false := decide_eq_false (by omega)
                have q4 : decide ((0 : Int) < 20 - ((20 : Nat) : Int)) = false := decide_eq_false (by omega)
                have HF : Hid (∀ vo wy, HK w0 (A ++ rowL t.data.toList (plain fs) (e + 1) 20) vo wy → HK w0 (manyTo t.data.toList (plain fs) (e + 1)) vo wy) := Lib.hid (fun _ _ h => by rw [HS.out]; exact h)
                have HG := Lib.hid (HF.out _ _ HB.out)
                clear HF HS HB M0 RL2
                go_wp2_with fail
                go_roundw
                case rel => exact ⟨e + 1, by omega, by go_num, HG⟩
                case measure => simp [intOf]; omega
          · have e1 : e = t.data.toList.length := by rw [size_list]; omega
            have q3 : decide ((e : Int) + 1 ≤ (t.size : Int)) = false := decide_eq_false (by omega)
            rw [e1] at HE
            clear e1
            go_wp2_with fail
            go_ret2
            exact ⟨fun _ => ⟨_, rfl, HE.out⟩, fun h => absurd HM.out h⟩
end Go.Proofs.Ytkiebkjndmcddaa.FindR
