/-
  fustiankeep.edited: the text that valid edits make.
-/
import Derived.Test.YtkckhjljindgmaaEditInvert
import Derived.Laws.AppendOwnNone
namespace Go.Proofs.Ytkckhjljindgmaa.EditK
open Go.RowKit Kit EditM EditC

theorem applyV (t : ByteArray) (l : List EdM) (v : Value) (w : World) (hl : EdsV w v l) (hok : ∀ e ∈ l, e.ok) (h60 : l.length ≤ 60) (ht : t.size ≤ 600) (hc : apC l t.data.toList = 0) :
    Calls Try.prog 16 #[.string t, v] w fun e w' => e = .returned (.tuple #[.string (str (apT l t.data.toList)), .int .i64 0]) ∧ Below w.heap.size w w' := by
  obtain ⟨a, cap, rfl, _, ha, _⟩ := hl
  have := apply t l a cap w ha hok h60 ht
  unfold apR at this
  rw [hc, if_pos rfl] at this
  exact this
theorem invertV (t : ByteArray) (l : List EdM) (v : Value) (w : World) (hl : EdsV w v l) (hok : ∀ e ∈ l, e.ok) (h60 : l.length ≤ 60) (ht : t.size ≤ 600) (hc : apC l t.data.toList = 0) :
    Calls Try.prog 18 #[.string t, v] w fun e w' => ∃ v', e = .returned (.tuple #[v', .int .i64 0]) ∧ EdsV w' v' (invs l t.data.toList).reverse ∧ Below w.heap.size w w' := by
  obtain ⟨a, cap, rfl, _, ha, _⟩ := hl
  refine (invert t l a cap w ha hok h60 ht).mono ?_
  rintro e w' ⟨v', rfl, hv, hb⟩
  rw [hc] at hv ⊢
  rcases hv with ⟨_, hv⟩ | ⟨h, _⟩
  · exact ⟨v', rfl, hv, hb⟩
  · exact absurd rfl h
/-- a copy of edits -/
theorem EdsV.own {w : World} {base : Nat} {v : Value} {l : List EdM} {n : Nat} (hn : l.length = n) (h : w.ownsRow base 23 3 v n (flatC EdM.cs l)) : EdsV w v l :=
  SlV.of_owns EdM.cs_len (base := base) (e := 23) (by rw [hn]; exact h)

def eB : EdM := ⟨1, 0, ⟨#[98]⟩⟩
theorem eB_ok : ∀ e ∈ [eB], e.ok := by
  intro e he
  simp at he; subst he
  exact ⟨by simp [eB], by simp [eB], by simp [eB], by simp [eB], by simp [eB, ByteArray.size]⟩
theorem one_at (w : World) (e : EdM) : EdsV (w.alloc (.cells #[.int .i64 e.at_, .int .i64 e.cut, .string e.put] 23)) (.slice (some ⟨w.heap.size, 0, none⟩) 1 1) [e] := by
  refine ⟨_, _, rfl, by simp, ⟨fun i o hi => ⟨w.heap.size, 0, rfl, by simp, fun j hj => ?_⟩⟩, .inr ⟨_, _, rfl, by simp⟩⟩
  have hi0 : i = 0 := by
    have := (List.getElem?_eq_some_iff.1 hi).1
    simpa using this
  subst hi0
  simp at hi; subst hi
  rw [show (0 + 0 * 3 + j) = j by omega, cells_new]
  simp [EdM.cs]
theorem apB : apC [eB] (⟨#[97, 99]⟩ : ByteArray).data.toList = 0 ∧ apT [eB] (⟨#[97, 99]⟩ : ByteArray).data.toList = [97, 98, 99] := by decide +kernel
theorem applyB (w : World) : Calls Try.prog 16 #[.string ⟨#[97, 99]⟩, .slice (some ⟨w.heap.size, 0, none⟩) 1 1] (w.alloc (.cells #[.int .i64 1, .int .i64 0, .string ⟨#[98]⟩] 23)) fun e w' => e = .returned (.tuple #[.string ⟨#[97, 98, 99]⟩, .int .i64 0]) ∧ Below w.heap.size w w' := by
  refine (applyV ⟨#[97, 99]⟩ [eB] _ _ (one_at w eB) eB_ok (by simp) (by simp [ByteArray.size]) apB.1).mono ?_
  rintro e w' ⟨rfl, hb⟩
  rw [apB.2]
  exact ⟨rfl, bstep (balloc (Below.refl _ _) _) hb⟩

set_option maxRecDepth 100000 in
set_option maxHeartbeats 2000000 in
theorem edited_some (s : ByteArray) (l : List EdM) (g off cap : Nat) (w : World) (hl : EdsAt w (some ⟨g, off, none⟩) l) (hok : ∀ e ∈ l, e.ok) (h60 : l.length ≤ 60) (hs : s.size ≤ 600) (hc : apC l s.data.toList = 0) :
    Calls Try.prog 26 #[.string s, .slice (some ⟨g, off, none⟩) l.length cap] w fun e w' => e = .returned (.tuple #[.string (str (apT l s.data.toList)), .bool true]) ∧ Below w.heap.size w w' := by
  obtain ⟨i0, hi, hz0, hz1, hz2⟩ := info_parts infoEdit
  have HI := Lib.hid (And.intro hi (And.intro hz0 (And.intro hz1 hz2)))
  clear hi hz0 hz1 hz2
  have HL := Lib.hid (SlAt.cells_at EdM.cs_len (by omega) hl)
  have AP := Lib.hid (fun W v (hv : EdsV W v l) => applyV s l v W hv hok h60 hs hc)
  have AB := Lib.hid (fun W => applyB W)
  clear hl hc hok
  obtain ⟨n, hn⟩ : ∃ n, l.length = n := ⟨_, rfl⟩
  have HN := Lib.hid hn
  rw [hn] at h60 ⊢
  clear hn
  generalize str (apT l s.data.toList) = out at *
  go_enter Try.func26, Try.ntmps26
  go_wp2_with (at_builtin; refine wpList_append_own _ rfl _ _ 27 rfl w.heap.size 23 i0 _ 3 32 Try.underlying27 HI.out.1 HI.out.2.1 HI.out.2.2.1 HI.out.2.2.2 rfl (by decide) _ 0 [] rfl (World.ownsRow_nil _ _ _ _) ⟨g, off, none⟩ n cap (flatC EdM.cs l) rfl (by rw [flatC_length EdM.cs_len, HN.out]) HL.out (flatC_all EdM.cs_one l) (by unfold maxLen; omega) (by omega) (by simp) ?_; intro v' w1 hown hgrow _)
  have HV : Hid (EdsV w1 v' l) := Lib.hid (EdsV.own (base := w.heap.size) HN.out (by simpa using hown))
  have B1 : Hid (Below w.heap.size w w1) := Lib.hid (grows_below hgrow)
  clear hown hgrow HL
  go_wp2_with fail
  refine (AP.out _ _ HV.out).mono ?_
  rintro e w2 ⟨rfl, hb2⟩
  have B2 := Lib.hid (bstep B1.out hb2)
  clear hb2 AP HV B1
  go_wp2_with fail
  refine (AB.out _).mono ?_
  rintro e w3 ⟨rfl, hb3⟩
  have B3 := Lib.hid (bstep B2.out hb3)
  clear hb3 AB B2
  go_wp2_with fail
  go_ret2
  exact ⟨rfl, B3.out⟩

set_option maxRecDepth 100000 in
set_option maxHeartbeats 2000000 in
theorem edited_none (s : ByteArray) (w : World) (hs : s.size ≤ 600) :
    Calls Try.prog 26 #[.string s, .slice none 0 0] w fun e w' => e = .returned (.tuple #[.string s, .bool true]) ∧ Below w.heap.size w w' := by
  obtain ⟨i0, hi, hz0, hz1, hz2⟩ := info_parts infoEdit
  have HI := Lib.hid (And.intro hi (And.intro hz0 (And.intro hz1 hz2)))
  clear hi hz0 hz1 hz2
  have AP : Hid (∀ W, Calls Try.prog 16 #[.string s, .slice none 0 0] W fun e w' => e = .returned (.tuple #[.string s, .int .i64 0]) ∧ Below W.heap.size W w') := Lib.hid fun W => by
    have := applyV s [] (.slice none 0 0) W (SlV.nil _) (fun e he => by simp at he) (by simp) hs rfl
    rw [show str (apT [] s.data.toList) = s from str_list s] at this
    exact this
  have AB := Lib.hid (fun W => applyB W)
  go_enter Try.func26, Try.ntmps26
  go_wp2_with (at_builtin; refine wpList_append_own_none rfl _ _ 27 rfl w.heap.size 23 i0 3 Try.underlying27 HI.out.1 _ 0 [] rfl (World.ownsRow_nil _ _ _ _) rfl ?_)
  refine (AP.out _).mono ?_
  rintro e w2 ⟨rfl, hb2⟩
  have B2 := Lib.hid hb2
  clear hb2 AP
  go_wp2_with fail
  refine (AB.out _).mono ?_
  rintro e w3 ⟨rfl, hb3⟩
  have B3 := Lib.hid (bstep B2.out hb3)
  clear hb3 AB B2
  go_wp2_with fail
  go_ret2
  exact ⟨rfl, B3.out⟩

theorem edited (s : ByteArray) (l : List EdM) (v : Value) (w : World) (hv : EdsV w v l) (hok : ∀ e ∈ l, e.ok) (h60 : l.length ≤ 60) (hs : s.size ≤ 600) (hc : apC l s.data.toList = 0) :
    Calls Try.prog 26 #[.string s, v] w fun e w' => e = .returned (.tuple #[.string (str (apT l s.data.toList)), .bool true]) ∧ Below w.heap.size w w' := by
  obtain ⟨a, cap, rfl, _, ha, hs'⟩ := hv
  rcases hs' with ⟨rfl, rfl, rfl⟩ | ⟨g, off, rfl, _⟩
  · have := edited_none s w hs
    rw [show str (apT [] s.data.toList) = s from str_list s]
    exact this
  · exact edited_some s l g off cap w ha hok h60 hs hc

end Go.Proofs.Ytkckhjljindgmaa.EditK
