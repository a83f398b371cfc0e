/-
  Package rope: what newLeaf, pair, depthOf, lengthOf answer.
-/
import Derived.Test.YtkckhjljindgmaaLift
import Derived.Test.YtkckhjljindgmaaRopeTree
import Derived.Lib.Strings
namespace Go.Proofs.Ytkckhjljindgmaa.RopeC
open Go.RowKit Kit RopeM

set_option maxHeartbeats 1000000 in
theorem depthOf (t : RT) (w : World) (h : RopeAt w t) :
    Calls Try.prog 46 #[t.ptr] w fun e w' => e = .returned (.int .i64 (t.dep : Int)) ∧ w = w' := by
  by_cases h0 : 0 < t.dep
  · obtain ⟨b, hp, hb, hc, hx⟩ := h.open h0
    rw [hp]
    clear h hp hx
    generalize t.dep = d at *
    clear t
    go_enter Try.func46, Try.ntmps46
    go_wp2
    go_ret
    exact ⟨rfl, rfl⟩
  · obtain rfl := RT.isNil (t := t) (by omega)
    go_enter Try.func46, Try.ntmps46
    simp only [RT.ptr, RT.addr]
    go_wp2
    go_ret
    exact ⟨rfl, rfl⟩
set_option maxHeartbeats 1000000 in
theorem lengthOf (t : RT) (w : World) (h : RopeAt w t) :
    Calls Try.prog 77 #[t.ptr] w fun e w' => e = .returned (.int .i64 (t.len : Int)) ∧ w = w' := by
  by_cases h0 : 0 < t.dep
  · obtain ⟨b, hp, hb, hx, hc⟩ := h.open h0
    rw [hp]
    clear h hp h0 hx
    generalize t.len = d at *
    clear t
    go_enter Try.func77, Try.ntmps77
    go_wp2
    go_ret
    exact ⟨rfl, rfl⟩
  · obtain rfl := RT.isNil (t := t) (by omega)
    go_enter Try.func77, Try.ntmps77
    simp only [RT.ptr, RT.addr]
    go_wp2
    go_ret
    exact ⟨rfl, rfl⟩

set_option maxHeartbeats 1000000 in
theorem newLeaf_some (s : ByteArray) (w : World) (h : 0 < s.size) :
    Calls Try.prog 69 #[.string s] w fun e w' => ∃ b, e = .returned (RT.leaf b s).ptr ∧ RopeAt w' (.leaf b s) ∧ Below w.heap.size w w' := by
  have hne : s.toList.isEmpty = false := by
    rw [Lib.toList_data]
    cases hs : s.data.toList with
    | nil =>
      have : s.data.toList.length = s.size := by simp
      rw [hs] at this; simp at this; omega
    | cons a l => rfl
  go_enter Try.func69, Try.ntmps69
  go_wp2
  go_ret
  refine ⟨w.heap.size, rfl, ⟨h, ?_⟩, (Below.refl _ _).alloc (Nat.le_refl _) _⟩
  exact ⟨by simp, by simp, by simp, by simp, Typ.new _ _⟩
set_option maxHeartbeats 1000000 in
theorem newLeaf_none (s : ByteArray) (w : World) (h : s.size = 0) :
    Calls Try.prog 69 #[.string s] w fun e w' => e = .returned RT.nil.ptr ∧ w = w' := by
  have he : s = { data := #[] } := by
    apply ByteArray.ext; apply Array.eq_empty_of_size_eq_zero; exact h
  subst he
  go_enter Try.func69, Try.ntmps69
  go_wp2
  go_ret
  exact ⟨rfl, rfl⟩
/-- newLeaf, whatever the text -/
theorem newLeaf (s : ByteArray) (w : World) :
    Calls Try.prog 69 #[.string s] w fun e w' => ∃ t : RT, e = .returned t.ptr ∧ RopeAt w' t ∧ t.txt = s.data.toList ∧ Below w.heap.size w w' := by
  by_cases h : 0 < s.size
  · refine (newLeaf_some s w h).mono ?_
    rintro e w' ⟨b, rfl, hg, hb⟩
    exact ⟨_, rfl, hg, by simp, hb⟩
  · refine (newLeaf_none s w (by omega)).mono ?_
    rintro e w' ⟨rfl, rfl⟩
    refine ⟨_, rfl, RopeAt.nil _, ?_, Below.refl _ _⟩
    have h1 : s.data.toList.length = s.size := by simp
    have : s.data.toList.length = 0 := by omega
    simp [List.eq_nil_of_length_eq_zero this]

set_option maxHeartbeats 2000000 in
theorem pair (l r : RT) (w : World) (hl : RopeAt w l) (hr : RopeAt w r) (l0 : 0 < l.dep) (r0 : 0 < r.dep) (h1 : l.dep ≤ r.dep + 1) (h2 : r.dep ≤ l.dep + 1) (hm : l.len + r.len ≤ 1099511627776) :
    Calls Try.prog 80 #[l.ptr, r.ptr] w fun e w' => ∃ b, e = .returned (RT.node b l r).ptr ∧ RopeAt w' (.node b l r) ∧ Below w.heap.size w w' := by
  obtain ⟨b1, hp1, hb1, hd1, hn1⟩ := hl.open l0
  obtain ⟨b2, hp2, hb2, hd2, hn2⟩ := hr.open r0
  have q1 := RT.dep_len hl.1
  have q2 := RT.dep_len hr.1
  have FIN : ∀ (d : Nat), max l.dep r.dep = d → RopeAt (w.alloc (.cells #[.int .i64 ((d : Int) + 1), .int .i64 ((l.len : Int) + r.len), .string ⟨#[]⟩, l.ptr, r.ptr] 109)).drew (.node w.heap.size l r) ∧ Below w.heap.size w (w.alloc (.cells #[.int .i64 ((d : Int) + 1), .int .i64 ((l.len : Int) + r.len), .string ⟨#[]⟩, l.ptr, r.ptr] 109)).drew := by
    rintro d rfl
    have hb := (Below.refl _ w).alloc (Nat.le_refl _) (.cells #[.int .i64 (((max l.dep r.dep : Nat) : Int) + 1), .int .i64 ((l.len : Int) + r.len), .string ⟨#[]⟩, l.ptr, r.ptr] 109)
    refine ⟨RopeAt.next (w := w.alloc (.cells #[.int .i64 (((max l.dep r.dep : Nat) : Int) + 1), .int .i64 ((l.len : Int) + r.len), .string ⟨#[]⟩, l.ptr, r.ptr] 109)) ⟨⟨hl.1, hr.1, l0, r0, h1, h2⟩, ?_⟩ (Below.refl _ _).drew, hb.drew⟩
    refine ⟨by simp, by simp, by simp, by simp, by simp, hl.2.next hb, hr.2.next hb, Typ.new _ _⟩
  rw [hp1, hp2]
  rw [hp1, hp2] at FIN
  obtain ⟨dl, hdl⟩ : ∃ dl, l.dep = dl := ⟨_, rfl⟩
  obtain ⟨dr, hdr⟩ : ∃ dr, r.dep = dr := ⟨_, rfl⟩
  obtain ⟨nl, hnl⟩ : ∃ nl, l.len = nl := ⟨_, rfl⟩
  obtain ⟨nr, hnr⟩ : ∃ nr, r.len = nr := ⟨_, rfl⟩
  rw [hdl, hdr, hnl, hnr] at FIN
  rw [hdl] at hd1 h1 h2 q1
  rw [hdr] at hd2 h1 h2 q2
  rw [hnl] at hn1 hm q1
  rw [hnr] at hn2 hm q2
  have FH := Lib.hid FIN
  clear FIN hl hr hp1 hp2 l0 r0
  go_enter Try.func80, Try.ntmps80
  go_wp2_with fail
  go_region
  all_goals go_wp2
  all_goals go_ret
  · exact ⟨w.heap.size, rfl, FH.out _ (by omega)⟩
  · exact ⟨w.heap.size, rfl, FH.out _ (by omega)⟩

end Go.Proofs.Ytkckhjljindgmaa.RopeC
