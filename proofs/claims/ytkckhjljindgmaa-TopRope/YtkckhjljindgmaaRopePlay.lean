/-
  Package rope: what Play and Depths answer.
-/
import Derived.Test.YtkckhjljindgmaaRopeBuild
import Derived.Test.YtkckhjljindgmaaRopeText
namespace Go.Proofs.Ytkckhjljindgmaa.RopeC
open Go.RowKit Kit RopeM

theorem build_big (n cap : Nat) (a : Option Addr) (w : World) (h : 80 < n) :
    Calls Try.prog 44 #[.slice a n cap] w fun e w' => e = .returned (.tuple #[.slice none 0 0, .slice none 0 0, .int .i64 1]) ∧ w = w' := by
  go_enter Try.func44, Try.ntmps44
  go_wp2_with fail
  refine bodyPost_ret (v := .tuple #[.slice none 0 0, .slice none 0 0, .int .i64 1]) (by simp [results, Try.results44]) rfl ⟨rfl, rfl⟩

/-- what build has made, as its callers hold it -/
structure Built (w : World) (l : List OpM) (p : Option Addr) (cv : Value) (ts : List RT) (w1 : World) : Prop where
  txt : txts ts = texts l []
  ropes : Ropes w1 p ts
  codes : Row w1 cv (ints (codes l []))
  bel : Below w.heap.size w w1
theorem Built.fine {w : World} {l : List OpM} {p : Option Addr} {cv : Value} {ts : List RT} {w1 : World} (h : Built w l p cv ts w1) : ts.length ≤ 60 ∧ ∀ (i : Nat) t, ts[i]? = some t → t.len ≤ 600 := by
  have hf : Fine (txts ts) := by rw [h.txt]; exact Fine.nil.texts
  refine ⟨by have := hf.1; rw [txts_length] at this; exact this, fun i t hi => ?_⟩
  rw [← RT.txt_len]
  exact hf.2 _ (List.mem_map.2 ⟨t, List.mem_of_getElem? hi, rfl⟩)
theorem built (l : List OpM) (a : Option Addr) (cap : Nat) (w : World) (hl : OpsAt w a l) (h80 : l.length ≤ 80) :
    Calls Try.prog 44 #[.slice a l.length cap] w fun e w' => ∃ p cap' cv ts, e = .returned (.tuple #[.slice p ts.length cap', cv, .int .i64 0]) ∧ Built w l p cv ts w' := by
  refine (build l a cap w hl h80).mono ?_
  rintro e w' ⟨ts, rv, cv, rfl, h⟩
  obtain ⟨p, cap', rfl, hr⟩ := h.ropes
  refine ⟨p, cap', cv, ts, rfl, ?_, hr, ?_, h.bel⟩
  · rw [h.txt, List.take_length]
  · have := Row.of_owns h.crow
    rw [List.take_length] at this
    exact this

/-- a slice whose length is within its capacity -/
def Full (v : Value) (n : Nat) : Prop := ∃ a cap, v = .slice a n cap ∧ n ≤ cap
theorem Full.of_owns {w : World} {base : Nat} {e : TypeId} {size : Nat} {v : Value} {n : Nat} {xs : List Value} (h : w.ownsRow base e size v n xs) : Full v n := by
  rcases h.2 with ⟨rfl, rfl⟩ | ⟨g, cap, cur, rfl, _, _, h2, _⟩
  · exact ⟨_, _, rfl, Nat.le_refl _⟩
  · exact ⟨_, _, rfl, h2⟩
/-- a row that may be sliced -/
def RowF (w : World) (v : Value) (xs : List Value) : Prop := Row w v xs ∧ Full v xs.length
theorem RowF.next {w w' : World} {v : Value} {xs : List Value} (h : RowF w v xs) (hb : Below w.heap.size w w') : RowF w' v xs := ⟨h.1.next hb, h.2⟩
theorem RowF.of_owns {w : World} {base : Nat} {e : TypeId} {v : Value} {n : Nat} {xs : List Value} (h : w.ownsRow base e 1 v n xs) : RowF w v xs := by
  have hl : xs.length = n := by have := h.1; omega
  exact ⟨Row.of_owns h, by rw [hl]; exact Full.of_owns h⟩

def strV (l : List UInt8) : Value := .string ⟨l.toArray⟩
theorem infoStr : (Try.prog.info? 9).map (fun i => (i.zero, i.size, i.bytes)) = some (some (.string ⟨#[]⟩), 1, 16) := by kernel_rfl
theorem infoInt : (Try.prog.info? 3).map (fun i => (i.zero, i.size, i.bytes)) = some (some (.int .i64 0), 1, 8) := by kernel_rfl

set_option maxRecDepth 100000 in
set_option maxHeartbeats 2000000 in
theorem playF (l : List OpM) (a : Option Addr) (cap : Nat) (w : World) (hl : OpsAt w a l) (h80 : l.length ≤ 80) :
    Calls Try.prog 29 #[.slice a l.length cap] w fun e w' => ∃ tv cv, e = .returned (.tuple #[tv, cv, .int .i64 0]) ∧ RowF w' tv ((texts l []).map strV) ∧ Row w' cv (ints (codes l [])) ∧ Below w.heap.size w w' := by
  obtain ⟨i0, hi, hz0, hz1, hz2⟩ := info_parts infoStr
  have HI := Lib.hid (And.intro hi (And.intro hz0 (And.intro hz1 hz2)))
  clear hi hz0 hz1 hz2
  have BU := Lib.hid (built l a cap w hl h80)
  clear hl h80
  go_enter Try.func29, Try.ntmps29
  go_wp2_with fail
  refine BU.out.mono ?_
  rintro e w1 ⟨p, cap', cv, ts, rfl, hb⟩
  have HB := Lib.hid hb
  have hlen := hb.fine.1
  clear hb BU
  obtain ⟨n, hn⟩ : ∃ n, ts.length = n := ⟨_, rfl⟩
  rw [hn] at hlen ⊢
  go_wp2_with fail
  go_loopw [2, 19] (fun tv m wr => ∃ (i : Nat), i ≤ n ∧ m = .int .i64 (i : Int) ∧ wr.ownsRow w1.heap.size 9 1 tv i (((txts ts).take i).map strV) ∧ Below w1.heap.size w1 wr) (fun _ m _ => n - (intOf m).toNat)
  case atStart => exact ⟨0, by omega, rfl, World.ownsRow_nil _ _ _ _, Below.refl _ _⟩
  case round =>
    obtain ⟨i, hin, rfl, hrow, hW⟩ := hrel
    by_cases hlt : i < n
    · obtain ⟨t, ht⟩ : ∃ t, ts[i]? = some t := ⟨ts[i]'(by omega), by simp [hn, hlt]⟩
      obtain ⟨g, rfl, hg, hc⟩ := (HB.out.ropes.next hW).cell i t ht
      have TO := Lib.hid (textOf t wr ((HB.out.ropes.next hW).rope i t ht) (HB.out.fine.2 i t ht))
      rw [show t.ptr = .pointer t.addr from rfl] at TO
      have HE := Lib.hid (show ((txts ts).take (i + 1)).map strV = ((txts ts).take i).map strV ++ [.string ⟨t.txt.toArray⟩] by
        have h1 : (txts ts)[i]? = some t.txt := by simp [txts, ht]
        have h2 := (List.getElem?_eq_some_iff.1 h1)
        rw [List.take_succ_eq_append_getElem h2.1, h2.2]; simp [strV])
      have HR := Lib.hid hrow
      have HW := Lib.hid hW
      have hsz := hW.size
      clear hrow hW
      generalize t.addr = ta at *
      generalize (⟨t.txt.toArray⟩ : ByteArray) = sx at *
      go_wp2_with fail
      refine TO.out.mono ?_
      rintro e w2 ⟨rfl, hb2⟩
      have hsz2 := hb2.size
      have HR2 := Lib.hid (row_next HR.out hb2)
      have HB2 := Lib.hid hb2
      clear HR hb2 TO
      go_wp2_with (at_builtin; refine wpList_append_lies _ rfl _ _ 57 rfl w1.heap.size 9 i0 _ 1 16 Try.underlying57 HI.out.1 HI.out.2.1 HI.out.2.2.1 HI.out.2.2.2 rfl (by decide) _ i (((txts ts).take i).map strV) rfl (HR2.out.alloc _) ⟨w2.heap.size, 0, none⟩ 1 1 [.string sx] rfl rfl (cell_one_new _ _ _) (by simp [Value.oneCell']) (by omega) (by unfold maxLen; omega) (by omega) (by simp; omega) _ rfl ?_; intro g3 cap3 w3 hown3 hgrow3 _ _)
      have FIN := Lib.hid (And.intro hown3 (bgrow (balloc (bstep HW.out HB2.out) _) (HR2.out.alloc _) hgrow3))
      clear hown3 hgrow3
      go_roundw
      case rel => exact ⟨i + 1, by omega, rfl, by rw [HE.out]; exact FIN.out.1, FIN.out.2⟩
      case measure => simp [intOf]; omega
    · obtain rfl : i = n := by omega
      have e1 : (txts ts).take i = texts l [] := by rw [List.take_of_length_le (by rw [txts_length, hn]; exact Nat.le_refl _), HB.out.txt]
      rw [e1] at hrow
      have FIN := Lib.hid (show RowF wr u2 ((texts l []).map strV) ∧ Row wr cv (ints (codes l [])) ∧ Below w.heap.size w wr from ⟨RowF.of_owns hrow, HB.out.codes.next hW, bstep HB.out.bel hW⟩)
      clear hrow hW
      go_wp2_with fail
      refine bodyPost_ret (v := .tuple #[u2, cv, .int .i64 0]) (by simp [results, Try.results29]) rfl ⟨_, _, rfl, FIN.out⟩

theorem play (l : List OpM) (a : Option Addr) (cap : Nat) (w : World) (hl : OpsAt w a l) (h80 : l.length ≤ 80) :
    Calls Try.prog 29 #[.slice a l.length cap] w fun e w' => ∃ tv cv, e = .returned (.tuple #[tv, cv, .int .i64 0]) ∧ Row w' tv ((texts l []).map strV) ∧ Row w' cv (ints (codes l [])) ∧ Below w.heap.size w w' := by
  refine (playF l a cap w hl h80).mono ?_
  rintro e w' ⟨tv, cv, he, h1, h2, h3⟩
  exact ⟨tv, cv, he, h1.1, h2, h3⟩

theorem play_big (n cap : Nat) (a : Option Addr) (w : World) (h : 80 < n) :
    Calls Try.prog 29 #[.slice a n cap] w fun e w' => e = .returned (.tuple #[.slice none 0 0, .slice none 0 0, .int .i64 1]) ∧ w = w' := by
  have BU := Lib.hid (build_big n cap a w h)
  go_enter Try.func29, Try.ntmps29
  go_wp2_with fail
  refine BU.out.mono ?_
  rintro e w1 ⟨rfl, rfl⟩
  go_wp2_with fail
  refine bodyPost_ret (v := .tuple #[.slice none 0 0, .slice none 0 0, .int .i64 1]) (by simp [results, Try.results29]) rfl ⟨rfl, rfl⟩

def depsV (ts : List RT) : List Value := ts.map fun t => .int .i64 (t.dep : Int)
set_option maxRecDepth 100000 in
set_option maxHeartbeats 2000000 in
theorem depths (l : List OpM) (a : Option Addr) (cap : Nat) (w : World) (hl : OpsAt w a l) (h80 : l.length ≤ 80) :
    Calls Try.prog 30 #[.slice a l.length cap] w fun e w' => ∃ dv ts, e = .returned (.tuple #[dv, .int .i64 0]) ∧ txts ts = texts l [] ∧ (∀ t ∈ ts, t.ok) ∧ Row w' dv (depsV ts) ∧ Below w.heap.size w w' := by
  obtain ⟨i0, hi, hz0, hz1, hz2⟩ := info_parts infoInt
  have HI := Lib.hid (And.intro hi (And.intro hz0 (And.intro hz1 hz2)))
  clear hi hz0 hz1 hz2
  have BU := Lib.hid (built l a cap w hl h80)
  clear hl h80
  go_enter Try.func30, Try.ntmps30
  go_wp2_with fail
  refine BU.out.mono ?_
  rintro e w1 ⟨p, cap', cv, ts, rfl, hb⟩
  have HB := Lib.hid hb
  have hlen := hb.fine.1
  clear hb BU
  obtain ⟨n, hn⟩ : ∃ n, ts.length = n := ⟨_, rfl⟩
  rw [hn] at hlen ⊢
  go_wp2_with fail
  go_loopw [7, 21] (fun tv m wr => ∃ (i : Nat), i ≤ n ∧ m = .int .i64 (i : Int) ∧ wr.ownsRow w1.heap.size 3 1 tv i (depsV (ts.take i)) ∧ Below w1.heap.size w1 wr) (fun _ m _ => n - (intOf m).toNat)
  case atStart => exact ⟨0, by omega, rfl, World.ownsRow_nil _ _ _ _, Below.refl _ _⟩
  case round =>
    obtain ⟨i, hin, rfl, hrow, hW⟩ := hrel
    by_cases hlt : i < n
    · obtain ⟨t, ht⟩ : ∃ t, ts[i]? = some t := ⟨ts[i]'(by omega), by simp [hn, hlt]⟩
      obtain ⟨g, rfl, hg, hc⟩ := (HB.out.ropes.next hW).cell i t ht
      have TO := Lib.hid (depthOf t wr ((HB.out.ropes.next hW).rope i t ht))
      rw [show t.ptr = .pointer t.addr from rfl] at TO
      have HE := Lib.hid (show depsV (ts.take (i + 1)) = depsV (ts.take i) ++ [.int .i64 (t.dep : Int)] by
        have h2 := (List.getElem?_eq_some_iff.1 ht)
        rw [List.take_succ_eq_append_getElem h2.1, h2.2]; simp [depsV])
      have HR := Lib.hid hrow
      have HW := Lib.hid hW
      have hsz := hW.size
      clear hrow hW
      generalize t.addr = ta at *
      generalize t.dep = td at *
      go_wp2_with fail
      refine TO.out.mono ?_
      rintro e w2 ⟨rfl, rfl⟩
      clear TO
      go_wp2_with (at_builtin; refine wpList_append_lies _ rfl _ _ 39 rfl w1.heap.size 3 i0 _ 1 8 Try.underlying39 HI.out.1 HI.out.2.1 HI.out.2.2.1 HI.out.2.2.2 rfl (by decide) _ i (depsV (ts.take i)) rfl (HR.out.alloc _) ⟨wr.heap.size, 0, none⟩ 1 1 [.int .i64 (td : Int)] rfl rfl (cell_one_new _ _ _) (by simp [Value.oneCell']) (by omega) (by unfold maxLen; omega) (by omega) (by simp; omega) _ rfl ?_; intro g3 cap3 w3 hown3 hgrow3 _ _)
      have FIN := Lib.hid (And.intro hown3 (bgrow (balloc HW.out _) (HR.out.alloc _) hgrow3))
      clear hown3 hgrow3
      go_roundw
      case rel => exact ⟨i + 1, by omega, rfl, by rw [HE.out]; exact FIN.out.1, FIN.out.2⟩
      case measure => simp [intOf]; omega
    · obtain rfl : i = n := by omega
      rw [List.take_of_length_le (by omega)] at hrow
      have FIN := Lib.hid (show txts ts = texts l [] ∧ (∀ t ∈ ts, t.ok) ∧ Row wr u7 (depsV ts) ∧ Below w.heap.size w wr from ⟨HB.out.txt, fun t ht => by
        obtain ⟨j, hj⟩ := List.mem_iff_getElem?.1 ht
        exact (HB.out.ropes.rope j t hj).1, Row.of_owns hrow, bstep HB.out.bel hW⟩)
      clear hrow hW
      go_wp2_with fail
      refine bodyPost_ret (v := .tuple #[u7, .int .i64 0]) (by simp [results, Try.results30]) rfl ⟨_, _, rfl, FIN.out⟩

theorem depths_big (n cap : Nat) (a : Option Addr) (w : World) (h : 80 < n) :
    Calls Try.prog 30 #[.slice a n cap] w fun e w' => e = .returned (.tuple #[.slice none 0 0, .int .i64 1]) ∧ w = w' := by
  have BU := Lib.hid (build_big n cap a w h)
  go_enter Try.func30, Try.ntmps30
  go_wp2_with fail
  refine BU.out.mono ?_
  rintro e w1 ⟨rfl, rfl⟩
  go_wp2_with fail
  refine bodyPost_ret (v := .tuple #[.slice none 0 0, .int .i64 1]) (by simp [results, Try.results30]) rfl ⟨rfl, rfl⟩

end Go.Proofs.Ytkckhjljindgmaa.RopeC
