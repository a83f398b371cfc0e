/-
  Package find: Many; the law FindManys, walked.
-/
import Derived.Test.YtkiebkjndmcddaaFindMany
import Derived.Laws.StructEq
namespace Go.Proofs.Ytkiebkjndmcddaa.AcM
open Go.RowKit Kit FindM LineM StrM FindP EditM HitM FindR

theorem bytes_inj {a b : ByteArray} (h : a.data.toList = b.data.toList) : a = b := by rw [← str_list a, ← str_list b, h]
theorem nodup_all {T : Nat} {fs : List ByteArray} (h : mfTo T fs ffault fs.length = 0) : (∀ s ∈ fs, s.size ≤ 20) ∧ (plain fs).Nodup := by
  have hall := mfTo_all h
  refine ⟨fun s hs => ?_, ?_⟩
  · obtain ⟨i, hi⟩ := List.mem_iff_getElem?.1 hs
    exact (ffault_ok (hall i (List.getElem?_eq_some_iff.1 hi).1 s hi).1).2.1
  · have hn : fs.Nodup := by
      rw [List.Nodup, List.pairwise_iff_getElem]
      intro i j hi hj hij e
      refine (hall j hj fs[j] (List.getElem?_eq_getElem hj)).2 ?_
      rw [List.mem_iff_getElem?]
      exact ⟨i, by rw [List.getElem?_take_of_lt hij, List.getElem?_eq_getElem hi, e]⟩
    unfold plain
    rw [List.Nodup, List.pairwise_map]
    exact hn.imp (fun {a b} hab e => hab (bytes_inj e))
set_option maxHeartbeats 1000000 in
theorem many_ (t : ByteArray) (al : Option Addr) (cap : Nat) (fs : List ByteArray) (w : World) (h : StAt w al fs) (hle : fs.length ≤ cap) :
    Calls Try.prog 19 #[.string t, .slice al fs.length cap] w (MnFin w (many t.data.toList (plain fs)) (mfault t.size fs ffault)) := by
  by_cases hbig : 600 < t.size ∨ 20 < fs.length
  · have e0 : mfault t.size fs ffault = 1 := if_pos hbig
    rw [e0]
    have FIN : Hid (MnFin w (many t.data.toList (plain fs)) 1 (.returned (.tuple #[.slice none 0 0, .int .i64 1])) w) := Lib.hid ⟨fun h => absurd h (by decide), fun _ => ⟨_, rfl, HK.nil (Below.refl _ _)⟩⟩
    clear e0 h
    generalize fs.length = n at *
    by_cases h1 : 600 < t.size
    · clear hbig
      go_enter Try.func19, Try.ntmps19
      go_wp2_with fail
      go_ret2
      exact FIN.out
    · have h2 : 20 < n := by omega
      clear hbig
      go_enter Try.func19, Try.ntmps19
      go_wp2_with fail
      go_ret2
      exact FIN.out
  · have e0 : mfault t.size fs ffault = mfTo t.size fs ffault fs.length := if_neg hbig
    rw [e0]
    have ht : t.size ≤ 600 := by omega
    have hn : fs.length ≤ 20 := by omega
    have CH := Lib.hid (check t.size al cap fs w h ht hn hle)
    by_cases hc : mfTo t.size fs ffault fs.length = 0
    · obtain ⟨h20, hnd⟩ := nodup_all hc
      have HT := Lib.hid (hits t al cap fs w h ht hn h20 hnd)
      rw [hc] at CH ⊢
      clear hbig e0 h hc h20 hnd
      generalize many t.data.toList (plain fs) = R at *
      generalize fs.length = n at *
      go_enter Try.func19, Try.ntmps19
      go_wp2_with fail
      refine CH.out.mono ?_
      rintro e w1 ⟨rfl, rfl⟩
      go_wp2_with fail
      refine HT.out.mono ?_
      rintro e w2 ⟨v, rfl, hk⟩
      have FIN : Hid (MnFin w R 0 (.returned (.tuple #[v, .int .i64 0])) w2) := Lib.hid ⟨fun _ => ⟨v, rfl, hk⟩, fun h => absurd rfl h⟩
      clear hk
      go_wp2_with fail
      go_ret2
      exact FIN.out
    · generalize mfTo t.size fs ffault fs.length = c at *
      have FIN : Hid (MnFin w (many t.data.toList (plain fs)) c (.returned (.tuple #[.slice none 0 0, .int .i64 c])) w) := Lib.hid ⟨fun h => absurd h hc, fun _ => ⟨_, rfl, HK.nil (Below.refl _ _)⟩⟩
      have q1 : (c != 0) = true := by rw [bne_iff_ne]; exact hc
      clear hbig e0 h
      generalize fs.length = n at *
      go_enter Try.func19, Try.ntmps19
      go_wp2_with fail
      refine CH.out.mono ?_
      rintro e w1 ⟨rfl, rfl⟩
      go_wp2_with fail
      go_ret2
      exact FIN.out
end Go.Proofs.Ytkiebkjndmcddaa.AcM
