/-
  What strings.Cut hands back where the separator is one line feed.
-/
import Derived.Test.YtdiogfhbgmkajaaStrI
import Derived.Test.YtdiogfhbgmkajaaLinesMath
import Derived.RegionTactic
import Derived.ChangeAlike
namespace Go.Proofs.Ytdiogfhbgmkajaa.StrC
open Go.RowKit PosM LinesM Kit

theorem feed_yes {l : List UInt8} (h : first l < l.length) : feed l = (first l : Int) := by simp [feed, h]
theorem feed_no {l : List UInt8} (h : ¬ first l < l.length) : feed l = -1 := by simp [feed, h]

set_option maxHeartbeats 400000 in
theorem sliteCut_yes (s : ByteArray) (w : World) (hs : s.size ≤ maxLen) (h : first s.data.toList < s.size) :
    Calls Try.prog 64 #[.string s, .string ⟨#[10]⟩] w fun e w' => e = .returned (.tuple #[.string (s.extract 0 (first s.data.toList)), .string (s.extract (first s.data.toList + 1) s.size), .bool true]) ∧ w.drew = w' := by
  unfold maxLen at hs
  have I := Lib.hid (fun w => sliteIndex s w)
  rw [feed_yes (by simpa using h)] at I
  generalize first s.data.toList = f at *
  have hl : (⟨#[10]⟩ : ByteArray).size = 1 := rfl
  go_enter Try.func64, Try.ntmps64
  go_wp2_with fail
  refine (I.out _).mono ?_
  rintro e w1 ⟨rfl, rfl⟩
  go_wp2_with fail
  go_region
  go_wp2
  refine bodyPost_ret (v := .tuple #[.string (s.extract 0 f), .string (s.extract (f + 1) s.size), .bool true]) (by simp [results, Try.results64]) rfl ⟨rfl, rfl⟩

set_option maxHeartbeats 400000 in
theorem sliteCut_no (s : ByteArray) (w : World) (h : ¬ first s.data.toList < s.size) :
    Calls Try.prog 64 #[.string s, .string ⟨#[10]⟩] w fun e w' => e = .returned (.tuple #[.string s, .string ⟨#[]⟩, .bool false]) ∧ w = w' := by
  have I := Lib.hid (fun w => sliteIndex s w)
  rw [feed_no (by simpa using h)] at I
  go_enter Try.func64, Try.ntmps64
  go_wp2_with fail
  refine (I.out _).mono ?_
  rintro e w1 ⟨rfl, rfl⟩
  go_wp2
  refine bodyPost_ret (v := .tuple #[.string s, .string ⟨#[]⟩, .bool false]) (by simp [results, Try.results64]) rfl ⟨rfl, rfl⟩

set_option maxHeartbeats 400000 in
theorem cut_yes (s : ByteArray) (w : World) (hs : s.size ≤ maxLen) (h : first s.data.toList < s.size) :
    Calls Try.prog 62 #[.string s, .string ⟨#[10]⟩] w fun e w' => e = .returned (.tuple #[.string (s.extract 0 (first s.data.toList)), .string (s.extract (first s.data.toList + 1) s.size), .bool true]) ∧ w.drew = w' := by
  have I := Lib.hid (fun w => sliteCut_yes s w hs h)
  generalize first s.data.toList = f at *
  go_enter Try.func62, Try.ntmps62
  go_wp2_with fail
  refine (I.out _).mono ?_
  rintro e w1 ⟨rfl, rfl⟩
  go_wp2
  refine bodyPost_ret (v := .tuple #[.string (s.extract 0 f), .string (s.extract (f + 1) s.size), .bool true]) (by simp [results, Try.results62]) rfl ⟨rfl, rfl⟩

set_option maxHeartbeats 400000 in
theorem cut_no (s : ByteArray) (w : World) (h : ¬ first s.data.toList < s.size) :
    Calls Try.prog 62 #[.string s, .string ⟨#[10]⟩] w fun e w' => e = .returned (.tuple #[.string s, .string ⟨#[]⟩, .bool false]) ∧ w = w' := by
  have I := Lib.hid (fun w => sliteCut_no s w h)
  go_enter Try.func62, Try.ntmps62
  go_wp2_with fail
  refine (I.out _).mono ?_
  rintro e w1 ⟨rfl, rfl⟩
  go_wp2
  refine bodyPost_ret (v := .tuple #[.string s, .string ⟨#[]⟩, .bool false]) (by simp [results, Try.results62]) rfl ⟨rfl, rfl⟩

end Go.Proofs.Ytdiogfhbgmkajaa.StrC
