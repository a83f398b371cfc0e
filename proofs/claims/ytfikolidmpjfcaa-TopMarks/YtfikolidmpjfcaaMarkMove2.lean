/-
  Package marks: Move.
-/
import Derived.Test.YtfikolidmpjfcaaMarkMove
namespace Go.Proofs.Ytfikolidmpjfcaa.MarkC
open Go.RowKit Kit EditM MarkM EditC

/-- what Move answers -/
def MvPost (ms : List MkM) (l : List EdM) (n : Int) (w : World) (e : Ending) (w' : World) : Prop :=
  ∃ v, e = .returned (.tuple #[v, .int .i64 (mvCode ms l n)]) ∧ ((mvCode ms l n = 0 ∧ MksV w' v (ms.map (mvd l))) ∨ (mvCode ms l n ≠ 0 ∧ v = .slice none 0 0)) ∧ Below w.heap.size w w'
set_option maxHeartbeats 1000000 in
theorem move_long (size : Int) (a : Option Addr) (n cap : Nat) (b : Option Addr) (m bcap : Nat) (w : World) (h : 60 < n ∨ 60 < m) :
    Calls Try.prog 25 #[.int .i64 size, .slice a n cap, .slice b m bcap] w fun e w' => e = .returned (.tuple #[.slice none 0 0, .int .i64 1]) ∧ w = w' := by
  by_cases h1 : 60 < n
  · clear h
    go_enter Try.func25, Try.ntmps25
    go_wp2_with fail
    go_ret2
    exact ⟨rfl, rfl⟩
  · have h2 : 60 < m := by omega
    clear h
    go_enter Try.func25, Try.ntmps25
    go_wp2_with fail
    go_ret2
    exact ⟨rfl, rfl⟩
set_option maxHeartbeats 1000000 in
theorem move_bad (size : Int) (ms : List MkM) (al : Option Addr) (cap : Nat) (b : Option Addr) (m bcap : Nat) (w : World) (h : MksAt w al ms) (h60 : ms.length ≤ 60) (hm : m ≤ 60) (hb : badIn ms size = true) :
    Calls Try.prog 25 #[.int .i64 size, .slice al ms.length cap, .slice b m bcap] w fun e w' => e = .returned (.tuple #[.slice none 0 0, .int .i64 2]) ∧ Below w.heap.size w w' := by
  have C := Lib.hid (inText ms al cap size w h h60)
  rw [hb] at C
  clear h hb
  generalize ms.length = n at *
  go_enter Try.func25, Try.ntmps25
  go_wp2_with fail
  refine C.out.mono ?_
  rintro e w1 ⟨rfl, hb⟩
  have B := Lib.hid hb
  clear hb C
  go_wp2_with fail
  go_ret2
  exact ⟨rfl, B.out⟩

theorem sizeMark : (Try.prog.info? 50).map (·.size) = some 2 := by kernel_rfl

set_option maxRecDepth 100000 in
set_option maxHeartbeats 4000000 in
theorem move_ok (size : Int) (ms : List MkM) (al : Option Addr) (cap : Nat) (l : List EdM) (bl : Option Addr) (bcap : Nat) (w : World) (h : MksAt w al ms) (h60 : ms.length ≤ 60) (hl : EdsAt w bl l) (hok : ∀ e ∈ l, e.ok) (hm : l.length ≤ 60) (hb : badIn ms size = false) :
    Calls Try.prog 25 #[.int .i64 size, .slice al ms.length cap, .slice bl l.length bcap] w (MvPost ms l size w) := by
  have C := Lib.hid (inText ms al cap size w h h60)
  rw [hb] at C
  have MC : Hid (mvCode ms l size = szC l size) := Lib.hid (by unfold mvCode; rw [hb]; rfl)
  simp only [badIn, Bool.or_eq_false_iff, decide_eq_false_iff_not] at hb
  obtain ⟨⟨s0, s1⟩, hao⟩ := hb
  have HIN := Lib.hid (anyOut_iff.1 hao)
  clear hao
  obtain ⟨i0, hi, hz0, hz1, hz2⟩ := info_parts infoMark
  have HI := Lib.hid (And.intro hi (And.intro hz0 (And.intro hz1 hz2)))
  clear hi hz0 hz1 hz2
  have HM := Lib.hid h
  have HL := Lib.hid hl
  have HOK := Lib.hid hok
  clear h hl hok
  obtain ⟨n, hn⟩ : ∃ n, ms.length = n := ⟨_, rfl⟩
  have HN := Lib.hid hn
  obtain ⟨N, hN⟩ : ∃ N, l.length = N := ⟨_, rfl⟩
  have HNN := Lib.hid hN
  rw [hn] at h60 C ⊢
  rw [hN] at hm ⊢
  clear hn hN
  go_enter Try.func25, Try.ntmps25
  go_wp2_with fail
  refine C.out.mono ?_
  rintro e w1 ⟨rfl, hb1⟩
  have B1 := Lib.hid hb1
  have hz1 := hb1.size
  clear hb1 C
  go_wp2_with (first
    | (refine wpList_make_full _ rfl _ _ 48 rfl w.heap.size 50 i0 _ 2 Try.underlying48 HI.out.1 HI.out.2.1 HI.out.2.2.1 .i64 .i64 _ _ n rfl rfl rfl rfl (by rw [HI.out.2.2.2]; omega) (by unfold maxLen; omega) hz1 ?_; intro w2 hown hgrow; have B2 := Lib.hid (grows_below hgrow); have OW := Lib.hid hown; clear hown hgrow)
    | (refine wpList_copyK MkM.cs_len MkM.cs_one (by omega) rfl _ _ 48 48 rfl 50 Try.underlying48 sizeMark w.heap.size w1.heap.size n al cap rfl rfl _ OW.out ms HN.out ((HM.out.next B1.out).next B2.out) ?_; intro w3 hown3 hb3))
  have S0 : Hid (MvA w w1.heap.size n ms w3) := Lib.hid ⟨hown3, (bstep B1.out B2.out).trans (hb3.mono hz1)⟩
  clear hown3 hb3 OW B2 HI
  generalize hg : w1.heap.size = g at *
  clear hg hz1
  go_loopw [0, 32] (fun vs vi wr => ∃ (k : Nat) (sz : Int), k ≤ N ∧ vi = .int .i64 (k : Int) ∧ vs = .int .i64 sz ∧ 0 ≤ sz ∧ sz ≤ 600 ∧ Hid (sz = szN (l.take k) size ∧ szC (l.take k) size = 0 ∧ MvA w g n (ms.map (mvd (l.take k))) wr)) (fun _ vi _ => N - (intOf vi).toNat)
  case atStart => exact ⟨0, size, by omega, rfl, rfl, by omega, by omega, Lib.hid ⟨rfl, rfl, by rw [List.take_zero, show (mvd []) = id from rfl, List.map_id]; exact S0.out⟩⟩
  case round =>
    obtain ⟨k, sz, hk, rfl, rfl, z0, z1, HK⟩ := hrel
    clear S0
    by_cases hlt : k < N
    · obtain ⟨e, he⟩ : ∃ e, l[k]? = some e := ⟨l[k]'(by have := HNN.out; omega), by simp [HNN.out, hlt]⟩
      have eok := HOK.out e (List.mem_of_getElem? he)
      obtain ⟨g', off, rfl, hg', c0, c1, c2⟩ := EdsAt.get (HL.out.next HK.out.2.2.bel) he
      have i1 : (k : Int) < (N : Int) := by omega
      have i2 : (0 : Int) ≤ (k : Int) := by omega
      have CK := Lib.hid (fun W => check sz e.at_ e.cut e.put W eok.a1 eok.p)
      have KA := Lib.hid (HK.out.2.2.next (balloc (Below.refl _ _) (.cells #[.int .i64 e.at_, .int .i64 e.cut, .string e.put] 29)))
      have KB := Lib.hid (B3.new wr (.int .i64 e.at_) (.int .i64 e.cut) (.string e.put) 29)
      have hep := eok.p
      have hgl := (HK.out.2.2.row.lt g rfl).2
      by_cases hf : fault sz e.at_ e.cut e.put.size = 0
      · have INS : ∀ m ∈ ms.map (mvd (l.take k)), m.in_ sz := by
          intro m hm
          obtain ⟨x, hx, rfl⟩ := List.mem_map.1 hm
          rw [HK.out.1]
          exact mvd_in HK.out.2.1 (HIN.out x hx)
        have FO := Lib.hid (fun W hW => follow w g n (ms.map (mvd (l.take k))) e.at_ e.cut e.put sz W hW hf INS h60 hep)
        have NX : Hid (sz - e.cut + e.put.size = szN (l.take (k + 1)) size ∧ szC (l.take (k + 1)) size = 0) := Lib.hid ⟨by rw [szN_next he, ← HK.out.1], szC_next he HK.out.2.1 (by rw [← HK.out.1]; exact hf)⟩
        have NM : Hid ((ms.map (mvd (l.take k))).map (plc e) = ms.map (mvd (l.take (k + 1)))) := Lib.hid (by
          rw [List.map_map]; congr 1; funext m; exact (mvd_next he m).symm)
        rw [show (⟨e.at_, e.cut, e.put⟩ : EdM) = e from rfl, NM.out] at FO
        obtain ⟨f1, f2, f3, f4, f5, f6⟩ := fault_zero.1 hf
        rw [hf] at CK
        clear INS NM he eok hf
        obtain ⟨a, c, p⟩ := e
        dsimp only at *
        clear HK
        go_wp2_with fail
        refine (CK.out _).mono ?_
        rintro e w4 ⟨rfl, hb4⟩
        have KA4 := Lib.hid (KA.out.next hb4)
        have KB4 := Lib.hid (KB.out.next hb4)
        obtain ⟨_, b0, b1, b2, _, _, _⟩ := KB4.out
        clear hb4 KA KB CK c0 c1 c2
        go_wp2_with fail
        refine (FO.out _ KA4.out).mono ?_
        rintro e w5 ⟨rfl, hw5, ho⟩
        have K5 := Lib.hid hw5
        have hbx : wr.heap.size < w4.heap.size := KB4.out.lt
        have hne : wr.heap.size ≠ g := by omega
        have b1' : w5.cell? ⟨wr.heap.size, 1, none⟩ = some (.int .i64 c) := (ho.2 _ 1 hbx hne).trans b1
        have b2' : w5.cell? ⟨wr.heap.size, 2, none⟩ = some (.string p) := (ho.2 _ 2 hbx hne).trans b2
        have ew : (p.size : Int) - c + sz = sz - c + p.size := by omega
        have ew2 : sz + ((p.size : Int) - c) = sz - c + p.size := by omega
        have n0 : 0 ≤ sz - c + p.size := by omega
        clear hw5 ho FO KA4 KB4 b0 b1 b2
        go_wp2_with fail
        go_roundw
        case rel => exact ⟨k + 1, sz - c + p.size, by omega, by go_num, by first | rfl | go_num, by omega, by omega, Lib.hid ⟨NX.out.1, NX.out.2, K5.out⟩⟩
        case measure => simp [intOf]; omega
      · have NX := Lib.hid (szC_at he HK.out.2.1 (by rw [← HK.out.1]; exact hf))
        rw [← HK.out.1] at NX
        have hfb : (fault sz e.at_ e.cut e.put.size != 0) = true := by simpa using hf
        have HF := Lib.hid hf
        clear he eok hf
        obtain ⟨a, c, p⟩ := e
        dsimp only at *
        generalize fault sz a c p.size = f at *
        go_wp2_with fail
        refine (CK.out _).mono ?_
        rintro e w4 ⟨rfl, hb4⟩
        have BB := Lib.hid (bstep KA.out.bel hb4)
        clear hb4 KA KB CK c0 c1 c2 HK
        go_wp2_with fail
        go_ret2
        exact ⟨.slice none 0 0, by rw [MC.out, NX.out]; rfl, .inr ⟨by rw [MC.out, NX.out]; exact HF.out, rfl⟩, BB.out⟩
    · obtain rfl : k = N := by omega
      have FIN : Hid (mvCode ms l size = 0 ∧ MvA w g n (ms.map (mvd l)) wr) := Lib.hid (by
        have := HK.out
        rw [← HNN.out, List.take_length] at this
        exact ⟨by rw [MC.out]; exact this.2.1, this.2.2⟩)
      clear HK
      go_wp2_with fail
      go_ret2
      exact ⟨.slice (some ⟨g, 0, none⟩) n n, by rw [FIN.out.1]; rfl, .inl ⟨FIN.out.1, FIN.out.2.val⟩, FIN.out.2.bel⟩

end Go.Proofs.Ytfikolidmpjfcaa.MarkC
