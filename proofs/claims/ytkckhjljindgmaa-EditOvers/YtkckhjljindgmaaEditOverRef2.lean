/-
  The document's answer: EditOver.
-/
import Derived.Test.YtkckhjljindgmaaEditOverRef
import Derived.Deep.Cut
import Derived.Deep.DeepCutAuto
import Derived.Deep.RegionHeld3
namespace Go.Proofs.Ytkckhjljindgmaa.EditR
open Go.RowKit Kit EditM EditC

/-- what is answered -/
def OvPost (n : Int) (a b : EdM) (w : World) (e : Ending) (w' : World) : Prop :=
  e = .returned (.tuple #[.agg #[.int .i64 (overR n a b).at_, .int .i64 (overR n a b).cut, .string (overR n a b).put], .int .i64 (overC n a b)]) ∧ Below w.heap.size w w'

theorem OvA.set3 {w : World} {a b : EdM} {W : World} (h : OvA w a b W) {k : Nat} (hk : w.heap.size + 2 < k) (x y z : Value) : OvA w a b (((W.setCell ⟨k, 0, none⟩ x).setCell ⟨k, 1, none⟩ y).setCell ⟨k, 2, none⟩ z) :=
  ⟨((h.ba.other (by omega) _).other (by omega) _).other (by omega) _, ((h.bb.other (by omega) _).other (by omega) _).other (by omega) _, ((h.br.other (by omega) _).other (by omega) _).other (by omega) _, bset3 h.bel (by omega) _ _ _⟩

set_option maxRecDepth 100000 in
set_option maxHeartbeats 4000000 in
theorem overRef (n : Int) (a b : EdM) (w : World) (ha : a.ok) (hb : b.ok) :
    Calls Try.prog 23 #[.int .i64 n, .agg #[.int .i64 a.at_, .int .i64 a.cut, .string a.put], .agg #[.int .i64 b.at_, .int .i64 b.cut, .string b.put]] w (OvPost n a b w) := by
  have CA := Lib.hid (fun W => fault_ref n a.at_ a.cut a.put W ha.a1 ha.c1 ha.p)
  have CB := Lib.hid (fun W => fault_ref n b.at_ b.cut b.put W hb.a1 hb.c1 hb.p)
  have FA := Lib.hid (show flt n a = fault n a.at_ a.cut a.put.size from rfl)
  have FB := Lib.hid (show flt n b = fault n b.at_ b.cut b.put.size from rfl)
  have H0 := Lib.hid (OvA.new w a b 23)
  rw [← FA.out] at CA
  rw [← FB.out] at CB
  by_cases h0 : flt n a = 0
  · by_cases h1 : flt n b = 0
    · have HFA := Lib.hid h0
      have HFB := Lib.hid h1
      obtain ⟨n0, n6, a0, ac0, a2, a3⟩ := fault_zero.1 h0
      obtain ⟨_, _, b0, bc0, b2, b3⟩ := fault_zero.1 h1
      rw [h0] at CA
      rw [h1] at CB
      have DA := Lib.hid (fun W => does a W)
      have DB := Lib.hid (fun W => does b W)
      clear h0 h1 FA FB
      go_enter Try.func23, Try.ntmps23
      go_wp2_with fail
      refine (CA.out _).mono ?_
      rintro e w1 ⟨rfl, hb1⟩
      have V1 := Lib.hid (H0.out.next hb1)
      obtain ⟨_, ⟨_, s1, s2, s3⟩, _, s4, s5, s6⟩ := V1.out.s
      clear hb1 CA H0
      go_wp2_with fail
      refine (CB.out _).mono ?_
      rintro e w2 ⟨rfl, hb2⟩
      have V2 := Lib.hid (V1.out.next hb2)
      clear s1 s2 s3 s4 s5 s6
      obtain ⟨_, ⟨_, s1, s2, s3⟩, _, s4, s5, s6⟩ := V2.out.s
      clear hb2 CB V1
      go_upto_region 7 with fail
      go_cut [34] (fun t wx => t = .bool (doesB a && doesB b) ∧ OvA w a b wx)
      case first =>
        cases hda : doesB a
        · rw [hda] at DA
          go_wp2_with fail
          refine (DA.out _).mono ?_
          rintro e w3 ⟨rfl, hb3⟩
          have V3 := Lib.hid (V2.out.next hb3)
          have HD := Lib.hid hda
          clear hb3 hda s1 s2 s3 s4 s5 s6
          go_wp2_with fail
          go_meet
          exact ⟨by rw [HD.out]; rfl, V3.out⟩
        · rw [hda] at DA
          have HD := Lib.hid hda
          go_wp2_with fail
          refine (DA.out _).mono ?_
          rintro e w3 ⟨rfl, hb3⟩
          have V3 := Lib.hid (V2.out.next hb3)
          clear s1 s2 s3 s4 s5 s6
          obtain ⟨_, ⟨_, s1, s2, s3⟩, _, s4, s5, s6⟩ := V3.out.s
          clear hb3 hda
          go_wp2_with fail
          refine (DB.out _).mono ?_
          rintro e w4 ⟨rfl, hb4⟩
          have V4 := Lib.hid (V3.out.next hb4)
          clear hb4 s1 s2 s3 s4 s5 s6
          go_wp2_with fail
          go_meet
          exact ⟨by rw [HD.out]; rfl, V4.out⟩
      case rest =>
        obtain ⟨rfl, hov⟩ := hcut
        have V4 := Lib.hid hov
        clear hov V2 DA DB s1 s2 s3 s4 s5 s6
        go_upto_if 34 with fail
        go_cut [] (fun wx => clash a b = false ∧ OvA w a b wx)
        case first =>
          cases hd : (doesB a && doesB b)
          · have NC : Hid (clash a b = false) := by
              cases hc : clash a b
              · exact Lib.hid rfl
              · have := clash_does hc
                rw [this.1, this.2] at hd
                cases hd
            clear hd
            go_wp2_with fail
            go_meet
            exact ⟨NC.out, V4.out⟩
          · clear hd
            go_wp2_with fail
            go_loopw [11] (fun i wr => ∃ k : Nat, (k : Int) ≤ n ∧ i = .int .i64 (k : Int) ∧ (∀ j : Int, 0 ≤ j → j < (k : Int) → hit a b j = false) ∧ OvA w a b wr) (fun i _ => (n - intOf i).toNat)
            case atStart => exact ⟨0, by omega, rfl, fun j h1 h2 => by omega, V4.out⟩
            case round =>
              obtain ⟨k, hk, rfl, hno, hov⟩ := hrel
              clear V4
              have V := Lib.hid hov
              have HNO := Lib.hid hno
              clear hov hno
              by_cases hlt : (k : Int) < n
              · have KA := Lib.hid (fun W => cuts a (k : Int) W a0 (by omega) ac0 (by omega))
                have KB := Lib.hid (fun W => cuts b (k : Int) W b0 (by omega) bc0 (by omega))
                have KA1 := Lib.hid (fun W => cuts a ((k : Int) - 1) W a0 (by omega) ac0 (by omega))
                have KB1 := Lib.hid (fun W => cuts b ((k : Int) - 1) W b0 (by omega) bc0 (by omega))
                have hs := V.out.s
                have hs2 := hs
                obtain ⟨_, ⟨_, s1, s2, s3⟩, _, s4, s5, s6⟩ := hs2
                go_upto_region 12 with fail
                go_cut [49] (fun t wx => t = .bool (hitA a b (k : Int)) ∧ OvA w a b wx)
                case first =>
                  have HH := Lib.hid (show hitA a b (k : Int) = (cutB a k && cutB b k) from rfl)
                  cases hda : cutB a (k : Int)
                  · rw [hda] at KA HH
                    clear hda
                    go_wp2_with fail
                    refine (KA.out _).mono ?_
                    rintro e w3 ⟨rfl, hb3⟩
                    have V3 := Lib.hid (V.out.next hb3)
                    clear hb3 s1 s2 s3 s4 s5 s6
                    go_wp2_with fail
                    go_meet
                    exact ⟨by rw [HH.out]; rfl, V3.out⟩
                  · rw [hda] at KA HH
                    clear hda
                    go_wp2_with fail
                    refine (KA.out _).mono ?_
                    rintro e w3 ⟨rfl, hb3⟩
                    have V3 := Lib.hid (V.out.next hb3)
                    clear s1 s2 s3 s4 s5 s6
                    obtain ⟨_, ⟨_, s1, s2, s3⟩, _, s4, s5, s6⟩ := V3.out.s
                    clear hb3
                    go_wp2_with fail
                    refine (KB.out _).mono ?_
                    rintro e w4 ⟨rfl, hb4⟩
                    have V4 := Lib.hid (V3.out.next hb4)
                    clear hb4 s1 s2 s3 s4 s5 s6
                    go_wp2_with fail
                    go_meet
                    exact ⟨by rw [HH.out]; rfl, V4.out⟩
                case rest =>
                  obtain ⟨rfl, hov⟩ := hcut
                  clear V s1 s2 s3 s4 s5 s6 hs
                  have V := Lib.hid hov
                  clear hov
                  cases hA : hitA a b (k : Int)
                  · have HA := Lib.hid hA
                    clear hA
                    have hs := V.out.s
                    have hs2 := hs
                    obtain ⟨_, ⟨_, s1, s2, s3⟩, _, s4, s5, s6⟩ := hs2
                    have ew : IntKind.i64.wrap ((k : Int) - 1) = (k : Int) - 1 := IntWalk.i64_in _ (by omega)
                    go_upto_region 14 with fail
                    go_cut [96] (fun t wx => t = .bool (hitB a b (k : Int) || hitB b a (k : Int)) ∧ OvA w a b wx)
                    case first =>
                      cases pa : a.put.toList.isEmpty
                      · have pa' : ¬ a.put.toList = [] := fun h => by rw [h] at pa; simp at pa
                        cases ta : (a.at_ == (k : Int))
                        · have HA1 : Hid (hitB a b (k : Int) = false) := Lib.hid (by simp [hitB, ta])
                          cases pb : b.put.toList.isEmpty
                          · have pb' : ¬ b.put.toList = [] := fun h => by rw [h] at pb; simp at pb
                            cases tb : (b.at_ == (k : Int))
                            · have HB1 : Hid (hitB b a (k : Int) = false) := Lib.hid (by simp [hitB, tb])
                              go_wp2_with fail
                              go_meet
                              exact ⟨by rw [HA1.out, HB1.out]; rfl, V.out⟩
                            · cases cb1 : cutB a ((k : Int) - 1)
                              · have HB1 : Hid (hitB b a (k : Int) = false) := Lib.hid (by simp [hitB, cb1])
                                rw [cb1] at KA1
                                clear cb1
                                go_wp2_with fail
                                refine (KA1.out _).mono ?_
                                rintro e x0 ⟨rfl, hb⟩
                                have X' := Lib.hid (V.out.next hb)
                                clear V s1 s2 s3 s4 s5 s6 hb
                                have V := X'
                                clear X'
                                obtain ⟨_, ⟨_, s1, s2, s3⟩, _, s4, s5, s6⟩ := V.out.s
                                go_wp2_with fail
                                go_meet
                                exact ⟨by rw [HA1.out, HB1.out]; rfl, V.out⟩
                              · have HB1 : Hid (hitB b a (k : Int) = cutB a (k : Int)) := Lib.hid (by simp [hitB, cb1, tb, pb])
                                rw [cb1] at KA1
                                clear cb1
                                go_wp2_with fail
                                refine (KA1.out _).mono ?_
                                rintro e x0 ⟨rfl, hb⟩
                                have X' := Lib.hid (V.out.next hb)
                                clear V s1 s2 s3 s4 s5 s6 hb
                                have V := X'
                                clear X'
                                obtain ⟨_, ⟨_, s1, s2, s3⟩, _, s4, s5, s6⟩ := V.out.s
                                go_wp2_with fail
                                refine (KA.out _).mono ?_
                                rintro e x1 ⟨rfl, hb⟩
                                have X' := Lib.hid (V.out.next hb)
                                clear V s1 s2 s3 s4 s5 s6 hb
                                have V := X'
                                clear X'
                                obtain ⟨_, ⟨_, s1, s2, s3⟩, _, s4, s5, s6⟩ := V.out.s
                                go_wp2_with fail
                                go_meet
                                exact ⟨by rw [HA1.out, HB1.out]; rfl, V.out⟩
                          · have pb' : b.put.toList = [] := List.isEmpty_iff.1 pb
                            have HB1 : Hid (hitB b a (k : Int) = false) := Lib.hid (by simp [hitB, pb])
                            go_wp2_with fail
                            go_meet
                            exact ⟨by rw [HA1.out, HB1.out]; rfl, V.out⟩
                        · cases ca1 : cutB b ((k : Int) - 1)
                          · have HA1 : Hid (hitB a b (k : Int) = false) := Lib.hid (by simp [hitB, ca1])
                            rw [ca1] at KB1
                            clear ca1
                            cases pb : b.put.toList.isEmpty
                            · have pb' : ¬ b.put.toList = [] := fun h => by rw [h] at pb; simp at pb
                              cases tb : (b.at_ == (k : Int))
                              · have HB1 : Hid (hitB b a (k : Int) = false) := Lib.hid (by simp [hitB, tb])
                                go_wp2_with fail
                                refine (KB1.out _).mono ?_
                                rintro e x0 ⟨rfl, hb⟩
                                have X' := Lib.hid (V.out.next hb)
                                clear V s1 s2 s3 s4 s5 s6 hb
                                have V := X'
                                clear X'
                                obtain ⟨_, ⟨_, s1, s2, s3⟩, _, s4, s5, s6⟩ := V.out.s
                                go_wp2_with fail
                                go_meet
                                exact ⟨by rw [HA1.out, HB1.out]; rfl, V.out⟩
                              · cases cb1 : cutB a ((k : Int) - 1)
                                · have HB1 : Hid (hitB b a (k : Int) = false) := Lib.hid (by simp [hitB, cb1])
                                  rw [cb1] at KA1
                                  clear cb1
                                  go_wp2_with fail
                                  refine (KB1.out _).mono ?_
                                  rintro e x0 ⟨rfl, hb⟩
                                  have X' := Lib.hid (V.out.next hb)
                                  clear V s1 s2 s3 s4 s5 s6 hb
                                  have V := X'
                                  clear X'
                                  obtain ⟨_, ⟨_, s1, s2, s3⟩, _, s4, s5, s6⟩ := V.out.s
                                  go_wp2_with fail
                                  refine (KA1.out _).mono ?_
                                  rintro e x1 ⟨rfl, hb⟩
                                  have X' := Lib.hid (V.out.next hb)
                                  clear V s1 s2 s3 s4 s5 s6 hb
                                  have V := X'
                                  clear X'
                                  obtain ⟨_, ⟨_, s1, s2, s3⟩, _, s4, s5, s6⟩ := V.out.s
                                  go_wp2_with fail
                                  go_meet
                                  exact ⟨by rw [HA1.out, HB1.out]; rfl, V.out⟩
                                · have HB1 : Hid (hitB b a (k : Int) = cutB a (k : Int)) := Lib.hid (by simp [hitB, cb1, tb, pb])
                                  rw [cb1] at KA1
                                  clear cb1
                                  go_wp2_with fail
                                  refine (KB1.out _).mono ?_
                                  rintro e x0 ⟨rfl, hb⟩
                                  have X' := Lib.hid (V.out.next hb)
                                  clear V s1 s2 s3 s4 s5 s6 hb
                                  have V := X'
                                  clear X'
                                  obtain ⟨_, ⟨_, s1, s2, s3⟩, _, s4, s5, s6⟩ := V.out.s
                                  go_wp2_with fail
                                  refine (KA1.out _).mono ?_
                                  rintro e x1 ⟨rfl, hb⟩
                                  have X' := Lib.hid (V.out.next hb)
                                  clear V s1 s2 s3 s4 s5 s6 hb
                                  have V := X'
                                  clear X'
                                  obtain ⟨_, ⟨_, s1, s2, s3⟩, _, s4, s5, s6⟩ := V.out.s
                                  go_wp2_with fail
                                  refine (KA.out _).mono ?_
                                  rintro e x2 ⟨rfl, hb⟩
                                  have X' := Lib.hid (V.out.next hb)
                                  clear V s1 s2 s3 s4 s5 s6 hb
                                  have V := X'
                                  clear X'
                                  obtain ⟨_, ⟨_, s1, s2, s3⟩, _, s4, s5, s6⟩ := V.out.s
                                  go_wp2_with fail
                                  go_meet
                                  exact ⟨by rw [HA1.out, HB1.out]; rfl, V.out⟩
                            · have pb' : b.put.toList = [] := List.isEmpty_iff.1 pb
                              have HB1 : Hid (hitB b a (k : Int) = false) := Lib.hid (by simp [hitB, pb])
                              go_wp2_with fail
                              refine (KB1.out _).mono ?_
                              rintro e x0 ⟨rfl, hb⟩
                              have X' := Lib.hid (V.out.next hb)
                              clear V s1 s2 s3 s4 s5 s6 hb
                              have V := X'
                              clear X'
                              obtain ⟨_, ⟨_, s1, s2, s3⟩, _, s4, s5, s6⟩ := V.out.s
                              go_wp2_with fail
                              go_meet
                              exact ⟨by rw [HA1.out, HB1.out]; rfl, V.out⟩
                          · cases ca : cutB b (k : Int)
                            · have HA1 : Hid (hitB a b (k : Int) = false) := Lib.hid (by simp [hitB, ca])
                              rw [ca1] at KB1
                              rw [ca] at KB
                              clear ca1 ca
                              cases pb : b.put.toList.isEmpty
                              · have pb' : ¬ b.put.toList = [] := fun h => by rw [h] at pb; simp at pb
                                cases tb : (b.at_ == (k : Int))
                                · have HB1 : Hid (hitB b a (k : Int) = false) := Lib.hid (by simp [hitB, tb])
                                  go_wp2_with fail
                                  refine (KB1.out _).mono ?_
                                  rintro e x0 ⟨rfl, hb⟩
                                  have X' := Lib.hid (V.out.next hb)
                                  clear V s1 s2 s3 s4 s5 s6 hb
                                  have V := X'
                                  clear X'
                                  obtain ⟨_, ⟨_, s1, s2, s3⟩, _, s4, s5, s6⟩ := V.out.s
                                  go_wp2_with fail
                                  refine (KB.out _).mono ?_
                                  rintro e x1 ⟨rfl, hb⟩
                                  have X' := Lib.hid (V.out.next hb)
                                  clear V s1 s2 s3 s4 s5 s6 hb
                                  have V := X'
                                  clear X'
                                  obtain ⟨_, ⟨_, s1, s2, s3⟩, _, s4, s5, s6⟩ := V.out.s
                                  go_wp2_with fail
                                  go_meet
                                  exact ⟨by rw [HA1.out, HB1.out]; rfl, V.out⟩
                                · cases cb1 : cutB a ((k : Int) - 1)
                                  · have HB1 : Hid (hitB b a (k : Int) = false) := Lib.hid (by simp [hitB, cb1])
                                    rw [cb1] at KA1
                                    clear cb1
                                    go_wp2_with fail
                                    refine (KB1.out _).mono ?_
                                    rintro e x0 ⟨rfl, hb⟩
                                    have X' := Lib.hid (V.out.next hb)
                                    clear V s1 s2 s3 s4 s5 s6 hb
                                    have V := X'
                                    clear X'
                                    obtain ⟨_, ⟨_, s1, s2, s3⟩, _, s4, s5, s6⟩ := V.out.s
                                    go_wp2_with fail
                                    refine (KB.out _).mono ?_
                                    rintro e x1 ⟨rfl, hb⟩
                                    have X' := Lib.hid (V.out.next hb)
                                    clear V s1 s2 s3 s4 s5 s6 hb
                                    have V := X'
                                    clear X'
                                    obtain ⟨_, ⟨_, s1, s2, s3⟩, _, s4, s5, s6⟩ := V.out.s
                                    go_wp2_with fail
                                    refine (KA1.out _).mono ?_
                                    rintro e x2 ⟨rfl, hb⟩
                                    have X' := Lib.hid (V.out.next hb)
                                    clear V s1 s2 s3 s4 s5 s6 hb
                                    have V := X'
                                    clear X'
                                    obtain ⟨_, ⟨_, s1, s2, s3⟩, _, s4, s5, s6⟩ := V.out.s
                                    go_wp2_with fail
                                    go_meet
                                    exact ⟨by rw [HA1.out, HB1.out]; rfl, V.out⟩
                                  · have HB1 : Hid (hitB b a (k : Int) = cutB a (k : Int)) := Lib.hid (by simp [hitB, cb1, tb, pb])
                                    rw [cb1] at KA1
                                    clear cb1
                                    go_wp2_with fail
                                    refine (KB1.out _).mono ?_
                                    rintro e x0 ⟨rfl, hb⟩
                                    have X' := Lib.hid (V.out.next hb)
                                    clear V s1 s2 s3 s4 s5 s6 hb
                                    have V := X'
                                    clear X'
                                    obtain ⟨_, ⟨_, s1, s2, s3⟩, _, s4, s5, s6⟩ := V.out.s
                                    go_wp2_with fail
                                    refine (KB.out _).mono ?_
                                    rintro e x1 ⟨rfl, hb⟩
                                    have X' := Lib.hid (V.out.next hb)
                                    clear V s1 s2 s3 s4 s5 s6 hb
                                    have V := X'
                                    clear X'
                                    obtain ⟨_, ⟨_, s1, s2, s3⟩, _, s4, s5, s6⟩ := V.out.s
                                    go_wp2_with fail
                                    refine (KA1.out _).mono ?_
                                    rintro e x2 ⟨rfl, hb⟩
                                    have X' := Lib.hid (V.out.next hb)
                                    clear V s1 s2 s3 s4 s5 s6 hb
                                    have V := X'
                                    clear X'
                                    obtain ⟨_, ⟨_, s1, s2, s3⟩, _, s4, s5, s6⟩ := V.out.s
                                    go_wp2_with fail
                                    refine (KA.out _).mono ?_
                                    rintro e x3 ⟨rfl, hb⟩
                                    have X' := Lib.hid (V.out.next hb)
                                    clear V s1 s2 s3 s4 s5 s6 hb
                                    have V := X'
                                    clear X'
                                    obtain ⟨_, ⟨_, s1, s2, s3⟩, _, s4, s5, s6⟩ := V.out.s
                                    go_wp2_with fail
                                    go_meet
                                    exact ⟨by rw [HA1.out, HB1.out]; rfl, V.out⟩
                              · have pb' : b.put.toList = [] := List.isEmpty_iff.1 pb
                                have HB1 : Hid (hitB b a (k : Int) = false) := Lib.hid (by simp [hitB, pb])
                                go_wp2_with fail
                                refine (KB1.out _).mono ?_
                                rintro e x0 ⟨rfl, hb⟩
                                have X' := Lib.hid (V.out.next hb)
                                clear V s1 s2 s3 s4 s5 s6 hb
                                have V := X'
                                clear X'
                                obtain ⟨_, ⟨_, s1, s2, s3⟩, _, s4, s5, s6⟩ := V.out.s
                                go_wp2_with fail
                                refine (KB.out _).mono ?_
                                rintro e x1 ⟨rfl, hb⟩
                                have X' := Lib.hid (V.out.next hb)
                                clear V s1 s2 s3 s4 s5 s6 hb
                                have V := X'
                                clear X'
                                obtain ⟨_, ⟨_, s1, s2, s3⟩, _, s4, s5, s6⟩ := V.out.s
                                go_wp2_with fail
                                go_meet
                                exact ⟨by rw [HA1.out, HB1.out]; rfl, V.out⟩
                            · have HA1 : Hid (hitB a b (k : Int) = true) := Lib.hid (by simp [hitB, ca, ca1, ta, pa])
                              rw [ca1] at KB1
                              rw [ca] at KB
                              clear ca1 ca
                              go_wp2_with fail
                              refine (KB1.out _).mono ?_
                              rintro e x0 ⟨rfl, hb⟩
                              have X' := Lib.hid (V.out.next hb)
                              clear V s1 s2 s3 s4 s5 s6 hb
                              have V := X'
                              clear X'
                              obtain ⟨_, ⟨_, s1, s2, s3⟩, _, s4, s5, s6⟩ := V.out.s
                              go_wp2_with fail
                              refine (KB.out _).mono ?_
                              rintro e x1 ⟨rfl, hb⟩
                              have X' := Lib.hid (V.out.next hb)
                              clear V s1 s2 s3 s4 s5 s6 hb
                              have V := X'
                              clear X'
                              obtain ⟨_, ⟨_, s1, s2, s3⟩, _, s4, s5, s6⟩ := V.out.s
                              go_wp2_with fail
                              go_meet
                              exact ⟨by rw [HA1.out]; rfl, V.out⟩
                      · have pa' : a.put.toList = [] := List.isEmpty_iff.1 pa
                        have HA1 : Hid (hitB a b (k : Int) = false) := Lib.hid (by simp [hitB, pa])
                        cases pb : b.put.toList.isEmpty
                        · have pb' : ¬ b.put.toList = [] := fun h => by rw [h] at pb; simp at pb
                          cases tb : (b.at_ == (k : Int))
                          · have HB1 : Hid (hitB b a (k : Int) = false) := Lib.hid (by simp [hitB, tb])
                            go_wp2_with fail
                            go_meet
                            exact ⟨by rw [HA1.out, HB1.out]; rfl, V.out⟩
                          · cases cb1 : cutB a ((k : Int) - 1)
                            · have HB1 : Hid (hitB b a (k : Int) = false) := Lib.hid (by simp [hitB, cb1])
                              rw [cb1] at KA1
                              clear cb1
                              go_wp2_with fail
                              refine (KA1.out _).mono ?_
                              rintro e x0 ⟨rfl, hb⟩
                              have X' := Lib.hid (V.out.next hb)
                              clear V s1 s2 s3 s4 s5 s6 hb
                              have V := X'
                              clear X'
                              obtain ⟨_, ⟨_, s1, s2, s3⟩, _, s4, s5, s6⟩ := V.out.s
                              go_wp2_with fail
                              go_meet
                              exact ⟨by rw [HA1.out, HB1.out]; rfl, V.out⟩
                            · have HB1 : Hid (hitB b a (k : Int) = cutB a (k : Int)) := Lib.hid (by simp [hitB, cb1, tb, pb])
                              rw [cb1] at KA1
                              clear cb1
                              go_wp2_with fail
                              refine (KA1.out _).mono ?_
                              rintro e x0 ⟨rfl, hb⟩
                              have X' := Lib.hid (V.out.next hb)
                              clear V s1 s2 s3 s4 s5 s6 hb
                              have V := X'
                              clear X'
                              obtain ⟨_, ⟨_, s1, s2, s3⟩, _, s4, s5, s6⟩ := V.out.s
                              go_wp2_with fail
                              refine (KA.out _).mono ?_
                              rintro e x1 ⟨rfl, hb⟩
                              have X' := Lib.hid (V.out.next hb)
                              clear V s1 s2 s3 s4 s5 s6 hb
                              have V := X'
                              clear X'
                              obtain ⟨_, ⟨_, s1, s2, s3⟩, _, s4, s5, s6⟩ := V.out.s
                              go_wp2_with fail
                              go_meet
                              exact ⟨by rw [HA1.out, HB1.out]; rfl, V.out⟩
                        · have pb' : b.put.toList = [] := List.isEmpty_iff.1 pb
                          have HB1 : Hid (hitB b a (k : Int) = false) := Lib.hid (by simp [hitB, pb])
                          go_wp2_with fail
                          go_meet
                          exact ⟨by rw [HA1.out, HB1.out]; rfl, V.out⟩
                    case rest =>
                      obtain ⟨rfl, hov⟩ := hcut
                      clear V s1 s2 s3 s4 s5 s6 hs ew
                      have V := Lib.hid hov
                      clear hov
                      cases hB : (hitB a b (k : Int) || hitB b a (k : Int))
                      · have NH : Hid (hit a b (k : Int) = false) := Lib.hid (by unfold hit; rw [HA.out, hB]; rfl)
                        clear hB
                        go_wp2_with fail
                        go_roundw
                        case rel =>
                          refine ⟨k + 1, by omega, by go_num, fun j h1 h2 => ?_, V.out⟩
                          by_cases hj : j < (k : Int)
                          · exact HNO.out j h1 hj
                          · obtain rfl : j = (k : Int) := by omega
                            exact NH.out
                        case measure => simp [intOf]; omega
                      · have CL : Hid (clash a b = true) := Lib.hid (hit_clash (i := (k : Int)) (by unfold hit; rw [HA.out, hB]; rfl))
                        clear hB
                        have R : Hid (overC n a b = 10) := by show _ = _; unfold overC; rw [if_neg (by simpa using HFA.out), if_neg (by simpa using HFB.out), if_pos CL.out]
                        have R2 : Hid (overR n a b = eZ) := by show _ = _; unfold overR; rw [R.out, if_neg (by decide)]
                        obtain ⟨r0, r1, r2, r3, r4, r5, r6⟩ := V.out.br
                        go_wp2_with fail
                        refine bodyPost_ret (v := .tuple #[.agg #[.int .i64 0, .int .i64 0, .string ⟨#[]⟩], .int .i64 10]) (by simp [results, Try.results23, go_sem, *]) rfl ⟨by rw [R2.out, R.out]; rfl, bset3 V.out.bel (by omega) _ _ _⟩
                  · have CL : Hid (clash a b = true) := Lib.hid (hit_clash (i := (k : Int)) (by unfold hit; rw [hA]; rfl))
                    clear hA
                    have R : Hid (overC n a b = 10) := by show _ = _; unfold overC; rw [if_neg (by simpa using HFA.out), if_neg (by simpa using HFB.out), if_pos CL.out]
                    have R2 : Hid (overR n a b = eZ) := by show _ = _; unfold overR; rw [R.out, if_neg (by decide)]
                    obtain ⟨r0, r1, r2, r3, r4, r5, r6⟩ := V.out.br
                    go_wp2_with fail
                    refine bodyPost_ret (v := .tuple #[.agg #[.int .i64 0, .int .i64 0, .string ⟨#[]⟩], .int .i64 10]) (by simp [results, Try.results23, go_sem, *]) rfl ⟨by rw [R2.out, R.out]; rfl, bset3 V.out.bel (by omega) _ _ _⟩
              · have NC : Hid (clash a b = false) := by
                  cases hc : clash a b
                  · exact Lib.hid rfl
                  · obtain ⟨i, h1, h2, h3⟩ := clash_hit hc
                    have := HNO.out i (by omega) (by omega)
                    rw [h3] at this
                    cases this
                go_wp2_with fail
                go_meet
                exact ⟨NC.out, V.out⟩
        case rest =>
          obtain ⟨hcl, hov⟩ := hcut
          clear V4
          have V := Lib.hid hov
          have R : Hid (overC n a b = flt (n - b.cut + b.put.size) (moved a b)) := by show _ = _; unfold overC; rw [if_neg (by simpa using HFA.out), if_neg (by simpa using HFB.out), if_neg (by rw [hcl]; simp)]
          clear hov hcl
          obtain ⟨_, ⟨_, s1, s2, s3⟩, _, s4, s5, s6⟩ := V.out.s
          go_upto_region 17 with fail
          go_cut [107] (fun t wx => t = .bool ((a.at_ == b.at_) && (b.cut == 0)) ∧ OvA w a b wx)
          case first =>
            cases t1 : (a.at_ == b.at_)
            · have T1 := Lib.hid t1
              go_wp2_with fail
              go_meet
              exact ⟨by rw [T1.out]; rfl, V.out⟩
            · have T1 := Lib.hid t1
              go_wp2_with fail
              go_meet
              exact ⟨by rw [T1.out]; rfl, V.out⟩
          case rest =>
            obtain ⟨rfl, hov⟩ := hcut
            clear V s1 s2 s3 s4 s5 s6
            have V := Lib.hid hov
            clear hov
            obtain ⟨_, ⟨_, s1, s2, s3⟩, _, s4, s5, s6⟩ := V.out.s
            go_upto_if 107 with fail
            go_cut [12] (fun r wx => r = .bool (behind a b) ∧ OvA w a b wx)
            case first =>
              cases t1 : ((a.at_ == b.at_) && (b.cut == 0))
              · have HBH : Hid (behind a b = false) := Lib.hid (by
                  unfold behind
                  rw [Bool.and_eq_false_iff] at t1
                  rcases t1 with t1 | t1
                  · simp at t1; simp [t1]
                  · simp at t1; simp [t1])
                clear t1
                go_wp2_with fail
                go_meet
                exact ⟨by rw [HBH.out], V.out⟩
              · have HT : (a.at_ = b.at_) ∧ b.cut = 0 := by simpa using t1
                clear t1
                by_cases h3 : 0 < a.cut
                · have HBH : Hid (behind a b = true) := Lib.hid (by unfold behind; simp [HT.1, HT.2, h3])
                  clear HT
                  go_wp2_with fail
                  go_meet
                  exact ⟨by rw [HBH.out], V.out⟩
                · have HBH : Hid (behind a b = Op.bytesLess b.put.toList a.put.toList) := Lib.hid (by unfold behind; rw [less_flip a.put.toList b.put.toList]; simp [HT.1, HT.2, h3])
                  have g3 : decide (0 < a.cut) = false := by simpa using h3
                  clear HT
                  go_wp2_with fail
                  all_goals
                    go_meet
                    exact ⟨by rw [HBH.out], V.out⟩
            case rest =>
              obtain ⟨rfl, hov⟩ := hcut
              clear V s1 s2 s3 s4 s5 s6
              have V := Lib.hid hov
              clear hov
              have PL := Lib.hid (fun W => editPlace b.at_ b.cut a.at_ b.put (behind a b) W b0 (by omega) bc0 (by omega) a0 (by omega) hb.p)
              have pm := placed_le (a := b.at_) (c := b.cut) (x := a.at_) (p := b.put.size) (r := behind a b) b0 (by omega) bc0 a0 (by omega)
              have hbp := hb.p
              have CM := Lib.hid (fun W => fault_ref (n - b.cut + b.put.size) (moved a b).at_ a.cut a.put W (by show placed _ _ _ _ _ ≤ _; omega) ha.c1 ha.p)
              have MP : Hid (placed b.at_ b.cut b.put.size a.at_ (behind a b) = (moved a b).at_) := by show _ = _; rfl
              rw [MP.out] at PL
              have FM : Hid (fault (n - b.cut + b.put.size) (moved a b).at_ a.cut a.put.size = flt (n - b.cut + b.put.size) (moved a b)) := by show _ = _; rfl
              rw [FM.out] at CM
              have hab : n + b.put.size - b.cut = n - b.cut + b.put.size := by omega
              have ew1 : IntKind.i64.wrap (n + (b.put.size : Int)) = n + (b.put.size : Int) := IntWalk.i64_in _ (by omega)
              have ew2 : IntKind.i64.wrap (n + (b.put.size : Int) - b.cut) = n - b.cut + (b.put.size : Int) := (IntWalk.i64_in _ (by omega)).trans hab
              have HW := Lib.hid (And.intro ew1 ew2)
              have hb1 := Lib.hid hab
              clear ew1 ew2 hab pm
              generalize behind a b = rr at *
              go_upto_region 19 with fail
              have hkc : w.heap.size + 2 < wc.heap.size := V.out.br.lt
              go_cut [13] (fun t wx => ∃ km, t = .pointer (some ⟨km, 0, none⟩) ∧ OvA w a b wx ∧ B3 km (.int .i64 (moved a b).at_) (.int .i64 a.cut) (.string a.put) wx)
              case first =>
                go_region_held3 (fun W => OvA w a b W ∧ (w.heap.size < W.heap.size ∧ W.cell? ⟨w.heap.size, 0, none⟩ = some (.int .i64 a.at_) ∧ W.cell? ⟨w.heap.size, 1, none⟩ = some (.int .i64 a.cut) ∧ W.cell? ⟨w.heap.size, 2, none⟩ = some (.string a.put)) ∧ (w.heap.size + 1 < W.heap.size ∧ W.cell? ⟨w.heap.size + 1, 0, none⟩ = some (.int .i64 b.at_) ∧ W.cell? ⟨w.heap.size + 1, 1, none⟩ = some (.int .i64 b.cut) ∧ W.cell? ⟨w.heap.size + 1, 2, none⟩ = some (.string b.put)))
                  (first | exact V.out.s.next ((Below.refl _ _).drew) | exact (V.out.next (balloc (Below.refl _ _) _)).s.next ((Below.refl _ _).drew) | exact (OvA.next hSA (balloc (Below.refl _ _) _)).s | exact (OvA.set3 hSA hkc _ _ _).s | exact OvS.next (by assumption) (by assumption))
                  ((go_at_call 39; refine (PL.out _).mono ?_; rintro e w' ⟨rfl, hb⟩; obtain ⟨hc, hf, _⟩ := bfacts hb; (have hSA : OvA w a b w' := (OvS.next (by assumption) hb).1)))
                all_goals go_wp2_with fail
                all_goals go_meet
                · exact ⟨_, rfl, hSA.next (balloc (Below.refl _ _) _), B3.new _ _ _ _ _⟩
                · exact ⟨_, rfl, OvA.set3 hSA hkc _ _ _, (((B3.new _ _ _ _ _).next ((Below.refl _ _).drew)).next hb).set _ _ _⟩
              case rest =>
                obtain ⟨km, rfl, hov, hbm⟩ := hcut
                clear V PL
                have V := Lib.hid hov
                have VM := Lib.hid hbm
                clear hov hbm
                obtain ⟨_, ⟨_, s1, s2, s3⟩, _, s4, s5, s6⟩ := V.out.s
                obtain ⟨m0, m1, m2, m3, _, _, _⟩ := VM.out
                obtain ⟨ew1, ew2⟩ := HW.out
                have HAB := hb1.out
                go_wp2_with fail
                refine (CM.out _).mono ?_
                rintro e w5 ⟨rfl, hb5⟩
                have V5 := Lib.hid (V.out.next hb5)
                obtain ⟨q0, q1, q2, q3, _, _, _⟩ := VM.out.next hb5
                obtain ⟨r0, r1, r2, r3, r4, r5, r6⟩ := V5.out.br
                clear hb5 s1 s2 s3 s4 s5 s6 m0 m1 m2 m3 ew1 ew2 HAB V VM CM
                by_cases h0 : flt (n - b.cut + b.put.size) (moved a b) = 0
                · have R1 := Lib.hid (R.out.trans h0)
                  have R2 : Hid (overR n a b = ⟨(moved a b).at_, a.cut, a.put⟩) := by show _ = _; unfold overR; rw [if_pos R1.out]; rfl
                  rw [h0]
                  generalize (moved a b).at_ = ma at *
                  clear h0 R FM
                  go_wp2_with fail
                  refine bodyPost_ret (v := .tuple #[.agg #[.int .i64 ma, .int .i64 a.cut, .string a.put], .int .i64 0]) (by simp [results, Try.results23, go_sem, *]) rfl ⟨by rw [R2.out, R1.out], bset3 V5.out.bel (by omega) _ _ _⟩
                · have R2 : Hid (overR n a b = eZ) := by show _ = _; unfold overR; rw [R.out, if_neg h0]
                  have g0 : (flt (n - b.cut + b.put.size) (moved a b) != 0) = true := by simpa using h0
                  generalize flt (n - b.cut + b.put.size) (moved a b) = fm at *
                  clear h0
                  go_wp2_with fail
                  refine bodyPost_ret (v := .tuple #[.agg #[.int .i64 0, .int .i64 0, .string ⟨#[]⟩], .int .i64 fm]) (by simp [results, Try.results23, go_sem, *]) rfl ⟨by rw [R2.out, R.out]; rfl, bset3 V5.out.bel (by omega) _ _ _⟩
    · have R : Hid (overC n a b = flt n b) := by show _ = _; unfold overC; rw [if_neg (by simpa using h0), if_pos h1]
      have R2 : Hid (overR n a b = eZ) := by show _ = _; unfold overR; rw [R.out, if_neg h1]
      have g0 : (flt n b != 0) = true := by simpa using h1
      rw [h0] at CA
      generalize flt n b = fa at *
      clear h0 h1
      go_enter Try.func23, Try.ntmps23
      go_wp2_with fail
      refine (CA.out _).mono ?_
      rintro e w1 ⟨rfl, hb1⟩
      have V1 := Lib.hid (H0.out.next hb1)
      obtain ⟨_, ⟨_, s1, s2, s3⟩, _, s4, s5, s6⟩ := V1.out.s
      clear hb1
      go_wp2_with fail
      refine (CB.out _).mono ?_
      rintro e w2 ⟨rfl, hb2⟩
      have V2 := Lib.hid (V1.out.next hb2)
      clear hb2 V1 s1 s2 s3 s4 s5 s6
      obtain ⟨r0, r1, r2, r3, r4, r5, r6⟩ := V2.out.br
      go_wp2_with fail
      refine bodyPost_ret (v := .tuple #[.agg #[.int .i64 0, .int .i64 0, .string ⟨#[]⟩], .int .i64 fa]) (by simp [results, Try.results23, go_sem, *]) rfl ⟨by rw [R2.out, R.out]; rfl, bset3 V2.out.bel (by omega) _ _ _⟩
  · have R : Hid (overC n a b = flt n a) := by show _ = _; unfold overC; rw [if_pos h0]
    have R2 : Hid (overR n a b = eZ) := by show _ = _; unfold overR; rw [R.out, if_neg h0]
    have g0 : (flt n a != 0) = true := by simpa using h0
    have g1 : (flt n a == 0) = false := by simpa using h0
    generalize flt n a = fa at *
    clear h0
    go_enter Try.func23, Try.ntmps23
    go_wp2_with fail
    refine (CA.out _).mono ?_
    rintro e w1 ⟨rfl, hb1⟩
    have V1 := Lib.hid (H0.out.next hb1)
    clear hb1
    obtain ⟨r0, r1, r2, r3, r4, r5, r6⟩ := V1.out.br
    go_wp2_with fail
    refine bodyPost_ret (v := .tuple #[.agg #[.int .i64 0, .int .i64 0, .string ⟨#[]⟩], .int .i64 fa]) (by simp [results, Try.results23, go_sem, *]) rfl ⟨by rw [R2.out, R.out]; rfl, bset3 V1.out.bel (by omega) _ _ _⟩

end Go.Proofs.Ytkckhjljindgmaa.EditR
