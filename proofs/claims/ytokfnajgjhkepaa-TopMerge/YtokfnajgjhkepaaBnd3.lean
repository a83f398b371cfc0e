/-
  Several of my texts in one: rows and boxes of the call's own, written and appended to.
-/
import Derived.Test.YtokfnajgjhkepaaBnd2
import Derived.ArgAppend
import Derived.Deep.Upon
import Derived.Deep.AppendLies
import Derived.Laws.AppendOwn
import Derived.Laws.AppendOwnNone
import Derived.Maps.AppendAt
import Derived.Test.YtokfnajgjhkepaaBnd1

/-
  Rows that lie at any offset of a block of the call's own, appended to, cut, written; boxes of four cells. No program is named.
-/
namespace Go.Proofs.Ytokfnajgjhkepaa.HistM
open Go.RowKit Kit

/-- the slice v has n elements, the cells xs; it may be written and appended to -/
structure RX (size : Nat) (w : World) (v : Value) (n : Nat) (xs : List Value) : Prop where
  len : xs.length = n * size
  is : (v = .slice none 0 0 ∧ n = 0) ∨ ∃ g off cap, v = .slice (some ⟨g, off, none⟩) n cap ∧ n ≤ cap ∧ cap ≤ maxLen ∧ g < w.heap.size ∧ (∀ j u, xs[j]? = some u → w.cell? ⟨g, off + j, none⟩ = some u) ∧ ∀ j, j < cap * size → (w.cell? ⟨g, off + j, none⟩).isSome = true ∧ w.frozen? ⟨g, off + j, none⟩ = false
section
variable {size : Nat} {w w' : World} {v : Value} {n : Nat} {xs : List Value}
theorem RX.nil (size : Nat) (w : World) : RX size w (.slice none 0 0) 0 [] := ⟨by simp, .inl ⟨rfl, rfl⟩⟩
theorem RX.form (h : RX size w v n xs) : ∃ a cap, v = .slice a n cap := by
  rcases h.is with ⟨rfl, rfl⟩ | ⟨g, off, cap, rfl, _⟩
  · exact ⟨_, _, rfl⟩
  · exact ⟨_, _, rfl⟩
theorem RX.pos (h : RX size w v n xs) (hn : 0 < n) : ∃ g off cap, v = .slice (some ⟨g, off, none⟩) n cap ∧ n ≤ cap ∧ cap ≤ maxLen ∧ g < w.heap.size ∧ (∀ j u, xs[j]? = some u → w.cell? ⟨g, off + j, none⟩ = some u) ∧ ∀ j, j < cap * size → (w.cell? ⟨g, off + j, none⟩).isSome = true ∧ w.frozen? ⟨g, off + j, none⟩ = false := by
  rcases h.is with ⟨_, h0⟩ | h
  · omega
  · exact h
theorem RX.kept (h : RX size w v n xs) (hs : w.heap.size ≤ w'.heap.size) (hb : ∀ g, v.ownBlock = some g → w'.heap[g]? = w.heap[g]?) : RX size w' v n xs := by
  refine ⟨h.len, h.is.imp id ?_⟩
  rintro ⟨g, off, cap, rfl, h1, h2, h3, h4, h5⟩
  have e := hb g rfl
  refine ⟨g, off, cap, rfl, h1, h2, Nat.lt_of_lt_of_le h3 hs, fun j u hj => ?_, fun j hj => ⟨?_, ?_⟩⟩
  · rw [World.cell?_of_block (a := ⟨g, off + j, none⟩) e]; exact h4 j u hj
  · rw [World.cell?_of_block (a := ⟨g, off + j, none⟩) e]; exact (h5 j hj).1
  · rw [World.frozen?_of_block (a := ⟨g, off + j, none⟩) e]; exact (h5 j hj).2
theorem RX.lt (h : RX size w v n xs) {g : Nat} (hg : v.ownBlock = some g) : g < w.heap.size := by
  rcases h.is with ⟨rfl, _⟩ | ⟨g', off, cap, rfl, _, _, h3, _⟩
  · cases hg
  · simp [Value.ownBlock] at hg; omega
theorem RX.of_owns {base e : Nat} (h : w.ownsRow base e size v n xs) : RX size w v n xs := by
  refine ⟨h.1, ?_⟩
  rcases h.2 with ⟨rfl, rfl⟩ | ⟨g, cap, cur, rfl, hb, hg, hle, hm, hs, ht⟩
  · exact .inl ⟨rfl, rfl⟩
  · refine .inr ⟨g, 0, cap, rfl, hle, hm, (h.lt g rfl).2, fun j u hj => ?_, fun j hj => ⟨?_, ?_⟩⟩
    · have := h.cells (g := g) rfl j u hj
      rw [add_of rfl] at this
      exact this
    · rw [Nat.zero_add, cell_of_row w g j cur e (0, 0) hg]
      simp [hs, hj]
    · rw [Nat.zero_add]; exact h.frozenAt _
theorem setCells_facts (b : Nat) : ∀ (vs : List Value) (o : Nat) (w : World), (w.setCells b o vs).os = w.os ∧ (w.setCells b o vs).tape = w.tape ∧ (w.setCells b o vs).output = w.output ∧ (w.setCells b o vs).heap.size = w.heap.size
  | [], _, _ => ⟨rfl, rfl, rfl, rfl⟩
  | v :: r, o, w => by
    obtain ⟨h1, h2, h3, h4⟩ := setCells_facts b r (o + 1) (w.setCell ⟨b, o, none⟩ v)
    exact ⟨h1, h2, h3, h4.trans (by simp [World.setCell])⟩
/-- one element is appended -/
theorem run_append_rx {P : Program} (w : World) (t ty e : TypeId) (i : TypeInfo) (z : Value) (size bytes : Nat) (ht : P.underlying t = some (.slice e)) (hi : P.info? e = some i) (hz : i.zero = some z)
    (hsize : i.size = size) (hby : i.bytes = bytes) (hzs : z.cells.size = size) (hsz : 0 < size)
    (v : Value) (n : Nat) (xs : List Value) (hown : RX size w v n xs)
    (ad : Addr) (c : Nat) (news : List Value) (hl : news.length = size) (hnews : ∀ j u, news[j]? = some u → w.cell? (ad.add j) = some u) (h1 : ∀ u ∈ news, u.oneCell' = true)
    (h63 : n + 1 ≤ maxLen) (hbytes : (n + 1) * bytes ≤ 140737488355328) :
    ∃ v' w', (Builtin.append_ #[t, t] ty #[v, .slice (some ad) 1 c]).run P w = .ok v' w' ∧ RX size w' v' (n + 1) (xs ++ news) ∧ w.grownBy w' v.ownBlock ∧ ∃ g, v'.ownBlock = some g ∧ (v.ownBlock = some g ∨ (w.heap.size ≤ g ∧ g < w'.heap.size)) := by
  have hl1 : news.length = 1 * size := by rw [Nat.one_mul]; exact hl
  have fin : ∀ (v' : Value) (w' : World), w'.ownsRow w.heap.size e size v' (n + 1) (xs ++ news) → RX size w' v' (n + 1) (xs ++ news) ∧ ∃ g, v'.ownBlock = some g ∧ (v.ownBlock = some g ∨ (w.heap.size ≤ g ∧ g < w'.heap.size)) := by
    intro v' w' h
    refine ⟨RX.of_owns h, ?_⟩
    obtain ⟨g, cap, rfl, hb, hlt⟩ := h.form (by omega)
    exact ⟨g, rfl, .inr ⟨hb, hlt⟩⟩
  rcases hown.is with ⟨rfl, rfl⟩ | ⟨g, off, cap, rfl, hle, hm, hlt, hcs, hsp⟩
  · obtain rfl : xs = [] := List.eq_nil_of_length_eq_zero (by simpa using hown.len)
    obtain ⟨v', w', hrun, r1, r2, _⟩ := run_append_own (P := P) w w.heap.size t ty e i z size bytes ht hi hz hsize hby hzs hsz (.slice none 0 0) 0 [] (World.ownsRow_nil w _ e size) ad 1 c news hl1 hnews h1 h63 hbytes (Nat.le_refl _)
    exact ⟨v', w', hrun, (fin v' w' r1).1, r2, (fin v' w' r1).2⟩
  · by_cases hroom : n + 1 ≤ cap
    · have hfit : ∀ j, j < news.length → n * size + j < cap * size := by
        intro j hj
        have := Nat.mul_le_mul_right size hroom
        rw [Nat.succ_mul] at this; omega
      have hc : ∀ j, j < news.length → (w.cell? ⟨g, off + n * i.size + j, none⟩).isSome = true := fun j hj => by rw [hsize, Nat.add_assoc]; exact (hsp _ (hfit j hj)).1
      have hrun := run_append_room_cells (P := P) w t ty e i ht hi g off n cap ad 1 c news (by rw [hsize]; exact hl1) hnews h1 hroom hc (fun j hj => by rw [hsize, Nat.add_assoc]; exact (hsp _ (hfit j hj)).2)
      obtain ⟨q1, q2, q3, q4⟩ := setCells_facts g news (off + n * i.size) w
      refine ⟨_, _, hrun, ⟨by rw [List.length_append, hown.len, hl, Nat.succ_mul], .inr ⟨g, off, cap, rfl, hroom, hm, by rw [q4]; exact hlt, fun j u hj => ?_, fun j hj => ⟨?_, ?_⟩⟩⟩, ⟨q1, q2, q3, by rw [q4]; exact Nat.le_refl _, fun k hk hne => World.heap_setCells_other w g _ news hk (fun e => hne (by rw [e]; rfl))⟩, g, rfl, .inl rfl⟩
      · by_cases hjo : j < xs.length
        · rw [List.getElem?_append_left hjo] at hj
          rw [World.cell?_setCells_out g _ _ _ _ (fun _ _ => Or.inl (by show off + j < off + n * i.size; have := hown.len; rw [hsize]; omega))]
          exact hcs j u hj
        · rw [List.getElem?_append_right (by omega)] at hj
          have hj' := (List.getElem?_eq_some_iff.1 hj).1
          have := World.cell?_setCells_in g news (off + n * i.size) w hc (j - xs.length) hj'
          rw [show off + j = off + n * i.size + (j - xs.length) by have := hown.len; rw [hsize]; omega, this]
          exact congrArg some ((List.getElem?_eq_some_iff.1 hj).2)
      · by_cases hjin : n * size ≤ j ∧ j < n * size + news.length
        · have := World.cell?_setCells_in g news (off + n * i.size) w hc (j - n * size) (by omega)
          rw [show off + j = off + n * i.size + (j - n * size) by rw [hsize]; omega, this]; rfl
        · rw [World.cell?_setCells_out g _ _ _ _ (fun _ _ => by show off + j < off + n * i.size ∨ off + n * i.size + news.length ≤ off + j; rw [hsize]; omega)]
          exact (hsp j hj).1
      · rw [World.frozen?_setCells]; exact (hsp j hj).2
    · obtain ⟨v', w', hrun, r1, r2⟩ := run_append_arg_grows (P := P) w t ty e i z size bytes ht hi hz hsize hby hzs hsz ⟨g, off, none⟩ n cap xs hown.len (fun j u hj => by rw [add_of rfl]; exact hcs j u hj) ad 1 c news hl1 hnews (by omega) h63 hbytes
      exact ⟨v', w', hrun, (fin v' w' r1).1, ⟨r2.os, r2.tape, r2.output, r2.size, fun k hk _ => r2.block k hk (by simp)⟩, (fin v' w' r1).2⟩
theorem wp_append_rx {P : Program} (w : World) {o : Oper} {a : Act} {K : Act → World → Prop} {Q : Exit → Act → World → Prop} (s x : Operand) (t : TypeId)
    (ho : o.op = .call { callee := .builtin .append, args := #[s, x], argTypes := #[t, t] })
    (e : TypeId) (i : TypeInfo) (z : Value) (size bytes : Nat) (ht : P.underlying t = some (.slice e)) (hi : P.info? e = some i) (hz : i.zero = some z)
    (hsize : i.size = size) (hby : i.bytes = bytes) (hzs : z.cells.size = size) (hsz : 0 < size)
    (v : Value) (n : Nat) (xs : List Value) (hs : a.eval s = v) (hown : RX size w v n xs)
    (ad : Addr) (c : Nat) (news : List Value) (hx : a.eval x = .slice (some ad) 1 c) (hl : news.length = size) (hnews : ∀ j u, news[j]? = some u → w.cell? (ad.add j) = some u) (h1 : ∀ u ∈ news, u.oneCell' = true)
    (h63 : n + 1 ≤ maxLen) (hbytes : (n + 1) * bytes ≤ 140737488355328)
    (h : ∀ a' cap' w', RX size w' (.slice a' (n + 1) cap') (n + 1) (xs ++ news) → w.grownBy w' v.ownBlock → (∃ g, (Value.slice a' (n + 1) cap').ownBlock = some g ∧ (v.ownBlock = some g ∨ (w.heap.size ≤ g ∧ g < w'.heap.size))) → K (a.put o.dst (.slice a' (n + 1) cap')) w') : o.wp P a w K Q := by
  obtain ⟨v', w', hr, h2, h3, h4⟩ := run_append_rx (P := P) w t o.type e i z size bytes ht hi hz hsize hby hzs hsz v n xs hown ad c news hl hnews h1 h63 hbytes
  obtain ⟨a', cap', rfl⟩ := h2.form
  unfold Oper.wp execOp
  simp only [ho, resolve, invoke, builtin, Sem.run_bind, Sem.run_pure, Result.andThen_ok, List.map_toArray, List.map_cons, List.map_nil, hs, hx, hr]
  exact h a' cap' w' h2 h3 h4
theorem wpList_append_rx {P : Program} (w : World) {ops : Array Oper} {rest : List Oper} {o : Oper} {a : Act} {Q : Exit → Act → World → Prop} (hgd : o.guard = none) (s x : Operand) (t : TypeId)
    (ho : o.op = .call { callee := .builtin .append, args := #[s, x], argTypes := #[t, t] })
    (e : TypeId) (i : TypeInfo) (z : Value) (size bytes : Nat) (ht : P.underlying t = some (.slice e)) (hi : P.info? e = some i) (hz : i.zero = some z)
    (hsize : i.size = size) (hby : i.bytes = bytes) (hzs : z.cells.size = size) (hsz : 0 < size)
    (v : Value) (n : Nat) (xs : List Value) (hs : a.eval s = v) (hown : RX size w v n xs)
    (ad : Addr) (c : Nat) (news : List Value) (hx : a.eval x = .slice (some ad) 1 c) (hl : news.length = size) (hnews : ∀ j u, news[j]? = some u → w.cell? (ad.add j) = some u) (h1 : ∀ u ∈ news, u.oneCell' = true)
    (h63 : n + 1 ≤ maxLen) (hbytes : (n + 1) * bytes ≤ 140737488355328)
    (h : ∀ a' cap' w', RX size w' (.slice a' (n + 1) cap') (n + 1) (xs ++ news) → w.grownBy w' v.ownBlock → (∃ g, (Value.slice a' (n + 1) cap').ownBlock = some g ∧ (v.ownBlock = some g ∨ (w.heap.size ≤ g ∧ g < w'.heap.size))) → wpList P ops Q rest (a.put o.dst (.slice a' (n + 1) cap')) w') : wpList P ops Q (o :: rest) a w :=
  wpList_plain hgd fun _ hK => wp_append_rx w s x t ho e i z size bytes ht hi hz hsize hby hzs hsz v n xs hs hown ad c news hx hl hnews h1 h63 hbytes fun a' c' w' h2 h3 h4 => hK _ _ (h a' c' w' h2 h3 h4)
theorem step_append_rx {P : Program} (w : World) {ops : Array Oper} {o : Oper} {a : Act} {K : Act → World → Prop} {Q : Exit → Act → World → Prop} {E : Prop} (hgd : o.guard = none) (s x : Operand) (t : TypeId)
    (ho : o.op = .call { callee := .builtin .append, args := #[s, x], argTypes := #[t, t] })
    (e : TypeId) (i : TypeInfo) (z : Value) (size bytes : Nat) (ht : P.underlying t = some (.slice e)) (hi : P.info? e = some i) (hz : i.zero = some z)
    (hsize : i.size = size) (hby : i.bytes = bytes) (hzs : z.cells.size = size) (hsz : 0 < size)
    (v : Value) (n : Nat) (xs : List Value) (hs : a.eval s = v) (hown : RX size w v n xs)
    (ad : Addr) (c : Nat) (news : List Value) (hx : a.eval x = .slice (some ad) 1 c) (hl : news.length = size) (hnews : ∀ j u, news[j]? = some u → w.cell? (ad.add j) = some u) (h1 : ∀ u ∈ news, u.oneCell' = true)
    (h63 : n + 1 ≤ maxLen) (hbytes : (n + 1) * bytes ≤ 140737488355328)
    (h : ∀ a' cap' w', RX size w' (.slice a' (n + 1) cap') (n + 1) (xs ++ news) → w.grownBy w' v.ownBlock → (∃ g, (Value.slice a' (n + 1) cap').ownBlock = some g ∧ (v.ownBlock = some g ∨ (w.heap.size ≤ g ∧ g < w'.heap.size))) → K (a.put o.dst (.slice a' (n + 1) cap')) w') :
    if Region.wanted o (yielded ops a.tmps) = true then Oper.wp P o a w K Q else E := by
  have hw : Region.wanted o (yielded ops a.tmps) = true := by simp [Region.wanted, hgd]
  rw [if_pos hw]
  exact wp_append_rx w s x t ho e i z size bytes ht hi hz hsize hby hzs hsz v n xs hs hown ad c news hx hl hnews h1 h63 hbytes h

/-- its first m elements -/
theorem RX.head {a : Option Addr} {cap m : Nat} (h : RX size w (.slice a n cap) n xs) (hm : m ≤ n) : RX size w (.slice a m cap) m (xs.take (m * size)) := by
  have hle := Nat.mul_le_mul_right size hm
  refine ⟨by rw [List.length_take, h.len]; omega, ?_⟩
  rcases h.is with ⟨e, rfl⟩ | ⟨g, off, cap', e, h1, h2, h3, h4, h5⟩
  · cases e; obtain rfl : m = 0 := by omega
    exact .inl ⟨rfl, rfl⟩
  · cases e
    refine .inr ⟨g, off, cap, rfl, by omega, h2, h3, fun j u hj => h4 j u ?_, h5⟩
    rw [List.getElem?_take] at hj
    split at hj
    · exact hj
    · cases hj
/-- without its first element -/
theorem RX.rest {g off cap : Nat} (h : RX size w (.slice (some ⟨g, off, none⟩) (n + 1) cap) (n + 1) xs) : RX size w (.slice (some ⟨g, off + size, none⟩) n (cap - 1)) n (xs.drop size) := by
  refine ⟨by rw [List.length_drop, h.len, Nat.succ_mul]; omega, ?_⟩
  rcases h.is with ⟨e, _⟩ | ⟨g, off, cap', e, h1, h2, h3, h4, h5⟩
  · cases e
  · cases e
    refine .inr ⟨g, off + size, cap - 1, rfl, by omega, by omega, h3, fun j u hj => ?_, fun j hj => ?_⟩
    · rw [Nat.add_assoc]; refine h4 _ _ ?_
      rw [List.getElem?_drop] at hj; exact hj
    · rw [Nat.add_assoc]; refine h5 _ ?_
      have : size + (cap - 1) * size = cap * size := by rw [Nat.add_comm, ← Nat.succ_mul]; congr 1; omega
      omega
/-- one cell is written -/
theorem RX.set {g off cap : Nat} (h : RX size w (.slice (some ⟨g, off, none⟩) n cap) n xs) (m : Nat) (u : Value) (hm : m < n * size) : RX size (w.setCell ⟨g, off + m, none⟩ u) (.slice (some ⟨g, off, none⟩) n cap) n (xs.set m u) := by
  have hl := h.len
  refine ⟨by rw [List.length_set]; exact hl, ?_⟩
  rcases h.is with ⟨e, _⟩ | ⟨g, off, cap', e, h1, h2, h3, h4, h5⟩
  · cases e
  · cases e
    have hc := (h5 m (by have := Nat.mul_le_mul_right size h1; omega)).1
    obtain ⟨u0, hu0⟩ := Option.isSome_iff_exists.1 hc
    refine .inr ⟨g, off, cap, rfl, h1, h2, by simpa [World.setCell] using h3, fun j x hj => ?_, fun j hj => ⟨?_, by rw [World.frozen?_setCell]; exact (h5 j hj).2⟩⟩
    · by_cases e : j = m
      · subst e
        rw [List.getElem?_set_self (by omega)] at hj
        cases hj
        exact World.cell?_setCell_same _ _ _ hu0
      · rw [List.getElem?_set_ne (by omega)] at hj
        rw [World.cell?_setCell_other _ _ _ _ (fun e' => by injection e' with _ e2; omega)]
        exact h4 j x hj
    · by_cases e : j = m
      · subst e
        rw [World.cell?_setCell_same _ _ _ hu0]; rfl
      · rw [World.cell?_setCell_other _ _ _ _ (fun e' => by injection e' with _ e2; omega)]
        exact (h5 j hj).1
end

/-- a box of four cells that may be written -/
structure B4 (k : Nat) (a b c d : Value) (W : World) : Prop where
  lt : k < W.heap.size
  c0 : W.cell? ⟨k, 0, none⟩ = some a
  c1 : W.cell? ⟨k, 1, none⟩ = some b
  c2 : W.cell? ⟨k, 2, none⟩ = some c
  c3 : W.cell? ⟨k, 3, none⟩ = some d
  fr : ∀ j, W.frozen? ⟨k, j, none⟩ = false
theorem B4.kept {k : Nat} {a b c d : Value} {W W' : World} (h : B4 k a b c d W) (hs : W.heap.size ≤ W'.heap.size) (e : W'.heap[k]? = W.heap[k]?) : B4 k a b c d W' :=
  ⟨Nat.lt_of_lt_of_le h.lt hs, (World.cell?_of_block (a := ⟨k, 0, none⟩) e).trans h.c0, (World.cell?_of_block (a := ⟨k, 1, none⟩) e).trans h.c1, (World.cell?_of_block (a := ⟨k, 2, none⟩) e).trans h.c2, (World.cell?_of_block (a := ⟨k, 3, none⟩) e).trans h.c3, fun j => (World.frozen?_of_block (a := ⟨k, j, none⟩) e).trans (h.fr j)⟩
theorem B4.next {k : Nat} {a b c d : Value} {W W' : World} (h : B4 k a b c d W) (hb : Below W.heap.size W W') : B4 k a b c d W' := h.kept hb.size (hb.block k h.lt)
theorem B4.set0 {k : Nat} {a b c d : Value} {W : World} (h : B4 k a b c d W) (u : Value) : B4 k u b c d (W.setCell ⟨k, 0, none⟩ u) :=
  ⟨by rw [setZ]; exact h.lt, setS h.c0 _, (setO (.inr (by omega)) _).trans h.c1, (setO (.inr (by omega)) _).trans h.c2, (setO (.inr (by omega)) _).trans h.c3, fun j => by rw [World.frozen?_setCell]; exact h.fr j⟩
theorem B4.set1 {k : Nat} {a b c d : Value} {W : World} (h : B4 k a b c d W) (u : Value) : B4 k a u c d (W.setCell ⟨k, 1, none⟩ u) :=
  ⟨by rw [setZ]; exact h.lt, (setO (.inr (by omega)) _).trans h.c0, setS h.c1 _, (setO (.inr (by omega)) _).trans h.c2, (setO (.inr (by omega)) _).trans h.c3, fun j => by rw [World.frozen?_setCell]; exact h.fr j⟩
theorem B4.set2 {k : Nat} {a b c d : Value} {W : World} (h : B4 k a b c d W) (u : Value) : B4 k a b u d (W.setCell ⟨k, 2, none⟩ u) :=
  ⟨by rw [setZ]; exact h.lt, (setO (.inr (by omega)) _).trans h.c0, (setO (.inr (by omega)) _).trans h.c1, setS h.c2 _, (setO (.inr (by omega)) _).trans h.c3, fun j => by rw [World.frozen?_setCell]; exact h.fr j⟩
theorem B4.set3 {k : Nat} {a b c d : Value} {W : World} (h : B4 k a b c d W) (u : Value) : B4 k a b c u (W.setCell ⟨k, 3, none⟩ u) :=
  ⟨by rw [setZ]; exact h.lt, (setO (.inr (by omega)) _).trans h.c0, (setO (.inr (by omega)) _).trans h.c1, (setO (.inr (by omega)) _).trans h.c2, setS h.c3 _, fun j => by rw [World.frozen?_setCell]; exact h.fr j⟩
theorem heap_set_other {W : World} {k o b : Nat} (h : b ≠ k) (u : Value) : (W.setCell ⟨k, o, none⟩ u).heap[b]? = W.heap[b]? := heap_setCell_other W ⟨k, o, none⟩ b u h

/-- what a call that writes the blocks F leaves: all else, and new blocks -/
structure Fr (F : Nat → Prop) (w w' : World) : Prop where
  os : w'.os = w.os
  tape : w'.tape = w.tape
  output : w'.output = w.output
  size : w.heap.size ≤ w'.heap.size
  block : ∀ b, b < w.heap.size → ¬ F b → w'.heap[b]? = w.heap[b]?
/-- the blocks F and those made since -/
def grow (F : Nat → Prop) (w w' : World) (b : Nat) : Prop := F b ∨ (w.heap.size ≤ b ∧ b < w'.heap.size)
theorem Fr.refl (F : Nat → Prop) (w : World) : Fr F w w := ⟨rfl, rfl, rfl, Nat.le_refl _, fun _ _ _ => rfl⟩
theorem Fr.trans {F : Nat → Prop} {w w1 w2 : World} (h : Fr F w w1) (h2 : Fr (grow F w w1) w1 w2) : Fr F w w2 :=
  ⟨h2.os.trans h.os, h2.tape.trans h.tape, h2.output.trans h.output, Nat.le_trans h.size h2.size, fun b hb hn => (h2.block b (Nat.lt_of_lt_of_le hb h.size) (fun q => by rcases q with q | q; exact hn q; omega)).trans (h.block b hb hn)⟩
theorem Fr.mono {F G : Nat → Prop} {w w' : World} (h : Fr F w w') (hF : ∀ b, F b → b < w.heap.size → G b) : Fr G w w' := ⟨h.os, h.tape, h.output, h.size, fun b hb hn => h.block b hb (fun q => hn (hF b q hb))⟩
theorem Fr.of_below {F : Nat → Prop} {w w' : World} (h : Below w.heap.size w w') : Fr F w w' := ⟨h.os, h.tape, h.output, h.size, fun b hb _ => h.block b hb⟩
theorem Fr.set {F : Nat → Prop} {w w' : World} (h : Fr F w w') {k o : Nat} (hk : F k ∨ w.heap.size ≤ k) (u : Value) : Fr F w (w'.setCell ⟨k, o, none⟩ u) :=
  ⟨h.os, h.tape, h.output, by rw [setZ]; exact h.size, fun b hb hn => (heap_set_other (fun e => by subst e; rcases hk with hk | hk; exact hn hk; omega) _).trans (h.block b hb hn)⟩
theorem Fr.grown {F : Nat → Prop} {w w1 w2 : World} (h : Fr F w w1) {r : Option Nat} (hg : w1.grownBy w2 r) (hr : ∀ b, r = some b → F b ∨ w.heap.size ≤ b) : Fr F w w2 :=
  ⟨hg.os.trans h.os, hg.tape.trans h.tape, hg.output.trans h.output, Nat.le_trans h.size hg.size, fun b hb hn => (hg.block b (Nat.lt_of_lt_of_le hb h.size) (fun e => by rcases hr b e.symm with q | q; exact hn q; omega)).trans (h.block b hb hn)⟩
theorem Fr.below {F : Nat → Prop} {w w' : World} (h : Fr F w w') {B : Nat} (hB : B ≤ w.heap.size) (hF : ∀ b, F b → B ≤ b) : Below B w w' :=
  ⟨h.os, h.tape, h.output, h.size, fun b hb => h.block b (by omega) (fun q => by have := hF b q; omega)⟩
theorem Fr.alloc {F : Nat → Prop} {w w' : World} (h : Fr F w w') (o : Obj) : Fr F w (w'.alloc o) :=
  ⟨h.os, h.tape, h.output, by have := h.size; simp; omega, fun b hb hn => (Below.heap_alloc w' o b (Nat.lt_of_lt_of_le hb h.size)).trans (h.block b hb hn)⟩
theorem Fr.drew {F : Nat → Prop} {w w' : World} (h : Fr F w w') : Fr F w w'.drew := ⟨h.os, h.tape, h.output, h.size, h.block⟩

end Go.Proofs.Ytokfnajgjhkepaa.HistM

/-
  Slices of the call's own (elements of k cells), at any offset: made by copies, appended to. No program is named.
-/
namespace Go.Proofs.Ytokfnajgjhkepaa.HistM
open Go.RowKit Kit

/-- v is a slice of the elements l in memory made since w; all of w stands -/
structure RO {α : Type} (k : Nat) (cells : α → List Value) (w : World) (l : List α) (v : Value) (w' : World) : Prop where
  row : RX k w' v l.length (flatC cells l)
  low : ∀ b, v.ownBlock = some b → w.heap.size ≤ b
  bel : Below w.heap.size w w'
section
variable {α : Type} {k : Nat} {cells : α → List Value} {w w1 w2 : World} {l : List α} {v : Value}
theorem RO.nil (w : World) : RO k cells w [] (.slice none 0 0) w := ⟨RX.nil _ _, fun b q => (by cases q), Below.refl _ _⟩
theorem RO.next (h : RO k cells w l v w1) (hb : Below w1.heap.size w1 w2) : RO k cells w l v w2 := ⟨h.row.kept hb.size fun b q => hb.block b (h.row.lt q), h.low, bstep h.bel hb⟩
theorem RO.push (h : RO k cells w l v w1) {o : α} {v' : Value} (hr : RX k w2 v' (l.length + 1) (flatC cells l ++ cells o)) (hg : w1.grownBy w2 v.ownBlock) (hb : ∃ g, v'.ownBlock = some g ∧ (v.ownBlock = some g ∨ (w1.heap.size ≤ g ∧ g < w2.heap.size))) : RO k cells w (l ++ [o]) v' w2 := by
  obtain ⟨g, e1, e2⟩ := hb
  have hz := h.bel.size
  refine ⟨by rw [List.length_append, flatC_append, flatC_one]; exact hr, fun b q => ?_, h.bel.grown hg hz h.low⟩
  rw [e1] at q; cases q
  rcases e2 with e2 | e2
  · exact h.low _ e2
  · omega
theorem RO.ahead (h : RO k cells w1 l v w2) (hb : Below w.heap.size w w1) : RO k cells w l v w2 := ⟨h.row, fun b q => Nat.le_trans hb.size (h.low b q), bstep hb h.bel⟩
theorem SlV.of_rx (hk : ∀ o, (cells o).length = k) (h : RX k w v l.length (flatC cells l)) : SlV k cells w v l := by
  rcases h.is with ⟨rfl, h0⟩ | ⟨g, off, cap, rfl, hle, _, hg, hc, _⟩
  · obtain rfl : l = [] := List.eq_nil_of_length_eq_zero h0
    exact SlV.nil w
  · refine ⟨_, cap, rfl, hle, ⟨fun i o hi => ⟨g, off, rfl, hg, fun j hj => ?_⟩⟩, .inr ⟨g, off, rfl, hg⟩⟩
    have hl : j < (cells o).length := by rw [hk]; exact hj
    rw [List.getElem?_eq_getElem hl, Nat.add_assoc]
    exact hc _ _ ((flatC_get hk l i o j hi hj).trans (List.getElem?_eq_getElem hl))
theorem RO.sl (hk : ∀ o, (cells o).length = k) (h : RO k cells w l v w1) : SlV k cells w1 v l := SlV.of_rx hk h.row
end
/-- append([]T(nil), l...): a copy of the call's own -/
theorem wpList_copyO {α : Type} {k : Nat} {cells : α → List Value} (hk : ∀ o, (cells o).length = k) (h1 : ∀ o, ∀ u ∈ cells o, u.oneCell' = true) (k0 : 0 < k) {P : Program} {w : World} {ops : Array Oper} {rest : List Oper} {o : Oper} {a : Act} {Q : Exit → Act → World → Prop} (hgd : o.guard = none)
    (s x : Operand) (t : TypeId) (ho : o.op = .call { callee := .builtin .append, args := #[s, x], argTypes := #[t, t] }) (e : TypeId) (i : TypeInfo) (z : Value) (bytes : Nat) (ht : P.underlying t = some (.slice e)) (hi : P.info? e = some i) (hz : i.zero = some z) (hsize : i.size = k) (hby : i.bytes = bytes) (hzs : z.cells.size = k)
    (hs : a.eval s = .slice none 0 0) (v : Value) (hx : a.eval x = v) (l : List α) (hv : SlV k cells w v l) (h63 : l.length ≤ maxLen) (hbytes : l.length * bytes ≤ 140737488355328)
    (h : ∀ v' w', RO k cells w l v' w' → wpList P ops Q rest (a.put o.dst v') w') : wpList P ops Q (o :: rest) a w := by
  obtain ⟨al, cap, rfl, hle, ha, hd⟩ := hv
  rcases hd with ⟨rfl, rfl, rfl⟩ | ⟨g, off, rfl, _⟩
  · exact wpList_append_own_none hgd s x t ho w.heap.size e i k ht hi _ 0 [] hs (World.ownsRow_nil _ _ _ _) hx (h _ _ (RO.nil _))
  · refine wpList_append_own w hgd s x t ho w.heap.size e i z k bytes ht hi hz hsize hby hzs k0 _ 0 [] hs (World.ownsRow_nil _ _ _ _) ⟨g, off, none⟩ l.length cap (flatC cells l) hx (flatC_length hk l) (SlAt.cells_at hk k0 ha) (flatC_all h1 l) (by rw [Nat.zero_add]; exact h63) (by rw [Nat.zero_add]; exact hbytes) (Nat.le_refl _) ?_
    intro v' w' hown hgrow _
    rw [Nat.zero_add, List.nil_append] at hown
    exact h v' w' ⟨RX.of_owns hown, fun b q => (hown.lt b q).1, grows_below hgrow⟩

end Go.Proofs.Ytokfnajgjhkepaa.HistM

/-
  Steps in memory: pairs of numbers; a row of the call's own whose elements are written and appended to. No function is named.
-/
namespace Go.Proofs.Ytokfnajgjhkepaa.DiffA
open Go.RowKit Kit LineM StrM DiffM HistM

/-- the cells of a step -/
def pc (p : Nat × Nat) : List Value := [.int .i64 (p.1 : Int), .int .i64 (p.2 : Int)]
theorem pc_len (p : Nat × Nat) : (pc p).length = 2 := rfl
theorem infoStep : (Try.prog.info? 76).map (fun i => (i.zero, i.size, i.bytes)) = some (some (.agg #[.int .i64 0, .int .i64 0]), 2, 16) := by kernel_rfl
theorem flatC_put {α : Type} {k : Nat} {cells : α → List Value} (hk : ∀ o, (cells o).length = k) : ∀ (l : List α) (i : Nat) (o o' : α) (j : Nat) (u : Value), l[i]? = some o → j < k → cells o' = (cells o).set j u → flatC cells (l.set i o') = (flatC cells l).set (i * k + j) u
  | [], i, o, o', j, u, h, _, _ => by simp at h
  | x :: l, 0, o, o', j, u, h, hj, e => by
    simp at h; subst h
    rw [List.set_cons_zero, flatC_cons, flatC_cons, e, List.set_append, if_pos (by rw [hk]; omega)]; simp
  | x :: l, i + 1, o, o', j, u, h, hj, e => by
    simp at h
    have e1 : (i + 1) * k + j = k + (i * k + j) := by rw [Nat.succ_mul]; omega
    rw [List.set_cons_succ, flatC_cons, flatC_cons, flatC_put hk l i o o' j u h hj e, List.set_append, if_neg (by rw [hk]; omega), hk, e1]
    congr 2; omega
/-- one cell of one element is written -/
theorem RO.put {α : Type} {k : Nat} {cells : α → List Value} (hk : ∀ o, (cells o).length = k) {w W : World} {l : List α} {g off n cap : Nat} (h : RO k cells w l (.slice (some ⟨g, off, none⟩) n cap) W) (hn : n = l.length) {i j : Nat} {o o' : α} {u : Value} (hi : l[i]? = some o) (hj : j < k) (e : cells o' = (cells o).set j u) : RO k cells w (l.set i o') (.slice (some ⟨g, off, none⟩) n cap) (W.setCell ⟨g, off + i * k + j, none⟩ u) := by
  subst hn
  have hil := (List.getElem?_eq_some_iff.1 hi).1
  have hlt : i * k + j < l.length * k := by
    have h1 : (i + 1) * k ≤ l.length * k := Nat.mul_le_mul_right k hil
    rw [Nat.succ_mul] at h1
    omega
  refine ⟨?_, h.low, h.bel.setCell (p := ⟨g, off + i * k + j, none⟩) (h.low g rfl) _⟩
  have := h.row.set (i * k + j) u hlt
  rw [← flatC_put hk l i o o' j u hi hj e, ← Nat.add_assoc] at this
  rw [List.length_set]; exact this
/-- what one element's cell holds, and that it may be written -/
theorem RO.at_ {α : Type} {k : Nat} {cells : α → List Value} (hk : ∀ o, (cells o).length = k) {w W : World} {l : List α} {v : Value} (h : RO k cells w l v W) {i : Nat} {o : α} (hi : l[i]? = some o) : ∃ g off cap, v = .slice (some ⟨g, off, none⟩) l.length cap ∧ g < W.heap.size ∧ w.heap.size ≤ g ∧ ∀ j u, j < k → (cells o)[j]? = some u → W.cell? ⟨g, off + i * k + j, none⟩ = some u ∧ W.frozen? ⟨g, off + i * k + j, none⟩ = false := by
  have hil := (List.getElem?_eq_some_iff.1 hi).1
  obtain ⟨g, off, cap, e, h1, _, hg, hc, hf⟩ := h.row.pos (by omega)
  refine ⟨g, off, cap, e, hg, h.low g (by rw [e]; rfl), fun j u hj hu => ⟨?_, ?_⟩⟩
  · rw [Nat.add_assoc]
    exact hc _ _ ((flatC_get hk l i o j hi hj).trans hu)
  · rw [Nat.add_assoc]
    have h2 : (i + 1) * k ≤ cap * k := Nat.mul_le_mul_right k (by omega)
    rw [Nat.succ_mul] at h2
    exact (hf (i * k + j) (by omega)).2
/-- the last run is of the last kind -/
theorem comb_last (ks : List Nat) (k : Nat) : ∃ l n, comb (ks ++ [k]) = l ++ [(k, n)] ∧ 1 ≤ n := by
  rw [comb_snoc]
  rcases List.eq_nil_or_concat (comb ks) with h | ⟨l, p, h⟩
  · rw [h]; exact ⟨[], 1, rfl, Nat.le_refl _⟩
  · rw [h, List.concat_eq_append, push_snoc]
    by_cases e : p.1 = k
    · rw [if_pos e]; exact ⟨l, p.2 + 1, rfl, by omega⟩
    · rw [if_neg e]; exact ⟨l ++ [p], 1, rfl, Nat.le_refl _⟩
theorem ex_len_le (l : List (Nat × Nat)) : ∀ p ∈ l, p.2 ≤ (ex l).length := by
  induction l with
  | nil => simp
  | cons q l ih =>
    intro p hp
    rw [ex_cons, List.length_append, List.length_replicate]
    rcases List.mem_cons.1 hp with rfl | hp
    · omega
    · have := ih p hp; omega
theorem runs_len {l : List (Nat × Nat)} (h : Runs l) : l.length ≤ (ex l).length := by
  have key : ∀ l : List (Nat × Nat), (∀ p ∈ l, 1 ≤ p.2) → l.length ≤ (ex l).length := by
    intro l
    induction l with
    | nil => simp
    | cons q l ih =>
      intro hq
      have h1 := hq q (by simp)
      have h2 := ih (fun p hp => hq p (by simp [hp]))
      rw [ex_cons, List.length_append, List.length_replicate, List.length_cons]
      omega
  exact key l h.pos
/-- one more kind: as the loop does it -/
theorem comb_step {ks : List Nat} {i k : Nat} (hk : ks[i]? = some k) : (i = 0 ∧ comb (ks.take (i + 1)) = [(k, 1)]) ∨ ∃ k' l n, ks[i - 1]? = some k' ∧ 0 < i ∧ comb (ks.take i) = l ++ [(k', n)] ∧ n ≤ i ∧ l.length + 1 ≤ i ∧ ((k' = k ∧ comb (ks.take (i + 1)) = l ++ [(k, n + 1)]) ∨ (k' ≠ k ∧ comb (ks.take (i + 1)) = l ++ [(k', n)] ++ [(k, 1)])) := by
  have e0 : ks.take (i + 1) = ks.take i ++ [k] := by rw [List.take_add_one, hk]; rfl
  by_cases hi : i = 0
  · subst hi
    left
    rw [e0]; exact ⟨rfl, rfl⟩
  · right
    have hil := (List.getElem?_eq_some_iff.1 hk).1
    have h1 : ks[i - 1]? = some (ks[i - 1]'(by omega)) := List.getElem?_eq_getElem (by omega)
    have e1 : ks.take i = ks.take (i - 1) ++ [ks[i - 1]'(by omega)] := by
      conv => lhs; rw [show i = (i - 1) + 1 by omega, List.take_add_one, h1]
      rfl
    obtain ⟨l, n, hl, hn⟩ := comb_last (ks.take (i - 1)) (ks[i - 1]'(by omega))
    rw [← e1] at hl
    have hex := (comb_all (ks.take i)).2
    have hrl := runs_len (comb_all (ks.take i)).1
    have hnl := ex_len_le (comb (ks.take i)) (ks[i - 1]'(by omega), n) (by rw [hl]; simp)
    rw [hex, List.length_take] at hrl hnl
    rw [hl] at hrl
    dsimp only at hnl
    simp only [List.length_append, List.length_singleton] at hrl
    refine ⟨_, l, n, h1, by omega, hl, by omega, by omega, ?_⟩
    rw [e0, comb_snoc, hl, push_snoc]
    by_cases e : ks[i - 1]'(by omega) = k
    · left; rw [if_pos e]; exact ⟨e, rfl⟩
    · right; rw [if_neg e]; exact ⟨e, rfl⟩
end Go.Proofs.Ytokfnajgjhkepaa.DiffA

/-
  Steps that come in: pairs of integers, opened. No function is named.
-/
namespace Go.Proofs.Ytokfnajgjhkepaa.DiffA
open Go.ChangeShapes Go.RowKit Kit LineM

/-- a step that came in: two numbers -/
def sci (p : Int × Int) : List Value := [.int .i64 p.1, .int .i64 p.2]
theorem sci_len (p : Int × Int) : (sci p).length = 2 := rfl
theorem sci_get {w : World} {a : Option Addr} {l : List (Int × Int)} (h : SlAt 2 sci w a l) {i : Nat} {p : Int × Int} (hi : l[i]? = some p) : ∃ g off, a = some ⟨g, off, none⟩ ∧ g < w.heap.size ∧ w.cell? ⟨g, off + i * 2, none⟩ = some (.int .i64 p.1) ∧ w.cell? ⟨g, off + i * 2 + 1, none⟩ = some (.int .i64 p.2) := by
  obtain ⟨g, off, e, hg, hc⟩ := h.cell i p hi
  refine ⟨g, off, e, hg, ?_, ?_⟩
  · have := hc 0 (by omega)
    simpa [sci] using this
  · have := hc 1 (by omega)
    simpa [sci] using this
theorem list2 {α : Type} : ∀ {l : List α}, l.length = 2 → ∃ a b, l = [a, b]
  | [a, b], _ => ⟨a, b, rfl⟩
def okP (p : Int × Int) : Prop := I64 p.1 ∧ I64 p.2
theorem open_step {H : Type} {enc : TypeId × Value → H} {W : World} {n : Nat} {cs : List Value} {x : DataW H × List MemPlace} (h : DataW.trod enc Try.prog W 0 (fun _ => true) true n 76 cs = some x) : ∃ p : Int × Int, cs = sci p ∧ okP p := by
  obtain ⟨xs, k, _, hx, hl, hxl, hf⟩ := DataW.trod_struct Try.underlying76 h
  have hc : Try.prog.cellsOf 76 = 2 := by kernel_rfl
  have h1 : Try.prog.cellsOf 3 = 1 := by kernel_rfl
  rw [hc] at hl
  obtain ⟨y0, y1, rfl⟩ := list2 hxl
  obtain ⟨v0, v1, rfl⟩ := list2 hl
  have g0 := hf 0 _ rfl
  have g1 := hf 1 _ rfl
  simp [h1] at g0 g1
  obtain ⟨z0, e0, _, w0⟩ := DataW.trod_int Try.underlying3 g0
  obtain ⟨z1, e1, _, w1⟩ := DataW.trod_int Try.underlying3 g1
  simp at e0 e1
  subst e0 e1
  exact ⟨(z0, z1), rfl, wf_i64 w0, wf_i64 w1⟩
theorem open_steps {H : Type} {enc : TypeId × Value → H} {W : World} {fuel : Nat} {a : Option Addr} {len cap : Nat} {x : DataW H × List MemPlace} (h : DataW.trod enc Try.prog W 0 (fun _ => true) true fuel 49 [.slice a len cap] = some x) (hs : ∀ m ∈ x.1.weights Try.prog 49, m ≤ reachBytes) :
    ∃ l : List (Int × Int), len = l.length ∧ SlAt 2 sci W a l ∧ (∀ p ∈ l, okP p) ∧ len ≤ cap ∧ cap ≤ maxLen ∧ ((a = none ∧ cap = 0) ∨ ∃ g off, a = some ⟨g, off, none⟩ ∨ len = 0) :=
  open_list Try.underlying49 (by kernel_rfl) (by omega) sci_len okP (fun _ _ _ h _ => open_step h) h hs
end Go.Proofs.Ytokfnajgjhkepaa.DiffA

/-
  What is known of the type string.
-/
namespace Go.Proofs.Ytokfnajgjhkepaa.DiffR
theorem infoStr : (Try.prog.info? 9).map (fun i => (i.zero, i.size, i.bytes)) = some (some (.string ⟨#[]⟩), 1, 16) := by kernel_rfl
end Go.Proofs.Ytokfnajgjhkepaa.DiffR

/-
  What is left of two lists, and the lines that are made, in a box of three slices. No function of the program is named.
-/
namespace Go.Proofs.Ytokfnajgjhkepaa.DiffP
open Go.RowKit Kit LineM StrM DiffM DiffA DiffR HistM

theorem kept_at {W W1 : World} {r : Option Nat} {k o : Nat} {u : Value} (hg : W.grownBy W1 r) (h : W.cell? ⟨k, o, none⟩ = some u) (hk : r ≠ some k) : W1.cell? ⟨k, o, none⟩ = some u := by
  have hlt := block_lt h
  exact (World.cell?_of_block (a := ⟨k, o, none⟩) (hg.block k hlt (fun e => hk e.symm))).trans h
theorem kept_fr {W W1 : World} {r : Option Nat} {k o : Nat} {u : Value} (hg : W.grownBy W1 r) (h : W.cell? ⟨k, o, none⟩ = some u) (hk : r ≠ some k) (hf : W.frozen? ⟨k, o, none⟩ = false) : W1.frozen? ⟨k, o, none⟩ = false := by
  have hlt := block_lt h
  exact (World.frozen?_of_block (a := ⟨k, o, none⟩) (hg.block k hlt (fun e => hk e.symm))).trans hf
theorem own_above {w : World} {base e size n : Nat} {v : Value} {xs : List Value} (h : w.ownsRow base e size v n xs) {k : Nat} (hk : k < base) : v.ownBlock ≠ some k := by
  intro e
  have := (h.lt k e).1
  omega
theorem B3.kept {W W1 : World} {r : Option Nat} {k : Nat} {a b c : Value} (h : B3 k a b c W) (hg : W.grownBy W1 r) (hk : r ≠ some k) : B3 k a b c W1 :=
  ⟨Nat.lt_of_lt_of_le h.lt hg.size, kept_at hg h.c0 hk, kept_at hg h.c1 hk, kept_at hg h.c2 hk, kept_fr hg h.c0 hk h.f0, kept_fr hg h.c1 hk h.f1, kept_fr hg h.c2 hk h.f2⟩
theorem B3.put0 {k : Nat} {a b c : Value} {W : World} (h : B3 k a b c W) (v : Value) : B3 k v b c (W.setCell ⟨k, 0, none⟩ v) := by
  obtain ⟨h0, h1, h2, h3, h4, h5, h6⟩ := h
  exact ⟨by rw [setZ]; exact h0, setS h1 _, (setO (by simp) _).trans h2, (setO (by simp) _).trans h3, by rw [World.frozen?_setCell]; exact h4, by rw [World.frozen?_setCell]; exact h5, by rw [World.frozen?_setCell]; exact h6⟩
theorem B3.put1 {k : Nat} {a b c : Value} {W : World} (h : B3 k a b c W) (v : Value) : B3 k a v c (W.setCell ⟨k, 1, none⟩ v) := by
  obtain ⟨h0, h1, h2, h3, h4, h5, h6⟩ := h
  exact ⟨by rw [setZ]; exact h0, (setO (by simp) _).trans h1, setS h2 _, (setO (by simp) _).trans h3, by rw [World.frozen?_setCell]; exact h4, by rw [World.frozen?_setCell]; exact h5, by rw [World.frozen?_setCell]; exact h6⟩
theorem B3.put2 {k : Nat} {a b c : Value} {W : World} (h : B3 k a b c W) (v : Value) : B3 k a b v (W.setCell ⟨k, 2, none⟩ v) := by
  obtain ⟨h0, h1, h2, h3, h4, h5, h6⟩ := h
  exact ⟨by rw [setZ]; exact h0, (setO (by simp) _).trans h1, (setO (by simp) _).trans h2, setS h3 _, by rw [World.frozen?_setCell]; exact h4, by rw [World.frozen?_setCell]; exact h5, by rw [World.frozen?_setCell]; exact h6⟩
/-- the box bk: what is left (so, sn), what is made (L, at vo) -/
structure PB (w : World) (bk : Nat) (so sn : Value) (L : List ByteArray) (vo : Value) (W : World) : Prop where
  box : B3 bk so sn vo W
  own : W.ownsRow (bk + 1) 9 1 vo L.length (flatC sc L)
  bel : Below w.heap.size w W
  low : w.heap.size ≤ bk
section
variable {w W W' : World} {bk : Nat} {so sn vo : Value} {L : List ByteArray}
theorem PB.next (h : PB w bk so sn L vo W) (hb : Below W.heap.size W W') : PB w bk so sn L vo W' := ⟨h.box.next hb, row_next h.own hb, bstep h.bel hb, h.low⟩
theorem PB.put0 (h : PB w bk so sn L vo W) (v : Value) : PB w bk v sn L vo (W.setCell ⟨bk, 0, none⟩ v) :=
  ⟨B3.put0 h.box v, ownsRow_setCell_below h.own (by show bk < bk + 1; omega) _, h.bel.setCell (p := ⟨bk, 0, none⟩) h.low _, h.low⟩
theorem PB.put1 (h : PB w bk so sn L vo W) (v : Value) : PB w bk so v L vo (W.setCell ⟨bk, 1, none⟩ v) :=
  ⟨B3.put1 h.box v, ownsRow_setCell_below h.own (by show bk < bk + 1; omega) _, h.bel.setCell (p := ⟨bk, 1, none⟩) h.low _, h.low⟩
theorem PB.app {v' : Value} {M : List ByteArray} {W1 : World} (h : PB w bk so sn L vo W) (hg : W.grownBy W1 vo.ownBlock) (hr : W1.ownsRow (bk + 1) 9 1 v' (L.length + M.length) (flatC sc L ++ flatC sc M)) : PB w bk so sn (L ++ M) v' (W1.setCell ⟨bk, 2, none⟩ v') := by
  have k0 := own_above h.own (k := bk) (by omega)
  refine ⟨B3.put2 (B3.kept h.box hg k0) v', ownsRow_setCell_below (by rw [List.length_append, flatC_append]; exact hr) (by show bk < bk + 1; omega) _, ?_, h.low⟩
  have : Below w.heap.size w W1 := h.bel.trans ⟨hg.os, hg.tape, hg.output, hg.size, fun b hb => hg.block b (Nat.lt_of_lt_of_le hb h.bel.size) (fun e => own_above h.own (k := b) (by have := h.low; omega) e.symm)⟩
  exact this.setCell (p := ⟨bk, 2, none⟩) h.low _
end
theorem step_append_own {P : Program} {w : World} {ops : Array Oper} {o : Oper} {a : Act} {K : Act → World → Prop} {Q : Exit → Act → World → Prop} {E : Prop} (hgd : o.guard = none) (s x : Operand) (t : TypeId)
    (ho : o.op = .call { callee := .builtin .append, args := #[s, x], argTypes := #[t, t] })
    (base : Nat) (e : TypeId) (i : TypeInfo) (z : Value) (size bytes : Nat) (ht : P.underlying t = some (.slice e)) (hi : P.info? e = some i) (hz : i.zero = some z)
    (hsize : i.size = size) (hby : i.bytes = bytes) (hzs : z.cells.size = size) (hsz : 0 < size)
    (v : Value) (n : Nat) (xs : List Value) (hs : a.eval s = v) (hown : w.ownsRow base e size v n xs)
    (ad : Addr) (m c : Nat) (news : List Value) (hx : a.eval x = .slice (some ad) m c) (hl : news.length = m * size) (hnews : ∀ j u, news[j]? = some u → w.cell? (ad.add j) = some u) (h1 : ∀ u ∈ news, u.oneCell' = true)
    (h63 : n + m ≤ maxLen) (hbytes : (n + m) * bytes ≤ 140737488355328) (hbase : base ≤ w.heap.size)
    (h : ∀ v' w', w'.ownsRow base e size v' (n + m) (xs ++ news) → w.grownBy w' v.ownBlock → K (a.put o.dst v') w') : if Region.wanted o (yielded ops a.tmps) = true then Oper.wp P o a w K Q else E := by
  rw [if_pos (by simp [Region.wanted, hgd])]
  exact wp_append_own w s x t ho base e i z size bytes ht hi hz hsize hby hzs hsz v n xs hs hown ad m c news hx hl hnews h1 h63 hbytes hbase fun v' w' h2 h3 _ => h v' w' h2 h3
/-- what is left of a list from the place i on, as a slice -/
structure Lf (w : World) (l : List ByteArray) (i : Nat) (v : Value) : Prop where
  is : ∃ a n c, v = .slice a n c ∧ StAt w a (l.drop i) ∧ n + i = l.length ∧ n ≤ c
/-- the world between two steps -/
structure PS (w : World) (x z : List ByteArray) (bk i k : Nat) (out : List ByteArray) (W : World) : Prop where
  is : ∃ so sn vo, PB w bk so sn out vo W ∧ Lf w x i so ∧ Lf w z k sn
theorem PS.next {w W W' : World} {x z out : List ByteArray} {bk i k : Nat} (h : PS w x z bk i k out W) (hb : Below W.heap.size W W') : PS w x z bk i k out W' := by
  obtain ⟨so, sn, vo, h1, h2, h3⟩ := h.is
  exact ⟨so, sn, vo, h1.next hb, h2, h3⟩
/-- c lines are taken off: where no room is left behind them, the slice stays at its place -/
theorem Lf.off {w : World} {l : List ByteArray} {i n c k : Nat} {g off : Nat} (h : StAt w (some ⟨g, off, none⟩) (l.drop i)) (hn : n + i = l.length) (hc : n ≤ c) (hk : k ≤ n) : Lf w l (i + k) (.slice (if c = k then some ⟨g, off, none⟩ else some ⟨g, off + k, none⟩) (n - k) (c - k)) := by
  refine ⟨_, _, _, rfl, ?_, by omega, by omega⟩
  by_cases e : c = k
  · have : l.drop (i + k) = [] := List.drop_of_length_le (by omega)
    rw [this]; exact SlAt.nil _ _
  · rw [if_neg e]
    have := SlAt.drop h k
    rw [List.drop_drop] at this
    simpa using this
end Go.Proofs.Ytokfnajgjhkepaa.DiffP

/-
  The marks of a script in memory: two rows of truths, and a row of slices of lines that are appended to. No function is named.
-/
namespace Go.Proofs.Ytokfnajgjhkepaa.MergeT
open Go.RowKit Kit LineM StrM EditM DiffM DiffA DiffR DiffP

theorem infoBool : (Try.prog.info? 4).map (fun i => (i.zero, i.size, i.bytes)) = some (some (.bool false), 1, 1) := by kernel_rfl
theorem infoStrs : (Try.prog.info? 22).map (fun i => (i.zero, i.size, i.bytes)) = some (some (.slice none 0 0), 1, 24) := by kernel_rfl
/-- a row of cells of one kind, in the block blk -/
structure CR (blk n : Nat) (c : Nat → Value) (W : World) : Prop where
  lt : blk < W.heap.size
  cell : ∀ i, i < n → W.cell? ⟨blk, i, none⟩ = some (c i)
  free : ∀ i, i < n → W.frozen? ⟨blk, i, none⟩ = false
section
variable {w W W' : World} {blk n : Nat} {c c' : Nat → Value}
theorem CR.next (h : CR blk n c W) (hb : Below W.heap.size W W') : CR blk n c W' := ⟨Nat.lt_of_lt_of_le h.lt hb.size, fun i hi => keep hb h.lt (h.cell i hi), fun i hi => (hb.frozen (p := ⟨blk, i, none⟩) h.lt).trans (h.free i hi)⟩
theorem CR.congr (h : CR blk n c W) (e : ∀ i, i < n → c i = c' i) : CR blk n c' W := ⟨h.lt, fun i hi => by rw [← e i hi]; exact h.cell i hi, h.free⟩
theorem CR.other (h : CR blk n c W) {k o : Nat} (hk : blk ≠ k) (v : Value) : CR blk n c (W.setCell ⟨k, o, none⟩ v) := ⟨by rw [setZ]; exact h.lt, fun i hi => (setO (.inl hk) _).trans (h.cell i hi), fun i hi => by rw [World.frozen?_setCell]; exact h.free i hi⟩
theorem CR.set (h : CR blk n c W) {i : Nat} (hi : i < n) (v : Value) : CR blk n (fun j => if j = i then v else c j) (W.setCell ⟨blk, i, none⟩ v) := by
  refine ⟨by rw [setZ]; exact h.lt, fun j hj => ?_, fun j hj => by rw [World.frozen?_setCell]; exact h.free j hj⟩
  by_cases e : j = i
  · subst e; rw [if_pos rfl]; exact setS (h.cell j hj) _
  · rw [if_neg e, setO (.inr e)]; exact h.cell j hj
theorem CR.made {base e cap : Nat} {z : Value} (hz : z.cells = #[z]) (h : W.ownsRow base e 1 (.slice (some ⟨blk, 0, none⟩) n cap) n (madeCells z.cells (n * 1)).toList) : CR blk n (fun _ => z) W := by
  refine ⟨(h.lt blk rfl).2, fun i hi => ?_, fun i _ => h.frozenAt i⟩
  rw [h.cellAt i (by omega)]
  simp [madeCells, hz, hi, Nat.mod_one]
theorem CR.kept (h : CR blk n c W) {r : Option Nat} (hg : W.grownBy W' r) (hr : r ≠ some blk) : CR blk n c W' :=
  ⟨Nat.lt_of_lt_of_le h.lt hg.size, fun i hi => kept_at hg (h.cell i hi) hr, fun i hi => kept_fr hg (h.cell i hi) hr (h.free i hi)⟩
end
/-- the marks T of a script, in three rows above w: touched gaps, dropped lines, lines that are put -/
structure TW (w : World) (gb ob pb n : Nat) (T : TS ByteArray) (vs : Nat → Value) (W : World) : Prop where
  bel : Below w.heap.size w W
  lo : w.heap.size ≤ gb
  go : gb < ob
  op : ob < pb
  gap : CR gb (n + 1) (fun i => .bool (T.gap i)) W
  gone : CR ob n (fun i => .bool (T.gone i)) W
  puts : CR pb (n + 1) vs W
  row : ∀ i, i < n + 1 → W.ownsRow (pb + 1) 9 1 (vs i) (T.puts i).length (flatC sc (T.puts i))
  off : ∀ i j, i < n + 1 → j < n + 1 → i ≠ j → ∀ b, (vs i).ownBlock = some b → (vs j).ownBlock ≠ some b
section
variable {w W W' : World} {gb ob pb n : Nat} {T T' : TS ByteArray} {vs : Nat → Value}
theorem TW.next (h : TW w gb ob pb n T vs W) (hb : Below W.heap.size W W') : TW w gb ob pb n T vs W' := ⟨bstep h.bel hb, h.lo, h.go, h.op, h.gap.next hb, h.gone.next hb, h.puts.next hb, fun i hi => row_next (h.row i hi) hb, h.off⟩
theorem TW.same (h : TW w gb ob pb n T vs W) (e1 : ∀ i, T'.gap i = T.gap i) (e2 : ∀ i, T'.gone i = T.gone i) (e3 : ∀ i, T'.puts i = T.puts i) : TW w gb ob pb n T' vs W :=
  ⟨h.bel, h.lo, h.go, h.op, h.gap.congr (fun i _ => by rw [e1]), h.gone.congr (fun i _ => by rw [e2]), h.puts, fun i hi => by rw [e3]; exact h.row i hi, h.off⟩
theorem TW.gapSet (h : TW w gb ob pb n T vs W) {i : Nat} (hi : i < n + 1) : TW w gb ob pb n { T with gap := fun j => if j = i then true else T.gap j } vs (W.setCell ⟨gb, i, none⟩ (.bool true)) := by
  have h1 := h.go
  have h2 := h.op
  have h3 := h.lo
  refine ⟨h.bel.setCell (p := ⟨gb, i, none⟩) h3 _, h3, h1, h2, (h.gap.set hi (.bool true)).congr (fun j _ => ?_), h.gone.other (by omega) _, h.puts.other (by omega) _, fun j hj => ownsRow_setCell_below (h.row j hj) (by show gb < pb + 1; omega) _, h.off⟩
  by_cases e : j = i
  · simp [e]
  · simp [e]
theorem TW.goneSet (h : TW w gb ob pb n T vs W) {i : Nat} (hi : i < n) : TW w gb ob pb n { T with gone := fun j => if j = i then true else T.gone j } vs (W.setCell ⟨ob, i, none⟩ (.bool true)) := by
  have h1 := h.go
  have h2 := h.op
  have h3 := h.lo
  refine ⟨h.bel.setCell (p := ⟨ob, i, none⟩) (by show w.heap.size ≤ ob; omega) _, h3, h1, h2, h.gap.other (by omega) _, (h.gone.set hi (.bool true)).congr (fun j _ => ?_), h.puts.other (by omega) _, fun j hj => ownsRow_setCell_below (h.row j hj) (by show ob < pb + 1; omega) _, h.off⟩
  by_cases e : j = i
  · simp [e]
  · simp [e]
theorem TW.push (h : TW w gb ob pb n T vs W) {i : Nat} (hi : i < n + 1) {s : ByteArray} {o : Obj} {W1 : World} {g cap : Nat}
    (hr : W1.ownsRow (pb + 1) 9 1 (.slice (some ⟨g, 0, none⟩) ((T.puts i).length + 1) cap) ((T.puts i).length + 1) (flatC sc (T.puts i) ++ [.string s])) (hg : (W.alloc o).grownBy W1 (vs i).ownBlock) (hloc : (vs i).ownBlock = some g ∨ g = (W.alloc o).heap.size) :
    (W1.cell? ⟨pb, i, none⟩ = some (vs i) ∧ W1.frozen? ⟨pb, i, none⟩ = false ∧ pb < W1.heap.size) ∧
    TW w gb ob pb n { T with puts := fun j => if j = i then T.puts i ++ [s] else T.puts j } (fun j => if j = i then .slice (some ⟨g, 0, none⟩) ((T.puts i).length + 1) cap else vs j) (W1.setCell ⟨pb, i, none⟩ (.slice (some ⟨g, 0, none⟩) ((T.puts i).length + 1) cap)) := by
  have h1 := h.go
  have h2 := h.op
  have h3 := h.lo
  have ha := balloc (Below.refl W.heap.size W) o
  have hA := h.next ha
  have k1 : (vs i).ownBlock ≠ some gb := own_above (h.row i hi) (by omega)
  have k2 : (vs i).ownBlock ≠ some ob := own_above (h.row i hi) (by omega)
  have k3 : (vs i).ownBlock ≠ some pb := own_above (h.row i hi) (by omega)
  have hp := hA.puts.kept hg k3
  refine ⟨⟨hp.cell i hi, hp.free i hi, hp.lt⟩, ?_⟩
  have hbW : Below w.heap.size w W1 := hA.bel.trans ⟨hg.os, hg.tape, hg.output, hg.size, fun b hb => hg.block b (Nat.lt_of_lt_of_le hb hA.bel.size) (fun e => own_above (h.row i hi) (k := b) (by omega) e.symm)⟩
  have hgl := (hr.lt g rfl).1
  have fresh : ∀ j, j < n + 1 → j ≠ i → (vs j).ownBlock ≠ some g := fun j hj hji e => by
    rcases hloc with e' | e'
    · exact h.off j i hj hi hji g e e'
    · have := ((hA.row j hj).lt g e).2
      omega
  refine ⟨hbW.setCell (p := ⟨pb, i, none⟩) (by show w.heap.size ≤ pb; omega) _, h3, h1, h2, (hA.gap.kept hg k1).other (by omega) _, (hA.gone.kept hg k2).other (by omega) _, hp.set hi _, fun j hj => ?_, fun j k hj hk hjk b hb => ?_⟩
  · by_cases e : j = i
    · dsimp only
      rw [if_pos e, if_pos e, List.length_append, flatC_append]
      exact ownsRow_setCell_below hr (by show pb < pb + 1; omega) _
    · dsimp only
      rw [if_neg e, if_neg e]
      refine ownsRow_setCell_below ?_ (by show pb < pb + 1; omega) _
      refine (hA.row j hj).kept hg ?_
      cases hv : (vs j).ownBlock with
      | none => exact .inl rfl
      | some b => exact .inr (fun e2 => h.off j i hj hi e b hv (by rw [e2]))
  · by_cases ej : j = i
    · rw [if_pos ej] at hb
      rw [if_neg (fun e => hjk (ej.trans e.symm))]
      have : g = b := by simpa [Value.ownBlock] using hb
      rw [← this]
      exact fresh k hk (fun e => hjk (ej.trans e.symm))
    · rw [if_neg ej] at hb
      by_cases ek : k = i
      · rw [if_pos ek]
        intro e
        have : g = b := by simpa [Value.ownBlock] using e
        exact fresh j hj ej (by rw [hb, this])
      · rw [if_neg ek]
        exact h.off j k hj hk hjk b hb
/-- what is put at a place, as it is read -/
theorem TW.read (h : TW w gb ob pb n T vs W) {i : Nat} (hi : i < n + 1) : SlV 1 sc W (vs i) (T.puts i) := SlV.of_owns sc_len (h.row i hi)
end
end Go.Proofs.Ytokfnajgjhkepaa.MergeT

/-
  The marks of a script in memory, beside the step that is being read. No function is named.
-/
namespace Go.Proofs.Ytokfnajgjhkepaa.MergeT
open Go.RowKit Kit LineM StrM EditM DiffM DiffA DiffR DiffP HistM

section
variable {α : Type}
/-- what is still to come of a script bounds where it stands -/
theorem next_bounds {base b : List α} {ks r : List Nat} {k : Nat} (h : Scr (ks ++ k :: r) base b) : ((k = 1 ∨ k = 2) → ks.count 1 + ks.count 2 < base.length) ∧ ((k = 1 ∨ k = 3) → used ks < b.length) ∧ ks.count 1 + ks.count 2 ≤ base.length ∧ used ks ≤ b.length := by
  have h1 := Scr.split h
  have h2 : Scr ((ks ++ [k]) ++ r) base b := by rw [List.append_assoc]; exact h
  have h3 := Scr.split h2
  have e1 : (ks ++ [k]).count 1 + (ks ++ [k]).count 2 = ks.count 1 + ks.count 2 + ([k].count 1 + [k].count 2) := by rw [List.count_append, List.count_append]; omega
  have e2 : used (ks ++ [k]) = used ks + used [k] := used_append _ _
  refine ⟨fun hk => ?_, fun hk => ?_, h1.2.1, h1.2.2⟩
  · have : [k].count 1 + [k].count 2 = 1 := by rcases hk with rfl | rfl <;> rfl
    have := h3.2.1
    omega
  · have : used [k] = 1 := by rcases hk with rfl | rfl <;> rfl
    have := h3.2.2
    omega
end
/-- since w4 only the three rows were written, and all that is put lies in new memory -/
structure TK (w4 : World) (gb ob pb n : Nat) (vs : Nat → Value) (W : World) : Prop where
  size : w4.heap.size ≤ W.heap.size
  blk : ∀ b, b < w4.heap.size → b ≠ gb → b ≠ ob → b ≠ pb → W.heap[b]? = w4.heap[b]?
  new : ∀ i, i < n + 1 → ∀ b, (vs i).ownBlock = some b → w4.heap.size ≤ b
section
variable {w4 W W' : World} {gb ob pb n : Nat} {vs : Nat → Value}
theorem setB {W : World} {k o b : Nat} (h : b ≠ k) (v : Value) : (W.setCell ⟨k, o, none⟩ v).heap[b]? = W.heap[b]? := by
  simp only [World.setCell]
  rw [Array.getElem?_modify]
  rw [if_neg (fun e => h e.symm)]
theorem TK.next (h : TK w4 gb ob pb n vs W) (hb : Below W.heap.size W W') : TK w4 gb ob pb n vs W' :=
  ⟨Nat.le_trans h.size hb.size, fun b h1 h2 h3 h4 => (hb.block b (Nat.lt_of_lt_of_le h1 h.size)).trans (h.blk b h1 h2 h3 h4), h.new⟩
theorem TK.set (h : TK w4 gb ob pb n vs W) {k o : Nat} (hk : k = gb ∨ k = ob ∨ k = pb) (v : Value) : TK w4 gb ob pb n vs (W.setCell ⟨k, o, none⟩ v) :=
  ⟨by rw [setZ]; exact h.size, fun b h1 h2 h3 h4 => by rw [setB (by rcases hk with e | e | e <;> rw [e] <;> assumption)]; exact h.blk b h1 h2 h3 h4, h.new⟩
theorem TK.grown (h : TK w4 gb ob pb n vs W) {i : Nat} (hi : i < n + 1) {o : Obj} {W1 : World} {g l cap : Nat} (hg : (W.alloc o).grownBy W1 (vs i).ownBlock) (hloc : (vs i).ownBlock = some g ∨ g = (W.alloc o).heap.size) : TK w4 gb ob pb n (fun j => if j = i then .slice (some ⟨g, 0, none⟩) l cap else vs j) W1 := by
  have ha := h.next (balloc (Below.refl _ W) o)
  refine ⟨Nat.le_trans ha.size hg.size, fun b h1 h2 h3 h4 => (hg.block b (Nat.lt_of_lt_of_le h1 ha.size) (fun e => ?_)).trans (ha.blk b h1 h2 h3 h4), fun j hj b hb => ?_⟩
  · have := h.new i hi b e.symm
    omega
  · by_cases e : j = i
    · rw [if_pos e] at hb
      have eg : g = b := by simpa [Value.ownBlock] using hb
      rcases hloc with e' | e'
      · rw [← eg]; exact h.new i hi g e'
      · have := ha.size; omega
    · rw [if_neg e] at hb; exact h.new j hj b hb
/-- steps that lay there still do -/
theorem TK.steps (h : TK w4 gb ob pb n vs W) {w3 : World} {R : List (Nat × Nat)} {v : Value} (hR : RO 2 pc w3 R v w4) (h1 : gb < w3.heap.size) (h2 : ob < w3.heap.size) (h3 : pb < w3.heap.size) {i : Nat} {p : Nat × Nat} (hi : R[i]? = some p) : ∃ g off cap, v = .slice (some ⟨g, off, none⟩) R.length cap ∧ W.cell? ⟨g, off + i * 2, none⟩ = some (.int .i64 (p.1 : Int)) ∧ W.cell? ⟨g, off + i * 2 + 1, none⟩ = some (.int .i64 (p.2 : Int)) := by
  obtain ⟨g, off, cap, e, hg, hlo, hc⟩ := RO.at_ pc_len hR hi
  have hb := h.blk g hg (by omega) (by omega) (by omega)
  refine ⟨g, off, cap, e, ?_, ?_⟩
  · rw [World.cell?_of_block (a := ⟨g, off + i * 2, none⟩) hb]
    exact (hc 0 (.int .i64 (p.1 : Int)) (by omega) rfl).1
  · rw [World.cell?_of_block (a := ⟨g, off + i * 2 + 1, none⟩) hb]
    exact (hc 1 (.int .i64 (p.2 : Int)) (by omega) rfl).1
end
/-- beside the marks: the step that is being read, in the block sk -/
structure TX (w : World) (gb ob pb n : Nat) (T : TS ByteArray) (vs : Nat → Value) (sk k c : Nat) (W : World) : Prop where
  tw : TW w gb ob pb n T vs W
  b0 : W.cell? ⟨sk, 0, none⟩ = some (.int .i64 (k : Int))
  b1 : W.cell? ⟨sk, 1, none⟩ = some (.int .i64 (c : Int))
  hi : pb < sk
  lt : sk < W.heap.size
  far : ∀ i, i < n + 1 → (vs i).ownBlock ≠ some sk
section
variable {w W W' : World} {gb ob pb n sk k c : Nat} {T T' : TS ByteArray} {vs : Nat → Value}
theorem TX.made (h : TW w gb ob pb n T vs W) (t : TypeId) : TX w gb ob pb n T vs W.heap.size k c (W.alloc (.cells #[.int .i64 (k : Int), .int .i64 (c : Int)] t)) := by
  have hb := B2.new W (.int .i64 (k : Int)) (.int .i64 (c : Int)) t
  exact ⟨h.next (balloc (Below.refl _ _) _), hb.c0, hb.c1, h.puts.lt, hb.lt, fun i hi e => by have := ((h.row i hi).lt _ e).2; omega⟩
theorem TX.same (h : TX w gb ob pb n T vs sk k c W) (e1 : ∀ i, T'.gap i = T.gap i) (e2 : ∀ i, T'.gone i = T.gone i) (e3 : ∀ i, T'.puts i = T.puts i) : TX w gb ob pb n T' vs sk k c W := ⟨h.tw.same e1 e2 e3, h.b0, h.b1, h.hi, h.lt, h.far⟩
theorem TX.gapSet (h : TX w gb ob pb n T vs sk k c W) {i : Nat} (hi : i < n + 1) : TX w gb ob pb n { T with gap := fun j => if j = i then true else T.gap j } vs sk k c (W.setCell ⟨gb, i, none⟩ (.bool true)) := by
  have h1 := h.tw.go
  have h2 := h.tw.op
  have h3 := h.hi
  exact ⟨h.tw.gapSet hi, (setO (.inl (by omega)) _).trans h.b0, (setO (.inl (by omega)) _).trans h.b1, h3, by rw [setZ]; exact h.lt, h.far⟩
theorem TX.goneSet (h : TX w gb ob pb n T vs sk k c W) {i : Nat} (hi : i < n) : TX w gb ob pb n { T with gone := fun j => if j = i then true else T.gone j } vs sk k c (W.setCell ⟨ob, i, none⟩ (.bool true)) := by
  have h1 := h.tw.go
  have h2 := h.tw.op
  have h3 := h.hi
  exact ⟨h.tw.goneSet hi, (setO (.inl (by omega)) _).trans h.b0, (setO (.inl (by omega)) _).trans h.b1, h3, by rw [setZ]; exact h.lt, h.far⟩
/-- a line is dropped -/
theorem TX.drop (h : TX w gb ob pb n T vs sk k c W) (b : List ByteArray) (hi : T.at_ < n) : TX w gb ob pb n (tstep b T 2) vs sk k c (((W.setCell ⟨ob, T.at_, none⟩ (.bool true)).setCell ⟨gb, T.at_, none⟩ (.bool true)).setCell ⟨gb, T.at_ + 1, none⟩ (.bool true)) := by
  have h1 := ((h.goneSet hi).gapSet (i := T.at_) (by omega)).gapSet (i := T.at_ + 1) (by omega)
  refine h1.same (fun i => ?_) (fun i => rfl) (fun i => rfl)
  show (if i = T.at_ ∨ i = T.at_ + 1 then true else T.gap i) = (if i = T.at_ + 1 then true else if i = T.at_ then true else T.gap i)
  by_cases e1 : i = T.at_
  · simp [e1]
  · by_cases e2 : i = T.at_ + 1
    · simp [e2]
    · simp [e1, e2]
/-- a line is put -/
theorem TX.take (h : TX w gb ob pb n T vs sk k c W) {b : List ByteArray} {y : ByteArray} (hy : b[T.to_]? = some y) (hi : T.at_ < n + 1) {o : Obj} {W1 : World} {g cap : Nat}
    (hr : W1.ownsRow (pb + 1) 9 1 (.slice (some ⟨g, 0, none⟩) ((T.puts T.at_).length + 1) cap) ((T.puts T.at_).length + 1) (flatC sc (T.puts T.at_) ++ [.string y])) (hg : ((W.setCell ⟨gb, T.at_, none⟩ (.bool true)).alloc o).grownBy W1 (vs T.at_).ownBlock) (hloc : (vs T.at_).ownBlock = some g ∨ g = ((W.setCell ⟨gb, T.at_, none⟩ (.bool true)).alloc o).heap.size) :
    (W1.cell? ⟨pb, T.at_, none⟩ = some (vs T.at_) ∧ W1.frozen? ⟨pb, T.at_, none⟩ = false ∧ pb < W1.heap.size) ∧
    TX w gb ob pb n (tstep b T 3) (fun j => if j = T.at_ then .slice (some ⟨g, 0, none⟩) ((T.puts T.at_).length + 1) cap else vs j) sk k c (W1.setCell ⟨pb, T.at_, none⟩ (.slice (some ⟨g, 0, none⟩) ((T.puts T.at_).length + 1) cap)) := by
  have h0 := h.gapSet (i := T.at_) hi
  obtain ⟨p1, p2⟩ := h0.tw.push hi hr hg hloc
  refine ⟨p1, ?_⟩
  have ha := balloc (Below.refl _ (W.setCell ⟨gb, T.at_, none⟩ (.bool true))) o
  have hk := h.far T.at_ hi
  have c0 := kept_at hg (keep ha h0.lt h0.b0) hk
  have c1 := kept_at hg (keep ha h0.lt h0.b1) hk
  have hpk := h.hi
  have hlt : sk < W1.heap.size := block_lt c0
  refine ⟨p2.same (fun i => ?_) (fun i => rfl) (fun i => ?_), (setO (.inl (by omega)) _).trans c0, (setO (.inl (by omega)) _).trans c1, hpk, by rw [setZ]; exact hlt, fun i hi2 e => ?_⟩
  · rfl
  · show (if i = T.at_ then T.puts i ++ (b[T.to_]?).toList else T.puts i) = (if i = T.at_ then T.puts T.at_ ++ [y] else T.puts i)
    by_cases e : i = T.at_
    · rw [if_pos e, if_pos e, hy, e]; rfl
    · rw [if_neg e, if_neg e]
  · by_cases e1 : i = T.at_
    · rw [if_pos e1] at e
      have eg : g = sk := by simpa [Value.ownBlock] using e
      rcases hloc with e' | e'
      · rw [eg] at e'; exact hk e'
      · have h5 := ha.size
        have h6 := h0.lt
        omega
    · rw [if_neg e1] at e
      exact h.far i hi2 e
end
end Go.Proofs.Ytokfnajgjhkepaa.MergeT

/-
  Steps of natural numbers, read; a part of a list of lines. No function is named.
-/
namespace Go.Proofs.Ytokfnajgjhkepaa.DiffA
open Go.RowKit Kit LineM StrM DiffM

theorem steps_sci {W : World} {a : Option Addr} {R : List (Nat × Nat)} (h : SlAt 2 pc W a R) : SlAt 2 sci W a (DiffM.steps R) := by
  refine ⟨fun i o hi => ?_⟩
  unfold DiffM.steps at hi
  rw [List.getElem?_map] at hi
  cases hr : R[i]? with
  | none => rw [hr] at hi; simp at hi
  | some p =>
    rw [hr] at hi
    simp at hi
    subst hi
    exact h.cell i p hr
theorem pc_get {w : World} {a : Option Addr} {l : List (Nat × Nat)} (h : SlAt 2 pc w a l) {i : Nat} {p : Nat × Nat} (hi : l[i]? = some p) : ∃ g off, a = some ⟨g, off, none⟩ ∧ g < w.heap.size ∧ w.cell? ⟨g, off + i * 2, none⟩ = some (.int .i64 (p.1 : Int)) ∧ w.cell? ⟨g, off + i * 2 + 1, none⟩ = some (.int .i64 (p.2 : Int)) := by
  obtain ⟨g, off, e, hg, hc⟩ := h.cell i p hi
  refine ⟨g, off, e, hg, ?_, ?_⟩
  · have := hc 0 (by omega)
    simpa [pc] using this
  · have := hc 1 (by omega)
    simpa [pc] using this
/-- a part of a list of lines, read at its place -/
theorem part_at {W : World} {g off c m k : Nat} {l : List ByteArray} (h : StAt W (some ⟨g, off, none⟩) l) (hg : g < W.heap.size) (hk : m + k ≤ l.length) (hc : l.length ≤ c) : SlV 1 sc W (.slice (some ⟨g, off + m, none⟩) k (c - m)) ((l.drop m).take k) := by
  have hlen : ((l.drop m).take k).length = k := by rw [List.length_take, List.length_drop]; omega
  refine ⟨_, _, by rw [hlen], by rw [hlen]; omega, ?_, .inr ⟨g, off + m, rfl, hg⟩⟩
  have := SlAt.take (SlAt.drop h m) k
  simpa using this
end Go.Proofs.Ytokfnajgjhkepaa.DiffA

/-
  append(own.., l...) of lines of the call's own. No function is named.
-/
namespace Go.Proofs.Ytokfnajgjhkepaa.DiffK
open Go.RowKit Kit LineM StrM DiffR

theorem wpList_appendSK (w0 W : World) {ops : Array Oper} {rest : List Oper} {o : Oper} {a : Act} {Q : Exit → Act → World → Prop} (hgd : o.guard = none)
    (s x : Operand) (ho : o.op = .call { callee := .builtin .append, args := #[s, x], argTypes := #[22, 22] })
    (v : Value) (L : List ByteArray) (hs : a.eval s = v) (hv : SK w0 L v W) (vx : Value) (l : List ByteArray) (hx : a.eval x = vx) (hl : SlV 1 sc W vx l) (hlen : L.length + l.length ≤ 1000000)
    (h : ∀ v' W', SK w0 (L ++ l) v' W' → wpList Try.prog ops Q rest (a.put o.dst v') W') : wpList Try.prog ops Q (o :: rest) a W := by
  obtain ⟨i0, hi, hz0, hz1, hz2⟩ := info_parts infoStr
  obtain ⟨al, cap, rfl, hle, ha, hd⟩ := hl
  rcases hd with ⟨rfl, rfl, rfl⟩ | ⟨g, off, rfl, _⟩
  · refine wpList_append_own_none hgd s x 22 ho w0.heap.size 9 i0 1 Try.underlying22 hi v L.length (flatC sc L) hs hv.row hx (h _ _ ?_)
    rw [List.append_nil]; exact hv
  · refine wpList_append_own W hgd s x 22 ho w0.heap.size 9 i0 (.string ⟨#[]⟩) 1 16 Try.underlying22 hi hz0 hz1 hz2 rfl (by omega) v L.length (flatC sc L) hs hv.row ⟨g, off, none⟩ l.length cap (flatC sc l) hx (flatC_length sc_len l) (SlAt.cells_at sc_len (by omega) ha) (flatC_all (by intro s u hu; simp [sc] at hu; subst hu; rfl) l) (by unfold maxLen; omega) (by omega) hv.bel.size ?_
    intro v' w' hown hgrow _
    exact h v' w' ⟨by rw [List.length_append, flatC_append]; exact hown, bgrow hv.bel hv.row hgrow⟩
theorem lit_one (w : World) (s : ByteArray) : SlV 1 sc (w.alloc (.cells #[.string s] 9)) (.slice (some ⟨w.heap.size, 0, none⟩) 1 1) [s] := by
  refine ⟨_, _, rfl, by simp, ⟨fun i x hi => ⟨w.heap.size, 0, rfl, by simp, fun j hj => ?_⟩⟩, .inr ⟨w.heap.size, 0, rfl, by simp⟩⟩
  obtain rfl : j = 0 := by omega
  match i, hi with
  | 0, hi => simp at hi; subst hi; simp [sc]
end Go.Proofs.Ytokfnajgjhkepaa.DiffK

/-
  append(own.., l...) where other rows of the call's own must stay. No function is named.
-/
namespace Go.Proofs.Ytokfnajgjhkepaa.DiffK
open Go.RowKit Kit LineM StrM DiffR

/-- lines of the call's own since w6; what was made between H and w8 lies elsewhere, and stays -/
structure Ot (w6 w8 : World) (H : Nat) (L : List ByteArray) (v : Value) (W : World) : Prop where
  sk : SK w6 L v W
  far : ∀ b, v.ownBlock = some b → b < H ∨ w8.heap.size ≤ b
  size : w8.heap.size ≤ W.heap.size
  mid : ∀ b, H ≤ b → b < w8.heap.size → W.heap[b]? = w8.heap[b]?
theorem Ot.next {w6 w8 W W' : World} {H : Nat} {L : List ByteArray} {v : Value} (h : Ot w6 w8 H L v W) (hb : Below W.heap.size W W') : Ot w6 w8 H L v W' :=
  ⟨h.sk.next hb, h.far, Nat.le_trans h.size hb.size, fun b h1 h2 => (hb.block b (Nat.lt_of_lt_of_le h2 h.size)).trans (h.mid b h1 h2)⟩
theorem Ot.read {w6 w8 wq W : World} {L X : List ByteArray} {v vx : Value} (h : Ot w6 w8 wq.heap.size L v W) (hX : SK wq X vx w8) : SlV 1 sc W vx X := by
  refine SlV.of_owns (base := wq.heap.size) (e := 9) sc_len ⟨hX.row.1, ?_⟩
  rcases hX.row.2 with h0 | ⟨g, cap, cur, e1, e2, e3, e4⟩
  · exact .inl h0
  · exact .inr ⟨g, cap, cur, e1, e2, by rw [h.mid g e2 (by have := (hX.row.lt g (by rw [e1]; rfl)).2; exact this)]; exact e3, e4⟩
theorem wpList_appendOt (w6 w8 : World) (H : Nat) (W : World) {ops : Array Oper} {rest : List Oper} {o : Oper} {a : Act} {Q : Exit → Act → World → Prop} (hgd : o.guard = none)
    (s x : Operand) (ho : o.op = .call { callee := .builtin .append, args := #[s, x], argTypes := #[22, 22] })
    (v : Value) (L : List ByteArray) (hs : a.eval s = v) (hv : Ot w6 w8 H L v W) (vx : Value) (l : List ByteArray) (hx : a.eval x = vx) (hl : SlV 1 sc W vx l) (hlen : L.length + l.length ≤ 1000000)
    (h : ∀ v' W', Ot w6 w8 H (L ++ l) v' W' → wpList Try.prog ops Q rest (a.put o.dst v') W') : wpList Try.prog ops Q (o :: rest) a W := by
  obtain ⟨i0, hi, hz0, hz1, hz2⟩ := info_parts infoStr
  obtain ⟨al, cap, rfl, hle, ha, hd⟩ := hl
  by_cases hnil : l = []
  · subst hnil
    rw [List.length_nil] at hx
    have hsrc : Src Try.prog i0.size 22 (.slice al 0 cap) 0 [] W := by
      rcases hd with ⟨rfl, rfl, _⟩ | ⟨g, off, rfl, _⟩
      · exact Src.ofNil W Try.underlying22 _
      · exact Src.ofSlice W Try.underlying22 ⟨g, off, none⟩ 0 cap [] (by simp) (fun j u hj => by simp at hj) (by simp)
    obtain ⟨ba, nl, nc, rfl, hlc⟩ : ∃ b n c, v = .slice b n c ∧ n ≤ c := by
      rcases hv.sk.row.2 with ⟨e, _⟩ | ⟨g, c, cur, e, _, _, hc, _⟩
      · exact ⟨none, 0, 0, e, Nat.le_refl _⟩
      · exact ⟨_, _, _, e, hc⟩
    have hrun := run_append_nothing (P := Try.prog) W 22 22 o.type 9 i0 Try.underlying22 hi ba nl nc hlc _ hsrc
    refine wpList_plain hgd fun K hK => ?_
    unfold Oper.wp
    simp [execOp, ho, resolve, invoke, builtin, hs, hx, hrun, Result.andThen]
    exact hK _ _ (h _ _ (by rw [List.append_nil]; exact hv))
  · have hpos : 0 < l.length := List.length_pos_iff.2 hnil
    rcases hd with ⟨_, _, e⟩ | ⟨g, off, rfl, _⟩
    · exact absurd e hnil
    · refine wpList_append_lies W hgd s x 22 ho w6.heap.size 9 i0 (.string ⟨#[]⟩) 1 16 Try.underlying22 hi hz0 hz1 hz2 rfl (by omega) v L.length (flatC sc L) hs hv.sk.row ⟨g, off, none⟩ l.length cap (flatC sc l) hx (flatC_length sc_len l) (SlAt.cells_at sc_len (by omega) ha) (flatC_all (by intro s u hu; simp [sc] at hu; subst hu; rfl) l) hpos (by unfold maxLen; omega) (by omega) hv.sk.bel.size _ rfl ?_
      intro g1 cap1 w' hown hgrow hat hlt
      refine h _ w' ⟨⟨by rw [List.length_append, flatC_append]; exact hown, bgrow hv.sk.bel hv.sk.row hgrow⟩, fun b hb => ?_, Nat.le_trans hv.size hgrow.size, fun b h1 h2 => ?_⟩
      · have eb : g1 = b := by simpa [Value.ownBlock] using hb
        rcases hat with e | e
        · rw [← eb]; exact hv.far g1 e
        · right; have := hv.size; omega
      · refine (hgrow.block b (Nat.lt_of_lt_of_le h2 hv.size) (fun e => ?_)).trans (hv.mid b h1 h2)
        have := hv.far b e.symm
        omega
end Go.Proofs.Ytokfnajgjhkepaa.DiffK
