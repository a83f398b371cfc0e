/-
  Rows that lie at any offset of a block of the call's own, appended to, cut, written; boxes of four cells. No program is named.
-/
import Derived.Test.YtcknmaimkodaeaaSl
import Derived.Test.YtcknmaimkodaeaaBoxes
import Derived.ArgAppend
import Derived.Deep.Upon
import Derived.Deep.AppendLies
namespace Go.Proofs.Ytcknmaimkodaeaa.HistM
open Go.RowKit Kit

/-- the slice v has n elements, the cells xs; it may be written and appended to -/
structure RX (size : Nat) (w : World) (v : Value) (n : Nat) (xs : List Value) : Prop where
  len : xs.length = n * size
  is : (v = .slice none 0 0 ∧ n = 0) ∨ ∃ g off cap, v = .slice (some ⟨g, off, none⟩) n cap ∧ n ≤ cap ∧ cap ≤ maxLen ∧ g < w.heap.size ∧ (∀ j u, xs[j]? = some u → w.cell? ⟨g, off + j, none⟩ = some u) ∧ ∀ j, j < cap * size → (w.cell? ⟨g, off + j, none⟩).isSome = true ∧ w.frozen? ⟨g, off + j, none⟩ = false
section
variable {size : Nat} {w w' : World} {v : Value} {n : Nat} {xs : List Value}
theorem RX.nil (size : Nat) (w : World) : RX size w (.slice none 0 0) 0 [] := ⟨by simp, .inl ⟨rfl, rfl⟩⟩
theorem RX.form (h : RX size w v n xs) : ∃ a cap, v = .slice a n cap := by
  rcases h.is with ⟨rfl, rfl⟩ | ⟨g, off, cap, rfl, _⟩
  · exact ⟨_, _, rfl⟩
  · exact ⟨_, _, rfl⟩
theorem RX.pos (h : RX size w v n xs) (hn : 0 < n) : ∃ g off cap, v = .slice (some ⟨g, off, none⟩) n cap ∧ n ≤ cap ∧ cap ≤ maxLen ∧ g < w.heap.size ∧ (∀ j u, xs[j]? = some u → w.cell? ⟨g, off + j, none⟩ = some u) ∧ ∀ j, j < cap * size → (w.cell? ⟨g, off + j, none⟩).isSome = true ∧ w.frozen? ⟨g, off + j, none⟩ = false := by
  rcases h.is with ⟨_, h0⟩ | h
  · omega
  · exact h
theorem RX.kept (h : RX size w v n xs) (hs : w.heap.size ≤ w'.heap.size) (hb : ∀ g, v.ownBlock = some g → w'.heap[g]? = w.heap[g]?) : RX size w' v n xs := by
  refine ⟨h.len, h.is.imp id ?_⟩
  rintro ⟨g, off, cap, rfl, h1, h2, h3, h4, h5⟩
  have e := hb g rfl
  refine ⟨g, off, cap, rfl, h1, h2, Nat.lt_of_lt_of_le h3 hs, fun j u hj => ?_, fun j hj => ⟨?_, ?_⟩⟩
  · rw [World.cell?_of_block (a := ⟨g, off + j, none⟩) e]; exact h4 j u hj
  · rw [World.cell?_of_block (a := ⟨g, off + j, none⟩) e]; exact (h5 j hj).1
  · rw [World.frozen?_of_block (a := ⟨g, off + j, none⟩) e]; exact (h5 j hj).2
theorem RX.lt (h : RX size w v n xs) {g : Nat} (hg : v.ownBlock = some g) : g < w.heap.size := by
  rcases h.is with ⟨rfl, _⟩ | ⟨g', off, cap, rfl, _, _, h3, _⟩
  · cases hg
  · simp [Value.ownBlock] at hg; omega
theorem RX.of_owns {base e : Nat} (h : w.ownsRow base e size v n xs) : RX size w v n xs := by
  refine ⟨h.1, ?_⟩
  rcases h.2 with ⟨rfl, rfl⟩ | ⟨g, cap, cur, rfl, hb, hg, hle, hm, hs, ht⟩
  · exact .inl ⟨rfl, rfl⟩
  · refine .inr ⟨g, 0, cap, rfl, hle, hm, (h.lt g rfl).2, fun j u hj => ?_, fun j hj => ⟨?_, ?_⟩⟩
    · have := h.cells (g := g) rfl j u hj
      rw [add_of rfl] at this
      exact this
    · rw [Nat.zero_add, cell_of_row w g j cur e (0, 0) hg]
      simp [hs, hj]
    · rw [Nat.zero_add]; exact h.frozenAt _
theorem setCells_facts (b : Nat) : ∀ (vs : List Value) (o : Nat) (w : World), (w.setCells b o vs).os = w.os ∧ (w.setCells b o vs).tape = w.tape ∧ (w.setCells b o vs).output = w.output ∧ (w.setCells b o vs).heap.size = w.heap.size
  | [], _, _ => ⟨rfl, rfl, rfl, rfl⟩
  | v :: r, o, w => by
    obtain ⟨h1, h2, h3, h4⟩ := setCells_facts b r (o + 1) (w.setCell ⟨b, o, none⟩ v)
    exact ⟨h1, h2, h3, h4.trans (by simp [World.setCell])⟩
/-- one element is appended -/
theorem run_append_rx {P : Program} (w : World) (t ty e : TypeId) (i : TypeInfo) (z : Value) (size bytes : Nat) (ht : P.underlying t = some (.slice e)) (hi : P.info? e = some i) (hz : i.zero = some z)
    (hsize : i.size = size) (hby : i.bytes = bytes) (hzs : z.cells.size = size) (hsz : 0 < size)
    (v : Value) (n : Nat) (xs : List Value) (hown : RX size w v n xs)
    (ad : Addr) (c : Nat) (news : List Value) (hl : news.length = size) (hnews : ∀ j u, news[j]? = some u → w.cell? (ad.add j) = some u) (h1 : ∀ u ∈ news, u.oneCell' = true)
    (h63 : n + 1 ≤ maxLen) (hbytes : (n + 1) * bytes ≤ 140737488355328) :
    ∃ v' w', (Builtin.append_ #[t, t] ty #[v, .slice (some ad) 1 c]).run P w = .ok v' w' ∧ RX size w' v' (n + 1) (xs ++ news) ∧ w.grownBy w' v.ownBlock ∧ ∃ g, v'.ownBlock = some g ∧ (v.ownBlock = some g ∨ (w.heap.size ≤ g ∧ g < w'.heap.size)) := by
  have hl1 : news.length = 1 * size := by rw [Nat.one_mul]; exact hl
  have fin : ∀ (v' : Value) (w' : World), w'.ownsRow w.heap.size e size v' (n + 1) (xs ++ news) → RX size w' v' (n + 1) (xs ++ news) ∧ ∃ g, v'.ownBlock = some g ∧ (v.ownBlock = some g ∨ (w.heap.size ≤ g ∧ g < w'.heap.size)) := by
    intro v' w' h
    refine ⟨RX.of_owns h, ?_⟩
    obtain ⟨g, cap, rfl, hb, hlt⟩ := h.form (by omega)
    exact ⟨g, rfl, .inr ⟨hb, hlt⟩⟩
  rcases hown.is with ⟨rfl, rfl⟩ | ⟨g, off, cap, rfl, hle, hm, hlt, hcs, hsp⟩
  · obtain rfl : xs = [] := List.eq_nil_of_length_eq_zero (by simpa using hown.len)
    obtain ⟨v', w', hrun, r1, r2, _⟩ := run_append_own (P := P) w w.heap.size t ty e i z size bytes ht hi hz hsize hby hzs hsz (.slice none 0 0) 0 [] (World.ownsRow_nil w _ e size) ad 1 c news hl1 hnews h1 h63 hbytes (Nat.le_refl _)
    exact ⟨v', w', hrun, (fin v' w' r1).1, r2, (fin v' w' r1).2⟩
  · by_cases hroom : n + 1 ≤ cap
    · have hfit : ∀ j, j < news.length → n * size + j < cap * size := by
        intro j hj
        have := Nat.mul_le_mul_right size hroom
        rw [Nat.succ_mul] at this; omega
      have hc : ∀ j, j < news.length → (w.cell? ⟨g, off + n * i.size + j, none⟩).isSome = true := fun j hj => by rw [hsize, Nat.add_assoc]; exact (hsp _ (hfit j hj)).1
      have hrun := run_append_room_cells (P := P) w t ty e i ht hi g off n cap ad 1 c news (by rw [hsize]; exact hl1) hnews h1 hroom hc (fun j hj => by rw [hsize, Nat.add_assoc]; exact (hsp _ (hfit j hj)).2)
      obtain ⟨q1, q2, q3, q4⟩ := setCells_facts g news (off + n * i.size) w
      refine ⟨_, _, hrun, ⟨by rw [List.length_append, hown.len, hl, Nat.succ_mul], .inr ⟨g, off, cap, rfl, hroom, hm, by rw [q4]; exact hlt, fun j u hj => ?_, fun j hj => ⟨?_, ?_⟩⟩⟩, ⟨q1, q2, q3, by rw [q4]; exact Nat.le_refl _, fun k hk hne => World.heap_setCells_other w g _ news hk (fun e => hne (by rw [e]; rfl))⟩, g, rfl, .inl rfl⟩
      · by_cases hjo : j < xs.length
        · rw [List.getElem?_append_left hjo] at hj
          rw [World.cell?_setCells_out g _ _ _ _ (fun _ _ => Or.inl (by show off + j < off + n * i.size; have := hown.len; rw [hsize]; omega))]
          exact hcs j u hj
        · rw [List.getElem?_append_right (by omega)] at hj
          have hj' := (List.getElem?_eq_some_iff.1 hj).1
          have := World.cell?_setCells_in g news (off + n * i.size) w hc (j - xs.length) hj'
          rw [show off + j = off + n * i.size + (j - xs.length) by have := hown.len; rw [hsize]; omega, this]
          exact congrArg some ((List.getElem?_eq_some_iff.1 hj).2)
      · by_cases hjin : n * size ≤ j ∧ j < n * size + news.length
        · have := World.cell?_setCells_in g news (off + n * i.size) w hc (j - n * size) (by omega)
          rw [show off + j = off + n * i.size + (j - n * size) by rw [hsize]; omega, this]; rfl
        · rw [World.cell?_setCells_out g _ _ _ _ (fun _ _ => by show off + j < off + n * i.size ∨ off + n * i.size + news.length ≤ off + j; rw [hsize]; omega)]
          exact (hsp j hj).1
      · rw [World.frozen?_setCells]; exact (hsp j hj).2
    · obtain ⟨v', w', hrun, r1, r2⟩ := run_append_arg_grows (P := P) w t ty e i z size bytes ht hi hz hsize hby hzs hsz ⟨g, off, none⟩ n cap xs hown.len (fun j u hj => by rw [add_of rfl]; exact hcs j u hj) ad 1 c news hl1 hnews (by omega) h63 hbytes
      exact ⟨v', w', hrun, (fin v' w' r1).1, ⟨r2.os, r2.tape, r2.output, r2.size, fun k hk _ => r2.block k hk (by simp)⟩, (fin v' w' r1).2⟩
theorem wp_append_rx {P : Program} (w : World) {o : Oper} {a : Act} {K : Act → World → Prop} {Q : Exit → Act → World → Prop} (s x : Operand) (t : TypeId)
    (ho : o.op = .call { callee := .builtin .append, args := #[s, x], argTypes := #[t, t] })
    (e : TypeId) (i : TypeInfo) (z : Value) (size bytes : Nat) (ht : P.underlying t = some (.slice e)) (hi : P.info? e = some i) (hz : i.zero = some z)
    (hsize : i.size = size) (hby : i.bytes = bytes) (hzs : z.cells.size = size) (hsz : 0 < size)
    (v : Value) (n : Nat) (xs : List Value) (hs : a.eval s = v) (hown : RX size w v n xs)
    (ad : Addr) (c : Nat) (news : List Value) (hx : a.eval x = .slice (some ad) 1 c) (hl : news.length = size) (hnews : ∀ j u, news[j]? = some u → w.cell? (ad.add j) = some u) (h1 : ∀ u ∈ news, u.oneCell' = true)
    (h63 : n + 1 ≤ maxLen) (hbytes : (n + 1) * bytes ≤ 140737488355328)
    (h : ∀ a' cap' w', RX size w' (.slice a' (n + 1) cap') (n + 1) (xs ++ news) → w.grownBy w' v.ownBlock → (∃ g, (Value.slice a' (n + 1) cap').ownBlock = some g ∧ (v.ownBlock = some g ∨ (w.heap.size ≤ g ∧ g < w'.heap.size))) → K (a.put o.dst (.slice a' (n + 1) cap')) w') : o.wp P a w K Q := by
  obtain ⟨v', w', hr, h2, h3, h4⟩ := run_append_rx (P := P) w t o.type e i z size bytes ht hi hz hsize hby hzs hsz v n xs hown ad c news hl hnews h1 h63 hbytes
  obtain ⟨a', cap', rfl⟩ := h2.form
  unfold Oper.wp execOp
  simp only [ho, resolve, invoke, builtin, Sem.run_bind, Sem.run_pure, Result.andThen_ok, List.map_toArray, List.map_cons, List.map_nil, hs, hx, hr]
  exact h a' cap' w' h2 h3 h4
theorem wpList_append_rx {P : Program} (w : World) {ops : Array Oper} {rest : List Oper} {o : Oper} {a : Act} {Q : Exit → Act → World → Prop} (hgd : o.guard = none) (s x : Operand) (t : TypeId)
    (ho : o.op = .call { callee := .builtin .append, args := #[s, x], argTypes := #[t, t] })
    (e : TypeId) (i : TypeInfo) (z : Value) (size bytes : Nat) (ht : P.underlying t = some (.slice e)) (hi : P.info? e = some i) (hz : i.zero = some z)
    (hsize : i.size = size) (hby : i.bytes = bytes) (hzs : z.cells.size = size) (hsz : 0 < size)
    (v : Value) (n : Nat) (xs : List Value) (hs : a.eval s = v) (hown : RX size w v n xs)
    (ad : Addr) (c : Nat) (news : List Value) (hx : a.eval x = .slice (some ad) 1 c) (hl : news.length = size) (hnews : ∀ j u, news[j]? = some u → w.cell? (ad.add j) = some u) (h1 : ∀ u ∈ news, u.oneCell' = true)
    (h63 : n + 1 ≤ maxLen) (hbytes : (n + 1) * bytes ≤ 140737488355328)
    (h : ∀ a' cap' w', RX size w' (.slice a' (n + 1) cap') (n + 1) (xs ++ news) → w.grownBy w' v.ownBlock → (∃ g, (Value.slice a' (n + 1) cap').ownBlock = some g ∧ (v.ownBlock = some g ∨ (w.heap.size ≤ g ∧ g < w'.heap.size))) → wpList P ops Q rest (a.put o.dst (.slice a' (n + 1) cap')) w') : wpList P ops Q (o :: rest) a w :=
  wpList_plain hgd fun _ hK => wp_append_rx w s x t ho e i z size bytes ht hi hz hsize hby hzs hsz v n xs hs hown ad c news hx hl hnews h1 h63 hbytes fun a' c' w' h2 h3 h4 => hK _ _ (h a' c' w' h2 h3 h4)
theorem step_append_rx {P : Program} (w : World) {ops : Array Oper} {o : Oper} {a : Act} {K : Act → World → Prop} {Q : Exit → Act → World → Prop} {E : Prop} (hgd : o.guard = none) (s x : Operand) (t : TypeId)
    (ho : o.op = .call { callee := .builtin .append, args := #[s, x], argTypes := #[t, t] })
    (e : TypeId) (i : TypeInfo) (z : Value) (size bytes : Nat) (ht : P.underlying t = some (.slice e)) (hi : P.info? e = some i) (hz : i.zero = some z)
    (hsize : i.size = size) (hby : i.bytes = bytes) (hzs : z.cells.size = size) (hsz : 0 < size)
    (v : Value) (n : Nat) (xs : List Value) (hs : a.eval s = v) (hown : RX size w v n xs)
    (ad : Addr) (c : Nat) (news : List Value) (hx : a.eval x = .slice (some ad) 1 c) (hl : news.length = size) (hnews : ∀ j u, news[j]? = some u → w.cell? (ad.add j) = some u) (h1 : ∀ u ∈ news, u.oneCell' = true)
    (h63 : n + 1 ≤ maxLen) (hbytes : (n + 1) * bytes ≤ 140737488355328)
    (h : ∀ a' cap' w', RX size w' (.slice a' (n + 1) cap') (n + 1) (xs ++ news) → w.grownBy w' v.ownBlock → (∃ g, (Value.slice a' (n + 1) cap').ownBlock = some g ∧ (v.ownBlock = some g ∨ (w.heap.size ≤ g ∧ g < w'.heap.size))) → K (a.put o.dst (.slice a' (n + 1) cap')) w') :
    if Region.wanted o (yielded ops a.tmps) = true then Oper.wp P o a w K Q else E := by
  have hw : Region.wanted o (yielded ops a.tmps) = true := by simp [Region.wanted, hgd]
  rw [if_pos hw]
  exact wp_append_rx w s x t ho e i z size bytes ht hi hz hsize hby hzs hsz v n xs hs hown ad c news hx hl hnews h1 h63 hbytes h

/-- its first m elements -/
theorem RX.head {a : Option Addr} {cap m : Nat} (h : RX size w (.slice a n cap) n xs) (hm : m ≤ n) : RX size w (.slice a m cap) m (xs.take (m * size)) := by
  have hle := Nat.mul_le_mul_right size hm
  refine ⟨by rw [List.length_take, h.len]; omega, ?_⟩
  rcases h.is with ⟨e, rfl⟩ | ⟨g, off, cap', e, h1, h2, h3, h4, h5⟩
  · cases e; obtain rfl : m = 0 := by omega
    exact .inl ⟨rfl, rfl⟩
  · cases e
    refine .inr ⟨g, off, cap, rfl, by omega, h2, h3, fun j u hj => h4 j u ?_, h5⟩
    rw [List.getElem?_take] at hj
    split at hj
    · exact hj
    · cases hj
/-- without its first element -/
theorem RX.rest {g off cap : Nat} (h : RX size w (.slice (some ⟨g, off, none⟩) (n + 1) cap) (n + 1) xs) : RX size w (.slice (some ⟨g, off + size, none⟩) n (cap - 1)) n (xs.drop size) := by
  refine ⟨by rw [List.length_drop, h.len, Nat.succ_mul]; omega, ?_⟩
  rcases h.is with ⟨e, _⟩ | ⟨g, off, cap', e, h1, h2, h3, h4, h5⟩
  · cases e
  · cases e
    refine .inr ⟨g, off + size, cap - 1, rfl, by omega, by omega, h3, fun j u hj => ?_, fun j hj => ?_⟩
    · rw [Nat.add_assoc]; refine h4 _ _ ?_
      rw [List.getElem?_drop] at hj; exact hj
    · rw [Nat.add_assoc]; refine h5 _ ?_
      have : size + (cap - 1) * size = cap * size := by rw [Nat.add_comm, ← Nat.succ_mul]; congr 1; omega
      omega
/-- one cell is written -/
theorem RX.set {g off cap : Nat} (h : RX size w (.slice (some ⟨g, off, none⟩) n cap) n xs) (m : Nat) (u : Value) (hm : m < n * size) : RX size (w.setCell ⟨g, off + m, none⟩ u) (.slice (some ⟨g, off, none⟩) n cap) n (xs.set m u) := by
  have hl := h.len
  refine ⟨by rw [List.length_set]; exact hl, ?_⟩
  rcases h.is with ⟨e, _⟩ | ⟨g, off, cap', e, h1, h2, h3, h4, h5⟩
  · cases e
  · cases e
    have hc := (h5 m (by have := Nat.mul_le_mul_right size h1; omega)).1
    obtain ⟨u0, hu0⟩ := Option.isSome_iff_exists.1 hc
    refine .inr ⟨g, off, cap, rfl, h1, h2, by simpa [World.setCell] using h3, fun j x hj => ?_, fun j hj => ⟨?_, by rw [World.frozen?_setCell]; exact (h5 j hj).2⟩⟩
    · by_cases e : j = m
      · subst e
        rw [List.getElem?_set_self (by omega)] at hj
        cases hj
        exact World.cell?_setCell_same _ _ _ hu0
      · rw [List.getElem?_set_ne (by omega)] at hj
        rw [World.cell?_setCell_other _ _ _ _ (fun e' => by injection e' with _ e2; omega)]
        exact h4 j x hj
    · by_cases e : j = m
      · subst e
        rw [World.cell?_setCell_same _ _ _ hu0]; rfl
      · rw [World.cell?_setCell_other _ _ _ _ (fun e' => by injection e' with _ e2; omega)]
        exact (h5 j hj).1
end

/-- a box of four cells that may be written -/
structure B4 (k : Nat) (a b c d : Value) (W : World) : Prop where
  lt : k < W.heap.size
  c0 : W.cell? ⟨k, 0, none⟩ = some a
  c1 : W.cell? ⟨k, 1, none⟩ = some b
  c2 : W.cell? ⟨k, 2, none⟩ = some c
  c3 : W.cell? ⟨k, 3, none⟩ = some d
  fr : ∀ j, W.frozen? ⟨k, j, none⟩ = false
theorem B4.kept {k : Nat} {a b c d : Value} {W W' : World} (h : B4 k a b c d W) (hs : W.heap.size ≤ W'.heap.size) (e : W'.heap[k]? = W.heap[k]?) : B4 k a b c d W' :=
  ⟨Nat.lt_of_lt_of_le h.lt hs, (World.cell?_of_block (a := ⟨k, 0, none⟩) e).trans h.c0, (World.cell?_of_block (a := ⟨k, 1, none⟩) e).trans h.c1, (World.cell?_of_block (a := ⟨k, 2, none⟩) e).trans h.c2, (World.cell?_of_block (a := ⟨k, 3, none⟩) e).trans h.c3, fun j => (World.frozen?_of_block (a := ⟨k, j, none⟩) e).trans (h.fr j)⟩
theorem B4.next {k : Nat} {a b c d : Value} {W W' : World} (h : B4 k a b c d W) (hb : Below W.heap.size W W') : B4 k a b c d W' := h.kept hb.size (hb.block k h.lt)
theorem B4.set0 {k : Nat} {a b c d : Value} {W : World} (h : B4 k a b c d W) (u : Value) : B4 k u b c d (W.setCell ⟨k, 0, none⟩ u) :=
  ⟨by rw [setZ]; exact h.lt, setS h.c0 _, (setO (.inr (by omega)) _).trans h.c1, (setO (.inr (by omega)) _).trans h.c2, (setO (.inr (by omega)) _).trans h.c3, fun j => by rw [World.frozen?_setCell]; exact h.fr j⟩
theorem B4.set1 {k : Nat} {a b c d : Value} {W : World} (h : B4 k a b c d W) (u : Value) : B4 k a u c d (W.setCell ⟨k, 1, none⟩ u) :=
  ⟨by rw [setZ]; exact h.lt, (setO (.inr (by omega)) _).trans h.c0, setS h.c1 _, (setO (.inr (by omega)) _).trans h.c2, (setO (.inr (by omega)) _).trans h.c3, fun j => by rw [World.frozen?_setCell]; exact h.fr j⟩
theorem B4.set2 {k : Nat} {a b c d : Value} {W : World} (h : B4 k a b c d W) (u : Value) : B4 k a b u d (W.setCell ⟨k, 2, none⟩ u) :=
  ⟨by rw [setZ]; exact h.lt, (setO (.inr (by omega)) _).trans h.c0, (setO (.inr (by omega)) _).trans h.c1, setS h.c2 _, (setO (.inr (by omega)) _).trans h.c3, fun j => by rw [World.frozen?_setCell]; exact h.fr j⟩
theorem B4.set3 {k : Nat} {a b c d : Value} {W : World} (h : B4 k a b c d W) (u : Value) : B4 k a b c u (W.setCell ⟨k, 3, none⟩ u) :=
  ⟨by rw [setZ]; exact h.lt, (setO (.inr (by omega)) _).trans h.c0, (setO (.inr (by omega)) _).trans h.c1, (setO (.inr (by omega)) _).trans h.c2, setS h.c3 _, fun j => by rw [World.frozen?_setCell]; exact h.fr j⟩
theorem heap_set_other {W : World} {k o b : Nat} (h : b ≠ k) (u : Value) : (W.setCell ⟨k, o, none⟩ u).heap[b]? = W.heap[b]? := heap_setCell_other W ⟨k, o, none⟩ b u h

/-- what a call that writes the blocks F leaves: all else, and new blocks -/
structure Fr (F : Nat → Prop) (w w' : World) : Prop where
  os : w'.os = w.os
  tape : w'.tape = w.tape
  output : w'.output = w.output
  size : w.heap.size ≤ w'.heap.size
  block : ∀ b, b < w.heap.size → ¬ F b → w'.heap[b]? = w.heap[b]?
/-- the blocks F and those made since -/
def grow (F : Nat → Prop) (w w' : World) (b : Nat) : Prop := F b ∨ (w.heap.size ≤ b ∧ b < w'.heap.size)
theorem Fr.refl (F : Nat → Prop) (w : World) : Fr F w w := ⟨rfl, rfl, rfl, Nat.le_refl _, fun _ _ _ => rfl⟩
theorem Fr.trans {F : Nat → Prop} {w w1 w2 : World} (h : Fr F w w1) (h2 : Fr (grow F w w1) w1 w2) : Fr F w w2 :=
  ⟨h2.os.trans h.os, h2.tape.trans h.tape, h2.output.trans h.output, Nat.le_trans h.size h2.size, fun b hb hn => (h2.block b (Nat.lt_of_lt_of_le hb h.size) (fun q => by rcases q with q | q; exact hn q; omega)).trans (h.block b hb hn)⟩
theorem Fr.mono {F G : Nat → Prop} {w w' : World} (h : Fr F w w') (hF : ∀ b, F b → b < w.heap.size → G b) : Fr G w w' := ⟨h.os, h.tape, h.output, h.size, fun b hb hn => h.block b hb (fun q => hn (hF b q hb))⟩
theorem Fr.of_below {F : Nat → Prop} {w w' : World} (h : Below w.heap.size w w') : Fr F w w' := ⟨h.os, h.tape, h.output, h.size, fun b hb _ => h.block b hb⟩
theorem Fr.set {F : Nat → Prop} {w w' : World} (h : Fr F w w') {k o : Nat} (hk : F k ∨ w.heap.size ≤ k) (u : Value) : Fr F w (w'.setCell ⟨k, o, none⟩ u) :=
  ⟨h.os, h.tape, h.output, by rw [setZ]; exact h.size, fun b hb hn => (heap_set_other (fun e => by subst e; rcases hk with hk | hk; exact hn hk; omega) _).trans (h.block b hb hn)⟩
theorem Fr.grown {F : Nat → Prop} {w w1 w2 : World} (h : Fr F w w1) {r : Option Nat} (hg : w1.grownBy w2 r) (hr : ∀ b, r = some b → F b ∨ w.heap.size ≤ b) : Fr F w w2 :=
  ⟨hg.os.trans h.os, hg.tape.trans h.tape, hg.output.trans h.output, Nat.le_trans h.size hg.size, fun b hb hn => (hg.block b (Nat.lt_of_lt_of_le hb h.size) (fun e => by rcases hr b e.symm with q | q; exact hn q; omega)).trans (h.block b hb hn)⟩
theorem Fr.below {F : Nat → Prop} {w w' : World} (h : Fr F w w') {B : Nat} (hB : B ≤ w.heap.size) (hF : ∀ b, F b → B ≤ b) : Below B w w' :=
  ⟨h.os, h.tape, h.output, h.size, fun b hb => h.block b (by omega) (fun q => by have := hF b q; omega)⟩
theorem Fr.alloc {F : Nat → Prop} {w w' : World} (h : Fr F w w') (o : Obj) : Fr F w (w'.alloc o) :=
  ⟨h.os, h.tape, h.output, by have := h.size; simp; omega, fun b hb hn => (Below.heap_alloc w' o b (Nat.lt_of_lt_of_le hb h.size)).trans (h.block b hb hn)⟩
theorem Fr.drew {F : Nat → Prop} {w w' : World} (h : Fr F w w') : Fr F w w'.drew := ⟨h.os, h.tape, h.output, h.size, h.block⟩

end Go.Proofs.Ytcknmaimkodaeaa.HistM
