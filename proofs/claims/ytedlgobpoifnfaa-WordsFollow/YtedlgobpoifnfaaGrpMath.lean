/-
  Words gathered in the order of their first occurrence; sorted, they are the index. No program is named.
-/
import Derived.Test.YtedlgobpoifnfaaWordIdx
namespace Go.Proofs.Ytedlgobpoifnfaa.WordM

/-- the words of o, each with its places, in some order -/
structure Grp (o : List (Int × List UInt8)) (l : List (List UInt8 × List Int)) : Prop where
  nodup : (l.map (·.1)).Nodup
  mem : ∀ w, w ∈ l.map (·.1) ↔ w ∈ o.map (·.2)
  at_ : ∀ p ∈ l, p.2 = pos o p.1
theorem Grp.nil : Grp [] [] := ⟨by simp, fun w => by simp, fun p hp => by simp at hp⟩
/-- a place more, at its word -/
def add1 (x : List UInt8) (a : Int) (p : List UInt8 × List Int) : List UInt8 × List Int := if p.1 = x then (p.1, p.2 ++ [a]) else p
theorem add1_fst (x : List UInt8) (a : Int) (p : List UInt8 × List Int) : (add1 x a p).1 = p.1 := by unfold add1; split <;> rfl
theorem map_add1_fst (x : List UInt8) (a : Int) (l : List (List UInt8 × List Int)) : (l.map (add1 x a)).map (·.1) = l.map (·.1) := by
  rw [List.map_map]
  exact List.map_congr_left fun p _ => add1_fst x a p
theorem Grp.found {o : List (Int × List UInt8)} {l : List (List UInt8 × List Int)} (h : Grp o l) (a : Int) {x : List UInt8} (hx : x ∈ l.map (·.1)) : Grp (o ++ [(a, x)]) (l.map (add1 x a)) := by
  refine ⟨by rw [map_add1_fst]; exact h.nodup, fun w => ?_, fun p hp => ?_⟩
  · rw [map_add1_fst, h.mem w]
    have := (h.mem x).1 hx
    simp only [List.map_append, List.mem_append, List.map_cons, List.map_nil, List.mem_singleton]
    constructor
    · exact .inl
    · rintro (h' | rfl)
      · exact h'
      · exact this
  · obtain ⟨q, hq, rfl⟩ := List.mem_map.1 hp
    rw [add1_fst, pos_snoc]
    unfold add1
    by_cases e : q.1 = x
    · rw [if_pos e, if_pos e.symm, h.at_ q hq]
    · rw [if_neg e, if_neg (fun e' => e e'.symm), List.append_nil, h.at_ q hq]
theorem Grp.fresh {o : List (Int × List UInt8)} {l : List (List UInt8 × List Int)} (h : Grp o l) (a : Int) {x : List UInt8} (hx : x ∉ l.map (·.1)) : Grp (o ++ [(a, x)]) (l ++ [(x, [a])]) := by
  have hxo : x ∉ o.map (·.2) := fun h' => hx ((h.mem x).2 h')
  refine ⟨?_, fun w => ?_, fun p hp => ?_⟩
  · rw [List.map_append]
    exact List.nodup_append.2 ⟨h.nodup, by simp, fun y hy z hz => by simp at hz; subst hz; exact fun e => hx (e ▸ hy)⟩
  · simp only [List.map_append, List.mem_append, h.mem w, List.map_cons, List.map_nil, List.mem_singleton]
  · rw [pos_snoc]
    rcases List.mem_append.1 hp with hp | hp
    · have : p.1 ≠ x := fun e => hx (List.mem_map.2 ⟨p, hp, e⟩)
      rw [if_neg (fun e => this e.symm), List.append_nil, h.at_ p hp]
    · simp at hp
      subst hp
      rw [if_pos rfl, (pos_nil_iff o x).2 hxo]; rfl
theorem add1_none {x : List UInt8} {a : Int} : ∀ {l : List (List UInt8 × List Int)}, x ∉ l.map (·.1) → l.map (add1 x a) = l
  | [], _ => rfl
  | p :: l, h => by
    simp only [List.map_cons, List.mem_cons, not_or] at h
    rw [List.map_cons, add1_none h.2, add1, if_neg (fun e => h.1 e.symm)]
theorem Grp.len {o : List (Int × List UInt8)} {l : List (List UInt8 × List Int)} (h : Grp o l) : l.length ≤ o.length := by
  have := nodup_le h.nodup (fun x hx => (h.mem x).1 hx)
  simpa using this
/-- sorted, they are the index -/
theorem Grp.idx {o : List (Int × List UInt8)} {l m : List (List UInt8 × List Int)} (h : Grp o l) (hp : m.Perm l) (hs : m.Pairwise (fun a b => ¬ b.1 < a.1)) : m = idxL o := by
  refine Idx.eq ⟨?_, fun w => ?_, fun p hq => h.at_ p (hp.mem_iff.1 hq)⟩
  · have hnd : (m.map (·.1)).Nodup := (hp.map _).symm.nodup h.nodup
    have hs' : (m.map (·.1)).Pairwise (fun a b => ¬ b < a) := List.pairwise_map.2 hs
    have hnd' : (m.map (·.1)).Pairwise (fun a b => a ≠ b) := hnd
    refine List.Pairwise.imp₂ (fun a b h1 h2 => ?_) hs' hnd'
    rcases Classical.em (a < b) with h | h
    · exact h
    · exact absurd (List.le_antisymm (List.not_lt.1 h1) (List.not_lt.1 h)) h2
  · rw [(hp.map _).mem_iff]; exact h.mem w
/-- step by step -/
theorem step_take {x : List UInt8} {a : Int} {l : List (List UInt8 × List Int)} {i : Nat} {p : List UInt8 × List Int} (hi : l[i]? = some p) :
    (l.take (i + 1)).map (add1 x a) ++ l.drop (i + 1) = ((l.take i).map (add1 x a) ++ l.drop i).set i (add1 x a p) := by
  have hil := (List.getElem?_eq_some_iff.1 hi).1
  have e : l[i] = p := (List.getElem?_eq_some_iff.1 hi).2
  have ed : l.drop i = p :: l.drop (i + 1) := by rw [List.drop_eq_getElem_cons hil, e]
  rw [List.set_append, if_neg (by simp; omega), List.take_add_one, hi, ed]
  have e2 : i - ((l.take i).map (add1 x a)).length = 0 := by simp; omega
  rw [e2]
  simp
theorem mid_get {x : List UInt8} {a : Int} {l : List (List UInt8 × List Int)} {i : Nat} {p : List UInt8 × List Int} (hi : l[i]? = some p) : ((l.take i).map (add1 x a) ++ l.drop i)[i]? = some p := by
  have hil := (List.getElem?_eq_some_iff.1 hi).1
  rw [List.getElem?_append_right (by simp; omega)]
  simp only [List.length_map, List.length_take, List.getElem?_drop]
  rw [show i + (i - min i l.length) = i by omega]
  exact hi
end Go.Proofs.Ytedlgobpoifnfaa.WordM
