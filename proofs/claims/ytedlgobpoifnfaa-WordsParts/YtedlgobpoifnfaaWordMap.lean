/-
  A map of words and their places: what it holds, key by key. A look-up that stays while the map's block does.
-/
import Derived.Test.YtedlgobpoifnfaaWordMath
import Derived.Maps.OwnRows
import Derived.Maps.GroupsBeside
import Derived.Maps.Views
import Derived.Sort.KeysCollected
namespace Go.Proofs.Ytedlgobpoifnfaa.WordM
open Go.RowKit Go.Maps Go.ChangeShapes Go.MapKept

theorem keyLit (l : List UInt8) : WideAt.IsKeyLit (.string l) := by simp [WideAt.IsKeyLit]
/-- the map holds each word of o, with its places -/
structure DM (o : List (Int × List UInt8)) (D : DataW Unit) : Prop where
  tidy : Tidy D
  atk : ∀ l, D.atKey (.string l) .nil = if l ∈ o.map (·.2) then .slice (lits .i64 (pos o l)) [] else .nil
  has_ : ∀ l, has D (.string l) = true ↔ l ∈ o.map (·.2)
theorem DM.nil : DM [] (.map []) := ⟨tidy_empty, fun l => by simp [DataW.atKey], fun l => by simp [has]⟩
theorem DM.add {o : List (Int × List UInt8)} {D : DataW Unit} (h : DM o D) (a : Int) (v : List UInt8) : DM (o ++ [(a, v)]) (D.put (.string v) (.slice (lits .i64 (pos o v ++ [a])) [])) := by
  refine ⟨h.tidy.put (keyLit v) _, fun l => ?_, fun l => ?_⟩
  · by_cases e : l = v
    · subst e
      rw [atKey_put_same h.tidy.isMap (keyLit l), pos_snoc, if_pos rfl, if_pos (by simp)]
    · have hp : pos (o ++ [(a, v)]) l = pos o l := by rw [pos_snoc, if_neg (fun e' => e e'.symm), List.append_nil]
      rw [atKey_put_other (by simpa using e), h.atk, hp]
      have : (l ∈ (o ++ [(a, v)]).map (·.2)) ↔ l ∈ o.map (·.2) := by simp [e]
      by_cases hm : l ∈ o.map (·.2)
      · rw [if_pos hm, if_pos (this.2 hm)]
      · rw [if_neg hm, if_neg (fun x => hm (this.1 x))]
  · by_cases e : l = v
    · subst e
      rw [has_put_same h.tidy.isMap (keyLit l)]; simp
    · rw [has_put_other (by simpa using e), h.has_ l]; simp [e]
theorem lits_inj {x y : List Int} (h : (lits (H := Unit) .i64 x) = lits .i64 y) : x = y := by
  induction x generalizing y with
  | nil => cases y with
    | nil => rfl
    | cons b y => simp [lits] at h
  | cons a x ih => cases y with
    | nil => simp [lits] at h
    | cons b y =>
      simp only [lits, List.map_cons, List.cons.injEq, DataW.lit.injEq, Lit.int.injEq, true_and] at h
      rw [h.1, ih h.2]
/-- what a look-up hands over is the word's places -/
theorem DM.places {o : List (Int × List UInt8)} {D : DataW Unit} (h : DM o D) {w : World} {base : Nat} {e : TypeId} {v : Value} {zs : List Int} (l : List UInt8) (hat : D.atKey (.string l) .nil = rowDatum .i64 v zs) (ho : w.ownsInts base e .i64 v zs) : zs = pos o l := by
  rw [h.atk] at hat
  rcases ho.datum (H := Unit) with ⟨h1, h2⟩ | h1
  · rw [h1] at hat
    by_cases hm : l ∈ o.map (·.2)
    · rw [if_pos hm] at hat; cases hat
    · rw [h2, (pos_nil_iff o l).2 hm]
  · rw [h1] at hat
    by_cases hm : l ∈ o.map (·.2)
    · rw [if_pos hm] at hat
      simp only [DataW.slice.injEq, and_true] at hat
      exact (lits_inj hat).symm
    · rw [if_neg hm] at hat; cases hat
/-- the keys, sorted, are the index's -/
theorem DM.idx {o : List (Int × List UInt8)} {D : DataW Unit} (h : DM o D) {P : Program} {k : TypeId} (hk : P.underlying k = some .string) {R : Value → Option (DataW Unit × List MemPlace)} {w : World} {b n : Nat} (hown : w.ownsMap P k R b n D) {ss : List (List UInt8)} (hp : ss.Perm (strKeys D)) :
    Idx o ((ss.mergeSort leB).map fun x => (x, pos o x)) := by
  obtain ⟨es, hD, hpw⟩ := h.tidy
  obtain ⟨es', hD', hko⟩ := hown.keysOf
  obtain rfl : es = es' := by rw [hD] at hD'; simpa using hD'
  have hkey : ∀ p ∈ es, ∃ x, p.1 = .string x := fun p hp => by
    obtain ⟨v, hv⟩ := hko p hp
    obtain ⟨x, _, hx, _⟩ := Maps.keyOf_str hk hv
    exact ⟨x, hx⟩
  have hmem : ∀ x, x ∈ strKeys D ↔ x ∈ o.map (·.2) := by
    intro x
    rw [← h.has_ x, hD, has_eq, List.any_eq_true]
    show x ∈ es.map (fun p => strOf p.1) ↔ _
    rw [List.mem_map]
    constructor
    · rintro ⟨p, hp', rfl⟩
      obtain ⟨a, ha⟩ := hkey p hp'
      exact ⟨p, hp', by rw [ha]; simp [Lit.sameKey, strOf]⟩
    · rintro ⟨p, hp', hs⟩
      obtain ⟨a, ha⟩ := hkey p hp'
      rw [ha] at hs
      exact ⟨p, hp', by rw [ha]; simpa [Lit.sameKey, strOf] using hs⟩
  have hnd : (strKeys D).Nodup := by
    rw [hD]
    show (es.map fun p => strOf p.1).Nodup
    refine List.pairwise_map.2 (hpw.imp_of_mem fun {p q} hp' hq' hne e => hne ?_)
    obtain ⟨a, ha⟩ := hkey p hp'
    obtain ⟨b, hb⟩ := hkey q hq'
    rw [ha, hb] at e ⊢
    exact congrArg _ e
  have hps : (ss.mergeSort leB).Perm (strKeys D) := (List.mergeSort_perm ss leB).trans hp
  have hle : (ss.mergeSort leB).Pairwise (fun a b => leB a b = true) := List.pairwise_mergeSort
    (fun a b c h1 h2 => by simp only [leB, decide_eq_true_eq] at *; exact List.le_trans h1 h2)
    (fun a b => by simp only [leB, Bool.or_eq_true, decide_eq_true_eq]; exact List.le_total a b) ss
  have hlt : (ss.mergeSort leB).Pairwise (· < ·) := by
    have hnd' := hps.symm.nodup hnd
    have hnd2 : (ss.mergeSort leB).Pairwise (fun a b => a ≠ b) := hnd'
    refine List.Pairwise.imp₂ (fun a b h1 h2 => ?_) hle hnd2
    simp only [leB, decide_eq_true_eq] at h1
    rcases Classical.em (a < b) with h | h
    · exact h
    · exact absurd (List.le_antisymm h1 (List.not_lt.1 h)) h2
  refine ⟨?_, fun x => ?_, ?_⟩
  · rw [List.map_map]; simpa [Function.comp_def] using hlt
  · rw [List.map_map]
    simp only [Function.comp_def, List.map_id']
    rw [hps.mem_iff]; exact hmem x
  · intro p hp'
    obtain ⟨x, _, rfl⟩ := List.mem_map.1 hp'
    rfl
theorem size_keys (D : DataW Unit) : (strKeys D).length = Maps.size D := by
  cases D <;> simp [strKeys, Maps.size]

/-- a look-up in whatever world the map's block stands -/
theorem look_any {H : Type} {P : Program} {w : World} {k base e b n : Nat} {q : IntKind} {D : DataW H} {t E : TypeId} {key : Value} {kl : Lit} (h : w.ownsGroups P k base e q b n D) (K : Keyed P k) (ht : P.underlying t = some (.map k E)) (hz : ∀ W, (zeroValue E).run P W = .ok (.slice none 0 0) W) (hn : n < maxLen) (hkey : keyOf P k key = some kl) :
    ∃ v zs, (∀ W : World, W.heap[b]? = w.heap[b]? → (Instr.lookup t (.map (some b)) key false).run P W = .ok v W) ∧ D.atKey kl .nil = rowDatum q v zs ∧ w.ownsInts base e q v zs ∧ zs.length ≤ n ∧ w.groupBack P t k base e q b n D key kl v := by
  obtain ⟨v, zs, hrun, hat, hoi, hzl, hback⟩ := h.at K ht (hz w) hn hkey
  obtain ⟨es, clock, hb, F, _⟩ := h
  have nd : ∀ (l : List MapEntry), (l.map (·.key)).Nodup → ∀ x y, x ∈ l → y ∈ l → x.key = y.key → x = y := by
    intro l
    induction l with
    | nil => intro _ x y hx; cases hx
    | cons c l ih =>
      intro hnd x y hx hy e
      simp only [List.map_cons, List.nodup_cons] at hnd
      rcases List.mem_cons.1 hx with hx1 | hx1 <;> rcases List.mem_cons.1 hy with hy1 | hy1
      · rw [hx1, hy1]
      · exact (hnd.1 (List.mem_map.2 ⟨y, hy1, by rw [← hx1]; exact e.symm⟩)).elim
      · exact (hnd.1 (List.mem_map.2 ⟨x, hx1, by rw [← hy1]; exact e⟩)).elim
      · exact ih hnd.2 x y hx1 hy1 e
  refine ⟨v, zs, fun W hW => ?_, hat, hoi, hzl, hback⟩
  have hbW : W.heap[b]? = some (.map es clock) := hW.trans hb
  have two : ∀ {α : Type} {x y : α} {w : World}, (Result.ok x w : Result α) = .ok y w → x = y := fun h => by injection h
  rcases Maps.fit_look false K ht (hz w) hb F hkey with ⟨r1, n1, _⟩ | ⟨e1, y1, m1, k1, r1, _⟩ <;> rcases Maps.fit_look false K ht (hz W) hbW F hkey with ⟨r2, n2, _⟩ | ⟨e2, y2, m2, k2, r2, _⟩
  · rw [r2]
    have := two (hrun.symm.trans r1)
    simp at this
    subst this; rfl
  · exact absurd k2 (n1 e2 m2)
  · exact absurd k1 (n2 e1 m1)
  · obtain rfl := nd es.toList F.stamped.2.2 e1 e2 m1 m2 (k1.trans k2.symm)
    rw [r2]
    have := two (hrun.symm.trans r1)
    simp at this
    subst this; rfl
/-- an empty map, its rows to come behind any base -/
theorem groups_new {H : Type} (w : World) (P : Program) (k : TypeId) (e : TypeId) (q : IntKind) (base : Nat) (hb : w.heap.size < base) : (w.alloc (.map #[] 0)).ownsGroups (H := H) P k base e q w.heap.size 0 (.map []) :=
  ⟨#[], 0, (MapKept.heap_alloc w _).1, ⟨by simp, stamped_empty 0, by simp⟩, Nat.le_refl _, rfl, hb, by simp, by simp⟩
/-- the rows of the map are old, so they stay -/
theorem groups_next {H : Type} {P : Program} {w w' : World} {k base e b n : Nat} {q : IntKind} {D : DataW H} (h : w.ownsGroups P k base e q b n D) (hb : Below w.heap.size w w') : w'.ownsGroups P k base e q b n D :=
  h.kept (row := none) ⟨hb.os, hb.tape, hb.output, hb.size, fun j hj _ => hb.block j hj⟩ (by simp) (fun _ _ _ x _ => by cases x.val.ownBlock <;> simp)
end Go.Proofs.Ytedlgobpoifnfaa.WordM
