/- Cycles: the program's search and the reference's list find the same one: of no program. -/
import Derived.Test.YtpehbffkplmfjaaSom
namespace Go.Proofs.Ytpehbffkplmfjaa
/-- the program's search -/
def cycF (E : Nat → Nat → Bool) (l : List Nat) : Nat → List Nat → Option (List Nat)
  | 0, b => if 1 < b.length ∧ E (b.getD (b.length - 1) 0) (b.getD 0 0) = true then some b else none
  | k + 1, b => l.findSome? fun t => if t ∈ b ∨ (0 < b.length ∧ E (b.getD (b.length - 1) 0) t = false) then none else cycF E l k (b ++ [t])
/-- every one has an edge to the next, the last one to the first -/
def cycB (E : Nat → Nat → Bool) (p : List Nat) : Bool := (List.range p.length).all fun i => E (p.getD i 0) (p.getD ((i + 1) % p.length) 0)
def goodB (E : Nat → Nat → Bool) (p : List Nat) : Bool := decide (1 < p.length) && cycB E p
theorem cycB_iff {E : Nat → Nat → Bool} {p : List Nat} : cycB E p = true ↔ ∀ i, i < p.length → E (p.getD i 0) (p.getD ((i + 1) % p.length) 0) = true := by
  unfold cycB
  rw [List.all_eq_true]
  exact ⟨fun h i hi => h i (List.mem_range.2 hi), fun h i hi => h i (List.mem_range.1 hi)⟩
def chain (E : Nat → Nat → Bool) (b : List Nat) : Prop := ∀ i, i + 1 < b.length → E (b.getD i 0) (b.getD (i + 1) 0) = true
theorem getD_left {b c : List Nat} {i : Nat} (h : i < b.length) : (b ++ c).getD i 0 = b.getD i 0 := by
  rw [List.getD_eq_getElem?_getD, List.getElem?_append_left h, ← List.getD_eq_getElem?_getD]
theorem getD_mid {b c : List Nat} {t : Nat} : (b ++ t :: c).getD b.length 0 = t := by
  rw [List.getD_eq_getElem?_getD, List.getElem?_append_right (Nat.le_refl _), Nat.sub_self]; rfl
theorem good_chain {E : Nat → Nat → Bool} {b : List Nat} (h : chain E b) : goodB E b = true ↔ 1 < b.length ∧ E (b.getD (b.length - 1) 0) (b.getD 0 0) = true := by
  unfold goodB
  rw [Bool.and_eq_true, decide_eq_true_eq, cycB_iff]
  refine and_congr_right fun h1 => ?_
  constructor
  · intro q
    have := q (b.length - 1) (by omega)
    rwa [show b.length - 1 + 1 = b.length by omega, Nat.mod_self] at this
  · intro q i hi
    by_cases e : i + 1 < b.length
    · rw [Nat.mod_eq_of_lt e]; exact h i e
    · obtain rfl : i = b.length - 1 := by omega
      rw [show b.length - 1 + 1 = b.length by omega, Nat.mod_self]
      exact q
theorem chain_snoc {E : Nat → Nat → Bool} {b : List Nat} {t : Nat} (h : chain E b) (he : ¬ (0 < b.length ∧ E (b.getD (b.length - 1) 0) t = false)) : chain E (b ++ [t]) := by
  intro i hi
  rw [List.length_append, List.length_singleton] at hi
  by_cases e : i + 1 < b.length
  · rw [getD_left (by omega), getD_left e]; exact h i e
  · obtain e2 : i + 1 = b.length := by omega
    rw [getD_left (by omega), e2, getD_mid, show i = b.length - 1 by omega]
    cases q : E (b.getD (b.length - 1) 0) t with
    | true => rfl
    | false => exact absurd ⟨by omega, q⟩ he
theorem good_not {E : Nat → Nat → Bool} {b p : List Nat} {t : Nat} (he : 0 < b.length ∧ E (b.getD (b.length - 1) 0) t = false) : goodB E (b ++ t :: p) = false := by
  cases q : goodB E (b ++ t :: p) with
  | false => rfl
  | true =>
    unfold goodB at q
    rw [Bool.and_eq_true, cycB_iff] at q
    have hl : b.length < (b ++ t :: p).length := by rw [List.length_append, List.length_cons]; omega
    have := q.2 (b.length - 1) (by omega)
    rw [show b.length - 1 + 1 = b.length by omega, Nat.mod_eq_of_lt hl, getD_left (by omega), getD_mid, he.2] at this
    cases this
theorem findSome_filter {α : Type} (c : Nat → Bool) {F : Nat → Option α} : ∀ {l : List Nat}, (∀ t, t ∈ l → c t = false → F t = none) → l.findSome? F = (l.filter c).findSome? F
  | [], _ => rfl
  | x :: l, h => by
    have ih := findSome_filter c (F := F) (l := l) fun t ht => h t (by simp [ht])
    rw [List.findSome?_cons, List.filter_cons]
    cases e : c x with
    | true => rw [if_pos rfl, List.findSome?_cons, ih]
    | false => rw [if_neg (by simp), h x (by simp) e, ih]
theorem findSome_map {α β : Type} (φ : α → β) (G : Nat → Option α) : ∀ r : List Nat, (r.findSome? G).map φ = r.findSome? fun t => (G t).map φ
  | [] => rfl
  | x :: r => by
    rw [List.findSome?_cons, List.findSome?_cons]
    cases G x with
    | none => exact findSome_map φ G r
    | some y => rfl
theorem findSome_congr {α : Type} {F G : Nat → Option α} : ∀ {l : List Nat}, (∀ t, t ∈ l → F t = G t) → l.findSome? F = l.findSome? G
  | [], _ => rfl
  | x :: l, h => by rw [List.findSome?_cons, List.findSome?_cons, h x (by simp), findSome_congr fun t ht => h t (by simp [ht])]
theorem erase_at {r : List Nat} (hr : r.Nodup) {i : Nat} (hi : i < r.length) : r.eraseIdx i = r.erase (r.getD i 0) := by
  induction r generalizing i with
  | nil => simp at hi
  | cons x r ih =>
    match i with
    | 0 => simp
    | i + 1 =>
      have hi' : i < r.length := by simpa using hi
      have hx := List.nodup_cons.1 hr
      have hne : r.getD i 0 ≠ x := fun e => hx.1 (e ▸ getD_mem hi')
      rw [List.eraseIdx_cons_succ, List.getD_cons_succ, List.erase_cons, if_neg (by simpa using fun e => hne e.symm), ih hx.2 hi']
theorem flat_index {α : Type} (g : Nat → List α) (r : List Nat) : ∀ (f : Nat → List α), (∀ i, i < r.length → f i = g (r.getD i 0)) → (List.range r.length).flatMap f = r.flatMap g := by
  induction r with
  | nil => intro f _; rfl
  | cons x r ih =>
    intro f h
    rw [List.length_cons, List.range_succ_eq_map, List.flatMap_cons, List.flatMap_cons, List.flatMap_map, h 0 (by simp)]
    congr 1
    exact ih (fun i => f (i + 1)) fun i hi => by
      have := h (i + 1) (by simpa using hi)
      simpa using this
theorem some_flat {n : Nat} {r : List Nat} (hr : r.Nodup) : someF (n + 1) r = r.flatMap fun t => (someF n (r.erase t)).map (t :: ·) := by
  rw [someF]
  exact flat_index (fun t => (someF n (r.erase t)).map (t :: ·)) r _ fun i hi => by rw [erase_at hr hi]
theorem filter_snoc {l b : List Nat} {t : Nat} (hl : l.Nodup) : l.filter (fun x => !decide (x ∈ b ++ [t])) = (l.filter fun x => !decide (x ∈ b)).erase t := by
  rw [List.Nodup.erase_eq_filter (show List.Nodup _ from hl.filter _), List.filter_filter]
  refine List.filter_congr fun x _ => ?_
  by_cases e1 : x = t <;> by_cases e2 : x ∈ b <;> simp [e1, e2]
theorem cyc_some {E : Nat → Nat → Bool} {l : List Nat} (hl : l.Nodup) : ∀ (k : Nat) (b : List Nat), chain E b →
    cycF E l k b = ((someF k (l.filter fun x => !decide (x ∈ b))).find? fun p => goodB E (b ++ p)).map (b ++ ·) := by
  intro k
  induction k with
  | zero =>
    intro b hb
    rw [cycF]
    simp only [someF, List.find?_cons, List.find?_nil, List.append_nil]
    cases e : goodB E b with
    | true => rw [if_pos ((good_chain hb).1 e)]; simp
    | false => rw [if_neg (fun q => by rw [(good_chain hb).2 q] at e; cases e)]; rfl
  | succ k ih =>
    intro b hb
    rw [cycF, some_flat (hl.filter _), List.find?_flatMap, findSome_filter (fun x => !decide (x ∈ b)) (fun t _ ht => by
      have ht : t ∈ b := by simpa using ht
      rw [if_pos (.inl ht)])]
    rw [findSome_map]
    refine findSome_congr fun t ht => ?_
    have htb : t ∉ b := by have := (List.mem_filter.1 ht).2; simpa using this
    rw [List.find?_map]
    have hcomp : ((fun p => goodB E (b ++ p)) ∘ fun x => t :: x) = fun p => goodB E ((b ++ [t]) ++ p) := by
      funext p
      simp
    by_cases he : 0 < b.length ∧ E (b.getD (b.length - 1) 0) t = false
    · rw [if_pos (.inr he), hcomp]
      rw [List.find?_eq_none.2 fun p _ => by
        rw [List.append_assoc, List.singleton_append, good_not he]; simp]
      rfl
    · rw [if_neg (fun h => h.elim htb he), ih _ (chain_snoc hb he), hcomp, filter_snoc hl, Option.map_map]
      congr 1
      funext p
      simp
#print axioms cyc_some
end Go.Proofs.Ytpehbffkplmfjaa
