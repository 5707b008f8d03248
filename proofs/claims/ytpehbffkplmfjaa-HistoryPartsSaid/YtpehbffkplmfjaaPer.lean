/- All orders of a slice, the first one that agrees with edges: of no program. -/
import Derived.Test.YtpehbffkplmfjaaFst
namespace Go.Proofs.Ytpehbffkplmfjaa
open Go
/-- all orders, in order -/
def permsF : Nat → List Nat → List (List Nat)
  | 0, _ => [[]]
  | n + 1, l => (List.range l.length).flatMap fun i => (permsF n (l.eraseIdx i)).map (l.getD i 0 :: ·)
def perms (l : List Nat) : List (List Nat) := permsF l.length l
/-- an order agrees with edges: none from a later one to an earlier one -/
def agB (E : Nat → Nat → Bool) : List Nat → Bool
  | [] => true
  | x :: p => p.all (fun b => !E b x) && agB E p
theorem perms_cons {l : List Nat} (h : l ≠ []) : perms l = (List.range l.length).flatMap fun i => (perms (l.eraseIdx i)).map (l.getD i 0 :: ·) := by
  obtain ⟨x, m, rfl⟩ := List.exists_cons_of_ne_nil h
  unfold perms
  show permsF (m.length + 1) (x :: m) = _
  rw [permsF]
  have e : ∀ i ∈ List.range (x :: m).length, (permsF m.length ((x :: m).eraseIdx i)).map ((x :: m).getD i 0 :: ·) = (permsF ((x :: m).eraseIdx i).length ((x :: m).eraseIdx i)).map ((x :: m).getD i 0 :: ·) := fun i hi => by
    have := List.mem_range.1 hi
    rw [List.length_eraseIdx_of_lt this]; rfl
  rw [List.flatMap_def, List.flatMap_def, List.map_congr_left e]
theorem getD_cons_erase {l : List Nat} {i : Nat} (h : i < l.length) : (l.getD i 0 :: l.eraseIdx i).Perm l := by
  rw [List.getD_eq_getElem?_getD, List.getElem?_eq_getElem h, Option.getD_some]
  have h1 : l = l.take i ++ l[i] :: l.drop (i + 1) := by rw [List.getElem_cons_drop, List.take_append_drop]
  rw [List.eraseIdx_eq_take_drop_succ]
  conv => rhs; rw [h1]
  exact List.perm_middle.symm
theorem perms_perm : ∀ {n : Nat} {l p : List Nat}, l.length = n → p ∈ perms l → p.Perm l
  | 0, l, p, hn, hp => by
    obtain rfl := List.eq_nil_of_length_eq_zero hn
    simp [perms, permsF] at hp
    rw [hp]
  | n + 1, l, p, hn, hp => by
    rw [perms_cons (by intro e; rw [e] at hn; simp at hn)] at hp
    obtain ⟨i, hi, hp⟩ := List.mem_flatMap.1 hp
    obtain ⟨q, hq, rfl⟩ := List.mem_map.1 hp
    have hi := List.mem_range.1 hi
    exact ((perms_perm (n := n) (by rw [List.length_eraseIdx_of_lt hi]; omega) hq).cons _).trans (getD_cons_erase hi)
theorem mem_perms : ∀ {n : Nat} {l p : List Nat}, l.length = n → p.Perm l → p ∈ perms l
  | 0, l, p, hn, hp => by
    obtain rfl := List.eq_nil_of_length_eq_zero hn
    rw [hp.eq_nil]
    simp [perms, permsF]
  | n + 1, l, p, hn, hp => by
    have hne : l ≠ [] := by intro e; rw [e] at hn; simp at hn
    rw [perms_cons hne]
    match p, hp with
    | [], hp => exact absurd hp.symm.eq_nil hne
    | x :: q, hp =>
      have hx : x ∈ l := hp.mem_iff.1 (by simp)
      obtain ⟨i, hi, e⟩ := List.getElem_of_mem hx
      have eg : l.getD i 0 = x := by rw [List.getD_eq_getElem?_getD, List.getElem?_eq_getElem hi]; exact e
      refine List.mem_flatMap.2 ⟨i, List.mem_range.2 hi, List.mem_map.2 ⟨q, ?_, by rw [eg]⟩⟩
      refine mem_perms (n := n) (by rw [List.length_eraseIdx_of_lt hi]; omega) ?_
      have h1 := hp.trans (getD_cons_erase hi).symm
      rw [eg] at h1
      exact h1.cons_inv
theorem agB_erase {E : Nat → Nat → Bool} {x : Nat} : ∀ {p : List Nat}, agB E p = true → agB E (p.erase x) = true
  | [], _ => rfl
  | y :: p, h => by
    rw [agB, Bool.and_eq_true] at h
    rw [List.erase_cons]
    split
    · exact h.2
    · rw [agB, Bool.and_eq_true]
      refine ⟨List.all_eq_true.2 fun b hb => List.all_eq_true.1 h.1 b (List.mem_of_mem_erase hb), agB_erase h.2⟩
/-- the first order that agrees -/
def fst' (E : Nat → Nat → Bool) (l : List Nat) : Option (List Nat) := (perms l).find? (agB E)
theorem fst_some {E : Nat → Nat → Bool} {l : List Nat} : (fst' E l).isSome = true ↔ ∃ p : List Nat, p.Perm l ∧ agB E p = true := by
  unfold fst'
  rw [List.find?_isSome]
  constructor
  · rintro ⟨p, hp, h⟩; exact ⟨p, perms_perm rfl hp, h⟩
  · rintro ⟨p, hp, h⟩; exact ⟨p, mem_perms rfl hp, h⟩
/-- no other one of l has an edge to the one at i -/
def srcAt (E : Nat → Nat → Bool) (l : List Nat) (i : Nat) : Bool := (l.eraseIdx i).all fun b => !E b (l.getD i 0)
theorem find_map_cons {E : Nat → Nat → Bool} {x : Nat} {r : List Nat} {P : List (List Nat)} (hP : ∀ p ∈ P, p.Perm r) :
    (P.map (x :: ·)).find? (agB E) = if (r.all fun b => !E b x) = true then (P.find? (agB E)).map (x :: ·) else none := by
  induction P with
  | nil => simp
  | cons p P ih =>
    have hp := hP p (by simp)
    have ih := ih fun q hq => hP q (by simp [hq])
    have he : p.all (fun b => !E b x) = r.all (fun b => !E b x) := by
      rw [Bool.eq_iff_iff, List.all_eq_true, List.all_eq_true]
      exact ⟨fun h b hb => h b (hp.mem_iff.2 hb), fun h b hb => h b (hp.mem_iff.1 hb)⟩
    rw [List.map_cons, List.find?_cons, ih]
    show (match agB E (x :: p) with | true => _ | false => _) = _
    rw [agB, he]
    cases h1 : (r.all fun b => !E b x)
    · simp
    · rw [if_pos rfl, if_pos rfl, Bool.true_and, List.find?_cons]
      cases h2 : agB E p <;> simp
theorem find_flat {E : Nat → Nat → Bool} {l : List Nat} (is : List Nat) (his : ∀ i ∈ is, i < l.length) :
    (is.flatMap fun i => (perms (l.eraseIdx i)).map (l.getD i 0 :: ·)).find? (agB E) = is.findSome? fun i => if srcAt E l i = true then (fst' E (l.eraseIdx i)).map (l.getD i 0 :: ·) else none := by
  induction is with
  | nil => rfl
  | cons i is ih =>
    rw [List.flatMap_cons, List.find?_append, List.findSome?_cons, ih fun j hj => his j (by simp [hj]), find_map_cons (fun p hp => perms_perm rfl hp)]
    unfold srcAt fst'
    cases h : (if ((l.eraseIdx i).all fun b => !E b (l.getD i 0)) = true then Option.map (l.getD i 0 :: ·) (List.find? (agB E) (perms (l.eraseIdx i))) else none) <;> simp
/-- the first order begins with the first source -/
theorem fst_step {E : Nat → Nat → Bool} {l : List Nat} (hne : l ≠ []) {i : Nat} (hi : i < l.length) (hs : srcAt E l i = true) (hb : ∀ j, j < i → srcAt E l j = false) :
    fst' E l = (fst' E (l.eraseIdx i)).map (l.getD i 0 :: ·) := by
  have h0 : fst' E l = (List.range l.length).findSome? fun i => if srcAt E l i = true then (fst' E (l.eraseIdx i)).map (l.getD i 0 :: ·) else none := by
    conv => lhs; unfold fst'
    rw [perms_cons hne]
    exact find_flat _ fun j hj => List.mem_range.1 hj
  cases h : fst' E (l.eraseIdx i) with
  | some p =>
    rw [h0]
    obtain ⟨r, hr⟩ : ∃ r, l.length = i + (r + 1) := ⟨l.length - i - 1, by omega⟩
    rw [hr, List.range_add, List.findSome?_append]
    have h1 : (List.range i).findSome? (fun i => if srcAt E l i = true then (fst' E (l.eraseIdx i)).map (l.getD i 0 :: ·) else none) = none := by
      rw [List.findSome?_eq_none_iff]
      intro j hj
      rw [hb j (List.mem_range.1 hj)]; rfl
    rw [h1, List.range_succ_eq_map, List.map_cons, List.findSome?_cons, Nat.add_zero, hs, if_pos rfl, h]
    rfl
  | none =>
    have hno : ¬ ∃ p : List Nat, p.Perm l ∧ agB E p = true := fun ⟨p, hp, ha⟩ => by
      have h1 : (fst' E (l.eraseIdx i)).isSome = true := fst_some.2 ⟨p.erase (l.getD i 0), by
        have h2 := (hp.trans (getD_cons_erase hi).symm).erase (l.getD i 0)
        rwa [List.erase_cons_head] at h2, agB_erase ha⟩
      rw [h] at h1; cases h1
    have h1 : fst' E l = none := by
      cases h2 : fst' E l with
      | none => rfl
      | some p => exact absurd (fst_some.1 (by rw [h2]; rfl)) hno
    rw [h1]; rfl
theorem fst_none {E : Nat → Nat → Bool} {l : List Nat} (hne : l ≠ []) (hb : ∀ j, j < l.length → srcAt E l j = false) : fst' E l = none := by
  conv => lhs; unfold fst'
  rw [perms_cons hne, find_flat _ fun j hj => List.mem_range.1 hj, List.findSome?_eq_none_iff]
  intro j hj
  rw [hb j (List.mem_range.1 hj)]; rfl
theorem least' {P : Nat → Prop} (h : ∃ n, P n) : ∃ n, P n ∧ ∀ m, m < n → ¬ P m := by
  obtain ⟨n, hn⟩ := h
  induction n using Nat.strongRecOn with
  | ind n ih =>
    by_cases hm : ∃ m, m < n ∧ P m
    · obtain ⟨m, h1, h2⟩ := hm
      exact ih m h1 h2
    · exact ⟨n, hn, fun m h1 h2 => hm ⟨m, h1, h2⟩⟩
theorem free_srcAt {f : Nat → Nat} {l : List Nat} (hirr : ∀ x, (f x).testBit x = false) {i : Nat} (hi : i < l.length) :
    free f l (l.getD i 0) = srcAt (fun a b => (f a).testBit b) l i := by
  have h1 : l = l.take i ++ l.getD i 0 :: l.drop (i + 1) := by
    rw [List.getD_eq_getElem?_getD, List.getElem?_eq_getElem hi, Option.getD_some, List.getElem_cons_drop, List.take_append_drop]
  unfold srcAt free
  rw [List.eraseIdx_eq_take_drop_succ]
  obtain ⟨x, hx⟩ : ∃ x, x = l.getD i 0 := ⟨_, rfl⟩
  rw [← hx] at h1 ⊢
  rw [Bool.eq_iff_iff, Bool.not_eq_true', List.all_eq_true, List.any_eq_false]
  constructor
  · intro h b hb
    have := h b (by rw [h1]; rcases List.mem_append.1 hb with h | h <;> simp [h])
    simpa using this
  · intro h b hb
    rw [h1] at hb
    rcases List.mem_append.1 hb with h2 | h2
    · simpa using h b (List.mem_append.2 (.inl h2))
    · rcases List.mem_cons.1 h2 with rfl | h2
      · simp [hirr]
      · simpa using h b (List.mem_append.2 (.inr h2))
/-- the program's first order is the first of all that agrees -/
theorem fo_fst {f : Nat → Nat} (hirr : ∀ x, (f x).testBit x = false) : ∀ (n : Nat) (l ord : List Nat), l.length = n → fo f n l ord = (fst' (fun a b => (f a).testBit b) l).map (ord ++ ·) := by
  intro n
  induction n with
  | zero =>
    intro l ord hn
    obtain rfl := List.eq_nil_of_length_eq_zero hn
    simp [fo, fst', perms, permsF, agB]
  | succ n ih =>
    intro l ord hn
    have hne : l ≠ [] := by intro e; rw [e] at hn; simp at hn
    rw [fo]
    by_cases hex : ∃ i, i < l.length ∧ srcAt (fun a b => (f a).testBit b) l i = true
    · obtain ⟨i, ⟨hi, hs⟩, hmin⟩ : ∃ i, (i < l.length ∧ srcAt (fun a b => (f a).testBit b) l i = true) ∧ ∀ j, j < i → ¬ (j < l.length ∧ srcAt (fun a b => (f a).testBit b) l j = true) :=
        least' hex
      have hb : ∀ j, j < i → srcAt (fun a b => (f a).testBit b) l j = false := fun j hj => by
        cases h : srcAt (fun a b => (f a).testBit b) l j
        · rfl
        · exact absurd ⟨by omega, h⟩ (hmin j hj)
      have hid : idx (free f l) l 0 = i := idx_at _ _ hi (fun j hj => by rw [free_srcAt hirr (by omega)]; exact hb j hj) (by rw [free_srcAt hirr hi]; exact hs)
      rw [hid, if_neg (by omega), Int.toNat_natCast, ih _ _ (by rw [List.length_eraseIdx_of_lt hi]; omega), fst_step hne hi hs hb, Option.map_map]
      congr 1
      funext q
      simp
    · have hb : ∀ j, j < l.length → srcAt (fun a b => (f a).testBit b) l j = false := fun j hj => by
        cases h : srcAt (fun a b => (f a).testBit b) l j
        · rfl
        · exact absurd ⟨j, hj, h⟩ hex
      have hid : idx (free f l) l 0 = -1 := idx_no _ _ fun j hj => by rw [free_srcAt hirr hj]; exact hb j hj
      rw [hid, if_pos (by omega), fst_none hne hb]; rfl
#print axioms fo_fst
#print axioms fst_step
#print axioms fst_none
end Go.Proofs.Ytpehbffkplmfjaa
