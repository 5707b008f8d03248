/- An order or a cycle, never both: of no program. -/
import Derived.Test.YtpehbffkplmfjaaCyp
import Derived.Test.YtpehbffkplmfjaaCfm
namespace Go.Proofs.Ytpehbffkplmfjaa
open Go.RowKit
theorem some_mem' : ∀ {n : Nat} {l p : List Nat}, p ∈ someF n l → ∀ x, x ∈ p → x ∈ l
  | 0, l, p, hp, x, hx => by simp [someF] at hp; rw [hp] at hx; simp at hx
  | n + 1, l, p, hp, x, hx => by
    rw [someF] at hp
    obtain ⟨i, hi, hp⟩ := List.mem_flatMap.1 hp
    obtain ⟨q, hq, rfl⟩ := List.mem_map.1 hp
    rcases List.mem_cons.1 hx with h | h
    · rw [h]; exact getD_mem (List.mem_range.1 hi)
    · exact List.mem_of_mem_eraseIdx (some_mem' hq x h)
theorem some_nodup : ∀ {n : Nat} {l p : List Nat}, l.Nodup → p ∈ someF n l → p.Nodup
  | 0, l, p, _, hp => by simp [someF] at hp; rw [hp]; exact List.nodup_nil
  | n + 1, l, p, hl, hp => by
    rw [some_flat hl] at hp
    obtain ⟨t, ht, hp⟩ := List.mem_flatMap.1 hp
    obtain ⟨q, hq, rfl⟩ := List.mem_map.1 hp
    refine List.nodup_cons.2 ⟨fun hm => ?_, some_nodup (hl.erase _) hq⟩
    exact (hl.mem_erase_iff.1 (some_mem' hq t hm)).1 rfl
theorem mem_some : ∀ {p l : List Nat}, l.Nodup → p.Nodup → (∀ x, x ∈ p → x ∈ l) → p ∈ someF p.length l
  | [], l, _, _, _ => by simp [someF]
  | x :: p, l, hl, hp, hs => by
    have hx := List.nodup_cons.1 hp
    rw [List.length_cons, some_flat hl]
    refine List.mem_flatMap.2 ⟨x, hs x (by simp), List.mem_map.2 ⟨p, mem_some (hl.erase _) hx.2 fun y hy => ?_, rfl⟩⟩
    exact hl.mem_erase_iff.2 ⟨fun e => hx.1 (e ▸ hy), hs y (by simp [hy])⟩
theorem cyK_find (h : List NOp) (k : Nat) : cyK h k = (someF k (comN h 7)).find? (goodB (bitE (ed h h.length))) := by
  unfold cyK
  have hn : (comN h 7).Nodup := List.nodup_range.filter _
  rw [cyc_some hn k [] (fun i hi => by simp at hi), show ((comN h 7).filter fun x => !decide (x ∈ ([] : List Nat))) = comN h 7 from List.filter_eq_self.2 fun x _ => by simp]
  simp
/-- a cycle: different transactions, each with an edge to the next -/
structure IsCyc (E : Nat → Nat → Bool) (l c : List Nat) : Prop where
  two : 2 ≤ c.length
  nd : c.Nodup
  mem : ∀ x, x ∈ c → x ∈ l
  edge : ∀ i, i < c.length → E (c.getD i 0) (c.getD ((i + 1) % c.length) 0) = true
theorem cyK_some {h : List NOp} {k : Nat} {c : List Nat} (e : cyK h k = some c) : IsCyc (bitE (ed h h.length)) (comN h 7) c := by
  rw [cyK_find] at e
  have hm := List.mem_of_find?_eq_some e
  have hg := List.find?_some e
  unfold goodB at hg
  rw [Bool.and_eq_true, decide_eq_true_eq, cycB_iff] at hg
  exact ⟨hg.1, some_nodup (List.nodup_range.filter _) hm, some_mem' hm, hg.2⟩
theorem cycN_some' {h : List NOp} {c : List Nat} (e : cycN h = some c) : IsCyc (bitE (ed h h.length)) (comN h 7) c := by
  unfold cycN at e
  obtain ⟨k, _, hk⟩ := List.exists_of_findSome?_eq_some e
  exact cyK_some hk
theorem cyc_some' {h : List NOp} {c : List Nat} (q : IsCyc (bitE (ed h h.length)) (comN h 7) c) : cycN h ≠ none := by
  intro e
  unfold cycN at e
  rw [List.findSome?_eq_none_iff] at e
  have hl := q.nd.length_le_of_subset (l₂ := comN h 7) q.mem
  have := e c.length (List.mem_range.2 (by omega))
  rw [cyK_find, List.find?_eq_none] at this
  refine this c (mem_some (List.nodup_range.filter _) q.nd q.mem) ?_
  unfold goodB
  rw [Bool.and_eq_true, decide_eq_true_eq, cycB_iff]
  exact ⟨q.two, q.edge⟩
/-- an order that agrees has no cycle beside it -/
theorem ag_nocyc {E : Nat → Nat → Bool} (hirr : ∀ x, E x x = false) {l a c : List Nat} (ha : a.Perm l) (hag : agB E a = true) (q : IsCyc E l c) : False := by
  have hlt : ∀ x y, x ∈ l → y ∈ l → E x y = true → a.idxOf x < a.idxOf y := fun x y hx hy he => by
    have hx' := List.idxOf_lt_length_iff.2 (ha.mem_iff.2 hx)
    have hy' := List.idxOf_lt_length_iff.2 (ha.mem_iff.2 hy)
    have gx : a.getD (a.idxOf x) 0 = x := by rw [List.getD_eq_getElem?_getD, List.getElem?_eq_getElem hx']; simp
    have gy : a.getD (a.idxOf y) 0 = y := by rw [List.getD_eq_getElem?_getD, List.getElem?_eq_getElem hy']; simp
    rcases Nat.lt_trichotomy (a.idxOf x) (a.idxOf y) with h | h | h
    · exact h
    · rw [← gx, ← gy, h, hirr] at he; cases he
    · have := agB_iff.1 hag _ hx' _ h
      rw [gx, gy, he] at this; cases this
  have h2 := q.two
  have hm : ∀ i, i < c.length → c.getD i 0 ∈ l := fun i hi => q.mem _ (getD_mem hi)
  have up : ∀ i, i < c.length → a.idxOf (c.getD 0 0) ≤ a.idxOf (c.getD i 0) := by
    intro i
    induction i with
    | zero => intro _; exact Nat.le_refl _
    | succ i ih =>
      intro hi
      have h3 := q.edge i (by omega)
      rw [Nat.mod_eq_of_lt hi] at h3
      have := hlt _ _ (hm i (by omega)) (hm _ hi) h3
      have := ih (by omega)
      omega
  have h4 := q.edge (c.length - 1) (by omega)
  rw [show c.length - 1 + 1 = c.length by omega, Nat.mod_self] at h4
  have := hlt _ _ (hm _ (by omega)) (hm 0 (by omega)) h4
  have := up (c.length - 1) (by omega)
  omega
/-- without an order some have each a predecessor among them -/
theorem no_src {E : Nat → Nat → Bool} : ∀ (n : Nat) (l : List Nat), l.length = n → l.Nodup → fst' E l = none → ∃ S : List Nat, S ≠ [] ∧ (∀ x, x ∈ S → x ∈ l) ∧ ∀ y, y ∈ S → ∃ x, x ∈ S ∧ x ≠ y ∧ E x y = true
  | 0, l, hn, _, e => by
    obtain rfl := List.eq_nil_of_length_eq_zero hn
    simp [fst', perms, permsF, agB] at e
  | n + 1, l, hn, hnd, e => by
    have hne : l ≠ [] := by intro q; rw [q] at hn; simp at hn
    by_cases hex : ∃ i, i < l.length ∧ srcAt E l i = true
    · obtain ⟨i, ⟨hi, hs⟩, hmin⟩ : ∃ i, (i < l.length ∧ srcAt E l i = true) ∧ ∀ j, j < i → ¬ (j < l.length ∧ srcAt E l j = true) := least' hex
      rw [fst_step hne hi hs (fun j hj => by
        cases q : srcAt E l j with
        | false => rfl
        | true => exact absurd ⟨by omega, q⟩ (hmin j hj)), Option.map_eq_none_iff] at e
      obtain ⟨S, h1, h2, h3⟩ := no_src n (l.eraseIdx i) (by rw [List.length_eraseIdx_of_lt hi]; omega) (hnd.sublist (List.eraseIdx_sublist _ _)) e
      exact ⟨S, h1, fun x hx => List.mem_of_mem_eraseIdx (h2 x hx), h3⟩
    · refine ⟨l, hne, fun _ h => h, fun y hy => ?_⟩
      obtain ⟨i, hi, rfl⟩ := List.getElem_of_mem hy
      have hs : srcAt E l i = false := by
        cases q : srcAt E l i with
        | false => rfl
        | true => exact absurd ⟨i, hi, q⟩ hex
      unfold srcAt at hs
      rw [List.all_eq_false] at hs
      obtain ⟨b, hb, hb2⟩ := hs
      have hg : l.getD i 0 = l[i] := by rw [List.getD_eq_getElem?_getD, List.getElem?_eq_getElem hi]; rfl
      rw [hg] at hb2
      refine ⟨b, List.mem_of_mem_eraseIdx hb, fun e => ?_, by simpa using hb2⟩
      rw [e, ← hg, erase_at hnd hi, hg] at hb
      exact (hnd.mem_erase_iff.1 hb).1 rfl
/-- .. and so a cycle -/
theorem src_cyc {E : Nat → Nat → Bool} {l S : List Nat} (hS : S ≠ []) (hm : ∀ x, x ∈ S → x ∈ l) (hp : ∀ y, y ∈ S → ∃ x, x ∈ S ∧ x ≠ y ∧ E x y = true) : ∃ c, IsCyc E l c := by
  obtain ⟨x0, hx0⟩ := List.exists_mem_of_ne_nil S hS
  have hch : ∃ f : Nat → Nat, ∀ y, y ∈ S → f y ∈ S ∧ f y ≠ y ∧ E (f y) y = true := by
    classical
    exact ⟨fun y => if h : y ∈ S then Classical.choose (hp y h) else 0, fun y hy => by
      have := Classical.choose_spec (hp y hy)
      simp only [dif_pos hy]
      exact this⟩
  obtain ⟨f, hf⟩ := hch
  let s : Nat → Nat := fun n => Nat.rec x0 (fun _ y => f y) n
  have hs1 : ∀ n, s (n + 1) = f (s n) := fun n => rfl
  have hsm : ∀ n, s n ∈ S := by
    intro n
    induction n with
    | zero => exact hx0
    | succ n ih => rw [hs1]; exact (hf _ ih).1
  have hse : ∀ n, E (s (n + 1)) (s n) = true := fun n => by rw [hs1]; exact (hf _ (hsm n)).2.2
  have hsn : ∀ n, s (n + 1) ≠ s n := fun n => by rw [hs1]; exact (hf _ (hsm n)).2.1
  generalize s = s at *
  have hrep : ∃ j, ∃ i, i < j ∧ s i = s j := by
    apply Classical.byContradiction
    intro hno
    have hnd : ((List.range (S.length + 1)).map s).Nodup := by
      show List.Pairwise _ _
      rw [List.pairwise_map]
      exact List.pairwise_lt_range.imp fun {a b} hab e => hno ⟨b, a, hab, e⟩
    have := hnd.length_le_of_subset (l₂ := S) fun x hx => by
      obtain ⟨i, _, rfl⟩ := List.mem_map.1 hx
      exact hsm i
    simp at this
    omega
  obtain ⟨j, ⟨i, hij, hsij⟩, hmin⟩ := least' hrep
  have hinj : ∀ a b, a < b → b < j → s a ≠ s b := fun a b hab hb e => hmin b hb ⟨a, hab, e⟩
  have h2 : i + 1 < j := by
    rcases Nat.lt_or_ge (i + 1) j with h | h
    · exact h
    · have e : j = i + 1 := by omega
      rw [e] at hsij
      exact absurd hsij.symm (hsn i)
  have hlen : ((List.range (j - i)).map fun m => s (j - 1 - m)).length = j - i := by simp
  have hat : ∀ m, m < j - i → ((List.range (j - i)).map fun m => s (j - 1 - m)).getD m 0 = s (j - 1 - m) := fun m hm => by
    rw [List.getD_eq_getElem?_getD, List.getElem?_map, List.getElem?_range hm]; rfl
  refine ⟨(List.range (j - i)).map fun m => s (j - 1 - m), by rw [hlen]; omega, ?_, fun x hx => ?_, fun m hm => ?_⟩
  · show List.Pairwise _ _
    rw [List.pairwise_map]
    refine List.Pairwise.imp_of_mem (R := fun a b => a < b) (fun {a b} ha hb hab e => ?_) List.pairwise_lt_range
    have h3 := List.mem_range.1 ha
    have h4 := List.mem_range.1 hb
    exact hinj (j - 1 - b) (j - 1 - a) (by omega) (by omega) e.symm
  · obtain ⟨m, _, rfl⟩ := List.mem_map.1 hx
    exact hm _ (hsm _)
  · rw [hlen] at hm ⊢
    rw [hat m hm]
    by_cases e : m + 1 < j - i
    · rw [Nat.mod_eq_of_lt e, hat _ e]
      have := hse (j - 1 - (m + 1))
      rwa [show j - 1 - (m + 1) + 1 = j - 1 - m by omega] at this
    · have e2 : m + 1 = j - i := by omega
      rw [e2, Nat.mod_self, hat 0 (by omega), show j - 1 - m = i by omega, hsij]
      have := hse (j - 1)
      rwa [show j - 1 + 1 = j by omega] at this
theorem ordN_fst' (h : List NOp) : ordN h = fst' (bitE (ed h h.length)) (comN h 7) := by
  unfold ordN
  rw [fo_fst (fun x => ed_irr x) _ _ _ rfl]
  show Option.map _ (fst' (bitE (ed h h.length)) (comN h 7)) = _
  simp
/-- exactly one of them is -/
theorem ord_xor_cyc (h : List NOp) : (ordN h).isSome = true ↔ cycN h = none := by
  rw [ordN_fst']
  constructor
  · intro q
    obtain ⟨a, ha, hag⟩ := fst_some.1 q
    cases e : cycN h with
    | none => rfl
    | some c => exact (ag_nocyc (fun x => ed_irr x) ha hag (cycN_some' e)).elim
  · intro q
    cases e : fst' (bitE (ed h h.length)) (comN h 7) with
    | some a => rfl
    | none =>
      obtain ⟨S, h1, h2, h3⟩ := no_src _ _ rfl (List.nodup_range.filter _) e
      obtain ⟨c, hc⟩ := src_cyc h1 h2 h3
      exact absurd q (cyc_some' hc)
#print axioms ord_xor_cyc
end Go.Proofs.Ytpehbffkplmfjaa
