/- Rules: math. What follows, and what follows by ground instances in codes. -/
import Derived.Test.YthndplkjhbmfmaaMm
namespace Go.Proofs.Ythndplkjhbmfmaa
abbrev RAt := Int × List Int
abbrev RLit := Bool × RAt
abbrev RRule := RAt × List RLit
/-- the fact of an atom under numbers -/
def gnd (m : List Int) (a : RAt) : RAt := (a.1, a.2.map (numOf m))
def VarR (r : RRule) (t : Int) : Prop := t ∈ r.1.2 ∨ ∃ b, b ∈ r.2 ∧ t ∈ b.2.2
/-- valid facts: 1 or 2 numbers from 1 to 6 -/
def FcR (f : RAt) : Prop := (0 ≤ f.1 ∧ f.1 ≤ 5) ∧ (1 ≤ f.2.length ∧ f.2.length ≤ 2) ∧ ∀ x, x ∈ f.2 → 1 ≤ x ∧ x ≤ 6
instance (f : RAt) : Decidable (FcR f) := inferInstanceAs (Decidable (_ ∧ _ ∧ _))
/-- valid atoms -/
def AtR (a : RAt) : Prop := (0 ≤ a.1 ∧ a.1 ≤ 5) ∧ (1 ≤ a.2.length ∧ a.2.length ≤ 2) ∧ ∀ x, x ∈ a.2 → -6 ≤ x ∧ x ≤ 7
instance (f : RAt) : Decidable (AtR f) := inferInstanceAs (Decidable (_ ∧ _ ∧ _))
/-- numbers for the variables of a rule -/
def Num6 (r : RRule) (m : List Int) : Prop := ∀ t, VarR r t → 1 ≤ numOf m t ∧ numOf m t ≤ 6
/-- what follows from S by rules, where K says what Lits with Not meet -/
inductive Cons (rs : RRule → Prop) (S K : RAt → Prop) : RAt → Prop
  | given {f : RAt} : S f → Cons rs S K f
  | step {r : RRule} {m : List Int} : rs r → Num6 r m → (∀ b, b ∈ r.2 → b.1 = false → Cons rs S K (gnd m b.2)) → (∀ b, b ∈ r.2 → b.1 = true → ¬ K (gnd m b.2)) → Cons rs S K (gnd m r.1)
theorem Cons.mono {rs rs' : RRule → Prop} {S S' K K' : RAt → Prop} (hr : ∀ r, rs r → rs' r) (hS : ∀ f, S f → S' f) (hK : ∀ f, K' f → K f) {f : RAt} (h : Cons rs S K f) : Cons rs' S' K' f := by
  induction h with
  | given h => exact .given (hS _ h)
  | step h1 h2 _ h4 ih => exact .step (hr _ h1) h2 ih fun b hb hn hk => h4 b hb hn (hK _ hk)
theorem Cons.congr {rs rs' : RRule → Prop} {S S' K K' : RAt → Prop} (hr : ∀ r, rs r ↔ rs' r) (hS : ∀ f, S f ↔ S' f) (hK : ∀ f, K f ↔ K' f) (f : RAt) : Cons rs S K f ↔ Cons rs' S' K' f :=
  ⟨fun h => h.mono (fun r => (hr r).1) (fun f => (hS f).1) fun f => (hK f).2, fun h => h.mono (fun r => (hr r).2) (fun f => (hS f).2) fun f => (hK f).1⟩
/-- it is the least set that is closed -/
theorem Cons.least {rs : RRule → Prop} {S K C : RAt → Prop} (hS : ∀ f, S f → C f) (hc : ∀ r m, rs r → Num6 r m → (∀ b, b ∈ r.2 → b.1 = false → C (gnd m b.2)) → (∀ b, b ∈ r.2 → b.1 = true → ¬ K (gnd m b.2)) → C (gnd m r.1)) {f : RAt} (h : Cons rs S K f) : C f := by
  induction h with
  | given h => exact hS _ h
  | step h1 h2 _ h4 ih => exact hc _ _ h1 h2 ih h4
theorem Cons.idem {rs : RRule → Prop} {S K : RAt → Prop} {f : RAt} (h : Cons rs (Cons rs S K) K f) : Cons rs S K f :=
  Cons.least (fun _ h => h) (fun _ _ h1 h2 h3 h4 => .step h1 h2 h3 h4) h
theorem numOf_neg {m : List Int} {t : Int} (h : ¬ 0 ≤ t) : numOf m t = -t := if_neg h
theorem gnd_fc {a : RAt} {m : List Int} (ha : AtR a) (h : ∀ t, t ∈ a.2 → 1 ≤ numOf m t ∧ numOf m t ≤ 6) : FcR (gnd m a) :=
  ⟨ha.1, by unfold gnd; rw [List.length_map]; exact ha.2.1, fun x hx => by
    obtain ⟨t, ht, rfl⟩ := List.mem_map.1 hx
    exact h t ht⟩
/-- the program's code of a fact -/
def pcd (f : RAt) : Int := f.1 * 49 + f.2.getD 0 0 * 7 + f.2.getD 1 0
theorem fc_cases {f : RAt} (h : FcR f) : (∃ r a, f = (r, [a]) ∧ (0 ≤ r ∧ r ≤ 5) ∧ 1 ≤ a ∧ a ≤ 6) ∨ ∃ r a b, f = (r, [a, b]) ∧ (0 ≤ r ∧ r ≤ 5) ∧ (1 ≤ a ∧ a ≤ 6) ∧ 1 ≤ b ∧ b ≤ 6 := by
  obtain ⟨r, l⟩ := f
  obtain ⟨h1, h2, h3⟩ := h
  match l, h2, h3 with
  | [a], _, h3 => exact .inl ⟨r, a, rfl, h1, h3 a (by simp)⟩
  | [a, b], _, h3 => exact .inr ⟨r, a, b, rfl, h1, h3 a (by simp), h3 b (by simp)⟩
  | [], h2, _ => exact absurd h2.1 (by simp)
  | _ :: _ :: _ :: _, h2, _ => exact absurd h2.2 (by simp)
theorem pcd_range {f : RAt} (h : FcR f) : 0 ≤ pcd f ∧ pcd f < 294 := by
  rcases fc_cases h with ⟨r, a, rfl, h1, h2⟩ | ⟨r, a, b, rfl, h1, h2, h3⟩
  · simp [pcd]; omega
  · simp [pcd]; omega
theorem pcd_inj {f g : RAt} (h : FcR f) (k : FcR g) (e : pcd f = pcd g) : f = g := by
  rcases fc_cases h with ⟨r, a, rfl, h1, h2⟩ | ⟨r, a, b, rfl, h1, h2, h3⟩ <;> rcases fc_cases k with ⟨s, c, rfl, k1, k2⟩ | ⟨s, c, d, rfl, k1, k2, k3⟩
  · simp [pcd] at e
    obtain rfl : r = s := by omega
    obtain rfl : a = c := by omega
    rfl
  · simp [pcd] at e; omega
  · simp [pcd] at e; omega
  · simp [pcd] at e
    obtain rfl : r = s := by omega
    obtain rfl : a = c := by omega
    obtain rfl : b = d := by omega
    rfl
/-- the reference's code -/
def rcd (f : RAt) : Int := if f.2.length = 1 then f.1 * 42 + f.2.getD 0 0 - 1 else f.1 * 42 + f.2.getD 0 0 * 6 + f.2.getD 1 0 - 1
theorem rcd_range {f : RAt} (h : FcR f) : 0 ≤ rcd f ∧ rcd f < 252 := by
  rcases fc_cases h with ⟨r, a, rfl, h1, h2⟩ | ⟨r, a, b, rfl, h1, h2, h3⟩
  · simp [rcd]; omega
  · simp [rcd]; omega
theorem rcd_inj {f g : RAt} (h : FcR f) (k : FcR g) (e : rcd f = rcd g) : f = g := by
  rcases fc_cases h with ⟨r, a, rfl, h1, h2⟩ | ⟨r, a, b, rfl, h1, h2, h3⟩ <;> rcases fc_cases k with ⟨s, c, rfl, k1, k2⟩ | ⟨s, c, d, rfl, k1, k2, k3⟩
  · simp [rcd] at e
    obtain rfl : r = s := by omega
    obtain rfl : a = c := by omega
    rfl
  · simp [rcd] at e; omega
  · simp [rcd] at e; omega
  · simp [rcd] at e
    obtain rfl : r = s := by omega
    obtain rfl : a = c := by omega
    obtain rfl : b = d := by omega
    rfl
/-- a ground instance in codes: its rule, its head, what it needs, what it avoids -/
structure PIn where
  rule : Nat
  head : Int
  need : List Int
  avoid : List Int
inductive ConsI (I : List PIn) (cnt : Nat → Bool) (S K : Int → Prop) : Int → Prop
  | given {c : Int} : S c → ConsI I cnt S K c
  | step {i : PIn} : i ∈ I → cnt i.rule = true → (∀ c, c ∈ i.need → ConsI I cnt S K c) → (∀ c, c ∈ i.avoid → ¬ K c) → ConsI I cnt S K i.head
theorem ConsI.least {I : List PIn} {cnt : Nat → Bool} {S K C : Int → Prop} (hS : ∀ f, S f → C f) (hc : ∀ i, i ∈ I → cnt i.rule = true → (∀ c, c ∈ i.need → C c) → (∀ c, c ∈ i.avoid → ¬ K c) → C i.head) {f : Int} (h : ConsI I cnt S K f) : C f := by
  induction h with
  | given h => exact hS _ h
  | step h1 h2 _ h4 ih => exact hc _ h1 h2 ih h4
/-- the instance of rule k under numbers -/
def insOf (k : Nat) (r : RRule) (m : List Int) : PIn := ⟨k, pcd (gnd m r.1), ((r.2.filter fun b => !b.1).map fun b => pcd (gnd m b.2)), ((r.2.filter fun b => b.1).map fun b => pcd (gnd m b.2))⟩
theorem need_iff {k : Nat} {r : RRule} {m : List Int} {p : Int → Prop} : (∀ c, c ∈ (insOf k r m).need → p c) ↔ ∀ b, b ∈ r.2 → b.1 = false → p (pcd (gnd m b.2)) := by
  unfold insOf
  simp only [List.mem_map, List.mem_filter]
  exact ⟨fun h b hb hn => h _ ⟨b, ⟨hb, by rw [hn]; rfl⟩, rfl⟩, fun h c ⟨b, ⟨hb, hn⟩, e⟩ => e ▸ h b hb (by revert hn; cases b.1 <;> simp)⟩
theorem avoid_iff {k : Nat} {r : RRule} {m : List Int} {p : Int → Prop} : (∀ c, c ∈ (insOf k r m).avoid → p c) ↔ ∀ b, b ∈ r.2 → b.1 = true → p (pcd (gnd m b.2)) := by
  unfold insOf
  simp only [List.mem_map, List.mem_filter]
  exact ⟨fun h b hb hn => h _ ⟨b, ⟨hb, hn⟩, rfl⟩, fun h c ⟨b, ⟨hb, hn⟩, e⟩ => e ▸ h b hb hn⟩
/-- valid rules: their atoms are valid -/
def RuV (l : List RRule) : Prop := ∀ r, r ∈ l → AtR r.1 ∧ ∀ b, b ∈ r.2 → AtR b.2
/-- the instances of rules that can count: those whose needs are reached; what is reached is closed -/
structure Ground (l : List RRule) (I : List PIn) (Rc : Int → Prop) : Prop where
  sound : ∀ i, i ∈ I → ∃ r m, l[i.rule]? = some r ∧ Num6 r m ∧ i = insOf i.rule r m
  full : ∀ k r m, l[k]? = some r → Num6 r m → (∀ b, b ∈ r.2 → b.1 = false → Rc (pcd (gnd m b.2))) → insOf k r m ∈ I
  closed : ∀ i, i ∈ I → Rc i.head
theorem cons_valid {l : List RRule} (hl : RuV l) {rs : RRule → Prop} (hr : ∀ r, rs r → r ∈ l) {S K : RAt → Prop} (hS : ∀ f, S f → FcR f) {f : RAt} (h : Cons rs S K f) : FcR f :=
  Cons.least hS (fun r _ h1 h2 _ _ => gnd_fc (hl r (hr r h1)).1 fun t ht => h2 t (.inl ht)) h
/-- both say the same -/
theorem ground_cons {l : List RRule} {I : List PIn} {Rc : Int → Prop} (hl : RuV l) (hI : Ground l I Rc) (cnt : Nat → Bool) (S : RAt → Prop) (K : Int → Prop) (hS : ∀ f, S f → FcR f ∧ Rc (pcd f)) (c : Int) :
    ConsI I cnt (fun c => ∃ f, S f ∧ pcd f = c) K c ↔ ∃ f, Cons (fun r => ∃ k, l[k]? = some r ∧ cnt k = true) S (fun f => K (pcd f)) f ∧ pcd f = c := by
  constructor
  · intro h
    refine ConsI.least (C := fun c => ∃ f, Cons (fun r => ∃ k, l[k]? = some r ∧ cnt k = true) S (fun f => K (pcd f)) f ∧ pcd f = c) (fun c ⟨f, h1, h2⟩ => ⟨f, .given h1, h2⟩) (fun i hi hc hn ha => ?_) h
    obtain ⟨r, m, h1, h2, h3⟩ := hI.sound i hi
    have hr := hl r (List.mem_of_getElem? h1)
    refine ⟨gnd m r.1, .step ⟨i.rule, h1, hc⟩ h2 (fun b hb hn2 => ?_) (fun b hb hn2 => ?_), by rw [h3]; rfl⟩
    · rw [h3] at hn
      obtain ⟨f, hf, e⟩ := need_iff.1 hn b hb hn2
      have v1 : FcR f := cons_valid hl (fun r ⟨k, hk, _⟩ => List.mem_of_getElem? hk) (fun f hf => (hS f hf).1) hf
      have v2 : FcR (gnd m b.2) := gnd_fc (hr.2 b hb) fun t ht => h2 t (.inr ⟨b, hb, ht⟩)
      rw [← pcd_inj v1 v2 e]; exact hf
    · rw [h3] at ha
      exact avoid_iff.1 ha b hb hn2
  · rintro ⟨f, hf, rfl⟩
    have key : Cons (fun r => ∃ k, l[k]? = some r ∧ cnt k = true) S (fun f => K (pcd f)) f → Rc (pcd f) ∧ ConsI I cnt (fun c => ∃ f, S f ∧ pcd f = c) K (pcd f) := fun h => by
      clear hf
      induction h with
      | given h => exact ⟨(hS _ h).2, .given ⟨_, h, rfl⟩⟩
      | @step r m h1 h2 _ h4 ih =>
        obtain ⟨k, hk, hc⟩ := h1
        have hin := hI.full k r m hk h2 fun b hb hn => (ih b hb hn).1
        exact ⟨hI.closed _ hin, .step (i := insOf k r m) hin hc (need_iff.2 fun b hb hn => (ih b hb hn).2) (avoid_iff.2 h4)⟩
    exact (key hf).2
#print axioms ground_cons
end Go.Proofs.Ythndplkjhbmfmaa
