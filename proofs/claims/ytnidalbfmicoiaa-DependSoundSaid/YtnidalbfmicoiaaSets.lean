/- Plain facts on closures of sets of attributes (numbers below 256) under dependencies. -/
import Derived.Test.YtnidalbfmicoiaaBase
namespace Go.Proofs.Ytnidalbfmicoiaa

def Sub (p s : Nat) : Prop := ndiff p s = 0
instance (p s : Nat) : Decidable (Sub p s) := inferInstanceAs (Decidable (ndiff p s = 0))
theorem sub_iff {p s : Nat} : Sub p s ↔ ∀ i, p.testBit i = true → s.testBit i = true := ndiff_eq_zero
theorem Sub.refl (p : Nat) : Sub p p := sub_iff.2 fun _ h => h
theorem Sub.trans {a b c : Nat} (h : Sub a b) (k : Sub b c) : Sub a c := sub_iff.2 fun i hi => sub_iff.1 k i (sub_iff.1 h i hi)
theorem Sub.antisymm {a b : Nat} (h : Sub a b) (k : Sub b a) : a = b := by
  apply Nat.eq_of_testBit_eq
  intro i
  have h1 := sub_iff.1 h i
  have h2 := sub_iff.1 k i
  cases ha : a.testBit i <;> cases hb : b.testBit i <;> simp_all
theorem sub_or_left (a b : Nat) : Sub a (a ||| b) := sub_iff.2 fun i hi => by rw [Nat.testBit_or, hi]; rfl
theorem sub_or_right (a b : Nat) : Sub b (a ||| b) := sub_iff.2 fun i hi => by rw [Nat.testBit_or, hi]; simp
theorem or_sub {a b c : Nat} (h : Sub a c) (k : Sub b c) : Sub (a ||| b) c := sub_iff.2 fun i hi => by
  rw [Nat.testBit_or, Bool.or_eq_true] at hi
  rcases hi with hi | hi
  · exact sub_iff.1 h i hi
  · exact sub_iff.1 k i hi
theorem or_sub_iff {a b c : Nat} : Sub (a ||| b) c ↔ Sub a c ∧ Sub b c :=
  ⟨fun h => ⟨(sub_or_left a b).trans h, (sub_or_right a b).trans h⟩, fun h => or_sub h.1 h.2⟩
theorem Sub.and_eq {a b : Nat} (h : Sub a b) : a &&& b = a := by
  apply Nat.eq_of_testBit_eq; intro i; rw [Nat.testBit_and]
  have := sub_iff.1 h i
  cases ha : a.testBit i <;> simp_all
theorem Sub.or_eq {a b : Nat} (h : Sub b a) : a ||| b = a := (or_sub (Sub.refl a) h).antisymm (sub_or_left a b)
theorem Sub.le {a b : Nat} (h : Sub a b) : a ≤ b := by rw [← h.and_eq]; exact Nat.and_le_right
theorem zero_sub (a : Nat) : Sub 0 a := sub_iff.2 fun i hi => by simp at hi
theorem or_gt {a b : Nat} (h : ¬ Sub b a) : a < a ||| b := by
  have h1 := (sub_or_left a b).le
  have h2 : a ≠ a ||| b := fun e => h (e ▸ sub_or_right a b)
  omega
theorem sub_full {n a : Nat} (h : a < 2 ^ n) : Sub a (2 ^ n - 1) := sub_iff.2 fun i hi => by
  rw [Nat.testBit_two_pow_sub_one]
  simp
  exact Decidable.byContradiction fun hn => by
    have := Nat.testBit_lt_two_pow (x := a) (i := i) (Nat.lt_of_lt_of_le h (Nat.pow_le_pow_right (by decide) (by omega)))
    simp [this] at hi
theorem lt_of_sub_full {n a : Nat} (h : Sub a (2 ^ n - 1)) : a < 2 ^ n := by
  have := h.le
  have := Nat.two_pow_pos n
  omega

abbrev DepN := Nat × Nat
/-- t is closed under l -/
def Clsd (l : List DepN) (t : Nat) : Prop := ∀ d ∈ l, Sub d.1 t → Sub d.2 t
def clsdB (l : List DepN) (t : Nat) : Bool := l.all fun d => !decide (Sub d.1 t) || decide (Sub d.2 t)
theorem clsdB_iff {l : List DepN} {t : Nat} : clsdB l t = true ↔ Clsd l t := by
  simp only [clsdB, List.all_eq_true, Clsd, Bool.or_eq_true, Bool.not_eq_true', decide_eq_true_eq, decide_eq_false_iff_not]
  constructor
  · intro h d hd h1; rcases h d hd with h2 | h2
    · exact absurd h1 h2
    · exact h2
  · intro h d hd
    by_cases h1 : Sub d.1 t
    · exact .inr (h d hd h1)
    · exact .inl h1
/-- all closed sets below 2^8 that contain s, cut together -/
def cl (l : List DepN) (s : Nat) : Nat := ((List.range 256).filter fun t => decide (Sub s t) && clsdB l t).foldl (· &&& ·) 255

theorem testBit_foldl_and (L : List Nat) : ∀ (x i : Nat), (L.foldl (· &&& ·) x).testBit i = (x.testBit i && L.all fun t => t.testBit i) := by
  induction L with
  | nil => intro x i; simp
  | cons t L ih => intro x i; rw [List.foldl_cons, ih, Nat.testBit_and, List.all_cons, Bool.and_assoc]
theorem cl_testBit (l : List DepN) (s i : Nat) : (cl l s).testBit i = true ↔ i < 8 ∧ ∀ t, t < 256 → Sub s t → Clsd l t → t.testBit i = true := by
  unfold cl
  rw [testBit_foldl_and, Bool.and_eq_true, List.all_eq_true, show (255 : Nat) = 2 ^ 8 - 1 from rfl, Nat.testBit_two_pow_sub_one]
  simp only [List.mem_filter, List.mem_range, Bool.and_eq_true, decide_eq_true_eq, clsdB_iff]
  constructor
  · intro ⟨h1, h2⟩; exact ⟨h1, fun t a b c => h2 t ⟨a, b, c⟩⟩
  · intro ⟨h1, h2⟩; exact ⟨h1, fun t ⟨a, b, c⟩ => h2 t a b c⟩
theorem cl_lt (l : List DepN) (s : Nat) : cl l s < 256 := by
  have : Sub (cl l s) (2 ^ 8 - 1) := sub_iff.2 fun i hi => by
    rw [Nat.testBit_two_pow_sub_one]; simpa using ((cl_testBit l s i).1 hi).1
  exact lt_of_sub_full this
theorem cl_least {l : List DepN} {s t : Nat} (h1 : t < 256) (h2 : Sub s t) (h3 : Clsd l t) : Sub (cl l s) t :=
  sub_iff.2 fun i hi => ((cl_testBit l s i).1 hi).2 t h1 h2 h3
theorem sub_cl {l : List DepN} {s : Nat} (h : s < 256) : Sub s (cl l s) := sub_iff.2 fun i hi => by
  rw [cl_testBit]
  refine ⟨?_, fun t _ h2 _ => sub_iff.1 h2 i hi⟩
  have := sub_iff.1 (sub_full (n := 8) h) i hi
  rw [Nat.testBit_two_pow_sub_one] at this
  simpa using this
/-- both sides of all dependencies are below m -/
def AllLt (l : List DepN) (m : Nat) : Prop := ∀ d ∈ l, d.1 < m ∧ d.2 < m
theorem cl_clsd {l : List DepN} {s : Nat} (hl : AllLt l 256) : Clsd l (cl l s) := by
  intro d hd h
  refine sub_iff.2 fun i hi => ?_
  rw [cl_testBit]
  refine ⟨?_, fun t h1 h2 h3 => ?_⟩
  · have := sub_iff.1 (sub_full (n := 8) (hl d hd).2) i hi
    rw [Nat.testBit_two_pow_sub_one] at this
    simpa using this
  · exact sub_iff.1 (h3 d hd (h.trans (cl_least h1 h2 h3))) i hi
theorem cl_unique {l : List DepN} {s c : Nat} (hl : AllLt l 256) (hc : c < 256) (h1 : Sub s c) (h2 : Clsd l c) (h3 : ∀ t, Sub s t → Clsd l t → Sub c t) (hs : s < 256) : c = cl l s :=
  (h3 _ (sub_cl hs) (cl_clsd hl)).antisymm (cl_least hc h1 h2)
theorem cl_lt_pow {l : List DepN} {s n : Nat} (hn : n ≤ 8) (hl : AllLt l (2 ^ n)) (hs : s < 2 ^ n) : cl l s < 2 ^ n := by
  have h8 : 2 ^ n ≤ 2 ^ 8 := Nat.pow_le_pow_right (by decide) hn
  have hp := Nat.two_pow_pos n
  refine lt_of_sub_full (cl_least (t := 2 ^ n - 1) ?_ (sub_full hs) fun d hd _ => sub_full (hl d hd).2)
  omega
theorem cl_mono {l : List DepN} {s t : Nat} (hl : AllLt l 256) (ht : t < 256) (h : Sub s t) : Sub (cl l s) (cl l t) :=
  cl_least (cl_lt _ _) (h.trans (sub_cl ht)) (cl_clsd hl)
theorem cl_idem {l : List DepN} {s : Nat} (hl : AllLt l 256) : cl l (cl l s) = cl l s :=
  (cl_least (cl_lt _ _) (Sub.refl _) (cl_clsd hl)).antisymm (sub_cl (cl_lt _ _))
#print axioms cl_unique
end Go.Proofs.Ytnidalbfmicoiaa
