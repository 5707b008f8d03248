/- What a proof is; contract of the reference's Proof. -/
import Derived.Test.YtnidalbfmicoiaaWalkSa
import Derived.Test.YtnidalbfmicoiaaWalkR
import Derived.Test.YtnidalbfmicoiaaWalkF
namespace Go.Proofs.Ytnidalbfmicoiaa
open Go.RowKit

def nth (l : List (Int × Int)) (i : Nat) : Int × Int := l.getD i (0, 0)
def stp (p : List Stp) (i : Nat) : Stp := p.getD i (0, 0, 0, 0, 0)
theorem nth_get {l : List (Int × Int)} {i : Nat} (h : i < l.length) : l[i] = nth l i := by simp [nth, h]
theorem stp_get {p : List Stp} {i : Nat} (h : i < p.length) : p[i] = stp p i := by simp [stp, h]
def Ok0 (l : List (Int × Int)) (i j f t : Int) : Prop := 0 ≤ i ∧ i < l.length ∧ j = 0 ∧ f = (nth l i.toNat).1 ∧ t = (nth l i.toNat).2
def Ok1 (i j f t : Int) : Prop := i = 0 ∧ j = 0 ∧ bits .andNot .i64 t f = 0
def Ok2 (n : Int) (p : List Stp) (k : Nat) (i j f t : Int) : Prop := 0 ≤ i ∧ i < k ∧ InSet n j ∧ f = bits .or .i64 (stp p i.toNat).2.2.2.1 j ∧ t = bits .or .i64 (stp p i.toNat).2.2.2.2 j
def Ok3 (p : List Stp) (k : Nat) (i j f t : Int) : Prop := 0 ≤ i ∧ i < k ∧ 0 ≤ j ∧ j < k ∧ (stp p i.toNat).2.2.2.2 = (stp p j.toNat).2.2.2.1 ∧ f = (stp p i.toNat).2.2.2.1 ∧ t = (stp p j.toNat).2.2.2.2
/-- the step s may stand behind the first k steps of p -/
def StepOk (n : Int) (l : List (Int × Int)) (p : List Stp) (k : Nat) (s : Stp) : Prop :=
  (s.1 = 0 ∧ Ok0 l s.2.1 s.2.2.1 s.2.2.2.1 s.2.2.2.2) ∨ (s.1 = 1 ∧ Ok1 s.2.1 s.2.2.1 s.2.2.2.1 s.2.2.2.2) ∨ (s.1 = 2 ∧ Ok2 n p k s.2.1 s.2.2.1 s.2.2.2.1 s.2.2.2.2) ∨ (s.1 = 3 ∧ Ok3 p k s.2.1 s.2.2.1 s.2.2.2.1 s.2.2.2.2)
instance (l : List (Int × Int)) (i j f t : Int) : Decidable (Ok0 l i j f t) := inferInstanceAs (Decidable (_ ∧ _))
instance (i j f t : Int) : Decidable (Ok1 i j f t) := inferInstanceAs (Decidable (_ ∧ _))
instance (n : Int) (p : List Stp) (k : Nat) (i j f t : Int) : Decidable (Ok2 n p k i j f t) := inferInstanceAs (Decidable (_ ∧ _))
instance (p : List Stp) (k : Nat) (i j f t : Int) : Decidable (Ok3 p k i j f t) := inferInstanceAs (Decidable (_ ∧ _))
instance (n : Int) (l : List (Int × Int)) (p : List Stp) (k : Nat) (s : Stp) : Decidable (StepOk n l p k s) := inferInstanceAs (Decidable (_ ∨ _))
def PairOk (n : Int) (s : Stp) : Prop := InSet n s.2.2.2.1 ∧ InSet n s.2.2.2.2
instance (n : Int) (s : Stp) : Decidable (PairOk n s) := inferInstanceAs (Decidable (_ ∧ _))
/-- the steps are a proof -/
def ProofOk (n : Int) (l : List (Int × Int)) (p : List Stp) : Prop := (∀ k, k < p.length → PairOk n (stp p k) ∧ StepOk n l p k (stp p k)) ∧ 1 ≤ p.length ∧ p.length ≤ 100
instance (n : Int) (l : List (Int × Int)) (p : List Stp) : Decidable (ProofOk n l p) := inferInstanceAs (Decidable ((∀ k, k < p.length → _) ∧ _))
variable {n : Int} {l : List (Int × Int)} {p : List Stp} {k : Nat} {i j f t r : Int}
theorem ok_0 : StepOk n l p k (0, i, j, f, t) ↔ Ok0 l i j f t := by simp [StepOk]
theorem ok_1 : StepOk n l p k (1, i, j, f, t) ↔ Ok1 i j f t := by simp [StepOk]
theorem ok_2 : StepOk n l p k (2, i, j, f, t) ↔ Ok2 n p k i j f t := by simp [StepOk]
theorem ok_3 : StepOk n l p k (3, i, j, f, t) ↔ Ok3 p k i j f t := by simp [StepOk]
theorem ok_no (h0 : r ≠ 0) (h1 : r ≠ 1) (h2 : r ≠ 2) (h3 : r ≠ 3) : ¬ StepOk n l p k (r, i, j, f, t) := by simp [StepOk, h0, h1, h2, h3]
theorem proof_no {s : Stp} (hk : k < p.length) (hs : stp p k = s) (h : ¬ (PairOk n s ∧ StepOk n l p k s)) : decide (ProofOk n l p) = false :=
  decide_eq_false fun hp => h (by have := hp.1 k hk; rw [hs] at this; exact this)
theorem setRQ (n : Nat) (s : Int) (hn : n ≤ 8) (w : World) : Calls Try.prog 28 #[.int .i64 n, .int .i64 s] w fun e w' => e = .returned (.bool (decide (InSet n s))) ∧ ∃ q, w' = w.drewN q :=
  (setR_any n s hn w).mono fun _ _ ⟨h1, h2⟩ => ⟨h1, 0, h2.symm⟩
theorem setRQ_y (n : Nat) (s : Int) (hn : n ≤ 8) (hs : InSet n s) (w : World) : Calls Try.prog 28 #[.int .i64 n, .int .i64 s] w fun e w' => e = .returned (.bool true) ∧ ∃ q, w' = w.drewN q :=
  (setRQ n s hn w).mono fun _ _ ⟨h1, h2⟩ => ⟨by rw [decide_eq_true hs] at h1; exact h1, h2⟩
theorem setRQ_n (n : Nat) (s : Int) (hn : n ≤ 8) (hs : ¬ InSet n s) (w : World) : Calls Try.prog 28 #[.int .i64 n, .int .i64 s] w fun e w' => e = .returned (.bool false) ∧ ∃ q, w' = w.drewN q :=
  (setRQ n s hn w).mono fun _ _ ⟨h1, h2⟩ => ⟨by rw [decide_eq_false hs] at h1; exact h1, h2⟩
end Go.Proofs.Ytnidalbfmicoiaa
