/- Views as runs over indices; the first view equivalent order among all: of no program. -/
import Derived.Test.YtpehbffkplmfjaaViw
import Derived.Test.YtpehbffkplmfjaaCyc
namespace Go.Proofs.Ytpehbffkplmfjaa
open Go.RowKit
/-- the operations with these indices, one after another -/
def exV (h : List NOp) (σ : List Nat) (V : Nat → Nat) : Nat → Nat := σ.foldl (fun V i => doV h i V) V
theorem exV_append (h : List NOp) (σ τ : List Nat) (V : Nat → Nat) : exV h (σ ++ τ) V = exV h τ (exV h σ V) := List.foldl_append ..
def ofT (h : List NOp) (t n : Nat) : List Nat := (List.range n).filter fun i => decide (tT h i = t)
def ofC (h : List NOp) (n : Nat) : List Nat := (List.range n).filter fun i => decide (lv h h.length (7 + tT h i) ≠ 40)
def ofP (h : List NOp) (p : List Nat) : List Nat := p.flatMap fun t => ofT h t h.length
theorem doT_ex (h : List NOp) (t : Nat) (V : Nat → Nat) : ∀ n, doT h t n V = exV h (ofT h t n) V
  | 0 => rfl
  | n + 1 => by
    unfold ofT
    rw [doT, List.range_succ, List.filter_append, exV_append, doT_ex h t V n]
    by_cases e : tT h n = t
    · rw [if_pos e]; simp [e, exV, ofT]
    · rw [if_neg e]; simp [e, exV, ofT]
theorem goV_ex (h : List NOp) : ∀ n, goV h n = exV h (ofC h n) fun _ => 0
  | 0 => rfl
  | n + 1 => by
    unfold ofC
    rw [goV, List.range_succ, List.filter_append, exV_append, goV_ex h n]
    by_cases e : lv h h.length (7 + tT h n) ≠ 40
    · rw [if_pos e]; simp [e, exV, ofC]
    · rw [if_neg e]; simp [e, exV, ofC]
/-- the view after an order -/
def runV (h : List NOp) (p : List Nat) (V : Nat → Nat) : Nat → Nat := p.foldl (fun V t => doT h t h.length V) V
theorem runV_ex (h : List NOp) : ∀ (p : List Nat) (V : Nat → Nat), runV h p V = exV h (ofP h p) V
  | [], V => rfl
  | t :: p, V => by
    show runV h p (doT h t h.length V) = exV h (ofT h t h.length ++ ofP h p) V
    rw [exV_append, runV_ex h p, doT_ex]
theorem fvF_find {h : List NOp} {G : Nat → Nat} : ∀ (k : Nat) (left ord : List Nat) (V : Nat → Nat), left.length = k →
    fvF h G k left ord V = ((perms left).find? fun p => eqV (runV h p V) G).map (ord ++ ·)
  | 0, left, ord, V, hl => by
    obtain rfl := List.eq_nil_of_length_eq_zero hl
    rw [fvF]
    simp only [perms, permsF, List.length_nil, List.find?_cons, List.find?_nil]
    show _ = (match eqV V G with | true => some [] | false => none).map _
    cases eqV V G <;> simp
  | k + 1, left, ord, V, hl => by
    rw [fvF, perms_cons (by intro e; rw [e] at hl; simp at hl), List.find?_flatMap, findSome_map]
    refine findSome_congr fun i hi => ?_
    have hi := List.mem_range.1 hi
    rw [fvF_find k _ _ _ (by rw [List.length_eraseIdx_of_lt hi]; omega), List.find?_map, Option.map_map]
    congr 1
    funext q
    simp
theorem vwN_find (h : List NOp) : vwN h = (perms (comN h 7)).find? fun p => eqV (runV h p fun _ => 0) (goV h h.length) := by
  unfold vwN
  rw [fvF_find _ _ _ _ rfl]
  simp
#print axioms vwN_find
end Go.Proofs.Ytpehbffkplmfjaa
