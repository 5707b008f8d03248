/- Math and memory for the reference's Reduce. Math: the facts that matches use are enough. Contract of slices.EqualFunc over lists of lists of facts, with the laws' Same, where both are equal. -/
import Derived.Test.YtfplmdieeabgpaaPky
import Derived.Test.YtfplmdieeabgpaaMrr
import Derived.Test.YtfplmdieeabgpaaRdd
import Derived.Test.YtfplmdieeabgpaaPrd
import Derived.Test.YtfplmdieeabgpaaLbx
import Derived.Test.YtfplmdieeabgpaaSam
namespace Go.Proofs.Ytfplmdieeabgpaa
open Go.RowKit
/-- the rows f 0 .. f (m-1), each once, rising -/
def RowG (f : Nat → List Int) (m : Nat) (K : List (List Int)) : Prop := Strict K ∧ ∀ z, z ∈ K ↔ ∃ j, j < m ∧ z = f j
theorem rowG_0 (f : Nat → List Int) : RowG f 0 [] := ⟨List.Pairwise.nil, fun z => ⟨fun h => (by cases h), fun ⟨j, h, _⟩ => (by omega)⟩⟩
theorem rowG_len {f : Nat → List Int} {m : Nat} {K : List (List Int)} (h : RowG f m K) : K.length ≤ m := by
  have := len_le (l := K) (m := (List.range m).map f) (strict_nodup h.1) fun z hz => by
    obtain ⟨j, hj, rfl⟩ := (h.2 z).1 hz
    exact List.mem_map.2 ⟨j, List.mem_range.2 hj, rfl⟩
  simpa using this
theorem rowG_step {f : Nat → List Int} {m : Nat} {K S : List (List Int)} (h : RowG f m K) (hS : PutR K (f m) S) : RowG f (m + 1) S := ⟨hS.1, fun z => by
  rw [hS.2, h.2]
  constructor
  · rintro (⟨j, hj, rfl⟩ | rfl)
    · exact ⟨j, by omega, rfl⟩
    · exact ⟨m, by omega, rfl⟩
  · rintro ⟨j, hj, rfl⟩
    by_cases e : j = m
    · subst e; exact .inr rfl
    · exact .inl ⟨j, by omega, rfl⟩⟩
/-- the row of an atom under a match -/
def rowA (r : Int) (A : List Int) (N : List (List Int)) (j : Nat) : List Int := r :: A.map (numOf (N.getD j []))
theorem part_of {q : HQ} {l : List HAt} {i : Nat} {N K : List (List Int)} (hN : ∀ v, v ∈ N ↔ MaP l q.2 v) (h : RowG (rowA (aR q.2 i) (aA q.2 i) N) N.length K) : Part q l i (fsK K) := by
  have hk : ∀ z, z ∈ K → ∃ j, j < N.length ∧ z = rowA (aR q.2 i) (aA q.2 i) N j := fun z hz => (h.2 z).1 hz
  have e : (fsK K).map keyF = K := by
    unfold fsK
    rw [List.map_map]
    conv => rhs; rw [← List.map_id K]
    refine List.map_congr_left fun z hz => ?_
    obtain ⟨j, _, rfl⟩ := hk z hz
    rfl
  refine ⟨by rw [e]; exact h.1, fun x => ?_⟩
  have k1 : x ∈ fsK K ↔ keyF x ∈ K := by
    constructor
    · intro hx; rw [← e]; exact List.mem_map.2 ⟨x, hx, rfl⟩
    · intro hx
      rw [← e] at hx
      obtain ⟨y, hy, e2⟩ := List.mem_map.1 hx
      rw [← keyF_inj e2]; exact hy
  rw [k1, h.2]
  constructor
  · rintro ⟨j, hj, hx⟩
    refine ⟨N.getD j [], (hN _).1 ?_, ?_⟩
    · rw [List.getD_eq_getElem?_getD, List.getElem?_eq_getElem hj]; exact List.getElem_mem hj
    · unfold keyF rowA at hx
      exact Prod.ext (List.cons.inj hx).1 (List.cons.inj hx).2
  · rintro ⟨v, hv, rfl⟩
    obtain ⟨j, hj, rfl⟩ := List.getElem_of_mem ((hN v).2 hv)
    refine ⟨j, hj, ?_⟩
    unfold keyF rowA
    rw [List.getD_eq_getElem?_getD, List.getElem?_eq_getElem hj]; rfl
theorem maP_val {q : HQ} {l : List HAt} (hl : FsV l) {v : List Int} (hv : MaP l q.2 v) {i : Nat} (hi : i < q.2.length) {x : Int} (hx : x ∈ aA q.2 i) : 1 ≤ numOf v x ∧ numOf v x ≤ 99 := by
  obtain ⟨f, hf, hg⟩ := hv.fit q.2[i] (List.getElem_mem hi)
  obtain ⟨j, hj, rfl⟩ := List.getElem_of_mem hf
  rw [at_get hi] at hg
  have h2 : (aA q.2 i).map (numOf v) = aA l j := by rw [hg.2, at_get hj]
  exact (hl.2 j hj).2.2 _ (by rw [← h2]; exact List.mem_map.2 ⟨x, hx, rfl⟩)
/-- a list of lists of facts reads so -/
def Pts (w : World) (u : Value) (L : List (List HAt)) : Prop := ∃ vs : List Value, vs.length = L.length ∧ Rd w u 1 L.length vs ∧ ∀ i, i < L.length → Atoms w (vs.getD i (.bool false)) (L.getD i [])
theorem Pts.keep {w w' : World} {u : Value} {L : List (List HAt)} (h : Pts w u L) (hb : Below w.heap.size w w') : Pts w' u L := by
  obtain ⟨vs, h1, h2, h3⟩ := h
  exact ⟨vs, h1, Rd.keep h2 hb, fun i hi => (h3 i hi).keep hb⟩
theorem OwnPts.pts {base : Nat} {w : World} {v : Value} {L : List (List HAt)} (h : OwnPts base w v L) : Pts w v L := by
  obtain ⟨vs, h1, h2, h3⟩ := h
  exact ⟨vs, h1, owns_rd h2, fun i hi => (h3 i hi).atoms⟩
/-- reads so in all worlds that agree outside a block -/
def Firm (w : World) (g : Option Nat) (u : Value) (N : List HAt) : Prop := ∀ w' : World, (∀ b, b < w.heap.size → some b ≠ g → w'.heap[b]? = w.heap[b]?) → Atoms w' u N
/-- a value's block is not g -/
def Off (g : Option Nat) (x : Value) : Prop := ∀ a n c, x = .slice (some a) n c → some a.block ≠ g
theorem rd_off {w w' : World} {g : Option Nat} {x : Value} {s n : Nat} {xs : List Value} (h : Rd w x s n xs) (ho : Off g x) (hw : ∀ b, b < w.heap.size → some b ≠ g → w'.heap[b]? = w.heap[b]?) : Rd w' x s n xs := by
  obtain ⟨h1, h2, a, b, off, cap, h3, h4, h5⟩ := h
  refine ⟨h1, h2, a, b, off, cap, h3, h4, fun j hj => ?_⟩
  have hc := h5 j hj
  by_cases hn : 0 < n
  · have hne := ho ⟨b, off, none⟩ n cap (by rw [h3, h4.1 hn])
    rw [World.cell?_of_block (hw b (cell_lt hc) hne)]
    exact hc
  · have : n = 0 := by omega
    subst this
    rw [Nat.zero_mul] at h1
    omega
theorem ints_off {w w' : World} {g : Option Nat} {x : Value} {X : List Int} (h : Ints w x X) (ho : Off g x) (hw : ∀ b, b < w.heap.size → some b ≠ g → w'.heap[b]? = w.heap[b]?) : Ints w' x X := rd_off h ho hw
/-- own facts whose arguments lie in an older world, outside a block -/
theorem subA_firm {w0 w : World} {B : Nat} {g : Option Nat} {v : Value} {l : List HAt} {vs : List Value} (h1 : vs.length = l.length) (h2 : w.ownsRow B 77 2 v l.length (atC l vs)) (h3 : ∀ i, i < l.length → Ints w0 (vs.getD i (.bool false)) (aA l i) ∧ Off g (vs.getD i (.bool false)))
    (hb : Below w0.heap.size w0 w) (hg : ∀ k, g = some k → k < B) : Firm w g v l := fun w' hw => by
  refine ⟨vs, h1, rd_off (owns_rd h2) (fun a n c e => ?_) hw, fun i hi => ?_⟩
  · rcases h2.2 with ⟨e2, _⟩ | ⟨g', cap, cur, e2, hlt, _⟩
    · rw [e2] at e; cases e
    · rw [e2] at e
      injection e with e
      injection e with e
      intro k
      have := hg _ k.symm
      rw [← e] at this
      have : g' < B := this
      omega
  · exact ints_off ((h3 i hi).1.keep hb) (h3 i hi).2 hw
/-- the rows under way -/
def OutP (B : Nat) (w : World) (u : Value) (L : List (List HAt)) : Prop := ∃ vs : List Value, vs.length = L.length ∧ w.ownsRow B 26 1 u L.length vs ∧ ∀ i, i < L.length → Firm w u.ownBlock (vs.getD i (.bool false)) (L.getD i [])
theorem outP_nil (B : Nat) (w : World) : OutP B w (.slice none 0 0) [] := ⟨[], rfl, World.ownsRow_nil _ _ _ _, fun i hi => by simp at hi⟩
theorem Firm.keep {w w' : World} {g : Option Nat} {u : Value} {N : List HAt} (h : Firm w g u N) (hb : Below w.heap.size w w') : Firm w' g u N := fun w2 h2 => h w2 fun b hb2 hne => (h2 b (Nat.lt_of_lt_of_le hb2 hb.size) hne).trans (hb.block b hb2)
theorem OutP.keep {B : Nat} {w w' : World} {u : Value} {L : List (List HAt)} (h : OutP B w u L) (hb : Below w.heap.size w w') : OutP B w' u L := by
  obtain ⟨vs, h1, h2, h3⟩ := h
  exact ⟨vs, h1, owns_keep h2 hb, fun i hi => (h3 i hi).keep hb⟩
theorem OutP.pts {B : Nat} {w : World} {u : Value} {L : List (List HAt)} (h : OutP B w u L) : Pts w u L := by
  obtain ⟨vs, h1, h2, h3⟩ := h
  exact ⟨vs, h1, owns_rd h2, fun i hi => h3 i hi w fun _ _ _ => rfl⟩
theorem OutP.snoc {B : Nat} {w w' : World} {u u' x : Value} {L : List (List HAt)} {N : List HAt} {vs : List Value} (h1 : vs.length = L.length) (h3 : ∀ i, i < L.length → Firm w u.ownBlock (vs.getD i (.bool false)) (L.getD i [])) (hx : Firm w u.ownBlock x N)
    (h2 : w'.ownsRow B 26 1 u' (L.length + 1) (vs ++ [x])) (hg : w.grownBy w' u.ownBlock) (hor : u'.ownBlock = u.ownBlock ∨ u'.ownBlock = some w.heap.size) : OutP B w' u' (L ++ [N]) := by
  have key : ∀ {y : Value} {M : List HAt}, Firm w u.ownBlock y M → Firm w' u'.ownBlock y M := fun h w2 hw2 => h w2 fun b hb hne => (hw2 b (Nat.lt_of_lt_of_le hb hg.size) (fun e => by
    rcases hor with k | k
    · rw [k] at e; exact hne e
    · rw [k] at e; injection e with e; omega)).trans (hg.block b hb hne)
  refine ⟨vs ++ [x], by simp [h1], by rw [List.length_append]; exact h2, fun i hi => ?_⟩
  rw [List.length_append] at hi
  by_cases e2 : i < L.length
  · rw [show (vs ++ [x]).getD i (.bool false) = vs.getD i (.bool false) by simp [List.getD_eq_getElem?_getD, List.getElem?_append_left (show i < vs.length by omega)], show (L ++ [N]).getD i [] = L.getD i [] by simp [List.getD_eq_getElem?_getD, List.getElem?_append_left e2]]
    exact key (h3 i e2)
  · have : i = L.length := by simp at hi; omega
    subst this
    rw [show (vs ++ [x]).getD L.length (.bool false) = x by simp [List.getD_eq_getElem?_getD, ← h1], show (L ++ [N]).getD L.length [] = N by simp [List.getD_eq_getElem?_getD]]
    exact key hx
/-- facts under way: their arguments lie in an older world, outside a block -/
def SubO (w0 : World) (g : Option Nat) (B : Nat) (w : World) (v : Value) (l : List HAt) : Prop := ∃ vs : List Value, vs.length = l.length ∧ w.ownsRow B 77 2 v l.length (atC l vs) ∧ ∀ i, i < l.length → Ints w0 (vs.getD i (.bool false)) (aA l i) ∧ Off g (vs.getD i (.bool false))
theorem SubO.keep {w0 w w' : World} {g : Option Nat} {B : Nat} {v : Value} {l : List HAt} (h : SubO w0 g B w v l) (hb : Below w.heap.size w w') : SubO w0 g B w' v l := by
  obtain ⟨vs, h1, h2, h3⟩ := h
  exact ⟨vs, h1, owns_keep h2 hb, h3⟩
theorem subO_nil (w0 : World) (g : Option Nat) (B : Nat) (w : World) : SubO w0 g B w (.slice none 0 0) [] := ⟨[], rfl, World.ownsRow_nil w B _ 2, fun i hi => by cases hi⟩
theorem SubO.slice {w0 w : World} {g : Option Nat} {B : Nat} {v : Value} {l : List HAt} (h : SubO w0 g B w v l) : ∃ a n k, v = .slice a n k := by
  obtain ⟨vs, h1, h2, h3⟩ := h
  exact row_slice h2
theorem SubO.snoc {w0 w' : World} {g : Option Nat} {B : Nat} {v' u : Value} {l : List HAt} {vs : List Value} {r : Int} {A : List Int} (h1 : vs.length = l.length) (h3 : ∀ i, i < l.length → Ints w0 (vs.getD i (.bool false)) (aA l i) ∧ Off g (vs.getD i (.bool false))) (hu : Ints w0 u A) (ho : Off g u)
    (h : w'.ownsRow B 77 2 v' (l.length + 1) (atC l vs ++ [.int .i64 r, u])) : SubO w0 g B w' v' (l ++ [(r, A)]) := by
  refine ⟨vs ++ [u], by simp [h1], ?_, fun i hi => ?_⟩
  · rw [atC_snoc h1]; simpa using h
  · rw [List.length_append] at hi
    by_cases e2 : i < l.length
    · have := h3 i e2
      rwa [show (vs ++ [u]).getD i (.bool false) = vs.getD i (.bool false) by simp [List.getD_eq_getElem?_getD, List.getElem?_append_left (show i < vs.length by omega)], show aA (l ++ [(r, A)]) i = aA l i by simp [aA, List.getD_eq_getElem?_getD, List.getElem?_append_left e2]]
    · have : i = l.length := by simp at hi; omega
      subst this
      rw [show (vs ++ [u]).getD l.length (.bool false) = u by simp [List.getD_eq_getElem?_getD, ← h1], show aA (l ++ [(r, A)]) l.length = A by simp [aA, List.getD_eq_getElem?_getD]]
      exact ⟨hu, ho⟩
theorem SubO.firm {w0 w : World} {g : Option Nat} {B : Nat} {v : Value} {l : List HAt} (h : SubO w0 g B w v l) (hb : Below w0.heap.size w0 w) (hg : ∀ k, g = some k → k < B) : Firm w g v l := by
  obtain ⟨vs, h1, h2, h3⟩ := h
  exact subA_firm h1 h2 h3 hb hg
/-- own atoms whose arguments lie in an older world -/
def SubB (e : TypeId) (w0 : World) (B : Nat) (w : World) (v : Value) (l : List HAt) : Prop := ∃ vs : List Value, vs.length = l.length ∧ w.ownsRow B e 2 v l.length (atC l vs) ∧ ∀ i, i < l.length → Ints w0 (vs.getD i (.bool false)) (aA l i)
theorem SubB.keep {e : TypeId} {w0 w w' : World} {B : Nat} {v : Value} {l : List HAt} (h : SubB e w0 B w v l) (hb : Below w.heap.size w w') : SubB e w0 B w' v l := by
  obtain ⟨vs, h1, h2, h3⟩ := h
  exact ⟨vs, h1, owns_keep h2 hb, h3⟩
theorem SubB.atoms {e : TypeId} {w0 w : World} {B : Nat} {v : Value} {l : List HAt} (h : SubB e w0 B w v l) (hb : Below w0.heap.size w0 w) : Atoms w v l := by
  obtain ⟨vs, h1, h2, h3⟩ := h
  exact ⟨vs, h1, owns_rd h2, fun i hi => (h3 i hi).keep hb⟩
theorem SubB.grown {e : TypeId} (he : e ≠ 3) {w0 w w' : World} {B B' : Nat} {v u : Value} {l : List HAt} {L : List Int} (h : SubB e w0 B w v l) (k : OwnInts B' w u L) (hg : w.grownBy w' u.ownBlock) : SubB e w0 B w' v l := by
  obtain ⟨vs, h1, h2, h3⟩ := h
  exact ⟨vs, h1, h2.kept hg (rows_apart h2 k he), h3⟩
theorem SubB.cell {e : TypeId} {w0 w : World} {B : Nat} {v : Value} {l : List HAt} (h : SubB e w0 B w v l) {b j : Nat} (hb : b < B) (x : Value) : SubB e w0 B (w.setCell ⟨b, j, none⟩ x) v l := by
  obtain ⟨vs, h1, h2, h3⟩ := h
  exact ⟨vs, h1, ownsRow_setCell_below h2 hb _, h3⟩
theorem subB_nil (e : TypeId) (w0 : World) (B : Nat) (w : World) : SubB e w0 B w (.slice none 0 0) [] := ⟨[], rfl, World.ownsRow_nil w B e 2, fun i hi => by cases hi⟩
theorem SubB.slice {e : TypeId} {w0 w : World} {B : Nat} {v : Value} {l : List HAt} (h : SubB e w0 B w v l) : ∃ a n k, v = .slice a n k := by
  obtain ⟨vs, h1, h2, h3⟩ := h
  exact row_slice h2
theorem SubB.snoc {e : TypeId} {w0 w' : World} {B : Nat} {v' u : Value} {l : List HAt} {vs : List Value} {r : Int} {A : List Int} (h1 : vs.length = l.length) (h3 : ∀ i, i < l.length → Ints w0 (vs.getD i (.bool false)) (aA l i)) (hu : Ints w0 u A)
    (h : w'.ownsRow B e 2 v' (l.length + 1) (atC l vs ++ [.int .i64 r, u])) : SubB e w0 B w' v' (l ++ [(r, A)]) := by
  refine ⟨vs ++ [u], by simp [h1], ?_, fun i hi => ?_⟩
  · rw [atC_snoc h1]; simpa using h
  · rw [List.length_append] at hi
    by_cases e2 : i < l.length
    · have := h3 i e2
      rwa [show (vs ++ [u]).getD i (.bool false) = vs.getD i (.bool false) by simp [List.getD_eq_getElem?_getD, List.getElem?_append_left (show i < vs.length by omega)], show aA (l ++ [(r, A)]) i = aA l i by simp [aA, List.getD_eq_getElem?_getD, List.getElem?_append_left e2]]
    · have : i = l.length := by simp at hi; omega
      subst this
      rwa [show (vs ++ [u]).getD l.length (.bool false) = u by simp [List.getD_eq_getElem?_getD, ← h1], show aA (l ++ [(r, A)]) l.length = A by simp [aA, List.getD_eq_getElem?_getD]]
theorem elemPts : Elem Try.prog 66 26 1 24 := elem_of Try.underlying66 infoPts rfl (by omega) (by omega)
/-- what the reference's Reduce returns -/
def RedRR (q : HQ) (l : List HAt) (w : World) (u : Value) (c : Int) : Prop :=
  (¬ (QrV q ∧ FsV l) ∧ u = .slice none 0 0 ∧ c = 2) ∨ (QrV q ∧ FsV l ∧ Big l q.2 ∧ u = .slice none 0 0 ∧ c = 3) ∨
    (QrV q ∧ FsV l ∧ ¬ Big l q.2 ∧ c = 0 ∧ ∃ P, Pts w u P ∧ P.length = q.2.length ∧ ∀ i, i < q.2.length → Part q l i (P.getD i []))
#print axioms part_of
#print axioms OutP.snoc
theorem ofF_eq2 {l : List HAt} (h1 : l.length ≤ 26) (h2 : ∀ i, i < l.length → (aA l i).length ≤ 9) : ofF l = l := by
  unfold ofF
  rw [List.take_of_length_le h1]
  refine List.ext_getElem (by simp) fun i a b => ?_
  rw [List.getElem_map, at_get b]
  unfold ofA
  rw [List.take_of_length_le (h2 i b)]
theorem ofF_of2 {l : List HAt} (h : FsV l) : ofF l = l := ofF_eq2 (by have := h.1; omega) fun i hi => by have := (h.2 i hi).2.1.2; omega
theorem ofF_valid2 {l : List HAt} (h : FsV (ofF l)) : ofF l = l := by
  have l1 := h.1
  have l2 := h.2
  unfold ofF at l1 l2
  simp only [List.length_map, List.length_take] at l1 l2
  have h26 : l.length ≤ 26 := by omega
  refine ofF_eq2 h26 fun i hi => ?_
  have := (l2 i (by omega)).2.1.2
  rw [List.take_of_length_le h26, show aA (l.map ofA) i = (aA l i).take 9 by simp [aA, hi, ofA], List.length_take] at this
  omega
theorem valid_same2 {q : HQ} {l : List HAt} : (QrV (ofQ q) ∧ FsV (ofF l) ∧ ofQ q = q ∧ ofF l = l ∧ QrV q ∧ FsV l) ∨ (¬ (QrV (ofQ q) ∧ FsV (ofF l)) ∧ ¬ (QrV q ∧ FsV l)) := by
  by_cases h : QrV q ∧ FsV l
  · have e1 := ofQ_of h.1
    have e2 := ofF_of2 h.2
    exact .inl ⟨by rw [e1]; exact h.1, by rw [e2]; exact h.2, e1, e2, h.1, h.2⟩
  · refine .inr ⟨fun k => h ?_, h⟩
    have e1 := ofQ_valid k.1
    have e2 := ofF_valid2 k.2
    rw [e1, e2] at k; exact k
theorem part_in {q : HQ} {l N : List HAt} {i : Nat} (h : Part q l i N) (hi : i < q.2.length) {x : HAt} (hx : x ∈ N) : x ∈ l ∧ x.1 = aR q.2 i := by
  obtain ⟨v, hv, rfl⟩ := (h.2 x).1 hx
  refine ⟨?_, rfl⟩
  obtain ⟨f, hf, h1, h2⟩ := hv.fit q.2[i] (List.getElem_mem hi)
  rw [at_get hi] at h1 h2
  have : f = (aR q.2 i, (aA q.2 i).map (numOf v)) := Prod.ext h1.symm h2.symm
  rw [← this]; exact hf
theorem part_none {q : HQ} {l N : List HAt} {i : Nat} (h : Part q l i N) : N.length = 0 ↔ ∀ v, ¬ MaP l q.2 v := by
  rw [List.length_eq_zero_iff]
  constructor
  · rintro rfl v hv
    have := (h.2 _).2 ⟨v, hv, rfl⟩
    cases this
  · intro hn
    cases N with
    | nil => rfl
    | cons x N =>
      obtain ⟨v, hv, _⟩ := (h.2 x).1 (by simp)
      exact absurd hv (hn v)
theorem list_none {L : List (List Int)} {p : List Int → Prop} (h : ∀ v, v ∈ L ↔ p v) : L.length = 0 ↔ ∀ v, ¬ p v := by
  rw [List.length_eq_zero_iff]
  constructor
  · rintro rfl v hv
    have := (h v).2 hv
    cases this
  · intro hn
    cases L with
    | nil => rfl
    | cons x N => exact absurd ((h x).1 (by simp)) (hn x)
/-- the facts of all parts together -/
def AllP (q : HQ) (P : List (List HAt)) (al : List HAt) : Prop := ∀ x, x ∈ al ↔ ∃ j, j < q.2.length ∧ x ∈ P.getD j []
theorem allP_in {q : HQ} {l al : List HAt} {P : List (List HAt)} (hP : ∀ i, i < q.2.length → Part q l i (P.getD i [])) (ha : AllP q P al) {x : HAt} (hx : x ∈ al) : x ∈ l := by
  obtain ⟨j, hj, h⟩ := (ha x).1 hx
  exact (part_in (hP j hj) hj h).1
theorem maP_sub {l m body : List HAt} (h : ∀ f, f ∈ l → f ∈ m) {w : List Int} (hw : MaP l body w) : MaP m body w :=
  ⟨hw.len, fun a ha => by obtain ⟨f, hf, hg⟩ := hw.fit a ha; exact ⟨f, h f hf, hg⟩, hw.sup⟩
theorem allP_maP {q : HQ} {l al : List HAt} {P : List (List HAt)} (hP : ∀ i, i < q.2.length → Part q l i (P.getD i [])) (ha : AllP q P al) (v : List Int) : MaP al q.2 v ↔ MaP l q.2 v := by
  refine ⟨maP_sub fun f hf => allP_in hP ha hf, fun hv => ⟨hv.len, fun a ham => ?_, hv.sup⟩⟩
  obtain ⟨i, hi, rfl⟩ := List.getElem_of_mem ham
  refine ⟨(aR q.2 i, (aA q.2 i).map (numOf v)), (ha _).2 ⟨i, hi, ((hP i hi).2 _).2 ⟨v, hv, rfl⟩⟩, ?_⟩
  rw [at_get hi]
  exact ⟨rfl, rfl⟩
theorem big_sub {l m body : List HAt} (h : ∀ f, f ∈ l → f ∈ m) (hb : Big l body) : Big m body := by
  obtain ⟨k, h1, h2, L, h3, h4, h5⟩ := hb
  exact ⟨k, h1, h2, L, h3, fun v hv => maP_sub h (h4 v hv), h5⟩
theorem allP_valid {q : HQ} {l al : List HAt} {P : List (List HAt)} (hl : FsV l) (hP : ∀ i, i < q.2.length → Part q l i (P.getD i [])) (ha : AllP q P al) (hn : al.Nodup) : FsV al := by
  refine ⟨Nat.le_trans (len_le hn fun x hx => allP_in hP ha hx) hl.1, fun i hi => ?_⟩
  have hx := allP_in hP ha (List.getElem_mem hi)
  obtain ⟨j, hj, e⟩ := List.getElem_of_mem hx
  have := hl.2 j hj
  rw [at_get hi, at_get hj] at e
  have e1 : aR l j = aR al i := (Prod.mk.inj e).1
  have e2 : aA l j = aA al i := (Prod.mk.inj e).2
  rwa [e1, e2] at this
theorem allP_res {q : HQ} {l al : List HAt} {P : List (List HAt)} (hP : ∀ i, i < q.2.length → Part q l i (P.getD i [])) (ha : AllP q P al) {R S : List (List Int)} (h : IsRes q l R) (k : IsRes q al S) : R = S :=
  strict_eq h.1 k.1 fun x => (h.2 x).trans (Iff.trans ⟨fun ⟨v, h1, h2⟩ => ⟨v, (allP_maP hP ha v).2 h1, h2⟩, fun ⟨v, h1, h2⟩ => ⟨v, (allP_maP hP ha v).1 h1, h2⟩⟩ (k.2 x).symm)
theorem allP_cnt {q : HQ} {l al : List HAt} {P : List (List HAt)} (hP : ∀ i, i < q.2.length → Part q l i (P.getD i [])) (ha : AllP q P al) {L M : List (List Int)} (hL : L.Nodup) (hM : M.Nodup) (h : ∀ v, v ∈ L ↔ MaP l q.2 v) (k : ∀ v, v ∈ M ↔ MaP al q.2 v) : L.length = M.length :=
  len_same hL hM fun x => by rw [h, k, allP_maP hP ha]
/-- the codes of the three calls are one -/
theorem codes {q : HQ} {l : List HAt} {b b2 : Nat} {w w2 : World} {u u2 : Value} {c1 c2 c3 n : Int} (h : RedE q l b w u c1) (k : ResC q l b2 w2 u2 c2) (j : CntC q l n c3) : c2 = c1 ∧ c3 = c1 := by
  by_cases v : QrV q ∧ FsV l
  · by_cases B : Big l q.2
    · have e1 : c1 = 3 := by
        rcases h with ⟨h1, _⟩ | ⟨_, _, _, _, e⟩ | ⟨_, _, h3, _⟩
        · exact absurd v h1
        · exact e
        · exact absurd B h3
      have e2 : c2 = 3 := by
        rcases k with ⟨h1, _⟩ | ⟨_, _, _, _, e⟩ | ⟨_, _, h3, _⟩
        · exact absurd v h1
        · exact e
        · exact absurd B h3
      have e3 : c3 = 3 := by
        rcases j with ⟨h1, _⟩ | ⟨_, _, _, _, e⟩ | ⟨_, _, h3, _⟩
        · exact absurd v h1
        · exact e
        · exact absurd B h3
      exact ⟨e2.trans e1.symm, e3.trans e1.symm⟩
    · have e1 : c1 = 0 := by
        rcases h with ⟨h1, _⟩ | ⟨_, _, h3, _⟩ | ⟨_, _, _, e, _⟩
        · exact absurd v h1
        · exact absurd h3 B
        · exact e
      have e2 : c2 = 0 := by
        rcases k with ⟨h1, _⟩ | ⟨_, _, h3, _⟩ | ⟨_, _, _, e, _⟩
        · exact absurd v h1
        · exact absurd h3 B
        · exact e
      have e3 : c3 = 0 := by
        rcases j with ⟨h1, _⟩ | ⟨_, _, h3, _⟩ | ⟨_, _, _, e, _⟩
        · exact absurd v h1
        · exact absurd h3 B
        · exact e
      exact ⟨e2.trans e1.symm, e3.trans e1.symm⟩
  · have e1 : c1 = 2 := by
      rcases h with ⟨_, _, e⟩ | ⟨h1, h2, _⟩ | ⟨h1, h2, _⟩
      · exact e
      · exact absurd ⟨h1, h2⟩ v
      · exact absurd ⟨h1, h2⟩ v
    have e2 : c2 = 2 := by
      rcases k with ⟨_, _, e⟩ | ⟨h1, h2, _⟩ | ⟨h1, h2, _⟩
      · exact e
      · exact absurd ⟨h1, h2⟩ v
      · exact absurd ⟨h1, h2⟩ v
    have e3 : c3 = 2 := by
      rcases j with ⟨_, _, e⟩ | ⟨h1, h2, _⟩ | ⟨h1, h2, _⟩
      · exact e
      · exact absurd ⟨h1, h2⟩ v
      · exact absurd ⟨h1, h2⟩ v
    exact ⟨e2.trans e1.symm, e3.trans e1.symm⟩
#print axioms codes
#print axioms allP_valid
theorem Pts.get {w : World} {v : Value} {R : List (List HAt)} (h : Pts w v R) : ∃ (a : Option Addr) (b off cap : Nat) (vs : List Value), v = .slice a R.length cap ∧ R.length ≤ 9223372036854775807 ∧ (0 < R.length → a = some ⟨b, off, none⟩) ∧
    ∀ i, i < R.length → w.cell? ⟨b, off + i, none⟩ = some (vs.getD i (.bool false)) ∧ Atoms w (vs.getD i (.bool false)) (R.getD i []) := by
  obtain ⟨vs, h1, ⟨h2, h3, a, b, off, cap, h4, h5, h6⟩, h7⟩ := h
  refine ⟨a, b, off, cap, vs, h4, h3, h5.1, fun i hi => ⟨?_, h7 i hi⟩⟩
  rw [List.getD_eq_getElem?_getD, List.getElem?_eq_getElem (by omega : i < vs.length)]
  exact h6 i (by omega)
theorem Pts.slice {w : World} {v : Value} {R : List (List HAt)} (h : Pts w v R) : ∃ a c, v = .slice a R.length c := by
  obtain ⟨a, b, off, cap, vs, h1, _⟩ := h.get
  exact ⟨a, cap, h1⟩
set_option maxRecDepth 100000 in
set_option maxHeartbeats 8000000 in
theorem eqParts_any (L : List (List HAt)) (u v : Value) (w : World) (hu : Pts w u L) (hv : Pts w v L) :
    Calls Try.prog 48 #[u, v, .func (.func 37) #[] #[]] w fun e w' => e = .returned (.bool true) ∧ Below w.heap.size w w' := by
  obtain ⟨a, b, off, cap, vs, rfl, hle, ha, hc⟩ := Pts.get hu
  obtain ⟨a', b', off', cap', vs', rfl, hle', ha', hc'⟩ := Pts.get hv
  have Hix := Lib.hid (run_ix (P := Try.prog) (t := 66) (a := a) (len := L.length) (cap := cap) (b := b) (off := off) (s := 1) Try.underlying66 (by intro w; kernel_rfl) ha)
  have Hix' := Lib.hid (run_ix (P := Try.prog) (t := 66) (a := a') (len := L.length) (cap := cap') (b := b') (off := off') (s := 1) Try.underlying66 (by intro w; kernel_rfl) ha')
  simp only [Nat.mul_one] at Hix Hix'
  have Hc := Lib.hid hc
  have Hc' := Lib.hid hc'
  clear hu hv ha ha' hc hc' hle'
  obtain ⟨n, hn⟩ : ∃ x, x = L.length := ⟨_, rfl⟩
  rw [← hn] at Hix Hix' hle Hc Hc' ⊢
  clear hn
  go_enter Try.func48, Try.ntmps48
  go_wp2_with fail
  go_loopw [17] (fun vi wr => ∃ k : Nat, vi = .int .i64 k ∧ k ≤ n ∧ Below w.heap.size w wr) (fun vi _ => n - (intOf vi).toNat)
  case atStart => exact ⟨0, rfl, Nat.zero_le _, Below.refl _ _⟩
  case round =>
    obtain ⟨k, rfl, hk, hb⟩ := hrel
    have Hb := Lib.hid hb
    clear hb
    by_cases hlt : k < n
    · have hc1 := Below.keep Hb.out (Hc.out k hlt).1
      have hc3 := Below.keep Hb.out (Hc'.out k hlt).1
      have hi := Atoms.keep (Hc.out k hlt).2 Hb.out
      have hj := Atoms.keep (Hc'.out k hlt).2 Hb.out
      have hixk := Hix.out k
      have hixk' := Hix'.out k
      obtain ⟨N, hN⟩ : ∃ N, N = L.getD k [] := ⟨_, rfl⟩
      rw [← hN] at hi hj
      obtain ⟨ua, uc, hua⟩ := atoms_slice hi
      obtain ⟨va, vc, hva⟩ := atoms_slice hj
      rw [hua] at hc1 hi
      rw [hva] at hc3 hj
      obtain ⟨un, hun⟩ : ∃ x, x = N.length := ⟨_, rfl⟩
      rw [← hun] at hc1 hi hc3 hj
      have HE := Lib.hid (same_any N N _ _ wr hi hj true (decide_eq_true rfl))
      clear hN hua hva hun hi hj
      go_wp2_with fail
      refine HE.out.mono ?_
      rintro e w5 ⟨rfl, hb⟩
      have HB5 := Lib.hid (Below.tr Hb.out hb)
      clear hb hc1 hc3
      go_wp2_with fail
      go_roundw
      case rel => exact ⟨k + 1, by go_num, by omega, HB5.out⟩
      case measure => simp [intOf]; omega
    · obtain rfl : k = n := by omega
      go_wp2_with fail
      go_ret
      exact ⟨rfl, Hb.out⟩
#print axioms eqParts_any
end Go.Proofs.Ytfplmdieeabgpaa
