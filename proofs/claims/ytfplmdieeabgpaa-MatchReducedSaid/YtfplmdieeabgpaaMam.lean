/- Towards the reference's matches: keys, rows of eight, a step under way. -/
import Derived.Test.YtfplmdieeabgpaaPky
import Derived.Test.YtfplmdieeabgpaaFit
import Derived.Test.YtfplmdieeabgpaaLbx
namespace Go.Proofs.Ytfplmdieeabgpaa
open Go.RowKit
/-- the keys of the first facts -/
def KeyS (l : List HAt) (k : Nat) (K : List (List Int)) : Prop := Strict K ∧ ∀ z, z ∈ K ↔ ∃ j, j < k ∧ z = aR l j :: aA l j
theorem keyS_0 (l : List HAt) : KeyS l 0 [] := ⟨List.Pairwise.nil, fun z => ⟨fun h => (by cases h), fun ⟨j, h, _⟩ => (by omega)⟩⟩
theorem keyS_len {l : List HAt} {k : Nat} {K : List (List Int)} (h : KeyS l k K) : K.length ≤ k := by
  have := len_le (l := K) (m := (List.range k).map fun j => aR l j :: aA l j) (strict_nodup h.1) fun z hz => by
    obtain ⟨j, hj, rfl⟩ := (h.2 z).1 hz
    exact List.mem_map.2 ⟨j, List.mem_range.2 hj, rfl⟩
  simpa using this
theorem keyS_step {l : List HAt} {k : Nat} {K R : List (List Int)} (h : KeyS l k K) (hR : PutR K (aR l k :: aA l k) R) : KeyS l (k + 1) R := ⟨hR.1, fun z => by
  rw [hR.2, h.2]
  constructor
  · rintro (⟨j, hj, e⟩ | e)
    · exact ⟨j, by omega, e⟩
    · exact ⟨k, by omega, e⟩
  · rintro ⟨j, hj, e⟩
    rcases Nat.lt_or_ge j k with c | c
    · exact .inl ⟨j, c, e⟩
    · rw [show j = k by omega] at e; exact .inr e⟩
/-- the facts behind the keys -/
def fsK (K : List (List Int)) : List HAt := K.map fun z => (z.headD 0, z.tail)
theorem fsK_mem {l : List HAt} {K : List (List Int)} (h : KeyS l l.length K) (f : HAt) : f ∈ fsK K ↔ f ∈ l := by
  unfold fsK
  rw [List.mem_map]
  constructor
  · rintro ⟨z, hz, rfl⟩
    obtain ⟨j, hj, rfl⟩ := (h.2 z).1 hz
    have := List.getElem_mem hj
    rw [at_get hj] at this; exact this
  · intro hf
    obtain ⟨j, hj, rfl⟩ := List.getElem_of_mem hf
    exact ⟨_, (h.2 _).2 ⟨j, hj, rfl⟩, by rw [at_get hj]; rfl⟩
theorem fsK_nodup {l : List HAt} {k : Nat} {K : List (List Int)} (h : KeyS l k K) : (fsK K).Nodup := by
  unfold fsK
  have e : (K.map fun z => (z.headD 0, z.tail)) = K.filterMap fun z => some (z.headD 0, z.tail) := by simp
  rw [e]
  refine nodup_filterMap (strict_nodup h.1) fun x y z hx hy e1 e2 => ?_
  obtain ⟨j, _, rfl⟩ := (h.2 x).1 hx
  obtain ⟨j', _, rfl⟩ := (h.2 y).1 hy
  injection e1 with e1
  injection e2 with e2
  have := e1.trans e2.symm
  simp only [List.headD_cons, List.tail_cons, Prod.mk.injEq] at this
  rw [this.1, this.2]
/-- the cells of rows of eight -/
def cV (N : List (List Int)) : List Value := N.flatMap fun v => v.map (Value.int .i64)
theorem cV_snoc (N : List (List Int)) (v : List Int) : cV (N ++ [v]) = cV N ++ v.map (Value.int .i64) := by simp [cV]
theorem cV_len {N : List (List Int)} (h : ∀ v, v ∈ N → v.length = 8) : (cV N).length = N.length * 8 := by
  induction N with
  | nil => rfl
  | cons x N ih =>
    have := ih fun v hv => h v (by simp [hv])
    simp only [cV, List.flatMap_cons, List.length_append, List.length_map, List.length_cons] at this ⊢
    rw [this, h x (by simp)]; omega
theorem cV_at : ∀ {N : List (List Int)} (_ : ∀ v, v ∈ N → v.length = 8) {i : Nat} (_ : i < N.length) {j : Nat} (_ : j < 8), (cV N)[i * 8 + j]? = some (.int .i64 ((N.getD i []).getD j 0))
  | x :: N, h, 0, _, j, hj => by
    have hx := h x (by simp)
    have e : cV (x :: N) = x.map (Value.int .i64) ++ cV N := rfl
    rw [e, Nat.zero_mul, Nat.zero_add, List.getElem?_append_left (by rw [List.length_map]; omega), List.getElem?_map, List.getElem?_eq_getElem (by omega)]
    simp [List.getD_eq_getElem?_getD, List.getElem?_eq_getElem (show j < x.length by omega)]
  | x :: N, h, i + 1, hi, j, hj => by
    have hx := h x (by simp)
    have e : cV (x :: N) = x.map (Value.int .i64) ++ cV N := rfl
    rw [e, List.getElem?_append_right (by rw [List.length_map]; omega), List.length_map, show (i + 1) * 8 + j - x.length = i * 8 + j by omega, cV_at (fun v hv => h v (by simp [hv])) (by simpa using hi) hj]
    rfl
/-- a list of matches in the heap, read -/
def VR (w : World) (u : Value) (N : List (List Int)) : Prop := Rd w u 8 N.length (cV N)
theorem VR.keep {w w' : World} {u : Value} {N : List (List Int)} (h : VR w u N) (hb : Below w.heap.size w w') : VR w' u N := Rd.keep h hb
theorem fsK_at {K : List (List Int)} {j : Nat} (h : j < K.length) : (fsK K).getD j (0, []) = ((K.getD j []).headD 0, (K.getD j []).tail) := by
  unfold fsK
  rw [List.getD_eq_getElem?_getD, List.getElem?_map, List.getElem?_eq_getElem h, List.getD_eq_getElem?_getD, List.getElem?_eq_getElem h]; rfl
/-- the matches of a step, under way: all of the first m, and of one more with the first j facts -/
def stM (F : List HAt) (a : HAt) (N : List (List Int)) (m : Nat) : List (List Int) := stepL F a (N.take m)
def stJ (F : List HAt) (a : HAt) (N : List (List Int)) (m : Nat) (v : List Int) (j : Nat) : List (List Int) := stM F a N m ++ (F.take j).filterMap (extA v a)
theorem stM_0 (F : List HAt) (a : HAt) (N : List (List Int)) : stM F a N 0 = [] := rfl
theorem stM_all (F : List HAt) (a : HAt) (N : List (List Int)) : stM F a N N.length = stepL F a N := by unfold stM; rw [List.take_length]
theorem stJ_0 (F : List HAt) (a : HAt) (N : List (List Int)) (m : Nat) (v : List Int) : stJ F a N m v 0 = stM F a N m := by simp [stJ]
theorem stJ_all {F : List HAt} {a : HAt} {N : List (List Int)} {m : Nat} (h : m < N.length) : stJ F a N m (N.getD m []) F.length = stM F a N (m + 1) := by
  unfold stJ stM stepL
  rw [List.take_length, List.take_succ_eq_append_getElem h, List.flatMap_append, List.getD_eq_getElem?_getD, List.getElem?_eq_getElem h]
  simp
theorem stJ_yes {F : List HAt} {a : HAt} {N : List (List Int)} {m j : Nat} {v x : List Int} (h : j < F.length) (e : extA v a (F.getD j (0, [])) = some x) : stJ F a N m v (j + 1) = stJ F a N m v j ++ [x] := by
  unfold stJ
  rw [List.getD_eq_getElem?_getD, List.getElem?_eq_getElem h] at e
  rw [List.take_succ_eq_append_getElem h, List.filterMap_append, List.append_assoc]
  simp only [List.filterMap_cons, List.filterMap_nil]
  rw [show extA v a F[j] = some x from e]
theorem stJ_no {F : List HAt} {a : HAt} {N : List (List Int)} {m j : Nat} {v : List Int} (h : j < F.length) (e : extA v a (F.getD j (0, [])) = none) : stJ F a N m v (j + 1) = stJ F a N m v j := by
  unfold stJ
  rw [List.getD_eq_getElem?_getD, List.getElem?_eq_getElem h] at e
  rw [List.take_succ_eq_append_getElem h, List.filterMap_append]
  simp only [List.filterMap_cons, List.filterMap_nil]
  rw [show extA v a F[j] = none from e, List.append_nil]
theorem stM_sub {F : List HAt} {a : HAt} {N : List (List Int)} {m : Nat} : (stM F a N m).Sublist (stepL F a N) := by
  have : stepL F a N = stM F a N m ++ stepL F a (N.drop m) := by
    unfold stM stepL
    rw [← List.flatMap_append, List.take_append_drop]
  rw [this]; exact List.sublist_append_left _ _
#print axioms stM_sub
end Go.Proofs.Ytfplmdieeabgpaa
