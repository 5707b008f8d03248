/- Contract of slices.Reverse over facts. -/
import Derived.Test.YtfplmdieeabgpaaFrz
import Derived.Test.YtfplmdieeabgpaaRws
import Derived.Shelf.SlicesQ.Reverse
import Derived.Sort.OwnSortedInts
namespace Go.Proofs
open Go.Shelf
def Try.revFact_ren : Go.Shelf.Ren := ⟨fun | 35 => 53 | n => n, fun | 22 => 26 | 23 => 77 | n => n, fun | n => n⟩
theorem Try.revFact : Go.Proofs.SlLaysE0.n35 Try.prog Try.revFact_ren := {
  mixed := by kernel_rfl
  f35 := ⟨Try.f53.name, by decide, Try.func53.trans (congrArg some (by kernel_rfl))⟩
  t0 := Try.underlying0
  a0 := Try.isAgg0
  z0 := Try.sizeOf0
  v0 := Try.zeroValue0
  t3 := Try.underlying3
  a3 := Try.isAgg3
  z3 := Try.sizeOf3
  v3 := Try.zeroValue3
  t4 := Try.underlying4
  a4 := Try.isAgg4
  z4 := Try.sizeOf4
  v4 := Try.zeroValue4
  t22 := Try.underlying26
  a22 := Try.isAgg26
  z22 := Try.sizeOf26
  v22 := Try.zeroValue26 }
end Go.Proofs
namespace Go.Proofs.Ytfplmdieeabgpaa
open Go.RowKit Go.Shelf Go.Lib Go.Sort
/-- an atom with where its arguments lie -/
abbrev AV := (Int × Option Addr × Nat × Nat) × List Int
def encA (x : Int × Option Addr × Nat × Nat) : List Value := [.int .i64 x.1, .slice x.2.1 x.2.2.1 x.2.2.2]
def avV (x : AV) : Value := .slice x.1.2.1 x.1.2.2.1 x.1.2.2.2
def avA (x : AV) : HAt := (x.1.1, x.2)
def avC (L : List AV) : List Value := L.flatMap fun x => encA x.1
theorem av_of : ∀ (l : List HAt) (vs : List Value) (base : Nat) (w : World), vs.length = l.length → (∀ i, i < l.length → OwnInts base w (vs.getD i (.bool false)) (aA l i)) → ∃ L : List AV, L.map avA = l ∧ atC l vs = avC L ∧ ∀ x, x ∈ L → OwnInts base w (avV x) x.2
  | [], vs, base, w, h, hi => ⟨[], rfl, by cases vs <;> rfl, fun x hx => by cases hx⟩
  | a :: l, [], base, w, h, hi => by simp at h
  | a :: l, v :: vs, base, w, h, hi => by
    obtain ⟨L, h1, h2, h3⟩ := av_of l vs base w (by simpa using h) (fun i hl => by have := hi (i + 1) (by simp; omega); simpa [aA] using this)
    have h0 : OwnInts base w v a.2 := by have := hi 0 (by simp); simpa [aA] using this
    obtain ⟨ad, n, c, rfl⟩ := own_slice h0
    refine ⟨((a.1, ad, n, c), a.2) :: L, by simp [h1, avA], ?_, fun x hx => ?_⟩
    · simp only [atC, avC, List.flatMap_cons, encA] at h2 ⊢
      rw [h2]; rfl
    · rcases List.mem_cons.1 hx with rfl | hx
      · exact h0
      · exact h3 x hx
theorem av_to : ∀ (L : List AV), atC (L.map avA) (L.map avV) = avC L
  | [] => rfl
  | x :: L => by
    have := av_to L
    simp only [List.map_cons, atC, avC, List.flatMap_cons] at this ⊢
    rw [this]; rfl
theorem avC_len (L : List AV) : (avC L).length = L.length * 2 := by
  induction L with
  | nil => rfl
  | cons x L ih => simp only [avC, List.flatMap_cons, List.length_append, List.length_cons] at ih ⊢; rw [ih]; simp [encA]; omega
theorem own_av {e : TypeId} {base : Nat} {w : World} {v : Value} {L : List AV} (h : w.ownsRow base e 2 v L.length (avC L)) (hi : ∀ x, x ∈ L → OwnInts base w (avV x) x.2) : OwnAtoms e base w v (L.map avA) := by
  refine ⟨L.map avV, by simp, by rw [av_to, List.length_map]; exact h, fun i hl => ?_⟩
  have hl' : i < L.length := by simpa using hl
  have := hi L[i] (List.getElem_mem hl')
  simpa [aA, List.getD_eq_getElem?_getD, hl', avA] using this
theorem avC_at : ∀ (L : List AV) (i : Nat) (hi : i < L.length), (avC L)[i * 2]? = some (.int .i64 L[i].1.1) ∧ (avC L)[i * 2 + 1]? = some (avV L[i])
  | x :: L, 0, _ => ⟨rfl, rfl⟩
  | x :: L, i + 1, hi => by
    have := avC_at L i (by simpa using hi)
    have e : avC (x :: L) = .int .i64 x.1.1 :: avV x :: avC L := rfl
    rw [e, show (i + 1) * 2 = i * 2 + 1 + 1 by omega]
    simpa using this
theorem flat_av (L : List AV) : flatK encA 2 (L.map (·.1)).toArray = (avC L).toArray := by
  refine ext_get! (by simp [avC_len]) fun t ht => ?_
  have ht' : t < L.length * 2 := by simpa using ht
  rw [get_flatK _ _ _ _ (by simpa using ht')]
  have hi : t / 2 < L.length := by omega
  have e1 : ((L.map (·.1)).toArray)[t / 2]! = L[t / 2].1 := by
    rw [getElem!_pos _ _ (by simpa using hi)]; simp
  have e2 : ∀ (x : Value), (avC L)[t]? = some x → ((avC L).toArray)[t]! = x := fun x hx => by
    have hlt := (List.getElem?_eq_some_iff.1 hx).1
    rw [getElem!_pos _ _ (by simpa using hlt)]
    simpa using (List.getElem?_eq_some_iff.1 hx).2
  rw [e1]
  have h := avC_at L (t / 2) hi
  rcases Nat.mod_two_eq_zero_or_one t with hm | hm
  · rw [hm]
    rw [show t / 2 * 2 = t by omega] at h
    rw [e2 _ h.1]; rfl
  · rw [hm]
    rw [show t / 2 * 2 + 1 = t by omega] at h
    rw [e2 _ h.2]; rfl
theorem holds_id {w : World} {g : Nat} {cur : Array Value} {e : TypeId} {ss : List Value} (hb : w.heap[g]? = some (.cells cur e (0, 0))) (ht : cur.toList.take ss.length = ss) : Holds id w g 0 ss.toArray := by
  intro j hj
  have hj' : j < ss.length := by simpa using hj
  refine ⟨?_, by simp [World.frozen?, hb]⟩
  have h1 : (cur.toList.take ss.length)[j]? = ss[j]? := by rw [ht]
  rw [List.getElem?_take_of_lt hj'] at h1
  simp only [World.cell?, hb, Nat.zero_add, Option.isSome_none, Bool.false_eq_true, if_false]
  rw [← Array.getElem?_toList, h1]
  simp [hj']
theorem put_id (cur : Array Value) (ts : List Value) (h : ts.length ≤ cur.size) : (putCells id 0 ts.toArray cur).toList.take ts.length = ts := by
  apply List.ext_getElem?
  intro j
  by_cases hj : j < ts.length
  · rw [List.getElem?_take_of_lt hj, Array.getElem?_toList]
    simp [putCells, hj, show j < cur.size by omega]
  · rw [List.getElem?_take_eq_none (by omega), List.getElem?_eq_none (by omega)]
theorem revF_any (l : List HAt) (base : Nat) (v : Value) (w : World) (h : OwnAtoms 77 base w v l) (hb : base ≤ w.heap.size) :
    Calls Try.prog 53 #[v] w fun e w' => e = .returned (.tuple #[]) ∧ OwnAtoms 77 base w' v l.reverse ∧ w.grownBy w' v.ownBlock := by
  obtain ⟨vs, h1, h2, h3⟩ := h
  obtain ⟨L, rfl, hc, hi⟩ := av_of l vs base w h1 h3
  rw [hc, List.length_map] at h2
  rw [← List.map_reverse]
  rcases h2.2 with ⟨rfl, h0⟩ | ⟨g, cap, cur, rfl, hg, hh, hn, hm, hs, ht⟩
  · have : L = [] := List.eq_nil_of_length_eq_zero h0
    subst this
    refine (AnyQ.slices_Reverse_empty Try.revFact none 0 w).mono ?_
    rintro e w' ⟨rfl, rfl⟩
    exact ⟨rfl, ownAtoms_nil _ _ _, World.grownBy.refl _ _⟩
  · have hH : HoldsK encA 2 w g 0 (L.map (·.1)).toArray := by
      unfold HoldsK
      rw [flat_av]
      exact holds_id hh (by rw [avC_len]; exact ht)
    have hR := AnyQ.slices_Reverse Try.revFact 2 Try.isAgg77 Try.sizeOf77 encA (fun _ => rfl) (fun x u hu => by
      simp only [encA, List.mem_cons, List.not_mem_nil, or_false] at hu
      rcases hu with rfl | rfl <;> rfl) g 0 cap (L.map (·.1)).toArray w hH (by unfold maxLen at hm; simp; omega)
    have hsz : (L.map (·.1)).toArray.size = L.length := by simp
    rw [hsz] at hR
    refine hR.mono ?_
    rintro e w' ⟨rfl, n, rfl⟩
    have er : putRowK encA 2 (Sort.ahead w n) g 0 (L.map (·.1)).toArray.reverse = putRow id (Sort.ahead w n) g 0 (avC L.reverse).toArray := by
      unfold putRowK
      rw [← flat_av]; simp
    rw [er]
    have hk : ∀ k, k ≠ g → (putRow id (Sort.ahead w n) g 0 (avC L.reverse).toArray).heap[k]? = w.heap[k]? := fun k hk => by
      have : g ≠ k := fun e => hk e.symm
      simp [putRow, mapBlock, Sort.ahead, Array.getElem?_modify, this]
    have hgr : w.grownBy (putRow id (Sort.ahead w n) g 0 (avC L.reverse).toArray) (some g) :=
      ⟨rfl, rfl, rfl, by simp [putRow, mapBlock, Sort.ahead], fun k _ hne => hk k (fun e => hne (by rw [e]))⟩
    refine ⟨rfl, own_av ?_ fun x hx => ?_, hgr⟩
    · refine ⟨by rw [avC_len], .inr ⟨g, cap, putCells id 0 (avC L.reverse).toArray cur, ?_, hg, ?_, by simpa using hn, hm, by simp [putCells, hs], ?_⟩⟩
      · simp
      · simp [putRow, mapBlock, Sort.ahead, Array.getElem?_modify, hh, onCells]
      · have e : L.reverse.length * 2 = (avC L.reverse).length := (avC_len _).symm
        rw [e]
        exact put_id cur _ (by rw [avC_len, hs]; simp; omega)
    · have := hi x (List.mem_reverse.1 hx)
      refine own_block this fun g' hg' => hk g' fun e => ?_
      subst e
      rcases this.2 with ⟨hv, _⟩ | ⟨g2, c2, cur2, hv, _, hh2, _⟩
      · rw [hv] at hg'; cases hg'
      · rw [hv] at hg'; cases hg'
        rw [hh] at hh2
        injection hh2 with h4
        injection h4 with _ h4 _
        exact factNotInt h4
#print axioms revF_any
end Go.Proofs.Ytfplmdieeabgpaa
