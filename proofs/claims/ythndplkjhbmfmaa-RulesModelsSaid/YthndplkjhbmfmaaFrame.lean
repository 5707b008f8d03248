/- The frame of a law's row: what its arguments read as, and what its end says, for a law that only reads. -/
import Derived.Test.YthndplkjhbmfmaaBase
import Derived.Deep.Slices
import Derived.Lib.SmallJoins
namespace Go.Proofs.Ythndplkjhbmfmaa
open Go.ChangeShapes Go.WideShapes Go.ChangeAt Go.RowKit Go.Deep

section
variable {H : Type} {enc : TypeId × Value → H} {P : Program} {W : World}

/-- a slice that reads: its elements, each with what is known of it, and its cells -/
theorem rd_of_trod {t e : TypeId} {s : Nat} {v : Value} {d : DataW H} {ps : List MemPlace} {α : Type} [Inhabited α] {R : α → List Value → Prop} {sp : Nat → Bool} (ht : P.underlying t = some (.slice e)) (hc : P.cellsOf e = s) (hs0 : 0 < s)
    (hv : ∃ a len cap, v = .slice a len cap)
    (h : DataW.Trod enc P W 0 sp true t v d ps) (hel : ∀ fuel cs x, DataW.trod enc P W 0 sp true fuel e cs = some x → ∃ y, R y cs) :
    ∃ (l : List α) (cs : List (List Value)), cs.length = l.length ∧ (∀ i (h : i < l.length) (h' : i < cs.length), R l[i] cs[i] ∧ cs[i].length = s) ∧ Rd W v s l.length cs.flatten := by
  obtain ⟨a0, len, cap, rfl⟩ := hv
  obtain ⟨fuel, hf⟩ := h
  rcases open_slice ht hf with ⟨h0, _⟩ | ⟨a, len', cap', m, n, D, Pl, h0, _, hl, hm, hmm, _, hx⟩
  · simp only [Value.cells, List.cons.injEq, Value.slice.injEq] at h0
    obtain ⟨⟨rfl, rfl, rfl⟩, _⟩ := h0
    exact ⟨[], [], rfl, fun i h => by simp at h, by simp, Nat.zero_le _, none, 0, 0, 0, rfl, ⟨fun h => by simp at h, by simp⟩, fun j hj => by simp at hj⟩
  · simp only [Value.cells, List.cons.injEq, Value.slice.injEq] at h0
    obtain ⟨⟨rfl, rfl, rfl⟩, _⟩ := h0
    have hlm : len ≤ m := by rw [hmm]; split <;> omega
    have hx' : ∀ i, i < len → ∃ y : α × List Value, (∀ j, j < s → W.cell? ((a.add (i * s)).add j) = y.2[j]?) ∧ y.2.length = s ∧ R y.1 y.2 := fun i hi => by
      obtain ⟨cs', h1, h2⟩ := hx i (by omega)
      rw [hc] at h1
      obtain ⟨_, h3, h4⟩ := World.cells?_some h1
      obtain ⟨y, hy⟩ := hel _ _ _ h2
      exact ⟨(y, cs'), h4, h3, hy⟩
    obtain ⟨f, hF⟩ := choose_lt (α := α × List Value) hx'
    have hflat : ∀ k, k ≤ len → ((List.range k).map fun i => (f i).2).flatten.length = k * s := by
      intro k
      induction k with
      | zero => intro _; simp
      | succ k ih =>
        intro hk
        rw [List.range_succ, List.map_append, List.flatten_append, List.length_append, ih (by omega)]
        simp only [List.map_cons, List.map_nil, List.flatten_cons, List.flatten_nil, List.append_nil]
        rw [(hF k (by omega)).2.1, Nat.succ_mul]
    have hget : ∀ k, k ≤ len → ∀ i j, i < k → j < s → ((List.range k).map fun i => (f i).2).flatten[i * s + j]? = (f i).2[j]? := by
      intro k
      induction k with
      | zero => intro _ i j hi; omega
      | succ k ih =>
        intro hk i j hi hj
        rw [List.range_succ, List.map_append, List.flatten_append]
        have hle := hflat k (by omega)
        by_cases e : i = k
        · subst e
          rw [List.getElem?_append_right (by omega), hle]
          simp
        · have h1 : (i + 1) * s ≤ k * s := Nat.mul_le_mul_right _ (by omega)
          have h2 : i * s + j < k * s := by rw [Nat.succ_mul] at h1; omega
          rw [List.getElem?_append_left (by omega)]
          exact ih (by omega) i j (by omega) hj
    refine ⟨(List.range len).map fun i => (f i).1, (List.range len).map fun i => (f i).2, by simp, fun i h h' => ?_, ?_⟩
    · simp only [List.length_map, List.length_range] at h
      simp only [List.getElem_map, List.getElem_range]
      exact ⟨(hF i h).2.2, (hF i h).2.1⟩
    · simp only [List.length_map, List.length_range]
      have hspot : 0 < len → a.spot = none := fun hlen => by
        have := (hF 0 hlen).1 0 hs0
        rw [Nat.zero_mul, Addr.add_zero', Addr.add_zero', List.getElem?_eq_getElem (by rw [(hF 0 hlen).2.1]; exact hs0)] at this
        unfold World.cell? at this
        cases hsp : a.spot with
        | none => rfl
        | some k =>
          rw [hsp] at this
          split at this <;> simp at this
      refine ⟨hflat len (Nat.le_refl _), by omega, some a, a.block, a.off, cap, rfl, ⟨fun hlen => ?_, hl⟩, fun j hj => ?_⟩
      · have := hspot hlen
        cases a; simp_all
      · have hjl : j < len * s := by rw [← hflat len (Nat.le_refl _)]; exact hj
        have hlen : 0 < len := by
          rcases Nat.eq_zero_or_pos len with h0 | h0
          · subst h0; simp at hjl
          · exact h0
        have hi : j / s < len := Nat.div_lt_of_lt_mul (by rw [Nat.mul_comm]; exact hjl)
        have hr : j % s < s := Nat.mod_lt _ hs0
        have hdm : j / s * s + j % s = j := by rw [Nat.mul_comm]; exact Nat.div_add_mod j s
        have h1 := (hF (j / s) hi).1 (j % s) hr
        have h2 := hget len (Nat.le_refl _) (j / s) (j % s) hi hr
        rw [hdm, ← h1, List.getElem?_eq_getElem hj] at h2
        have ha : a = ⟨a.block, a.off, none⟩ := by have := hspot hlen; cases a; simp_all
        rw [ha, Addr.add_lit, Addr.add_lit, Nat.add_assoc, hdm] at h2
        exact h2.symm

theorem ints_of_trod {t e : TypeId} {v : Value} {d : DataW H} {ps : List MemPlace} {sp : Nat → Bool} (ht : P.underlying t = some (.slice e)) (he : P.underlying e = some (.int .i64)) (hc : P.cellsOf e = 1)
    (hv : ∃ a len cap, v = .slice a len cap) (h : DataW.Trod enc P W 0 sp true t v d ps) : ∃ l : List Int, Ints W v l := by
  obtain ⟨l, cs, h1, h2, h3⟩ := rd_of_trod (R := fun (n : Int) cs => cs = [.int .i64 n]) ht hc (by omega) hv h (fun fuel cs x hx => by
    obtain ⟨n, h, _, _⟩ := DataW.trod_int he hx; exact ⟨n, h⟩)
  refine ⟨l, ?_⟩
  have : cs.flatten = l.map (Value.int .i64) := by
    have e : cs = l.map fun n => [Value.int .i64 n] := List.ext_getElem (by simpa using h1) fun i a b => by
      rw [List.getElem_map]; exact (h2 i (by omega) a).1
    rw [e]; clear h1 h2 h3 e
    induction l with
    | nil => rfl
    | cons x l ih => simp [ih]
  unfold Ints
  rw [← this]
  exact h3

/-- a struct of two ints -/
theorem pair_of_trod {e i0 i1 : TypeId} {f0 f1 : Field} {sp : Nat → Bool} (he : P.underlying e = some (.struct #[f0, f1])) (h0 : f0.type = i0 ∧ f0.offset = 0) (h1 : f1.type = i1 ∧ f1.offset = 1)
    (hi0 : P.underlying i0 = some (.int .i64)) (hi1 : P.underlying i1 = some (.int .i64)) (c0 : P.cellsOf i0 = 1) (c1 : P.cellsOf i1 = 1) (hc : P.cellsOf e = 2)
    {fuel : Nat} {cs : List Value} {x : DataW H × List MemPlace} (h : DataW.trod enc P W 0 sp true fuel e cs = some x) : ∃ y : Int × Int, cs = [.int .i64 y.1, .int .i64 y.2] := by
  obtain ⟨y0, y1, n, _, hl, h2, h3⟩ := trod_struct2 he h
  rw [h0.1, h0.2, c0] at h2
  rw [h1.1, h1.2, c1] at h3
  rw [hc] at hl
  match cs, hl with
  | [a, b], _ =>
    obtain ⟨n0, e0, _, _⟩ := DataW.trod_int hi0 h2
    obtain ⟨n1, e1, _, _⟩ := DataW.trod_int hi1 h3
    simp at e0 e1
    exact ⟨(n0, n1), by rw [e0, e1]⟩
/-- a struct of two ints by value -/
theorem pair_arg {r : Reach} {b0 : Nat} {e i0 : TypeId} {f0 f1 : Field} {v : Value} {d : DataW H} {ps : List MemPlace} {sp : Nat → Bool} (he : P.underlying e = some (.struct #[f0, f1])) (h0 : f0.type = i0 ∧ f0.offset = 0) (h1 : f1.type = i0 ∧ f1.offset = 1)
    (hi0 : P.underlying i0 = some (.int .i64)) (c0 : P.cellsOf i0 = 1) (hc : P.cellsOf e = 2)
    (hv : Value.okWide P W r b0 e v) (h : DataW.Trod enc P W 0 sp true e v d ps) : ∃ y : Int × Int, v = .agg #[.int .i64 y.1, .int .i64 y.2] := by
  obtain ⟨cs, rfl, hsz⟩ := okWide_struct he hv
  obtain ⟨fuel, hf⟩ := h
  obtain ⟨y, hy⟩ := pair_of_trod he h0 h1 hi0 hi0 c0 c0 hc hf
  refine ⟨y, ?_⟩
  simp only [Value.cells] at hy
  rw [← Array.toArray_toList (xs := cs), hy]
theorem deps_of_trod {t e i0 : TypeId} {f0 f1 : Field} {v : Value} {d : DataW H} {ps : List MemPlace} {sp : Nat → Bool} (ht : P.underlying t = some (.slice e)) (he : P.underlying e = some (.struct #[f0, f1])) (h0 : f0.type = i0 ∧ f0.offset = 0) (h1 : f1.type = i0 ∧ f1.offset = 1)
    (hi0 : P.underlying i0 = some (.int .i64)) (c0 : P.cellsOf i0 = 1) (hc : P.cellsOf e = 2)
    (hv : ∃ a len cap, v = .slice a len cap) (h : DataW.Trod enc P W 0 sp true t v d ps) : ∃ l : List (Int × Int), Deps W v l := by
  obtain ⟨l, cs, h1, h2, h3⟩ := rd_of_trod (R := fun (n : Int × Int) cs => cs = [.int .i64 n.1, .int .i64 n.2]) ht hc (by omega) hv h (fun fuel cs x hx => pair_of_trod he h0 h1 hi0 hi0 c0 c0 hc hx)
  refine ⟨l, ?_⟩
  have : cs.flatten = pairCells l := by
    have e : cs = l.map fun n => [Value.int .i64 n.1, .int .i64 n.2] := List.ext_getElem (by simpa using h1) fun i a b => by
      rw [List.getElem_map]; exact (h2 i (by omega) a).1
    rw [e]; clear h1 h2 h3 e
    unfold pairCells
    rw [List.flatMap_def]
  unfold Deps
  rw [← this]
  exact h3

theorem rows_of_trod {t e i0 : TypeId} {v : Value} {d : DataW H} {ps : List MemPlace} {sp : Nat → Bool} (ht : P.underlying t = some (.slice e)) (he : P.underlying e = some (.slice i0)) (hi0 : P.underlying i0 = some (.int .i64)) (c0 : P.cellsOf i0 = 1) (hc : P.cellsOf e = 1)
    (hv : ∃ a len cap, v = .slice a len cap) (h : DataW.Trod enc P W 0 sp true t v d ps) : ∃ R : List (List Int), Rows W v R := by
  obtain ⟨l, cs, h1, h2, h3⟩ := rd_of_trod (R := fun (y : Value × List Int) cs => cs = [y.1] ∧ Ints W y.1 y.2) ht hc (by omega) hv h (fun fuel cs x hx => by
    have hs : ∃ a len cap, cs = [.slice a len cap] := by
      rcases open_slice he hx with ⟨h0, _⟩ | ⟨a, len, cap, _, _, _, _, h0, _⟩
      · exact ⟨_, _, _, h0⟩
      · exact ⟨_, _, _, h0⟩
    obtain ⟨a, len, cap, rfl⟩ := hs
    obtain ⟨l, hl⟩ := ints_of_trod (enc := enc) (W := W) (v := .slice a len cap) (d := x.1) (ps := x.2) (sp := sp) he hi0 c0 ⟨_, _, _, rfl⟩ ⟨fuel, hx⟩
    exact ⟨(.slice a len cap, l), rfl, hl⟩)
  refine ⟨l.map (·.2), l.map (·.1), by simp, ?_, fun i a b => ?_⟩
  · have : cs.flatten = l.map (·.1) := by
      have e : cs = l.map fun y => [y.1] := List.ext_getElem (by simpa using h1) fun i a b => by
        rw [List.getElem_map]; exact (h2 i (by omega) a).1.1
      rw [e]; clear h1 h2 h3 e
      induction l with
      | nil => rfl
      | cons x l ih => simp [ih]
    rw [← this]
    simpa using h3
  · simp only [List.getElem_map]
    exact (h2 i (by simpa using a) (by rw [h1]; simpa using a)).1.2

/-- ALL ARGUMENTS READ AS THEY DID, where nothing that was there has turned -/
theorem args_stay (hlaid : laidOutB P = true) {W' : World} (hb : Below W.heap.size W W') : ∀ {ts : List TypeId} {vs : List Value} {ds : List (DataW H)} {ps : List MemPlace},
    (∀ t ∈ ts, P.readableRec t = true ∧ t < P.types.size) → DataW.TrodAll enc P W 0 (fun _ => true) true ts vs ds ps → (∀ x ∈ ps, x.block < W.heap.size) →
    DataW.TrodAll enc P W' 0 (fun b => decide (b < W.heap.size)) true ts vs ds ps
  | [], [], [], ps, _, h, _ => h
  | t :: ts, v :: vs, d :: ds, ps, hr, h, hlt => by
    obtain ⟨p, q, h1, h2, rfl⟩ := h
    have := hr t (by simp)
    exact ⟨p, q, Below.trod hlaid this.1 this.2 h1 hb (fun x hx => hlt x (by simp [hx])), args_stay hlaid hb (fun t ht => hr t (by simp [ht])) h2 (fun x hx => hlt x (by simp [hx])), rfl⟩

/-- WHAT A LAW THAT ONLY READS LEAVES -/
theorem law_post {f : Func} {s : ChangeSpec} {T : TypeId} {W' : World} {args : Array Value} {ds : List (DataW H)} {before : List MemPlace} (hlaid : laidOutB P = true)
    (hW : DataW.Whole enc P f.params.toList s.vars false W args.toList ds [] before) (hvars : s.vars = []) (hres : f.resultTypes = #[T]) (hT : P.underlying T = some .bool)
    (hs : s.fn H ds = { results := [.lit (.bool true)], args := ds, vars := [] }) (hr0 : (f.params.toList.all fun t => P.readableRec t && decide (t < P.types.size)) = true) (hb : Below W.heap.size W W') :
    s.post enc P f false true false false W args (.bool true) W' := by
  have hr : ∀ t ∈ f.params.toList, P.readableRec t = true ∧ t < P.types.size := fun t ht => by
    have := List.all_eq_true.1 hr0 t ht
    simpa using this
  have hlt := hW.lt
  obtain ⟨p, q, hA, hV, rfl, h5, h6⟩ := hW
  rw [hvars] at hV
  have hq : q = [] := hV
  subst hq
  simp only [List.append_nil] at hlt
  refine ⟨ds, [], p ++ [], [], p, [], ⟨p, [], hA, by rw [hvars]; rfl, rfl, h5, h6⟩, ?_, ?_, ?_, hb.frame _, fun h => by cases h⟩
  · rw [List.append_nil, hs, hres]
    exact trodAll_mk1 (shut_bool hT true)
  · rw [List.append_nil, hs]
    exact args_stay hlaid hb hr hA hlt
  · rw [List.append_nil, hs, hvars]; rfl
end
#print axioms law_post
#print axioms deps_of_trod
end Go.Proofs.Ythndplkjhbmfmaa
