/- Atoms, facts and queries: as the walks read them, as rows of the call's own, and as arguments of a law. -/
import Derived.Test.YthndplkjhbmfmaaOwn
import Derived.Test.YthndplkjhbmfmaaFrame
namespace Go.Proofs.Ythndplkjhbmfmaa
open Go.RowKit
/-- an atom, or a fact: its relation and its arguments -/
abbrev HAt := Int × List Int
def aR (l : List HAt) (i : Nat) : Int := (l.getD i (0, [])).1
def aA (l : List HAt) (i : Nat) : List Int := (l.getD i (0, [])).2
theorem at_get {l : List HAt} {i : Nat} (h : i < l.length) : l[i] = (aR l i, aA l i) := by simp [aR, aA, h]
def atC : List HAt → List Value → List Value
  | a :: l, v :: vs => .int .i64 a.1 :: v :: atC l vs
  | _, _ => []
theorem atC_len : ∀ {l : List HAt} {vs : List Value}, vs.length = l.length → (atC l vs).length = l.length * 2
  | [], [], _ => rfl
  | a :: l, v :: vs, h => by
    have := atC_len (l := l) (vs := vs) (by simpa using h)
    simp only [atC, List.length_cons] at *
    omega
theorem atC_at : ∀ {l : List HAt} {vs : List Value} (_ : vs.length = l.length) {i : Nat} (_ : i < l.length), (atC l vs)[i * 2]? = some (.int .i64 (aR l i)) ∧ (atC l vs)[i * 2 + 1]? = some (vs.getD i (.bool false))
  | a :: l, v :: vs, _, 0, _ => ⟨rfl, rfl⟩
  | a :: l, v :: vs, h, i + 1, hi => by
    have := atC_at (l := l) (vs := vs) (by simpa using h) (i := i) (by simpa using hi)
    have e : atC (a :: l) (v :: vs) = .int .i64 a.1 :: v :: atC l vs := rfl
    rw [e, show (i + 1) * 2 = (i * 2 + 1) + 1 from by omega, List.getElem?_cons_succ, List.getElem?_cons_succ, List.getElem?_cons_succ, List.getElem?_cons_succ]
    simpa [aR] using this
theorem atC_snoc : ∀ {l : List HAt} {vs : List Value} (_ : vs.length = l.length) (a : HAt) (v : Value), atC (l ++ [a]) (vs ++ [v]) = atC l vs ++ [.int .i64 a.1, v]
  | [], [], _, _, _ => rfl
  | b :: l, u :: vs, h, a, v => by
    have := atC_snoc (l := l) (vs := vs) (by simpa using h) a v
    show Value.int .i64 b.1 :: u :: atC (l ++ [a]) (vs ++ [v]) = _
    rw [this]; rfl
/-- a slice of atoms -/
def Atoms (w : World) (v : Value) (l : List HAt) : Prop := ∃ vs : List Value, vs.length = l.length ∧ Rd w v 2 l.length (atC l vs) ∧ ∀ i, i < l.length → Ints w (vs.getD i (.bool false)) (aA l i)
theorem Atoms.keep {w w' : World} {v : Value} {l : List HAt} (h : Atoms w v l) (hb : Below w.heap.size w w') : Atoms w' v l := by
  obtain ⟨vs, h1, h2, h3⟩ := h
  exact ⟨vs, h1, Rd.keep h2 hb, fun i hi => (h3 i hi).keep hb⟩
theorem atoms_slice {w : World} {v : Value} {l : List HAt} (h : Atoms w v l) : ∃ a c, v = .slice a l.length c := by
  obtain ⟨vs, h1, ⟨_, _, a, b, off, cap, h3, _⟩, _⟩ := h
  exact ⟨a, cap, h3⟩
theorem Atoms.get {w : World} {v : Value} {l : List HAt} (h : Atoms w v l) : ∃ (a : Option Addr) (b off cap : Nat) (vs : List Value), v = .slice a l.length cap ∧ l.length ≤ 9223372036854775807 ∧ (0 < l.length → a = some ⟨b, off, none⟩) ∧ l.length ≤ cap ∧
    ∀ i, i < l.length → w.cell? ⟨b, off + i * 2, none⟩ = some (.int .i64 (aR l i)) ∧ w.cell? ⟨b, off + i * 2 + 1, none⟩ = some (vs.getD i (.bool false)) ∧ Ints w (vs.getD i (.bool false)) (aA l i) := by
  obtain ⟨vs, h1, ⟨h2, h3, a, b, off, cap, h4, h5, h6⟩, h7⟩ := h
  refine ⟨a, b, off, cap, vs, h4, h3, h5.1, h5.2, fun i hi => ?_⟩
  have hl := atC_len h1
  obtain ⟨e1, e2⟩ := atC_at h1 hi
  have g1 := h6 (i * 2) (by omega)
  have g2 := h6 (i * 2 + 1) (by omega)
  rw [List.getElem?_eq_getElem (by omega)] at e1 e2
  rw [Option.some.inj e1] at g1
  rw [Option.some.inj e2] at g2
  exact ⟨g1, by rw [Nat.add_assoc]; exact g2, h7 i hi⟩
theorem atoms_nil (w : World) : Atoms w (.slice none 0 0) [] := ⟨[], rfl, ⟨rfl, Nat.zero_le _, none, 0, 0, 0, rfl, ⟨fun h => by simp at h, by simp⟩, fun j hj => by simp [atC] at hj⟩, fun i hi => by simp at hi⟩
/-- a row of atoms of the call's own, of the element type e, whose arguments are rows of its own -/
def OwnAtoms (e : TypeId) (base : Nat) (w : World) (v : Value) (l : List HAt) : Prop := ∃ vs : List Value, vs.length = l.length ∧ w.ownsRow base e 2 v l.length (atC l vs) ∧ ∀ i, i < l.length → OwnInts base w (vs.getD i (.bool false)) (aA l i)
theorem OwnAtoms.atoms {e : TypeId} {base : Nat} {w : World} {v : Value} {l : List HAt} (h : OwnAtoms e base w v l) : Atoms w v l := by
  obtain ⟨vs, h1, h2, h3⟩ := h
  exact ⟨vs, h1, owns_rd h2, fun i hi => (h3 i hi).ints⟩
theorem OwnAtoms.keep {e : TypeId} {base : Nat} {w w' : World} {v : Value} {l : List HAt} (h : OwnAtoms e base w v l) (hb : Below w.heap.size w w') : OwnAtoms e base w' v l := by
  obtain ⟨vs, h1, h2, h3⟩ := h
  exact ⟨vs, h1, owns_keep h2 hb, fun i hi => (h3 i hi).keep hb⟩
theorem ownAtoms_nil (e : TypeId) (base : Nat) (w : World) : OwnAtoms e base w (.slice none 0 0) [] := ⟨[], rfl, World.ownsRow_nil _ _ _ _, fun i hi => by simp at hi⟩
/-- a row of ints is kept where only a row of another type grows -/
theorem ints_grown {e : TypeId} (he : e ≠ 3) {base base' size n n' : Nat} {w w' : World} {v u : Value} {xs ys : List Value} (h : w.ownsRow base 3 1 u n xs) (hr : w.ownsRow base' e size v n' ys) (hg : w.grownBy w' v.ownBlock) : w'.ownsRow base 3 1 u n xs := by
  refine h.kept hg ?_
  rcases h.2 with ⟨rfl, _⟩ | ⟨g, cap, cur, rfl, _, hh, _⟩
  · exact .inl rfl
  · rcases hr.2 with ⟨rfl, _⟩ | ⟨g', cap', cur', rfl, _, hh', _⟩
    · exact .inr (fun q => by cases q)
    · refine .inr (fun q => ?_)
      have q : some g = some g' := q
      injection q with q
      subst q
      rw [hh] at hh'
      injection hh' with hh'
      injection hh' with _ hh' _
      exact he hh'.symm
/-- one atom appended -/
theorem OwnAtoms.snoc {e : TypeId} (he : e ≠ 3) {base : Nat} {w w' : World} {v v' u : Value} {l : List HAt} {vs : List Value} {r : Int} {args : List Int} (h1 : vs.length = l.length) (h2 : w.ownsRow base e 2 v l.length (atC l vs)) (h3 : ∀ i, i < l.length → OwnInts base w (vs.getD i (.bool false)) (aA l i))
    (hu : OwnInts base w u args) (hg : w.grownBy w' v.ownBlock) (h : w'.ownsRow base e 2 v' (l.length + 1) (atC l vs ++ [.int .i64 r, u])) : OwnAtoms e base w' v' (l ++ [(r, args)]) := by
  refine ⟨vs ++ [u], by simp [h1], ?_, fun i hi => ?_⟩
  · rw [atC_snoc h1]; simpa using h
  · rw [List.length_append] at hi
    by_cases e2 : i < l.length
    · have := ints_grown he (h3 i e2) h2 hg
      unfold OwnInts
      rw [show aA (l ++ [(r, args)]) i = aA l i by unfold aA; rw [List.getD_eq_getElem?_getD, List.getD_eq_getElem?_getD, List.getElem?_append_left e2], show (vs ++ [u]).getD i (.bool false) = vs.getD i (.bool false) by rw [List.getD_eq_getElem?_getD, List.getD_eq_getElem?_getD, List.getElem?_append_left (by omega)]]
      exact this
    · have e3 : i = l.length := by simp at hi; omega
      subst e3
      have := ints_grown he hu h2 hg
      unfold OwnInts
      rw [show aA (l ++ [(r, args)]) l.length = args by simp [aA], show (vs ++ [u]).getD l.length (.bool false) = u by rw [← h1]; simp]
      exact this
theorem Atoms.own {e : TypeId} {base : Nat} {w : World} {v : Value} {l : List HAt} (h : OwnAtoms e base w v l) : ∃ a c, v = .slice a l.length c := atoms_slice h.atoms
/-- a query as a value: its Head and its Body -/
abbrev HQ := List Int × List HAt
def Qr (w : World) (v : Value) (q : HQ) : Prop := ∃ h b, v = .agg #[h, b] ∧ Ints w h q.1 ∧ Atoms w b q.2
theorem Qr.keep {w w' : World} {v : Value} {q : HQ} (h : Qr w v q) (hb : Below w.heap.size w w') : Qr w' v q := by
  obtain ⟨x, y, h1, h2, h3⟩ := h
  exact ⟨x, y, h1, h2.keep hb, h3.keep hb⟩
section
open Go.ChangeShapes Go.WideShapes Go.ChangeAt Go.Deep Go.Joins
variable {H : Type} {enc : TypeId × Value → H} {P : Program} {W : World}
theorem ints_of_cell {t i0 : TypeId} {sp : Nat → Bool} (ht : P.underlying t = some (.slice i0)) (hi0 : P.underlying i0 = some (.int .i64)) (c0 : P.cellsOf i0 = 1)
    {fuel : Nat} {cs : List Value} {x : DataW H × List MemPlace} (h : DataW.trod enc P W 0 sp true fuel t cs = some x) : ∃ (v : Value) (l : List Int), cs = [v] ∧ Ints W v l := by
  have hs : ∃ a len cap, cs = [.slice a len cap] := by
    rcases open_slice ht h with ⟨h0, _⟩ | ⟨a, len, cap, _, _, _, _, h0, _⟩
    · exact ⟨_, _, _, h0⟩
    · exact ⟨_, _, _, h0⟩
  obtain ⟨a, len, cap, rfl⟩ := hs
  obtain ⟨l, hl⟩ := ints_of_trod (enc := enc) (W := W) (v := .slice a len cap) (d := x.1) (ps := x.2) (sp := sp) ht hi0 c0 ⟨_, _, _, rfl⟩ ⟨fuel, h⟩
  exact ⟨_, l, rfl, hl⟩
theorem atom_of_trod {e i0 s0 : TypeId} {f0 f1 : Field} {sp : Nat → Bool} (he : P.underlying e = some (.struct #[f0, f1])) (h0 : f0.type = i0 ∧ f0.offset = 0) (h1 : f1.type = s0 ∧ f1.offset = 1)
    (hi0 : P.underlying i0 = some (.int .i64)) (hs0 : P.underlying s0 = some (.slice i0)) (c0 : P.cellsOf i0 = 1) (c1 : P.cellsOf s0 = 1) (hc : P.cellsOf e = 2)
    {fuel : Nat} {cs : List Value} {x : DataW H × List MemPlace} (h : DataW.trod enc P W 0 sp true fuel e cs = some x) : ∃ y : Int × Value × List Int, cs = [.int .i64 y.1, y.2.1] ∧ Ints W y.2.1 y.2.2 := by
  obtain ⟨y0, y1, n, _, hl, h2, h3⟩ := trod_struct2 he h
  rw [h0.1, h0.2, c0] at h2
  rw [h1.1, h1.2, c1] at h3
  rw [hc] at hl
  match cs, hl with
  | [a, b], _ =>
    obtain ⟨n0, e0, _, _⟩ := DataW.trod_int hi0 h2
    obtain ⟨v, l, e1, hv⟩ := ints_of_cell hs0 hi0 c0 h3
    simp at e0 e1
    exact ⟨(n0, v, l), by rw [e0, e1], hv⟩
theorem atoms_of_trod {t e i0 s0 : TypeId} {f0 f1 : Field} {v : Value} {d : DataW H} {ps : List MemPlace} {sp : Nat → Bool} (ht : P.underlying t = some (.slice e)) (he : P.underlying e = some (.struct #[f0, f1])) (h0 : f0.type = i0 ∧ f0.offset = 0) (h1 : f1.type = s0 ∧ f1.offset = 1)
    (hi0 : P.underlying i0 = some (.int .i64)) (hs0 : P.underlying s0 = some (.slice i0)) (c0 : P.cellsOf i0 = 1) (c1 : P.cellsOf s0 = 1) (hc : P.cellsOf e = 2)
    (hv : ∃ a len cap, v = .slice a len cap) (h : DataW.Trod enc P W 0 sp true t v d ps) : ∃ l : List HAt, Atoms W v l := by
  obtain ⟨l, cs, h1', h2, h3⟩ := rd_of_trod (R := fun (y : Int × Value × List Int) cs => cs = [.int .i64 y.1, y.2.1] ∧ Ints W y.2.1 y.2.2) ht hc (by omega) hv h (fun fuel cs x hx => atom_of_trod he h0 h1 hi0 hs0 c0 c1 hc hx)
  refine ⟨l.map fun y => (y.1, y.2.2), l.map fun y => y.2.1, by simp, ?_, fun i hi => ?_⟩
  · have : cs.flatten = atC (l.map fun y => (y.1, y.2.2)) (l.map fun y => y.2.1) := by
      have e : cs = l.map fun y => [Value.int .i64 y.1, y.2.1] := List.ext_getElem (by simpa using h1') fun i a b => by
        rw [List.getElem_map]; exact (h2 i (by omega) a).1.1
      rw [e]; clear h1' h2 h3 e
      induction l with
      | nil => rfl
      | cons x l ih => simp [ih, atC]
    rw [← this]
    simpa using h3
  · have hi' : i < l.length := by simpa using hi
    have := (h2 i hi' (by rw [h1']; exact hi')).1.2
    simpa [aA, hi'] using this
/-- a query by value -/
theorem qry_arg {r : Reach} {b0 : Nat} {e i0 s0 t1 e1 : TypeId} {f0 f1 g0 g1 : Field} {v : Value} {d : DataW H} {ps : List MemPlace} {sp : Nat → Bool} (he : P.underlying e = some (.struct #[f0, f1])) (h0 : f0.type = s0 ∧ f0.offset = 0) (h1 : f1.type = t1 ∧ f1.offset = 1)
    (ht1 : P.underlying t1 = some (.slice e1)) (he1 : P.underlying e1 = some (.struct #[g0, g1])) (k0 : g0.type = i0 ∧ g0.offset = 0) (k1 : g1.type = s0 ∧ g1.offset = 1)
    (hi0 : P.underlying i0 = some (.int .i64)) (hs0 : P.underlying s0 = some (.slice i0)) (c0 : P.cellsOf i0 = 1) (c1 : P.cellsOf s0 = 1) (c2 : P.cellsOf t1 = 1) (ce : P.cellsOf e1 = 2) (hc : P.cellsOf e = 2)
    (hv : Value.okWide P W r b0 e v) (h : DataW.Trod enc P W 0 sp true e v d ps) : ∃ q : HQ, Qr W v q := by
  obtain ⟨cs, rfl, hsz⟩ := okWide_struct he hv
  obtain ⟨fuel, hf⟩ := h
  obtain ⟨y0, y1, n, _, hl, h2, h3⟩ := trod_struct2 he hf
  rw [h0.1, h0.2, c1] at h2
  rw [h1.1, h1.2, c2] at h3
  rw [hc] at hl
  simp only [Value.cells] at hl h2 h3
  match hcs : cs.toList, hl with
  | [a, b], _ =>
    rw [hcs] at h2 h3
    obtain ⟨u, l, e1', hu⟩ := ints_of_cell hs0 hi0 c0 h2
    have hsl : ∃ p len cap, b = .slice p len cap := by
      rcases open_slice ht1 h3 with ⟨h0, _⟩ | ⟨a, len, cap, _, _, _, _, h0, _⟩ <;> (simp at h0; exact ⟨_, _, _, h0⟩)
    obtain ⟨p, len, cap, rfl⟩ := hsl
    obtain ⟨B, hB⟩ := atoms_of_trod (enc := enc) (W := W) (v := .slice p len cap) (d := y1.1) (ps := y1.2) (sp := sp) ht1 he1 k0 k1 hi0 hs0 c0 c1 ce ⟨_, _, _, rfl⟩ ⟨n, h3⟩
    simp at e1'
    subst e1'
    exact ⟨(l, B), _, _, by rw [← Array.toArray_toList (xs := cs), hcs], hu, hB⟩
end
#print axioms qry_arg
end Go.Proofs.Ythndplkjhbmfmaa
