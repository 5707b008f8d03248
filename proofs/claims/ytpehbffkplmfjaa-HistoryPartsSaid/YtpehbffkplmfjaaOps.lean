/- Slices of operations (three ints each): as the walks read them, and as an argument of a law. -/
import Derived.Test.YtpehbffkplmfjaaFrame
import Derived.Deep.Strs
namespace Go.Proofs.Ytpehbffkplmfjaa
open Go.RowKit

abbrev HOp := Int × Int × Int
def opC (d : HOp) : List Value := [.int .i64 d.1, .int .i64 d.2.1, .int .i64 d.2.2]
def opCells (l : List HOp) : List Value := l.flatMap opC
def Ops (w : World) (v : Value) (l : List HOp) : Prop := Rd w v 3 l.length (opCells l)
theorem length_opCells (l : List HOp) : (opCells l).length = l.length * 3 := by
  induction l with
  | nil => rfl
  | cons d l ih => simp only [opCells, opC, List.flatMap_cons, List.length_append, List.length_cons, List.length_nil] at *; omega
theorem opCells_at : ∀ (l : List HOp) (i : Nat) (h : i < l.length) (j : Nat), j < 3 → (opCells l)[i * 3 + j]? = (opC l[i])[j]?
  | d :: l, 0, _, j, hj => by
    show (opC d ++ opCells l)[0 * 3 + j]? = _
    rw [Nat.zero_mul, Nat.zero_add, List.getElem?_append_left (by simpa [opC] using hj)]; rfl
  | d :: l, i + 1, h, j, hj => by
    have := opCells_at l i (by simpa using h) j hj
    show (opC d ++ opCells l)[(i + 1) * 3 + j]? = _
    rw [List.getElem?_append_right (by simp [opC]; omega)]
    rw [show (i + 1) * 3 + j - (opC d).length = i * 3 + j from by simp [opC]; omega, this]; rfl
theorem Ops.keep {w w' : World} {v : Value} {l : List HOp} (h : Ops w v l) (hb : Below w.heap.size w w') : Ops w' v l := Rd.keep h hb
/-- the parts of operation i -/
def oT (l : List HOp) (i : Nat) : Int := (l.getD i (0, 0, 0)).1
def oK (l : List HOp) (i : Nat) : Int := (l.getD i (0, 0, 0)).2.1
def oI (l : List HOp) (i : Nat) : Int := (l.getD i (0, 0, 0)).2.2
theorem op_get {l : List HOp} {i : Nat} (h : i < l.length) : l[i] = (oT l i, oK l i, oI l i) := by simp [oT, oK, oI, h]
theorem Ops.get {w : World} {v : Value} {l : List HOp} (h : Ops w v l) : ∃ a b off cap, v = .slice a l.length cap ∧ l.length ≤ 9223372036854775807 ∧ (0 < l.length → a = some ⟨b, off, none⟩) ∧ l.length ≤ cap ∧
    ∀ i, i < l.length → w.cell? ⟨b, off + i * 3, none⟩ = some (.int .i64 (oT l i)) ∧ w.cell? ⟨b, off + i * 3 + 1, none⟩ = some (.int .i64 (oK l i)) ∧ w.cell? ⟨b, off + i * 3 + 2, none⟩ = some (.int .i64 (oI l i)) := by
  obtain ⟨h1, h2, a, b, off, cap, h3, h4, h5⟩ := h
  refine ⟨a, b, off, cap, h3, h2, h4.1, h4.2, fun i hi => ?_⟩
  have hl := length_opCells l
  have key : ∀ j (u : Value), j < 3 → (opC l[i])[j]? = some u → w.cell? ⟨b, off + i * 3 + j, none⟩ = some u := fun j u hj hu => by
    have e := opCells_at l i hi j hj
    have e1 := h5 (i * 3 + j) (by omega)
    rw [List.getElem?_eq_getElem (by omega), hu] at e
    rw [Option.some.inj e] at e1
    rw [Nat.add_assoc]; exact e1
  rw [op_get hi] at key
  exact ⟨key 0 _ (by omega) rfl, key 1 _ (by omega) rfl, key 2 _ (by omega) rfl⟩
theorem Ops.cap {w : World} {a : Option Addr} {n c : Nat} {l : List HOp} (h : Ops w (.slice a n c) l) : l.length ≤ c ∧ n = l.length := Rd.cap h
theorem opCells_append (a b : List HOp) : opCells (a ++ b) = opCells a ++ opCells b := by simp [opCells]
theorem opCells_step (l : List HOp) (k : Nat) (h : k < l.length) : opCells (l.take (k + 1)) = opCells (l.take k) ++ opC (oT l k, oK l k, oI l k) := by
  rw [List.take_succ_eq_append_getElem h, opCells_append, op_get h]; simp [opCells]
theorem Ops.take {w : World} {a : Option Addr} {n c : Nat} {l : List HOp} (h : Ops w (.slice a n c) l) (k : Nat) (hk : k ≤ l.length) : Ops w (.slice a k c) (l.take k) := by
  obtain ⟨h1, h2, a', b, off, cap, h3, h4, h5⟩ := h
  injection h3 with e1 e2 e3
  subst e1 e3
  have hl : (l.take k).length = k := by simp; omega
  have hs := length_opCells (l.take k)
  have hs2 := length_opCells l
  refine ⟨hs, by omega, a, b, off, c, by rw [hl], ⟨fun h => h4.1 (by omega), by omega⟩, fun j hj => ?_⟩
  rw [h5 j (by omega)]
  congr 1
  have : opCells l = opCells (l.take k) ++ opCells (l.drop k) := by rw [← opCells_append, List.take_append_drop]
  simp only [this]
  rw [List.getElem_append_left hj]
theorem ops_slice {w : World} {v : Value} {l : List HOp} (h : Ops w v l) : ∃ a c, v = .slice a l.length c := by
  obtain ⟨a, b, off, cap, h1, _⟩ := Ops.get h
  exact ⟨a, cap, h1⟩
/-- operations in a row of the call's own, of the element type e -/
def OwnOps (e : TypeId) (base : Nat) (w : World) (v : Value) (l : List HOp) : Prop := w.ownsRow base e 3 v l.length (opCells l)
theorem OwnOps.ops {e : TypeId} {base : Nat} {w : World} {v : Value} {l : List HOp} (h : OwnOps e base w v l) : Ops w v l := owns_rd h
theorem OwnOps.keep {e : TypeId} {base : Nat} {w w' : World} {v : Value} {l : List HOp} (h : OwnOps e base w v l) (hb : Below w.heap.size w w') : OwnOps e base w' v l := owns_keep h hb
theorem owns_base {w : World} {base base' : Nat} {e : TypeId} {size : Nat} {v : Value} {n : Nat} {xs : List Value} (h : w.ownsRow base e size v n xs) (hb : base' ≤ base) : w.ownsRow base' e size v n xs := by
  obtain ⟨h1, h2⟩ := h
  refine ⟨h1, ?_⟩
  rcases h2 with h2 | ⟨g, cap, cur, a, b, r⟩
  · exact .inl h2
  · exact .inr ⟨g, cap, cur, a, by omega, r⟩
theorem ownOps_nil (e : TypeId) (base : Nat) (w : World) : OwnOps e base w (.slice none 0 0) [] := World.ownsRow_nil _ _ _ _
theorem own_slice {base : Nat} {w : World} {e : TypeId} {size : Nat} {v : Value} {n : Nat} {xs : List Value} (h : w.ownsRow base e size v n xs) : ∃ a c, v = .slice a n c := by
  rcases h.2 with ⟨rfl, rfl⟩ | ⟨g, cap, cur, rfl, _⟩ <;> exact ⟨_, _, rfl⟩
theorem own_some {w : World} {base : Nat} {e : TypeId} {size : Nat} {v : Value} {n : Nat} {xs : List Value} (h : w.ownsRow base e size v n xs) (hn : 0 < n) : ∃ a c, v = .slice (some a) n c := by
  rcases h.2 with ⟨rfl, h0⟩ | ⟨g, cap, cur, rfl, _⟩
  · omega
  · exact ⟨_, _, rfl⟩
/-- one operation appended -/
theorem OwnOps.snoc {e : TypeId} {base : Nat} {w : World} {v : Value} {l : List HOp} {d : HOp} (h : w.ownsRow base e 3 v (l.length + 1) (opCells l ++ opC d)) : OwnOps e base w v (l ++ [d]) := by
  unfold OwnOps; rw [opCells_append]; simpa [opCells] using h
theorem OwnOps.step {e : TypeId} {base : Nat} {w : World} {v : Value} {l : List HOp} {k : Nat} (hk : k < l.length) (h : w.ownsRow base e 3 v ((l.take k).length + 1) (opCells (l.take k) ++ opC (oT l k, oK l k, oI l k))) : OwnOps e base w v (l.take (k + 1)) := by
  have := OwnOps.snoc h
  rwa [← op_get hk, ← List.take_succ_eq_append_getElem hk] at this

section
open Go.ChangeShapes Go.WideShapes Go.ChangeAt Go.Deep Go.Joins
variable {H : Type} {enc : TypeId × Value → H} {P : Program} {W : World}
theorem op_of_trod {e i0 : TypeId} {f0 f1 f2 : Field} {sp : Nat → Bool} (he : P.underlying e = some (.struct #[f0, f1, f2])) (h0 : f0.type = i0 ∧ f0.offset = 0) (h1 : f1.type = i0 ∧ f1.offset = 1) (h2 : f2.type = i0 ∧ f2.offset = 2)
    (hi0 : P.underlying i0 = some (.int .i64)) (c0 : P.cellsOf i0 = 1) (hc : P.cellsOf e = 3)
    {fuel : Nat} {cs : List Value} {x : DataW H × List MemPlace} (h : DataW.trod enc P W 0 sp true fuel e cs = some x) : ∃ y : HOp, cs = opC y := by
  obtain ⟨y0, y1, y2, n, _, hl, q0, q1, q2⟩ := trod_struct3 he h
  rw [h0.1, h0.2, c0] at q0
  rw [h1.1, h1.2, c0] at q1
  rw [h2.1, h2.2, c0] at q2
  rw [hc] at hl
  match cs, hl with
  | [a, b, c], _ =>
    obtain ⟨n0, e0, _, _⟩ := DataW.trod_int hi0 q0
    obtain ⟨n1, e1, _, _⟩ := DataW.trod_int hi0 q1
    obtain ⟨n2, e2, _, _⟩ := DataW.trod_int hi0 q2
    simp at e0 e1 e2
    exact ⟨(n0, n1, n2), by rw [e0, e1, e2]; rfl⟩
theorem ops_of_trod {t e i0 : TypeId} {f0 f1 f2 : Field} {v : Value} {d : DataW H} {ps : List MemPlace} {sp : Nat → Bool} (ht : P.underlying t = some (.slice e)) (he : P.underlying e = some (.struct #[f0, f1, f2])) (h0 : f0.type = i0 ∧ f0.offset = 0) (h1 : f1.type = i0 ∧ f1.offset = 1) (h2 : f2.type = i0 ∧ f2.offset = 2)
    (hi0 : P.underlying i0 = some (.int .i64)) (c0 : P.cellsOf i0 = 1) (hc : P.cellsOf e = 3)
    (hv : ∃ a len cap, v = .slice a len cap) (h : DataW.Trod enc P W 0 sp true t v d ps) : ∃ l : List HOp, Ops W v l := by
  obtain ⟨l, cs, h1, h2, h3⟩ := rd_of_trod (R := fun (n : HOp) cs => cs = opC n) ht hc (by omega) hv h (fun fuel cs x hx => op_of_trod he h0 h1 h2 hi0 c0 hc hx)
  refine ⟨l, ?_⟩
  have : cs.flatten = opCells l := by
    have e : cs = l.map fun n => opC n := List.ext_getElem (by simpa using h1) fun i a b => by
      rw [List.getElem_map]; exact (h2 i (by omega) a).1
    rw [e]; clear h1 h2 h3 e
    unfold opCells
    rw [List.flatMap_def]
  unfold Ops
  rw [← this]
  exact h3
end
#print axioms ops_of_trod
end Go.Proofs.Ytpehbffkplmfjaa
