/- Slices of proof steps (five cells each) in memory; contracts of dep, steps, ownSteps. -/
import Derived.Test.YtnidalbfmicoiaaWalkE
import Derived.Deep.RegionHeld3
namespace Go.Proofs.Ytnidalbfmicoiaa
open Go.RowKit

/-- a step: rule, i, j, and its dependency -/
abbrev Stp := Int × Int × Int × Int × Int
def Stp.cells (s : Stp) : List Value := [.int .i64 s.1, .int .i64 s.2.1, .int .i64 s.2.2.1, .int .i64 s.2.2.2.1, .int .i64 s.2.2.2.2]
def Stp.val (s : Stp) : Value := .agg #[.int .i64 s.1, .int .i64 s.2.1, .int .i64 s.2.2.1, .int .i64 s.2.2.2.1, .int .i64 s.2.2.2.2]
def stepCells (l : List Stp) : List Value := l.flatMap Stp.cells
def Steps (w : World) (v : Value) (l : List Stp) : Prop := Rd w v 5 l.length (stepCells l)
theorem length_stepCells (l : List Stp) : (stepCells l).length = l.length * 5 := by
  induction l with
  | nil => rfl
  | cons d l ih => simp only [stepCells, Stp.cells, List.flatMap_cons, List.length_append, List.length_cons, List.length_nil] at *; omega
theorem stepCells_at : ∀ (l : List Stp) (i : Nat) (h : i < l.length) (j : Nat), j < 5 → (stepCells l)[i * 5 + j]? = (Stp.cells l[i])[j]?
  | d :: l, 0, _, j, hj => by
    show (Stp.cells d ++ stepCells l)[0 * 5 + j]? = _
    rw [Nat.zero_mul, Nat.zero_add, List.getElem?_append_left (by simpa [Stp.cells] using hj)]; rfl
  | d :: l, i + 1, h, j, hj => by
    have := stepCells_at l i (by simpa using h) j hj
    show (Stp.cells d ++ stepCells l)[(i + 1) * 5 + j]? = _
    rw [List.getElem?_append_right (by simp [Stp.cells]; omega)]
    rw [show (i + 1) * 5 + j - (Stp.cells d).length = i * 5 + j from by simp [Stp.cells]; omega, this]; rfl
theorem Steps.keep {w w' : World} {v : Value} {l : List Stp} (h : Steps w v l) (hb : Below w.heap.size w w') : Steps w' v l := Rd.keep h hb
theorem Steps.get {w : World} {v : Value} {l : List Stp} (h : Steps w v l) : ∃ a b off cap, v = .slice a l.length cap ∧ l.length ≤ 9223372036854775807 ∧ (0 < l.length → a = some ⟨b, off, none⟩) ∧ l.length ≤ cap ∧
    ∀ i (h : i < l.length), w.cell? ⟨b, off + i * 5, none⟩ = some (.int .i64 l[i].1) ∧ w.cell? ⟨b, off + i * 5 + 1, none⟩ = some (.int .i64 l[i].2.1) ∧ w.cell? ⟨b, off + i * 5 + 2, none⟩ = some (.int .i64 l[i].2.2.1) ∧
      w.cell? ⟨b, off + i * 5 + 3, none⟩ = some (.int .i64 l[i].2.2.2.1) ∧ w.cell? ⟨b, off + i * 5 + 4, none⟩ = some (.int .i64 l[i].2.2.2.2) := by
  obtain ⟨h1, h2, a, b, off, cap, h3, h4, h5⟩ := h
  refine ⟨a, b, off, cap, h3, h2, h4.1, h4.2, fun i hi => ?_⟩
  have hl := length_stepCells l
  have key : ∀ j (u : Value), j < 5 → (Stp.cells l[i])[j]? = some u → w.cell? ⟨b, off + i * 5 + j, none⟩ = some u := fun j u hj hu => by
    have e := stepCells_at l i hi j hj
    have e1 := h5 (i * 5 + j) (by omega)
    rw [List.getElem?_eq_getElem (by omega), hu] at e
    rw [Option.some.inj e] at e1
    rw [Nat.add_assoc]; exact e1
  exact ⟨key 0 _ (by omega) rfl, key 1 _ (by omega) rfl, key 2 _ (by omega) rfl, key 3 _ (by omega) rfl, key 4 _ (by omega) rfl⟩
theorem Steps.cap {w : World} {a : Option Addr} {n c : Nat} {l : List Stp} (h : Steps w (.slice a n c) l) : l.length ≤ c ∧ n = l.length := Rd.cap h
theorem stepCells_append (a b : List Stp) : stepCells (a ++ b) = stepCells a ++ stepCells b := by simp [stepCells]
theorem stepCells_step (l : List Stp) (k : Nat) (h : k < l.length) : stepCells (l.take (k + 1)) = stepCells (l.take k) ++ Stp.cells l[k] := by
  rw [List.take_succ_eq_append_getElem h, stepCells_append]; simp [stepCells]
theorem Steps.take {w : World} {a : Option Addr} {n c : Nat} {l : List Stp} (h : Steps w (.slice a n c) l) (k : Nat) (hk : k ≤ l.length) : Steps w (.slice a k c) (l.take k) := by
  obtain ⟨h1, h2, a', b, off, cap, h3, h4, h5⟩ := h
  injection h3 with e1 e2 e3
  subst e1 e3
  have hl : (l.take k).length = k := by simp; omega
  have hs := length_stepCells (l.take k)
  have hs2 := length_stepCells l
  refine ⟨hs, by omega, a, b, off, c, by rw [hl], ⟨fun h => h4.1 (by omega), by omega⟩, fun j hj => ?_⟩
  rw [h5 j (by omega)]
  congr 1
  have : stepCells l = stepCells (l.take k) ++ stepCells (l.drop k) := by rw [← stepCells_append, List.take_append_drop]
  simp only [this]
  rw [List.getElem_append_left hj]

theorem info53 : (Try.prog.info? 53).map (fun i => (i.zero, i.size, i.bytes)) = some (some (.agg #[.int .i64 0, .int .i64 0, .int .i64 0, .int .i64 0, .int .i64 0]), 5, 40) := by kernel_rfl
theorem elem46 : Elem Try.prog 46 53 5 40 := elem_of Try.underlying46 info53 rfl (by omega) (by omega)
theorem info107 : (Try.prog.info? 107).map (fun i => (i.zero, i.size, i.bytes)) = some (some (.agg #[.int .i64 0, .int .i64 0, .int .i64 0, .int .i64 0, .int .i64 0]), 5, 40) := by kernel_rfl
theorem elem50 : Elem Try.prog 50 107 5 40 := elem_of Try.underlying50 info107 rfl (by omega) (by omega)
end Go.Proofs.Ytnidalbfmicoiaa
