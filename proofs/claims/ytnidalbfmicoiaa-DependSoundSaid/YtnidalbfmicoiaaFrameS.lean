/- A slice of proof steps as an argument of a law. -/
import Derived.Test.YtnidalbfmicoiaaFrame
import Derived.Test.YtnidalbfmicoiaaWalkSa
import Derived.Test.YtnidalbfmicoiaaFacts
import Derived.Lib.SmallJoins
namespace Go.Proofs.Ytnidalbfmicoiaa
open Go.ChangeShapes Go.WideShapes Go.ChangeAt Go.RowKit Go.Deep Go.Joins

section
variable {H : Type} {enc : TypeId × Value → H} {P : Program} {W : World}
theorem step_of_trod {e i0 d0 : TypeId} {f0 f1 f2 f3 g0 g1 : Field} {sp : Nat → Bool} (he : P.underlying e = some (.struct #[f0, f1, f2, f3])) (h0 : f0.type = i0 ∧ f0.offset = 0) (h1 : f1.type = i0 ∧ f1.offset = 1) (h2 : f2.type = i0 ∧ f2.offset = 2) (h3 : f3.type = d0 ∧ f3.offset = 3)
    (hd : P.underlying d0 = some (.struct #[g0, g1])) (k0 : g0.type = i0 ∧ g0.offset = 0) (k1 : g1.type = i0 ∧ g1.offset = 1)
    (hi0 : P.underlying i0 = some (.int .i64)) (c0 : P.cellsOf i0 = 1) (cd : P.cellsOf d0 = 2) (hc : P.cellsOf e = 5)
    {fuel : Nat} {cs : List Value} {x : DataW H × List MemPlace} (h : DataW.trod enc P W 0 sp true fuel e cs = some x) : ∃ y : Stp, cs = Stp.cells y := by
  obtain ⟨y0, y1, y2, y3, n, _, hl, q0, q1, q2, q3⟩ := trod_struct4 he h
  rw [h0.1, h0.2, c0] at q0
  rw [h1.1, h1.2, c0] at q1
  rw [h2.1, h2.2, c0] at q2
  rw [h3.1, h3.2, cd] at q3
  rw [hc] at hl
  match cs, hl with
  | [a, b, c, d, e'], _ =>
    obtain ⟨n0, e0, _, _⟩ := DataW.trod_int hi0 q0
    obtain ⟨n1, e1, _, _⟩ := DataW.trod_int hi0 q1
    obtain ⟨n2, e2, _, _⟩ := DataW.trod_int hi0 q2
    obtain ⟨⟨n3, n4⟩, e3⟩ := pair_of_trod hd k0 k1 hi0 hi0 c0 c0 cd q3
    simp at e0 e1 e2 e3
    exact ⟨(n0, n1, n2, n3, n4), by rw [e0, e1, e2, e3.1, e3.2]; rfl⟩
end
theorem cells107 : Try.prog.cellsOf 107 = 5 := by kernel_rfl
theorem steps_of_trod_try {H : Type} {enc : TypeId × Value → H} {W : World} {v : Value} {d : DataW H} {ps : List MemPlace} {sp : Nat → Bool}
    (hv : ∃ a len cap, v = .slice a len cap) (h : DataW.Trod enc Try.prog W 0 sp true 50 v d ps) : ∃ l : List Stp, Steps W v l := by
  obtain ⟨l, cs, h1, h2, h3⟩ := rd_of_trod (R := fun (n : Stp) cs => cs = Stp.cells n) Try.underlying50 cells107 (by omega) hv h (fun fuel cs x hx => step_of_trod Try.underlying107 ⟨rfl, rfl⟩ ⟨rfl, rfl⟩ ⟨rfl, rfl⟩ ⟨rfl, rfl⟩ Try.underlying24 ⟨rfl, rfl⟩ ⟨rfl, rfl⟩ Try.underlying3 Try.cells3 Try.cells24 cells107 hx)
  refine ⟨l, ?_⟩
  have : cs.flatten = stepCells l := by
    have e : cs = l.map fun n => Stp.cells n := List.ext_getElem (by simpa using h1) fun i a b => by
      rw [List.getElem_map]; exact (h2 i (by omega) a).1
    rw [e]; clear h1 h2 h3 e
    unfold stepCells
    rw [List.flatMap_def]
  unfold Steps
  rw [← this]
  exact h3
#print axioms steps_of_trod_try
end Go.Proofs.Ytnidalbfmicoiaa
