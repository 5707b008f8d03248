/- Contracts of label and Back. -/
import Derived.Test.YtbnlkmblkokooaaSts
import Derived.Test.YtbnlkmblkokooaaTxt
import Derived.Test.YtbnlkmblkokooaaTrr
import Derived.Test.YtbnlkmblkokooaaCom
namespace Go.Proofs.Ytbnlkmblkokooaa
open Go.RowKit
theorem infoByt : ∃ i0, Try.prog.info? 5 = some i0 ∧ i0.zero = some (.int .u8 0) ∧ i0.size = 1 ∧ i0.bytes = 1 := by
  have : (Try.prog.info? 5).map (fun i => (i.zero, i.size, i.bytes)) = some (some (.int .u8 0), 1, 1) := by kernel_rfl
  cases h : Try.prog.info? 5 with
  | none => rw [h] at this; cases this
  | some i0 => rw [h] at this; simp only [Option.map_some, Option.some.injEq, Prod.mk.injEq] at this; exact ⟨i0, rfl, this⟩
theorem let_gt {c : UInt8} (h : letterB c = true) : 10 < c := by
  unfold letterB at h
  have := of_decide_eq_true h
  exact UInt8.lt_iff_toNat_lt.2 (by show 10 < c.toNat; omega)
/-- a label whose transform it is -/
def IsBk (l T : Bs) : Prop := Lab T ∧ tr T = l
theorem IsBk.gt {l T : Bs} (h : IsBk l T) : ∀ c ∈ T, 10 < c := fun c hc => let_gt (h.1.2 c hc)
theorem IsBk.count {l T : Bs} (h : IsBk l T) : l.count 10 = 1 := by
  rw [← h.2, (tr_perm T).count_eq, List.count_cons_self]
  have : T.count 10 = 0 := List.count_eq_zero.2 fun hm => u8_irr _ (h.gt _ hm)
  rw [this]
theorem IsBk.len {l T : Bs} (h : IsBk l T) : l.length = T.length + 1 := by rw [← h.2, tr_length]
theorem text_letter {l : Bs} (h : Txt l) {i : Nat} (hi : i < l.length) (hne : l[i] ≠ 10) : letterB l[i] = true := by
  have := h.2 _ (List.getElem_mem hi)
  unfold mayB at this
  rw [Bool.or_eq_true, beq_iff_eq] at this
  exact this.resolve_right hne
/-- what label returns -/
def LblPost (l : Bs) (w : World) (e : Ending) (w' : World) : Prop := Below w.heap.size w w' ∧ ((∃ T, IsBk l T ∧ e = .returned (.tuple #[strV T, .bool true])) ∨ ((¬ ∃ T, IsBk l T) ∧ ∃ v, e = .returned (.tuple #[.string v, .bool false])))
/-- the third loop's state: the place, how many bytes are read, the bytes -/
structure BkSt (l : Bs) (m at' j : Nat) (TL : Bs) : Prop where
  at_lt : at' < l.length
  len : TL.length = m
  lets : ∀ q, m - j ≤ q → q < m → letterB (TL.getD q 0) = true
  is : ∀ T, IsBk l T → saAt T at' = m - j ∧ at' ≤ T.length ∧ ∀ q, m - j ≤ q → q < m → TL.getD q 0 = T.getD q 0
theorem BkSt.end' {l : Bs} {m at' j : Nat} {TL : Bs} (h : BkSt l m at' j TL) (hj : j < m) (hc : l[at']'h.at_lt = 10) : ¬ ∃ T, IsBk l T := by
  rintro ⟨T, hT⟩
  obtain ⟨h1, h2, _⟩ := h.is T hT
  have htc : tc T at' = 10 := by
    rw [← tr_getD h2, hT.2, List.getD_eq_getElem?_getD, List.getElem?_eq_getElem h.at_lt]; exact hc
  have := (tc_end hT.gt).1 htc
  omega
theorem BkSt.step {l : Bs} {m at' j : Nat} {TL : Bs} (h : BkSt l m at' j TL) (ht : Txt l) (hm : l.length = m + 1) (hj : j < m) (hc : l[at']'h.at_lt ≠ 10) : BkSt l m (pl l at') (j + 1) (TL.set (m - 1 - j) (l[at']'h.at_lt)) := by
  have hlt := h.at_lt
  refine ⟨pl_lt hlt, by rw [List.length_set]; exact h.len, fun q h1 h2 => ?_, fun T hT => ?_⟩
  · rw [List.getD_eq_getElem?_getD, List.getElem?_set]
    by_cases e : m - 1 - j = q
    · rw [if_pos e, if_pos (by rw [h.len]; omega)]
      exact text_letter ht hlt hc
    · rw [if_neg e, ← List.getD_eq_getElem?_getD]
      exact h.lets q (by omega) h2
  · obtain ⟨h1, h2, h3⟩ := h.is T hT
    have hl := hT.len
    have hst := step_pl hT.gt h2 (by omega)
    rw [hT.2, h1] at hst
    refine ⟨by omega, hst.2, fun q g1 g2 => ?_⟩
    rw [List.getD_eq_getElem?_getD, List.getElem?_set]
    by_cases e : m - 1 - j = q
    · rw [if_pos e, if_pos (by rw [h.len]; omega), Option.getD_some]
      have htc : tc T at' = l[at'] := by rw [← tr_getD h2, hT.2, List.getD_eq_getElem?_getD, List.getElem?_eq_getElem hlt]; rfl
      have hq : q < T.length := by omega
      rw [← htc, tc_at (m := q) (by omega) hq, List.getD_eq_getElem?_getD, List.getElem?_eq_getElem hq]; rfl
    · rw [if_neg e, ← List.getD_eq_getElem?_getD]
      exact h3 q (by omega) g2
theorem BkSt.lab {l : Bs} {m at' : Nat} {TL : Bs} (h : BkSt l m at' m TL) (hm : m ≤ 200) : Lab TL := by
  refine ⟨by rw [h.len]; exact hm, fun c hc => ?_⟩
  obtain ⟨q, hq, e⟩ := List.getElem_of_mem hc
  have := h.lets q (by omega) (by rw [← h.len]; exact hq)
  rw [List.getD_eq_getElem?_getD, List.getElem?_eq_getElem hq, Option.getD_some, e] at this
  exact this
theorem BkSt.eq {l T : Bs} {m at' : Nat} {TL : Bs} (h : BkSt l m at' m TL) (hm : l.length = m + 1) (hT : IsBk l T) : TL = T := by
  obtain ⟨_, _, h3⟩ := h.is T hT
  have hl := hT.len
  apply List.ext_getElem
  · rw [h.len]; omega
  · intro q h1 h2
    have := h3 q (by omega) (by rw [← h.len]; exact h1)
    rw [List.getD_eq_getElem?_getD, List.getD_eq_getElem?_getD, List.getElem?_eq_getElem h1, List.getElem?_eq_getElem h2] at this
    exact this
theorem bkSt_start {l : Bs} {m : Nat} (hm : l.length = m + 1) : BkSt l m 0 0 (List.replicate m 0) where
  at_lt := by omega
  len := List.length_replicate
  lets := fun q h1 h2 => by omega
  is := fun T hT => ⟨by rw [saAt_zero]; have := hT.len; omega, Nat.zero_le _, fun q h1 h2 => by omega⟩
#print axioms BkSt.step
/-- a row of natural numbers of the call's own, as a list -/
def OwnNs (base : Nat) (w : World) (g n : Nat) (L : List Nat) : Prop := L.length = n ∧ w.ownsRow base 3 1 (.slice (some ⟨g, 0, none⟩) n n) n (L.map fun x : Nat => Value.int .i64 (x : Int))
theorem OwnNs.cell {base g n : Nat} {w : World} {L : List Nat} (h : OwnNs base w g n L) {i : Nat} (hi : i < n) : w.cell? ⟨g, i, none⟩ = some (.int .i64 (L.getD i 0 : Nat)) := by
  have := World.ownsRow.cellAt h.2 i (by omega)
  rw [this, List.getElem?_map, List.getElem?_eq_getElem (by rw [h.1]; exact hi), List.getD_eq_getElem?_getD, List.getElem?_eq_getElem (by rw [h.1]; exact hi)]
  rfl
theorem OwnNs.set {base g n : Nat} {w : World} {L : List Nat} (h : OwnNs base w g n L) (i x : Nat) : OwnNs base (w.setCell ⟨g, i, none⟩ (.int .i64 (x : Int))) g n (L.set i x) := by
  refine ⟨by rw [List.length_set]; exact h.1, ?_⟩
  have := (World.ownsRow.stored h.2 i (.int .i64 (x : Int))).1
  rw [List.map_set]
  exact this
theorem ownNs_new {base n : Nat} {w3 : World} {B : Nat} (hown : w3.ownsRow base 3 1 (.slice (some ⟨B, 0, none⟩) n n) n (madeCells (Value.int IntKind.i64 0).cells (n * 1)).toList) : OwnNs base w3 B n (List.replicate n 0) := by
  refine ⟨List.length_replicate, ?_⟩
  have e : (madeCells (Value.int IntKind.i64 0).cells (n * 1)).toList = (List.replicate n 0).map fun x : Nat => Value.int .i64 (x : Int) := by
    rw [Nat.mul_one]
    show (madeCells #[Value.int .i64 0] n).toList = _
    rw [toList_madeCells_one, List.map_replicate]; rfl
  rw [e] at hown
  exact hown
theorem ownB_new {base n : Nat} {w3 : World} {B : Nat} (hown : w3.ownsRow base 5 1 (.slice (some ⟨B, 0, none⟩) n n) n (madeCells (Value.int IntKind.u8 0).cells (n * 1)).toList) : OwnByts base w3 (.slice (some ⟨B, 0, none⟩) n n) (List.replicate n 0) := by
  have e : (madeCells (Value.int IntKind.u8 0).cells (n * 1)).toList = Lib.byteCells (List.replicate n 0) := by
    rw [Nat.mul_one]
    show (madeCells #[Value.int .u8 0] n).toList = _
    rw [toList_madeCells_one]
    simp [Lib.byteCells, List.map_replicate]
  rw [e] at hown
  unfold OwnByts
  rw [List.length_replicate]
  exact hown
#print axioms ownB_new
end Go.Proofs.Ytbnlkmblkokooaa
