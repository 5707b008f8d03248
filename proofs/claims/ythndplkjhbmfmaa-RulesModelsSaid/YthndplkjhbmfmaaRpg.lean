/- The program of ground instances in the heap. -/
import Derived.Test.YthndplkjhbmfmaaRqu
namespace Go.Proofs.Ythndplkjhbmfmaa
open Go.RowKit
/-- what a program holds: its instances, its rows of ints by their cell, the facts that are reached -/
structure PSt where
  I : List PIn
  R : Nat → List Int
  rch : Int → Prop
/-- its values in the heap -/
structure PMem where
  vi : Value
  mb : Nat
  v : Nat → Value
def rowJ (j : Nat) : Prop := (2 ≤ j ∧ j < 296) ∨ (297 ≤ j ∧ j < 304)
def pcs (rl : Value) (M : PMem) : Array Value := ((List.range 304).map fun j => if j = 0 then rl else if j = 1 then M.vi else if j = 296 then .map (some M.mb) else M.v j).toArray
theorem pcs_size (rl : Value) (M : PMem) : (pcs rl M).size = 304 := by simp [pcs]
theorem pcs_at (rl : Value) (M : PMem) {j : Nat} (hj : j < 304) : (pcs rl M)[j]? = some (if j = 0 then rl else if j = 1 then M.vi else if j = 296 then .map (some M.mb) else M.v j) := by
  simp [pcs, hj]
def upd {α : Type} (f : Nat → α) (j : Nat) (x : α) : Nat → α := fun k => if k = j then x else f k
theorem upd_same {α : Type} (f : Nat → α) (j : Nat) (x : α) : upd f j x j = x := if_pos rfl
theorem upd_other {α : Type} (f : Nat → α) {j k : Nat} (x : α) (h : k ≠ j) : upd f j x k = f k := if_neg h
theorem pcs_row {rl : Value} {M : PMem} {j : Nat} (hj : rowJ j) (x : Value) : (pcs rl M).setIfInBounds j x = pcs rl { M with v := upd M.v j x } := by
  unfold rowJ at hj
  apply Array.ext_getElem?
  intro i
  by_cases hi : i < 304
  · by_cases e : i = j
    · subst e
      rw [Array.getElem?_setIfInBounds_self_of_lt (by rw [pcs_size]; omega), pcs_at _ _ hi, if_neg (by omega), if_neg (by omega), if_neg (by omega)]
      show some x = some (upd M.v i x i)
      rw [upd_same]
    · rw [Array.getElem?_setIfInBounds_ne (by omega), pcs_at _ _ hi, pcs_at _ _ hi]
      show _ = some (if i = 0 then rl else if i = 1 then M.vi else if i = 296 then Value.map (some M.mb) else upd M.v j x i)
      rw [upd_other _ _ e]
  · rw [Array.getElem?_eq_none (by simp [pcs_size]; omega), Array.getElem?_eq_none (by rw [pcs_size]; omega)]
theorem pcs_ins {rl : Value} {M : PMem} (x : Value) : (pcs rl M).setIfInBounds 1 x = pcs rl { M with vi := x } := by
  apply Array.ext_getElem?
  intro i
  by_cases hi : i < 304
  · by_cases e : i = 1
    · subst e
      rw [Array.getElem?_setIfInBounds_self_of_lt (by rw [pcs_size]; omega), pcs_at _ _ hi]
      rfl
    · rw [Array.getElem?_setIfInBounds_ne (by omega), pcs_at _ _ hi, pcs_at _ _ hi, if_neg e, if_neg e]
  · rw [Array.getElem?_eq_none (by simp [pcs_size]; omega), Array.getElem?_eq_none (by rw [pcs_size]; omega)]
/-- the blocks of a program that may change -/
def Lv (bp : Nat) (M : PMem) (k : Nat) : Prop := k = bp ∨ k = M.mb ∨ M.vi.ownBlock = some k ∨ ∃ j, rowJ j ∧ (M.v j).ownBlock = some k
/-- the instances' cells -/
def inC : List PIn → List (Value × Value) → List Value
  | i :: l, u :: us => .int .i64 i.rule :: .int .i64 i.head :: u.1 :: u.2 :: inC l us
  | _, _ => []
/-- a value's row lies in a block below bnd that is none of D -/
def Old (bnd : Nat) (D : Nat → Prop) (x : Value) : Prop := ∀ k, x.ownBlock = some k → ¬ D k ∧ k < bnd
def InsR (base bnd : Nat) (w : World) (v : Value) (I : List PIn) (D : Nat → Prop) : Prop := ∃ us : List (Value × Value), us.length = I.length ∧ w.ownsRow base 207 4 v I.length (inC I us) ∧
  ∀ i (h : i < I.length) (h' : i < us.length), (Ints w us[i].1 I[i].need ∧ Old bnd D us[i].1) ∧ Ints w us[i].2 I[i].avoid ∧ Old bnd D us[i].2
theorem ints_blk {w w' : World} {x : Value} {L : List Int} (h : Ints w x L) (hb : ∀ k, x.ownBlock = some k → w'.heap[k]? = w.heap[k]?) : Ints w' x L := by
  obtain ⟨h1, h2, a, b, off, cap, h3, h4, h5⟩ := h
  refine ⟨h1, h2, a, b, off, cap, h3, h4, fun j hj => ?_⟩
  have hc := h5 j hj
  have hn : 0 < L.length := by rw [List.length_map] at hj; omega
  rw [World.cell?_of_block (hb b (by rw [h3, h4.1 hn]; rfl))]
  exact hc
theorem InsR.chg {base bnd : Nat} {w w' : World} {v : Value} {I : List PIn} {D D' : Nat → Prop} (h : InsR base bnd w v I D) (hl : bnd ≤ w.heap.size) (hv : ∀ k, v.ownBlock = some k → w'.heap[k]? = w.heap[k]?) (hk : ∀ k, k < bnd → ¬ D k → w'.heap[k]? = w.heap[k]?) (hD : ∀ k, D' k → D k ∨ w.heap.size ≤ k) : InsR base bnd w' v I D' := by
  obtain ⟨us, h1, h2, h3⟩ := h
  have ho : ∀ {x : Value}, Old bnd D x → Old bnd D' x := fun h k hk2 => ⟨fun hd => by
    rcases hD k hd with e | e
    · exact (h k hk2).1 e
    · have := (h k hk2).2; omega, (h k hk2).2⟩
  refine ⟨us, h1, own_block h2 hv, fun i a b => ?_⟩
  obtain ⟨⟨a1, a2⟩, a3, a4⟩ := h3 i a b
  exact ⟨⟨ints_blk a1 fun k hk2 => hk k (a2 k hk2).2 (a2 k hk2).1, ho a2⟩, ints_blk a3 fun k hk2 => hk k (a4 k hk2).2 (a4 k hk2).1, ho a4⟩
/-- the program in the heap -/
structure PG (base bnd : Nat) (w : World) (bp : Nat) (rl : Value) (M : PMem) (S : PSt) : Prop where
  blk : w.heap[bp]? = some (.cells (pcs rl M) 195 (0, 0))
  ge : ∀ k, Lv bp M k → base ≤ k
  rows : ∀ j, rowJ j → OQ base w (M.v j) (S.R j)
  apart : ∀ j k, rowJ j → rowJ k → j ≠ k → ∀ g, (M.v j).ownBlock = some g → (M.v k).ownBlock ≠ some g
  ins : InsR base bnd w M.vi S.I (Lv bp M)
  bl : bnd ≤ w.heap.size
  set : ∃ n, KSet w M.mb n S.rch ∧ n ≤ 1000
/-- what changes, and what is new -/
structure Mv (w w' : World) (D D' : Nat → Prop) : Prop where
  os : w'.os = w.os
  tape : w'.tape = w.tape
  output : w'.output = w.output
  size : w.heap.size ≤ w'.heap.size
  blk : ∀ k, k < w.heap.size → ¬ D k → w'.heap[k]? = w.heap[k]?
  new : ∀ k, D' k → D k ∨ w.heap.size ≤ k
theorem Mv.refl (w : World) (D : Nat → Prop) : Mv w w D D := ⟨rfl, rfl, rfl, Nat.le_refl _, fun _ _ _ => rfl, fun _ h => .inl h⟩
theorem Mv.trans {a b c : World} {D E F : Nat → Prop} (h : Mv a b D E) (k : Mv b c E F) : Mv a c D F :=
  ⟨k.os.trans h.os, k.tape.trans h.tape, k.output.trans h.output, Nat.le_trans h.size k.size, fun i hi hd => (k.blk i (Nat.lt_of_lt_of_le hi h.size) fun e => by
    rcases h.new i e with e | e
    · exact hd e
    · omega).trans (h.blk i hi hd), fun i hi => by
    rcases k.new i hi with e | e
    · exact h.new i e
    · exact .inr (Nat.le_trans h.size e)⟩
theorem Mv.of_below {w w' : World} {D : Nat → Prop} (h : Below w.heap.size w w') : Mv w w' D D := ⟨h.os, h.tape, h.output, h.size, fun k hk _ => h.block k hk, fun _ h => .inl h⟩
theorem Mv.below {w w' : World} {D D' : Nat → Prop} {B : Nat} (h : Mv w w' D D') (hB : B ≤ w.heap.size) (hD : ∀ k, D k → B ≤ k) : Below B w w' := ⟨h.os, h.tape, h.output, h.size, fun k hk => h.blk k (by omega) fun e => by have := hD k e; omega⟩
/-- a block of the caller's stays, and stays the caller's -/
theorem Mv.keep {w w' : World} {D D' : Nat → Prop} (h : Mv w w' D D') {b : Nat} {o : Obj} (hb : w.heap[b]? = some o) (hn : ¬ D b) : w'.heap[b]? = some o ∧ ¬ D' b := by
  have hl := (Array.getElem?_eq_some_iff.1 hb).1
  refine ⟨(h.blk b hl hn).trans hb, fun e => ?_⟩
  rcases h.new b e with e | e
  · exact hn e
  · omega
theorem PG.bpLt {base bnd : Nat} {w : World} {bp : Nat} {rl : Value} {M : PMem} {S : PSt} (h : PG base bnd w bp rl M S) : bp < w.heap.size := (Array.getElem?_eq_some_iff.1 h.blk).1
theorem PG.lvLt {base bnd : Nat} {w : World} {bp : Nat} {rl : Value} {M : PMem} {S : PSt} (h : PG base bnd w bp rl M S) {k : Nat} (hk : Lv bp M k) : k < w.heap.size := by
  rcases hk with rfl | rfl | hk | ⟨j, hj, hk⟩
  · exact h.bpLt
  · obtain ⟨n, hs, _⟩ := h.set
    exact hs.lt
  · obtain ⟨us, _, h2, _⟩ := h.ins
    exact (own_lt h2 hk).2
  · exact ((h.rows j hj).lt hk).2
theorem PG.cell {base bnd : Nat} {w : World} {bp : Nat} {rl : Value} {M : PMem} {S : PSt} (h : PG base bnd w bp rl M S) {j : Nat} (hj : j < 304) : w.cell? ⟨bp, j, none⟩ = some (if j = 0 then rl else if j = 1 then M.vi else if j = 296 then .map (some M.mb) else M.v j) := by
  rw [cell_of_row w bp j _ _ _ h.blk, pcs_at _ _ hj]
theorem PG.frozen {base bnd : Nat} {w : World} {bp : Nat} {rl : Value} {M : PMem} {S : PSt} (h : PG base bnd w bp rl M S) (j : Nat) : w.frozen? ⟨bp, j, none⟩ = false := frozen_of_row w bp j _ _ h.blk
theorem PG.cellR {base bnd : Nat} {w : World} {bp : Nat} {rl : Value} {M : PMem} {S : PSt} (h : PG base bnd w bp rl M S) {j : Nat} (hj : rowJ j) : w.cell? ⟨bp, j, none⟩ = some (M.v j) := by
  unfold rowJ at hj
  rw [h.cell (by omega), if_neg (by omega), if_neg (by omega), if_neg (by omega)]
theorem PG.keep {base bnd : Nat} {w w' : World} {bp : Nat} {rl : Value} {M : PMem} {S : PSt} (h : PG base bnd w bp rl M S) (hb : Below w.heap.size w w') : PG base bnd w' bp rl M S :=
  ⟨blk_keep2 h.blk hb, h.ge, fun j hj => (h.rows j hj).keep hb, h.apart, h.ins.chg h.bl (fun k hk => hb.block k (h.lvLt (.inr (.inr (.inl hk))))) (fun k hk _ => hb.block k (Nat.lt_of_lt_of_le hk h.bl)) (fun k hk => .inl hk), Nat.le_trans h.bl hb.size, by
    obtain ⟨n, hs, hn⟩ := h.set
    exact ⟨n, hs.keep hb, hn⟩⟩
/-- the blocks of a program are of different kinds -/
theorem PG.kinds {base bnd : Nat} {w : World} {bp : Nat} {rl : Value} {M : PMem} {S : PSt} (h : PG base bnd w bp rl M S) {j g : Nat} (hj : rowJ j) (hg : (M.v j).ownBlock = some g) : g ≠ bp ∧ g ≠ M.mb ∧ M.vi.ownBlock ≠ some g := by
  obtain ⟨cur, hc⟩ := (h.rows j hj).typ hg
  refine ⟨fun e => ?_, fun e => ?_, fun e => ?_⟩
  · subst e
    rw [h.blk] at hc
    injection hc with hc
    injection hc with _ hc _
    exact absurd hc (by decide)
  · subst e
    obtain ⟨n, hs, _⟩ := h.set
    obtain ⟨es, clock, hm, _⟩ := hs.len_run
    rw [hm] at hc
    injection hc with hc
    cases hc
  · obtain ⟨us, _, h2, _⟩ := h.ins
    rcases h2.2 with ⟨e2, _⟩ | ⟨g', cap, cur', e2, _, hh, _⟩
    · rw [e2] at e; cases e
    · rw [e2] at e
      have e3 : g' = g := Option.some.inj e
      subst e3
      rw [hh] at hc
      injection hc with hc
      injection hc with _ hc _
      exact absurd hc (by decide)
theorem PG.up {base bnd bnd' : Nat} {w : World} {bp : Nat} {rl : Value} {M : PMem} {S : PSt} (h : PG base bnd w bp rl M S) (h1 : bnd ≤ bnd') (h2 : bnd' ≤ w.heap.size) : PG base bnd' w bp rl M S :=
  ⟨h.blk, h.ge, h.rows, h.apart, by
    obtain ⟨us, a, b, c⟩ := h.ins
    have ho : ∀ {x : Value}, Old bnd (Lv bp M) x → Old bnd' (Lv bp M) x := fun h k hk => ⟨(h k hk).1, Nat.lt_of_lt_of_le (h k hk).2 h1⟩
    exact ⟨us, a, b, fun i d e => ⟨⟨(c i d e).1.1, ho (c i d e).1.2⟩, (c i d e).2.1, ho (c i d e).2.2⟩⟩, h2, h.set⟩
/-- a block of the caller's changes -/
theorem PG.other {base bnd : Nat} {w w' : World} {bp : Nat} {rl : Value} {M : PMem} {S : PSt} (h : PG base bnd w bp rl M S) {g : Option Nat} (hg : w.grownBy w' g) (hn : ∀ k, g = some k → ¬ Lv bp M k ∧ bnd ≤ k) : PG base bnd w' bp rl M S := by
  have hk : ∀ k, Lv bp M k → w'.heap[k]? = w.heap[k]? := fun k hk => hg.block k (h.lvLt hk) fun e => (hn k e.symm).1 hk
  refine ⟨(hk bp (.inl rfl)).trans h.blk, h.ge, fun j hj => (h.rows j hj).block fun g hgv => hk g (.inr (.inr (.inr ⟨j, hj, hgv⟩))), h.apart, h.ins.chg h.bl (fun k hk2 => hk k (.inr (.inr (.inl hk2)))) (fun k hk2 _ => hg.block k (Nat.lt_of_lt_of_le hk2 h.bl) fun e => by have := (hn k e.symm).2; omega) (fun k hk2 => .inl hk2), Nat.le_trans h.bl hg.size, ?_⟩
  obtain ⟨n, hs, hn2⟩ := h.set
  exact ⟨n, hs.kept hg (fun e => (hn M.mb e.symm).1 (.inr (.inl rfl))), hn2⟩
#print axioms PG.keep
#print axioms PG.kinds
end Go.Proofs.Ythndplkjhbmfmaa
