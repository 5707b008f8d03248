/- A block of memory that is known whole; as a row of cells that a function gives. -/
import Derived.Test.YtpehbffkplmfjaaHist
import Derived.Test.YtpehbffkplmfjaaFacts
import Derived.Outline
import Derived.Deep.QuietTactic
import Derived.BigQuiet
import Derived.Deep.DeepCutAuto
import Derived.Deep.RegionHeld3
import Derived.Deep.RegionLaw
import Derived.Laws.Rows
import Derived.Laws.Tables
import Derived.WalkSpells
import Derived.OwnWalk
namespace Go.Proofs.Ytpehbffkplmfjaa
open Go.RowKit

theorem bdrewN {B : Nat} {a w : World} (h : Below B a w) (n : Nat) : Below B a (w.drewN n) := ⟨h.os, h.tape, h.output, h.size, h.block⟩
theorem cell_other {w : World} {b b2 i j : Nat} {v : Value} (hne : b ≠ b2) : (w.setCell ⟨b2, i, none⟩ v).cell? ⟨b, j, none⟩ = w.cell? ⟨b, j, none⟩ :=
  World.cell?_of_block (heap_setCell_other w ⟨b2, i, none⟩ b v hne)
/-- the cells that a function gives -/
def row (n : Nat) (f : Nat → Value) : Array Value := ((List.range n).map f).toArray
theorem row_size (n : Nat) (f : Nat → Value) : (row n f).size = n := by simp [row]
theorem row_at {n : Nat} {f : Nat → Value} {j : Nat} (h : j < n) : (row n f)[j]? = some (f j) := by simp [row, h]
theorem row_set {n i : Nat} {f : Nat → Value} (v : Value) : (row n f).setIfInBounds i v = row n (fun j => if j = i then v else f j) := by
  apply Array.ext_getElem?
  intro j
  rw [Array.getElem?_setIfInBounds, row_size]
  by_cases e : i = j
  · subst e
    by_cases h : i < n
    · rw [if_pos rfl, if_pos h, row_at h, if_pos rfl]
    · rw [if_pos rfl, if_neg h, Array.getElem?_eq_none (by rw [row_size]; omega)]
  · rw [if_neg e]
    by_cases h : j < n
    · rw [row_at h, row_at h, if_neg (fun e2 => e e2.symm)]
    · rw [Array.getElem?_eq_none (by rw [row_size]; omega), Array.getElem?_eq_none (by rw [row_size]; omega)]
theorem row_congr {n : Nat} {f g : Nat → Value} (h : ∀ j, j < n → f j = g j) : row n f = row n g := by
  unfold row
  congr 1
  exact List.map_congr_left fun j hj => h j (List.mem_range.1 hj)
/-- block b holds these cells -/
def Blk (w : World) (b : Nat) (t : TypeId) (n : Nat) (f : Nat → Value) : Prop := w.heap[b]? = some (.cells (row n f) t (0, 0))
theorem Blk.lt {w : World} {b : Nat} {t : TypeId} {n : Nat} {f : Nat → Value} (h : Blk w b t n f) : b < w.heap.size := (Array.getElem?_eq_some_iff.1 h).1
theorem Blk.at {w : World} {b : Nat} {t : TypeId} {n : Nat} {f : Nat → Value} (h : Blk w b t n f) {j : Nat} (hj : j < n) : w.cell? ⟨b, j, none⟩ = some (f j) := by
  rw [cell_of_row w b j _ t (0, 0) h, row_at hj]
theorem Blk.fz {w : World} {b : Nat} {t : TypeId} {n : Nat} {f : Nat → Value} (h : Blk w b t n f) (j : Nat) : w.frozen? ⟨b, j, none⟩ = false := frozen_of_row w b j _ t h
theorem Blk.put {w : World} {b : Nat} {t : TypeId} {n : Nat} {f : Nat → Value} (h : Blk w b t n f) (i : Nat) (v : Value) : Blk (w.setCell ⟨b, i, none⟩ v) b t n (fun j => if j = i then v else f j) := by
  unfold Blk
  rw [heap_setCell_same w b i _ t v h, row_set]
theorem Blk.other {w : World} {b b2 : Nat} {t : TypeId} {n : Nat} {f : Nat → Value} (h : Blk w b t n f) (hne : b ≠ b2) {i : Nat} (v : Value) : Blk (w.setCell ⟨b2, i, none⟩ v) b t n f := by
  unfold Blk; rw [heap_setCell_other w ⟨b2, i, none⟩ b v hne]; exact h
theorem Blk.keep {w w' : World} {b : Nat} {t : TypeId} {n : Nat} {f : Nat → Value} (h : Blk w b t n f) (hb : Below w.heap.size w w') : Blk w' b t n f := (hb.block b h.lt).trans h
theorem Blk.congr {w : World} {b : Nat} {t : TypeId} {n : Nat} {f g : Nat → Value} (h : Blk w b t n f) (e : ∀ j, j < n → f j = g j) : Blk w b t n g := by
  unfold Blk; rw [← row_congr e]; exact h
theorem Blk.drew {w : World} {b : Nat} {t : TypeId} {n : Nat} {f : Nat → Value} (h : Blk w b t n f) : Blk w.drew b t n f := h
theorem blk_new (w : World) (t : TypeId) (n : Nat) (f : Nat → Value) : Blk (w.alloc (.cells (row n f) t)) w.heap.size t n f := heap_alloc_new w _
theorem Below.put {B : Nat} {a w : World} (h : Below B a w) {b i : Nat} (hb : B ≤ b) (v : Value) : Below B a (w.setCell ⟨b, i, none⟩ v) := h.setCell hb v

/-! ### contracts of the smallest functions -/
def op3 (t k x : Int) : Value := .agg #[.int .i64 t, .int .i64 k, .int .i64 x]
theorem isEnd_any (t k x : Int) (w : World) :
    Calls Try.prog 50 #[.agg #[.int .i64 t, .int .i64 k, .int .i64 x]] w fun e w' => e = .returned (.bool (decide (k = 2 ∨ k = 3))) ∧ Below w.heap.size w w' := by
  by_cases h2 : k = 2
  · have R := Lib.hid (show decide (k = 2 ∨ k = 3) = true from decide_eq_true (.inl h2))
    have q : (k == 2) = true := by rw [beq_iff_eq]; exact h2
    clear h2
    go_enter Try.func50, Try.ntmps50
    go_wp2_with fail
    go_ret
    exact ⟨by rw [R.out]; rfl, below_alloc _ _⟩
  · have q : (k == 2) = false := by rw [beq_eq_false_iff_ne]; exact h2
    by_cases h3 : k = 3
    · have R := Lib.hid (show decide (k = 2 ∨ k = 3) = true from decide_eq_true (.inr h3))
      have q3 : (k == 3) = true := by rw [beq_iff_eq]; exact h3
      clear h2 h3
      go_enter Try.func50, Try.ntmps50
      go_wp2_with fail
      go_ret
      exact ⟨by rw [R.out]; rfl, below_alloc _ _⟩
    · have R := Lib.hid (show decide (k = 2 ∨ k = 3) = false from decide_eq_false (by omega))
      have q3 : (k == 3) = false := by rw [beq_eq_false_iff_ne]; exact h3
      clear h2 h3
      go_enter Try.func50, Try.ntmps50
      go_wp2_with fail
      go_ret
      exact ⟨by rw [R.out]; rfl, below_alloc _ _⟩
theorem isEnd_b (t k x : Int) (b : Bool) (hb : decide (k = 2 ∨ k = 3) = b) (w : World) :
    Calls Try.prog 50 #[.agg #[.int .i64 t, .int .i64 k, .int .i64 x]] w fun e w' => e = .returned (.bool b) ∧ Below w.heap.size w w' := by
  subst hb; exact isEnd_any t k x w
set_option maxHeartbeats 1000000 in
theorem opValid_any (t k x : Int) (w : World) :
    Calls Try.prog 49 #[.agg #[.int .i64 t, .int .i64 k, .int .i64 x]] w fun e w' => e = .returned (.bool (decide (OpOk t k x))) ∧ Below w.heap.size w w' := by
  by_cases h1 : t < 1
  · have R := Lib.hid (show decide (OpOk t k x) = false from decide_eq_false (fun h => by unfold OpOk at h; omega))
    go_enter Try.func49, Try.ntmps49
    go_wp2_with fail
    go_ret
    exact ⟨by rw [R.out]; rfl, below_alloc _ _⟩
  · by_cases h2 : t > 6
    · have R := Lib.hid (show decide (OpOk t k x) = false from decide_eq_false (fun h => by unfold OpOk at h; omega))
      go_enter Try.func49, Try.ntmps49
      go_wp2_with fail
      go_ret
      exact ⟨by rw [R.out]; rfl, below_alloc _ _⟩
    · by_cases h3 : k < 0
      · have R := Lib.hid (show decide (OpOk t k x) = false from decide_eq_false (fun h => by unfold OpOk at h; omega))
        go_enter Try.func49, Try.ntmps49
        go_wp2_with fail
        go_ret
        exact ⟨by rw [R.out]; rfl, below_alloc _ _⟩
      · by_cases h4 : k > 3
        · have R := Lib.hid (show decide (OpOk t k x) = false from decide_eq_false (fun h => by unfold OpOk at h; omega))
          go_enter Try.func49, Try.ntmps49
          go_wp2_with fail
          go_ret
          exact ⟨by rw [R.out]; rfl, below_alloc _ _⟩
        · by_cases h5 : k = 2 ∨ k = 3
          · have R := Lib.hid (show decide (x = 0) = decide (OpOk t k x) from decide_eq_decide.2 (by unfold OpOk; omega))
            have HE := Lib.hid (isEnd_b t k x true (decide_eq_true h5))
            clear h5
            go_enter Try.func49, Try.ntmps49
            go_wp2_with fail
            refine (HE.out _).mono ?_
            rintro e w1 ⟨rfl, hb1⟩
            have hx : w1.cell? ⟨w.heap.size, 2, none⟩ = some (.int .i64 x) := Below.keep hb1 (cell_new _ _ _ _)
            have Hb := Lib.hid (Below.tr (below_alloc _ _) hb1)
            clear hb1
            go_wp2_with fail
            go_ret
            exact ⟨congrArg (fun b => Ending.returned (.bool b)) ((show (x == 0) = decide (x = 0) from by rw [Bool.eq_iff_iff]; simp).trans R.out), Hb.out⟩
          · have HE := Lib.hid (isEnd_b t k x false (decide_eq_false h5))
            by_cases h6 : x < 0
            · have R := Lib.hid (show decide (OpOk t k x) = false from decide_eq_false (fun h => by unfold OpOk at h; omega))
              have q : ¬ (0 : Int) ≤ x := by omega
              clear h5
              go_enter Try.func49, Try.ntmps49
              go_wp2_with fail
              refine (HE.out _).mono ?_
              rintro e w1 ⟨rfl, hb1⟩
              have hx : w1.cell? ⟨w.heap.size, 2, none⟩ = some (.int .i64 x) := Below.keep hb1 (cell_new _ _ _ _)
              have Hb := Lib.hid (Below.tr (below_alloc _ _) hb1)
              clear hb1
              go_wp2_with fail
              go_ret
              exact ⟨by rw [R.out]; rfl, Hb.out⟩
            · have R := Lib.hid (show decide (x < 6) = decide (OpOk t k x) from decide_eq_decide.2 (by unfold OpOk; omega))
              have q : (0 : Int) ≤ x := by omega
              clear h5
              go_enter Try.func49, Try.ntmps49
              go_wp2_with fail
              refine (HE.out _).mono ?_
              rintro e w1 ⟨rfl, hb1⟩
              have hx : w1.cell? ⟨w.heap.size, 2, none⟩ = some (.int .i64 x) := Below.keep hb1 (cell_new _ _ _ _)
              have Hb := Lib.hid (Below.tr (below_alloc _ _) hb1)
              clear hb1
              go_wp2_with fail
              go_ret
              exact ⟨congrArg (fun b => Ending.returned (.bool b)) R.out, Hb.out⟩
theorem opValid_b (t k x : Int) (b : Bool) (hb : decide (OpOk t k x) = b) (w : World) :
    Calls Try.prog 49 #[.agg #[.int .i64 t, .int .i64 k, .int .i64 x]] w fun e w' => e = .returned (.bool b) ∧ Below w.heap.size w w' := by
  subst hb; exact opValid_any t k x w
#print axioms opValid_any
end Go.Proofs.Ytpehbffkplmfjaa
