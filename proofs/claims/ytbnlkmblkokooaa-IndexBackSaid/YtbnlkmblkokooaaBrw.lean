/- A row of bytes under a sort: the world but for its cells, draws and new blocks. -/
import Derived.Test.YtbnlkmblkokooaaOwn
import Derived.Sort.AssemblyPlain
import Derived.Sort.Grow
namespace Go.Proofs.Ytbnlkmblkokooaa
open Go.RowKit

/-- a row of bytes as the integers that they are -/
def RowAt (w : World) (blk off : Nat) (d : Array Int) : Prop := Go.Sort.Holds (Value.int .u8) w blk off d ∧ blk < w.heap.size ∧ d.size < 1000000
def Rw (w0 : World) (blk off : Nat) (d : Array Int) (w : World) : Prop := ∃ n os, w = Go.Sort.grow (Go.Sort.putRow (Value.int .u8) (Go.Sort.ahead w0 n) blk off d) os
theorem Rw.start {w : World} {blk off : Nat} {d : Array Int} (h : RowAt w blk off d) : Rw w blk off d w := ⟨0, #[], by
  rw [Go.Sort.grow_empty, Go.Sort.ahead_zero, Go.Sort.putRow_self _ _ _ _ _ h.1]⟩
theorem Rw.row {w0 w : World} {blk off : Nat} {d0 d : Array Int} (h0 : RowAt w0 blk off d0) (h : Rw w0 blk off d w) (hs : d.size = d0.size) : RowAt w blk off d := by
  obtain ⟨n, os, rfl⟩ := h
  refine ⟨Go.Sort.holds_grow _ _ _ _ _ _ ?_ (Go.Sort.holds_putRow _ _ _ _ d0 d (Go.Sort.holds_ahead _ _ _ _ _ _ h0.1) hs), ?_, by rw [hs]; exact h0.2.2⟩
  · rw [Go.Sort.size_putRow]; exact h0.2.1
  · rw [Go.Sort.size_grow, Go.Sort.size_putRow]; have := h0.2.1; show blk < (Go.Sort.ahead w0 n).heap.size + os.size; rw [Go.Sort.heap_ahead]; omega
theorem RowAt.cell {w : World} {blk off : Nat} {d : Array Int} (h : RowAt w blk off d) {t : Nat} (ht : t < d.size) : w.cell? ⟨blk, off + t, none⟩ = some (.int .u8 d[t]!) := (h.1 t ht).1
theorem RowAt.frozen {w : World} {blk off : Nat} {d : Array Int} (h : RowAt w blk off d) {t : Nat} (ht : t < d.size) : w.frozen? ⟨blk, off + t, none⟩ = false := (h.1 t ht).2
theorem Rw.drewN {w0 w : World} {blk off : Nat} {d : Array Int} (h : Rw w0 blk off d w) (q : Nat) : Rw w0 blk off d (w.drewN q) := by
  obtain ⟨n, os, rfl⟩ := h
  refine ⟨n + q, os, ?_⟩
  show Go.Sort.ahead (Go.Sort.grow _ os) q = _
  rw [Go.Sort.ahead_grow, ← Go.Sort.putRow_ahead, Go.Sort.ahead_ahead]
theorem Rw.drew {w0 w : World} {blk off : Nat} {d : Array Int} (h : Rw w0 blk off d w) : Rw w0 blk off d w.drew := h.drewN 1
theorem Rw.alloc {w0 w : World} {blk off : Nat} {d : Array Int} (h : Rw w0 blk off d w) (o : Obj) : Rw w0 blk off d (w.alloc o) := by
  obtain ⟨n, os, rfl⟩ := h
  exact ⟨n, os ++ #[o], by rw [Go.Sort.alloc_eq_grow, Go.Sort.grow_grow]⟩
theorem Rw.swap {w0 w : World} {blk off : Nat} {d0 d : Array Int} (h0 : RowAt w0 blk off d0) (h : Rw w0 blk off d w) {i j : Nat} (hi : i < d.size) (hj : j < d.size) :
    Rw w0 blk off (Go.Sort.swp d i j) ((w.setCell ⟨blk, off + i, none⟩ (.int .u8 d[j]!)).setCell ⟨blk, off + j, none⟩ (.int .u8 d[i]!)) := by
  obtain ⟨n, os, rfl⟩ := h
  refine ⟨n, os, ?_⟩
  have hb : blk < (Go.Sort.putRow (Value.int .u8) (Go.Sort.ahead w0 n) blk off d).heap.size := by rw [Go.Sort.size_putRow]; exact h0.2.1
  rw [← Go.Sort.putRow_swp _ _ _ _ _ _ _ hi hj, Go.Sort.setCell_eq, Go.Sort.setCell_eq, Go.Sort.setCell_eq, Go.Sort.setCell_eq]
  rw [Go.Sort.mapBlock_grow _ _ _ _ hb, Go.Sort.mapBlock_grow _ _ _ _ (by unfold Go.Sort.mapBlock; simpa using hb)]
theorem Rw.setNew {w0 w : World} {blk off : Nat} {d : Array Int} (h : Rw w0 blk off d w) {p : Addr} (hp : w0.heap.size ≤ p.block) (hn : p.spot = none) (v : Value) : Rw w0 blk off d (w.setCell p v) := by
  obtain ⟨n, os, rfl⟩ := h
  obtain ⟨pb, po, pp⟩ := p
  simp only at hn hp
  subst hn
  refine ⟨n, os.modify (pb - (Go.Sort.putRow (Value.int .u8) (Go.Sort.ahead w0 n) blk off d).heap.size) (Go.Sort.onCells (·.setIfInBounds po v)), ?_⟩
  rw [Go.Sort.setCell_eq, Go.Sort.mapBlock_grow_new]
  rw [Go.Sort.size_putRow]; exact hp
theorem Rw.trans {w0 w w' : World} {blk off : Nat} {d0 d d' : Array Int} (h0 : RowAt w0 blk off d0) (h : Rw w0 blk off d w) (h' : Rw w blk off d' w') (hs : d'.size = d.size) : Rw w0 blk off d' w' := by
  obtain ⟨n, os, rfl⟩ := h
  obtain ⟨m, os', rfl⟩ := h'
  exact ⟨n + m, os ++ os', Go.Sort.grow_step_grow _ _ _ _ _ _ _ _ _ _ h0.2.1 hs⟩
theorem Rw.size {w0 w : World} {blk off : Nat} {d : Array Int} (h : Rw w0 blk off d w) : w0.heap.size ≤ w.heap.size := by
  obtain ⟨n, os, rfl⟩ := h
  rw [Go.Sort.size_grow, Go.Sort.size_putRow]; exact Nat.le_add_right _ _
#print axioms Rw.trans
end Go.Proofs.Ytbnlkmblkokooaa
