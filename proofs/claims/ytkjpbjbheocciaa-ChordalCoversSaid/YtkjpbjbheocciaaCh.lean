/- Contract of upTo. -/
import Derived.Test.YtkjpbjbheocciaaCg
import Derived.OwnWalk
namespace Go.Proofs.Ytkjpbjbheocciaa
open Go.RowKit

def upRow (n j : Nat) : List Int := (List.range n).map fun i => if i < j then (i : Int) else 0
theorem upRow_length (n j : Nat) : (upRow n j).length = n := by simp [upRow]
theorem upRow_zero (n : Nat) : upRow n 0 = List.replicate n 0 := by
  apply List.ext_getElem (by simp [upRow])
  intro i h1 h2
  simp [upRow]
theorem upRow_full (n : Nat) : upRow n n = rangeN n := by
  apply List.ext_getElem (by simp [upRow, rangeN])
  intro i h1 h2
  simp only [upRow_length] at h1
  simp [upRow, rangeN, h1]
theorem upRow_set (n j : Nat) : (upRow n j).set j (j : Int) = upRow n (j + 1) := by
  apply List.ext_getElem (by simp [upRow])
  intro i h1 h2
  simp only [List.length_set, upRow_length] at h1
  rw [List.getElem_set]
  by_cases e : j = i
  · subst e; simp [upRow]
  · rw [if_neg e]
    simp only [upRow, List.getElem_map, List.getElem_range]
    by_cases e2 : i < j
    · rw [if_pos e2, if_pos (by omega)]
    · rw [if_neg e2, if_neg (by omega)]
def UpRow (w : World) (base blk n j : Nat) : Prop := w.ownsRow base 3 1 (.slice (some ⟨blk, 0, none⟩) n n) n ((upRow n j).map (Value.int .i64))
set_option maxRecDepth 100000 in
set_option maxHeartbeats 4000000 in
theorem upTo_any (n : Nat) (hn : n ≤ 12) (w : World) :
    Calls Try.prog 111 #[.int .i64 n] w fun e w' => ∃ v', e = .returned v' ∧ Ints w' v' (rangeN n) ∧ Below w.heap.size w w' := by
  obtain ⟨i0, hi, hz⟩ : ∃ i0, Try.prog.info? 3 = some i0 ∧ (i0.zero, i0.size, i0.bytes) = (some (.int .i64 0), 1, 8) := by
    have := infoInt
    cases h : Try.prog.info? 3 with
    | none => rw [h] at this; cases this
    | some i0 => rw [h] at this; exact ⟨i0, rfl, by simpa using this⟩
  simp only [Prod.mk.injEq] at hz
  have Hi := Lib.hid hi
  have Hz0 := Lib.hid hz.1
  have Hz1 := Lib.hid hz.2.1
  have Hby := Lib.hid (show i0.bytes * n ≤ 281474976710656 by rw [hz.2.2]; omega)
  clear hi hz
  go_enter Try.func111, Try.ntmps111
  go_wp2_with (refine wpList_make_full _ rfl (.tmp 5) (.tmp 5) 22 rfl w.heap.size 3 i0 (.int .i64 0) 1 Try.underlying22 Hi.out Hz0.out Hz1.out .i64 .i64 _ _ n rfl rfl rfl rfl Hby.out (by unfold maxLen; omega) (Nat.le_refl _) ?_; intro w3 hown hg)
  have hrow : UpRow w3 w.heap.size w.heap.size n 0 := by
    have e : (madeCells (Value.int IntKind.i64 0).cells (n * 1)).toList = (upRow n 0).map (Value.int .i64) := by
      rw [Nat.mul_one, upRow_zero]
      show (madeCells #[Value.int .i64 0] n).toList = _
      rw [toList_madeCells_one, List.map_replicate]
    rw [e] at hown
    exact hown
  have Hrow := Lib.hid hrow
  have Hb3 := Lib.hid (show Below w.heap.size w w3 from ⟨hg.os, hg.tape, hg.output, hg.size, fun k hk => hg.block k hk (by simp)⟩)
  have hix' := run_ix (P := Try.prog) (t := 22) (a := some ⟨w.heap.size, 0, none⟩) (len := n) (cap := n) (b := w.heap.size) (off := 0) (s := 1) Try.underlying22 (by intro w; kernel_rfl) (fun _ => rfl)
  simp only [Nat.mul_one, Nat.zero_add] at hix'
  have Hix' := Lib.hid hix'
  clear hown hg hrow hix'
  go_wp2_with fail
  go_loopw [9] (fun i wr => ∃ j : Nat, i = .int .i64 j ∧ j ≤ n ∧ Below w.heap.size w wr ∧ UpRow wr w.heap.size w.heap.size n j) (fun i _ => n - (intOf i).toNat)
  case atStart => exact ⟨0, rfl, Nat.zero_le _, Hb3.out, Hrow.out⟩
  case round =>
    obtain ⟨j, rfl, hj, hb', hown'⟩ := hrel
    have Hb' := Lib.hid hb'
    have Hown' := Lib.hid hown'
    clear hb' hown'
    by_cases hltj : j < n
    · have hixj := Hix'.out j
      have hfz := World.ownsRow.frozenAt Hown'.out j
      have hcell := World.ownsRow.cellAt Hown'.out j (by omega)
      rw [List.getElem?_map, List.getElem?_eq_getElem (by rw [upRow_length]; exact hltj), Option.map_some] at hcell
      have hst := (World.ownsRow.stored Hown'.out j (.int .i64 (j : Nat)))
      have HR := Lib.hid (show UpRow (wr.setCell ⟨w.heap.size, j, none⟩ (.int .i64 (j : Nat))) w.heap.size w.heap.size n (j + 1) by unfold UpRow; rw [← upRow_set, List.map_set]; exact hst.1)
      clear hst
      go_wp2_with fail
      go_roundw
      case rel => exact ⟨j + 1, by go_num, by omega, Hb'.out.setCell (Nat.le_refl _) _, HR.out⟩
      case measure => simp [intOf]; omega
    · obtain rfl : j = n := by omega
      have ho := Hown'.out
      unfold UpRow at ho
      rw [upRow_full] at ho
      have hI : OwnInts w.heap.size wr (.slice (some ⟨w.heap.size, 0, none⟩) j j) (rangeN j) := by unfold OwnInts; rw [rangeN_length]; exact ho
      have HI := Lib.hid (OwnInts.ints hI)
      clear ho hI
      go_wp2_with fail
      go_ret
      exact ⟨_, rfl, HI.out, Hb'.out⟩
#print axioms upTo_any
end Go.Proofs.Ytkjpbjbheocciaa
