/- Contract of (values).result. -/
import Derived.Test.YtfplmdieeabgpaaNum
import Derived.Test.YtfplmdieeabgpaaPut
import Derived.Deep.DeepCutAuto
import Derived.Laws.Rows
namespace Go.Proofs.Ytfplmdieeabgpaa
open Go.RowKit
/-- the result of a match: what it gives the head's variables; of the first k, the rest naught -/
def rsT (v hd : List Int) (k : Nat) : List Int := (hd.take k).map (fun t => v.getD t.toNat 0) ++ List.replicate (hd.length - k) 0
theorem rsT_len {v hd : List Int} {k : Nat} (h : k ≤ hd.length) : (rsT v hd k).length = hd.length := by simp [rsT]; omega
theorem rsT_set {v hd : List Int} {k : Nat} (h : k < hd.length) : (rsT v hd k).set k (v.getD (hd.getD k 0).toNat 0) = rsT v hd (k + 1) := by
  have e : hd.getD k 0 = hd[k] := by rw [List.getD_eq_getElem?_getD, List.getElem?_eq_getElem h]; rfl
  have hl : ((hd.take k).map fun t => v.getD t.toNat 0).length = k := by simp; omega
  unfold rsT
  rw [List.set_append_right _ _ (by omega), hl, Nat.sub_self, show hd.length - k = (hd.length - (k + 1)) + 1 by omega, List.replicate_succ, List.set_cons_zero, List.take_succ_eq_append_getElem h, List.map_append, List.append_assoc, e]
  rfl
theorem rsT_all (v hd : List Int) : rsT v hd hd.length = hd.map fun t => v.getD t.toNat 0 := by simp [rsT]
theorem rsT_0 (v hd : List Int) : rsT v hd 0 = List.replicate hd.length 0 := by simp [rsT]
set_option maxRecDepth 100000 in
set_option maxHeartbeats 8000000 in
theorem result_any (v : List Int) (hv8 : v.length = 8) (hd : List Int) (hl : hd.length ≤ 1000) (hh : ∀ k, k < hd.length → 0 ≤ hd.getD k 0 ∧ hd.getD k 0 < 8) (u : Value) (w : World) (hu : Ints w u hd) :
    Calls Try.prog 66 #[.agg (vrow v), u] w fun e w' => ∃ y, e = .returned y ∧ OwnInts w.heap.size w' y (hd.map fun t => v.getD t.toNat 0) ∧ Below w.heap.size w w' := by
  obtain ⟨a, b, off, cap, rfl, hle, ha, hc⟩ := Ints.get hu
  have Hix := Lib.hid (run_ix (P := Try.prog) (t := 22) (a := a) (len := hd.length) (cap := cap) (b := b) (off := off) (s := 1) Try.underlying22 (by intro w; kernel_rfl) ha)
  simp only [Nat.mul_one] at Hix
  have Hc := Lib.hid (show ∀ i, i < hd.length → w.cell? ⟨b, off + i, none⟩ = some (.int .i64 (hd.getD i 0)) from fun i h => by
    rw [List.getD_eq_getElem?_getD, List.getElem?_eq_getElem h]; exact hc i h)
  have Hh := Lib.hid hh
  obtain ⟨A, hA⟩ : ∃ A, A = vrow v := ⟨_, rfl⟩
  have Hat := Lib.hid (show ∀ i, i < 8 → A[i]? = some (.int .i64 (v.getD i 0)) from fun i hi => by rw [hA]; exact vrow_at (by omega))
  rw [← hA]
  obtain ⟨w1, hw1⟩ : ∃ w1, w1 = w.alloc (.cells A 95) := ⟨_, rfl⟩
  have Hb1 := Lib.hid (show Below w.heap.size w w1 from by rw [hw1]; exact below_alloc _ _)
  have Hg1 := Lib.hid (show w1.heap[w.heap.size]? = some (.cells A 95 (0, 0)) from by rw [hw1]; exact heap_alloc_new w _)
  have Hw1 := Lib.hid hw1
  obtain ⟨i0, hi0, hz0, hz01, hby0⟩ := info_parts infoInt
  have Hi := Lib.hid hi0
  have Hz := Lib.hid hz0
  have Hzz := Lib.hid hz01
  have Hby := Lib.hid (show i0.bytes * hd.length ≤ 281474976710656 by rw [hby0]; omega)
  obtain ⟨ob, hob⟩ : ∃ ob, ob = w.heap.size := ⟨_, rfl⟩
  rw [← hob] at Hg1
  have Hob := Lib.hid hob
  clear hu ha hc hh hw1 hA hv8 hi0 hz0 hz01 hby0 hob
  go_enter Try.func66, Try.ntmps66
  go_upto_region 1 with fail
  rw [← Hw1.out, ← Hob.out]
  clear Hw1
  go_wp2_with (refine wpList_make_full _ rfl (.tmp 9) (.tmp 9) 22 rfl w1.heap.size 3 i0 (.int .i64 0) 1 Try.underlying22 Hi.out Hz.out Hzz.out .i64 .i64 _ _ hd.length rfl rfl rfl rfl Hby.out (by unfold maxLen; omega) (Nat.le_refl _) ?_; intro w3 hown hgr)
  have hb3 : Below w1.heap.size w1 w3 := ⟨hgr.os, hgr.tape, hgr.output, hgr.size, fun k hk => hgr.block k hk (by simp)⟩
  have Hb3 := Lib.hid (Below.tr Hb1.out hb3)
  have HG3 := Lib.hid ((hb3.block _ (Array.getElem?_eq_some_iff.1 Hg1.out).1).trans Hg1.out)
  have HO3 := Lib.hid (show w3.ownsRow w1.heap.size 3 1 (.slice (some ⟨w1.heap.size, 0, none⟩) hd.length hd.length) hd.length ((rsT v hd 0).map (Value.int .i64)) from by
    have e : (madeCells (Value.int IntKind.i64 0).cells (hd.length * 1)).toList = (rsT v hd 0).map (Value.int .i64) := by
      rw [Nat.mul_one, rsT_0, List.map_replicate]
      exact toList_madeCells_one _ _
    rw [e] at hown; exact hown)
  have Hg := Lib.hid (show ob < w1.heap.size from (Array.getElem?_eq_some_iff.1 Hg1.out).1)
  have Hgw := Lib.hid (show w.heap.size ≤ w1.heap.size from Hb1.out.size)
  have Hixg := Lib.hid (run_ix (P := Try.prog) (t := 22) (a := some ⟨w1.heap.size, 0, none⟩) (len := hd.length) (cap := hd.length) (b := w1.heap.size) (off := 0) (s := 1) Try.underlying22 (by intro w; kernel_rfl) (fun _ => rfl))
  simp only [Nat.zero_add, Nat.mul_one] at Hixg
  clear hown hgr hb3 Hi Hz Hzz Hby
  go_wp2_with fail
  obtain ⟨g, hg'⟩ : ∃ g, g = w1.heap.size := ⟨_, rfl⟩
  rw [← hg'] at HO3 Hg Hixg Hgw ⊢
  clear hg'
  go_loopw [13] (fun vi wx => ∃ k : Nat, vi = .int .i64 k ∧ k ≤ hd.length ∧ Below w.heap.size w wx ∧ wx.heap[ob]? = some (.cells A 95 (0, 0)) ∧ wx.ownsRow g 3 1 (.slice (some ⟨g, 0, none⟩) hd.length hd.length) hd.length ((rsT v hd k).map (Value.int .i64))) (fun vi _ => hd.length - (intOf vi).toNat)
  case atStart => exact ⟨0, rfl, Nat.zero_le _, Hb3.out, HG3.out, HO3.out⟩
  case round =>
    clear Hb3 HO3 HG3
    obtain ⟨k, rfl, hk, hb, hg, ho⟩ := hrel
    have Hb := Lib.hid hb
    have HG := Lib.hid hg
    have HO := Lib.hid ho
    clear hb hg ho
    by_cases hlt : k < hd.length
    · have hc1 := Below.keep Hb.out (Hc.out k hlt)
      have hixk := Hix.out k
      have hixg := Hixg.out k
      have HS := Lib.hid (rsT_set (v := v) hlt)
      have hv := Hh.out k hlt
      obtain ⟨t, ht⟩ : ∃ t, t = hd.getD k 0 := ⟨_, rfl⟩
      rw [← ht] at hc1 HS hv
      clear ht
      obtain ⟨n, rfl⟩ : ∃ n : Nat, t = n := ⟨t.toNat, by omega⟩
      rw [Int.toNat_natCast] at HS
      have hn0 : (0 : Int) ≤ (n : Int) := by omega
      have hn8 : (n : Int) < 8 := by omega
      have hcn : wr.cell? ⟨ob, n, none⟩ = some (.int .i64 (v.getD n 0)) := by rw [cell_of_row wr ob n _ _ _ HG.out]; exact Hat.out n (by omega)
      obtain ⟨Z, hZ⟩ : ∃ Z, Z = v.getD n 0 := ⟨_, rfl⟩
      rw [← hZ] at HS hcn
      clear hZ
      have hfz := World.ownsRow.frozenAt HO.out k
      have hcell := World.ownsRow.cellAt HO.out k (by omega)
      rw [List.getElem?_eq_getElem (by rw [List.length_map, rsT_len hk]; exact hlt)] at hcell
      obtain ⟨c0, hc0⟩ : ∃ c0, c0 = ((rsT v hd k).map (Value.int .i64))[k]'(by rw [List.length_map, rsT_len hk]; exact hlt) := ⟨_, rfl⟩
      rw [← hc0] at hcell
      clear hc0
      have HOn := Lib.hid (show (wr.setCell ⟨g, k, none⟩ (.int .i64 Z)).ownsRow g 3 1 (.slice (some ⟨g, 0, none⟩) hd.length hd.length) hd.length ((rsT v hd (k + 1)).map (Value.int .i64)) from by
        have := (World.ownsRow.stored HO.out k (.int .i64 Z)).1
        rw [← List.map_set (f := Value.int .i64) (a := (Z : Int)), HS.out] at this
        exact this)
      have HBn := Lib.hid (show Below w.heap.size w (wr.setCell ⟨g, k, none⟩ (.int .i64 Z)) from Hb.out.setCell Hgw.out _)
      have HGn := Lib.hid ((heap_setCell_other wr ⟨g, k, none⟩ ob (.int .i64 Z) (by have := Hg.out; show ob ≠ g; omega)).trans HG.out)
      clear HO Hb HG
      go_wp2_with fail
      go_roundw
      case rel => exact ⟨k + 1, by go_num, by omega, HBn.out, HGn.out, HOn.out⟩
      case measure => simp [intOf]; omega
    · obtain rfl : k = hd.length := by omega
      have HR := Lib.hid (show OwnInts w.heap.size wr (.slice (some ⟨g, 0, none⟩) hd.length hd.length) (hd.map fun t => v.getD t.toNat 0) from by
        have := HO.out
        rw [rsT_all] at this
        refine OwnInts.base (base := g) ?_ Hgw.out
        unfold OwnInts
        rw [List.length_map]; exact this)
      go_wp2_with fail
      go_ret
      exact ⟨_, rfl, HR.out, Hb.out⟩
#print axioms result_any
end Go.Proofs.Ytfplmdieeabgpaa
