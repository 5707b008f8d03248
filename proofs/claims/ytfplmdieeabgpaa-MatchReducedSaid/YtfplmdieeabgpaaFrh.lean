/- Contract of Freeze. -/
import Derived.Test.YtfplmdieeabgpaaFrz
namespace Go.Proofs.Ytfplmdieeabgpaa
open Go.RowKit
def hdT (l : List Int) (k : Nat) : List Int := (List.range l.length).map fun i => if i < k then 10 + l.getD i 0 else 0
theorem hdT_len (l : List Int) (k : Nat) : (hdT l k).length = l.length := by simp [hdT]
theorem hdT_set {l : List Int} {k : Nat} : (hdT l k).set k (10 + l.getD k 0) = hdT l (k + 1) := by
  refine List.ext_getElem (by simp [hdT]) fun i h1 h2 => ?_
  rw [List.getElem_set]
  by_cases e : k = i
  · subst e; simp [hdT]
  · rw [if_neg e]
    simp only [hdT, List.getElem_map, List.getElem_range]
    by_cases c : i < k
    · rw [if_pos c, if_pos (by omega)]
    · rw [if_neg c, if_neg (by omega)]
theorem hdT_all (l : List Int) : hdT l l.length = l.map (10 + ·) := by
  refine List.ext_getElem (by simp [hdT]) fun i h1 h2 => ?_
  rw [List.length_map] at h2
  simp [hdT, h2]
theorem hdT_0 (l : List Int) : (hdT l 0).map (Value.int .i64) = List.replicate l.length (.int .i64 0) := by
  refine List.ext_getElem (by simp [hdT]) fun i h1 h2 => ?_
  simp [hdT]
theorem qv_args {q : HQ} (h : QrV q) : ∀ i, i < q.2.length → (aA q.2 i).length ≤ 1000 ∧ ∀ j, j < (aA q.2 i).length → -9 ≤ (aA q.2 i).getD j 0 ∧ (aA q.2 i).getD j 0 ≤ 7 := fun i hi => by
  have := h.2.1 i hi
  refine ⟨by have := this.2.1; omega, fun j hj => this.2.2 _ ?_⟩
  rw [List.getD_eq_getElem?_getD, List.getElem?_eq_getElem hj]; exact List.getElem_mem hj
set_option maxRecDepth 100000 in
set_option maxHeartbeats 8000000 in
theorem freezeE_bad {q : HQ} (hn : ¬ QrV q) (v : Value) (w : World) (hq : Qr w v q) :
    Calls Try.prog 34 #[v] w fun e w' => e = .returned (.tuple #[.slice none 0 0, .slice none 0 0, .int .i64 2]) ∧ Below w.heap.size w w' := by
  obtain ⟨h0, b0, rfl, hh, hb⟩ := hq
  obtain ⟨w1, hw1⟩ : ∃ w1, w1 = w.alloc (.cells #[h0, b0] 33) := ⟨_, rfl⟩
  have hb1 : Below w.heap.size w w1 := by rw [hw1]; exact below_alloc _ _
  have g0 : w1.cell? ⟨w.heap.size, 0, none⟩ = some h0 := by rw [hw1]; exact cell_new w _ _ 0
  have g1 : w1.cell? ⟨w.heap.size, 1, none⟩ = some b0 := by rw [hw1]; exact cell_new w _ _ 1
  have HV := Lib.hid (qryValid_any q (.agg #[h0, b0]) w1 ⟨h0, b0, rfl, hh.keep hb1, hb.keep hb1⟩ false (decide_eq_false hn))
  obtain ⟨ha, hc, rfl⟩ := ints_slice hh
  obtain ⟨ba, bc, rfl⟩ := atoms_slice hb
  have Hb1 := Lib.hid hb1
  have Hw1 := Lib.hid hw1
  clear hh hb hb1 hw1 hn
  go_enter Try.func34, Try.ntmps34
  go_upto_region 1 with fail
  rw [← Hw1.out]
  clear Hw1
  go_wp2_with fail
  refine HV.out.mono ?_
  rintro e w2 ⟨rfl, hb2⟩
  have Hb2 := Lib.hid (Below.tr Hb1.out hb2)
  clear hb2 g0 g1
  go_wp2_with fail
  go_ret3
  exact ⟨rfl, Hb2.out⟩
set_option maxRecDepth 100000 in
set_option maxHeartbeats 16000000 in
theorem freezeE_any {q : HQ} (hn : QrV q) (v : Value) (w : World) (hq : Qr w v q) :
    Calls Try.prog 34 #[v] w fun e w' => ∃ u x, e = .returned (.tuple #[u, x, .int .i64 0]) ∧ OwnAtoms 77 w.heap.size w' u (q.2.map frA) ∧ OwnInts w.heap.size w' x (q.1.map (10 + ·)) ∧ Below w.heap.size w w' := by
  obtain ⟨h0, b0, rfl, hh, hb⟩ := hq
  obtain ⟨w1, hw1⟩ : ∃ w1, w1 = w.alloc (.cells #[h0, b0] 33) := ⟨_, rfl⟩
  have hb1 : Below w.heap.size w w1 := by rw [hw1]; exact below_alloc _ _
  have g0 : w1.cell? ⟨w.heap.size, 0, none⟩ = some h0 := by rw [hw1]; exact cell_new w _ _ 0
  have g1 : w1.cell? ⟨w.heap.size, 1, none⟩ = some b0 := by rw [hw1]; exact cell_new w _ _ 1
  have HV := Lib.hid (qryValid_any q (.agg #[h0, b0]) w1 ⟨h0, b0, rfl, hh.keep hb1, hb.keep hb1⟩ true (decide_eq_true hn))
  have HFr := Lib.hid (fun w' (hb' : Below w.heap.size w w') => freeze_any q (by have := hn.1.2.1; omega) (qv_args hn) (.agg #[h0, b0]) w' ⟨h0, b0, rfl, hh.keep hb', hb.keep hb'⟩)
  have Hv := Lib.hid (show ∀ k, k < q.1.length → 0 ≤ q.1.getD k 0 ∧ q.1.getD k 0 < 8 from fun k hk => (hn.2.2 _ (by rw [List.getD_eq_getElem?_getD, List.getElem?_eq_getElem hk]; exact List.getElem_mem hk)).1)
  have hl4 := hn.1.2.2
  obtain ⟨a, b, off, cap, rfl, hle, ha, hc⟩ := Ints.get hh
  obtain ⟨ba, bc, rfl⟩ := atoms_slice hb
  have Hix := Lib.hid (run_ix (P := Try.prog) (t := 22) (a := a) (len := q.1.length) (cap := cap) (b := b) (off := off) (s := 1) Try.underlying22 (by intro w; kernel_rfl) ha)
  simp only [Nat.mul_one] at Hix
  have Hc := Lib.hid hc
  obtain ⟨hd, bd⟩ := q
  simp only at *
  have Hb1 := Lib.hid hb1
  have Hw1 := Lib.hid hw1
  have HG := Lib.hid (And.intro g0 g1)
  obtain ⟨ob, hob⟩ : ∃ ob, ob = w.heap.size := ⟨_, rfl⟩
  have Hob := Lib.hid hob
  rw [← hob] at g0 g1 HG
  clear hh hb hb1 hw1 hn ha hc
  obtain ⟨i0, hi0, hz0, hz01, hby0⟩ := info_parts infoInt
  have Hi := Lib.hid hi0
  have Hz := Lib.hid hz0
  have Hzz := Lib.hid hz01
  have Hby := Lib.hid (show i0.bytes * hd.length ≤ 281474976710656 by rw [hby0]; omega)
  clear hi0 hz0 hz01 hby0
  go_enter Try.func34, Try.ntmps34
  go_upto_region 1 with fail
  rw [← Hw1.out, ← hob]
  clear Hw1 hob
  go_wp2_with fail
  refine HV.out.mono ?_
  rintro e w2 ⟨rfl, hb2⟩
  have g0' := Below.keep hb2 HG.out.1
  have HG2 := Lib.hid (And.intro (Below.keep hb2 HG.out.1) (Below.keep hb2 HG.out.2))
  have Hb2 := Lib.hid (Below.tr Hb1.out hb2)
  clear hb2 g0 g1
  go_wp2_with (first | (refine wpList_make_full _ rfl (.tmp 13) (.tmp 13) 22 rfl w2.heap.size 3 i0 (.int .i64 0) 1 Try.underlying22 Hi.out Hz.out Hzz.out .i64 .i64 _ _ hd.length rfl rfl rfl rfl Hby.out (by unfold maxLen; omega) (Nat.le_refl _) ?_; intro w3 hown hgr; have hg3 := Below.keep (show Below w2.heap.size w2 w3 from ⟨hgr.os, hgr.tape, hgr.output, hgr.size, fun k hk => hgr.block k hk (by simp)⟩) g0'))
  have hb3 : Below w2.heap.size w2 w3 := ⟨hgr.os, hgr.tape, hgr.output, hgr.size, fun k hk => hgr.block k hk (by simp)⟩
  have Hb3 := Lib.hid (Below.tr Hb2.out hb3)
  have HG3 := Lib.hid (And.intro (Below.keep hb3 HG2.out.1) (Below.keep hb3 HG2.out.2))
  have HO3 := Lib.hid (show w3.ownsRow w2.heap.size 3 1 (.slice (some ⟨w2.heap.size, 0, none⟩) hd.length hd.length) hd.length ((hdT hd 0).map (Value.int .i64)) from by
    have e : (madeCells (Value.int IntKind.i64 0).cells (hd.length * 1)).toList = (hdT hd 0).map (Value.int .i64) := by
      rw [Nat.mul_one, hdT_0]
      exact toList_madeCells_one _ _
    rw [e] at hown; exact hown)
  have Hg := Lib.hid (show ob < w2.heap.size from cell_lt HG2.out.1)
  have Hgw := Lib.hid (show w.heap.size ≤ w2.heap.size from Hb2.out.size)
  have Hixg := Lib.hid (run_ix (P := Try.prog) (t := 22) (a := some ⟨w2.heap.size, 0, none⟩) (len := hd.length) (cap := hd.length) (b := w2.heap.size) (off := 0) (s := 1) Try.underlying22 (by intro w; kernel_rfl) (fun _ => rfl))
  simp only [Nat.zero_add, Nat.mul_one] at Hixg
  obtain ⟨g, hg'⟩ : ∃ g, g = w2.heap.size := ⟨_, rfl⟩
  rw [← hg'] at HO3 Hg Hixg Hgw ⊢
  clear hg' hown hgr hb3 hg3 g0' Hi Hz Hzz Hby HG2
  go_loopw [18] (fun vi wx => ∃ k : Nat, vi = .int .i64 k ∧ k ≤ hd.length ∧ Below w.heap.size w wx ∧ (wx.cell? ⟨ob, 0, none⟩ = some (.slice a hd.length cap) ∧ wx.cell? ⟨ob, 1, none⟩ = some (.slice ba bd.length bc)) ∧ wx.ownsRow g 3 1 (.slice (some ⟨g, 0, none⟩) hd.length hd.length) hd.length ((hdT hd k).map (Value.int .i64))) (fun vi _ => hd.length - (intOf vi).toNat)
  case atStart => exact ⟨0, rfl, Nat.zero_le _, Hb3.out, HG3.out, HO3.out⟩
  case round =>
    clear Hb3 HO3 HG3
    obtain ⟨k, rfl, hk, hb, hg, ho⟩ := hrel
    have Hb := Lib.hid hb
    have HG3 := Lib.hid hg
    have HO := Lib.hid ho
    clear hb hg ho
    by_cases hlt : k < hd.length
    · have hc1 := Below.keep Hb.out (Hc.out k hlt)
      have hixk := Hix.out k
      have hixg := Hixg.out k
      have e : hd.getD k 0 = hd[k] := by rw [List.getD_eq_getElem?_getD, List.getElem?_eq_getElem hlt]; rfl
      rw [← e] at hc1
      have HS := Lib.hid (hdT_set (l := hd) (k := k))
      have hv := Hv.out k hlt
      obtain ⟨t, ht⟩ : ∃ t, t = hd.getD k 0 := ⟨_, rfl⟩
      rw [← ht] at hc1 HS hv
      clear ht e
      have hadd : IntKind.i64.wrap (10 + t) = 10 + t := IntWalk.i64_in _ ⟨by omega, by omega⟩
      have hfz := World.ownsRow.frozenAt HO.out k
      have hcell := World.ownsRow.cellAt HO.out k (by omega)
      rw [List.getElem?_eq_getElem (by rw [List.length_map, hdT_len]; exact hlt)] at hcell
      obtain ⟨c0, hc0⟩ : ∃ c0, c0 = ((hdT hd k).map (Value.int .i64))[k]'(by rw [List.length_map, hdT_len]; exact hlt) := ⟨_, rfl⟩
      rw [← hc0] at hcell
      clear hc0
      have HOn := Lib.hid (show (wr.setCell ⟨g, k, none⟩ (.int .i64 (10 + t))).ownsRow g 3 1 (.slice (some ⟨g, 0, none⟩) hd.length hd.length) hd.length ((hdT hd (k + 1)).map (Value.int .i64)) from by
        have := (World.ownsRow.stored HO.out k (.int .i64 (10 + t))).1
        rw [← List.map_set (f := Value.int .i64) (a := (10 + t : Int)), HS.out] at this
        exact this)
      have HBn := Lib.hid (show Below w.heap.size w (wr.setCell ⟨g, k, none⟩ (.int .i64 (10 + t))) from Hb.out.setCell Hgw.out _)
      have HGn := Lib.hid (show (wr.setCell ⟨g, k, none⟩ (.int .i64 (10 + t))).cell? ⟨ob, 0, none⟩ = some (.slice a hd.length cap) ∧ (wr.setCell ⟨g, k, none⟩ (.int .i64 (10 + t))).cell? ⟨ob, 1, none⟩ = some (.slice ba bd.length bc) from
        ⟨(World.cell?_of_block (heap_setCell_other wr ⟨g, k, none⟩ ob _ (by have := Hg.out; simp; omega))).trans HG3.out.1, (World.cell?_of_block (heap_setCell_other wr ⟨g, k, none⟩ ob _ (by have := Hg.out; simp; omega))).trans HG3.out.2⟩)
      clear HO Hb HG3
      go_wp2_with fail
      go_roundw
      case rel => exact ⟨k + 1, by go_num, by omega, HBn.out, HGn.out, HOn.out⟩
      case measure => simp [intOf]; omega
    · obtain rfl : k = hd.length := by omega
      have g0 := HG3.out.1
      have g1 := HG3.out.2
      have HFz := Lib.hid (HFr.out wr Hb.out)
      have HR := Lib.hid (show OwnInts w.heap.size wr (.slice (some ⟨g, 0, none⟩) hd.length hd.length) (hd.map (10 + ·)) from by
        have := HO.out
        rw [hdT_all] at this
        refine OwnInts.base (base := g) ?_ Hgw.out
        unfold OwnInts
        rw [List.length_map]; exact this)
      have Hbs := Lib.hid Hb.out.size
      go_wp2_with fail
      refine HFz.out.mono ?_
      rintro e w6 ⟨u, rfl, ho6, hb6⟩
      obtain ⟨ua, uc, hu6⟩ := Atoms.own ho6
      rw [List.length_map] at hu6
      subst hu6
      have HO6 := Lib.hid (OwnAtoms.base ho6 Hbs.out)
      have HR6 := Lib.hid (HR.out.keep hb6)
      have Hb6 := Lib.hid (Below.tr Hb.out hb6)
      clear ho6 hb6 g0 g1
      go_wp2_with fail
      go_ret3
      exact ⟨_, _, rfl, HO6.out, HR6.out, Hb6.out⟩
#print axioms freezeE_any
end Go.Proofs.Ytfplmdieeabgpaa
