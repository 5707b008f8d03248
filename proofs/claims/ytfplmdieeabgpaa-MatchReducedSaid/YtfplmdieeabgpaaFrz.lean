/- Contracts of freeze and Freeze. -/
import Derived.Test.YtfplmdieeabgpaaFac
import Derived.Test.YtfplmdieeabgpaaPut
import Derived.Test.YtfplmdieeabgpaaQx
namespace Go.Proofs.Ytfplmdieeabgpaa
open Go.RowKit
/-- the numbers of the variables where the first k have one -/
def fzT (k : Nat) : List Int := (List.range 8).map fun i => if i < k then 10 + (i : Int) else 0
def fz : List Int := [10, 11, 12, 13, 14, 15, 16, 17]
theorem fzT_len (k : Nat) : (fzT k).length = 8 := by simp [fzT]
theorem fzT_0 : fzT 0 = [0, 0, 0, 0, 0, 0, 0, 0] := by decide
theorem fzT_8 : fzT 8 = fz := by decide
theorem fzT_set {k : Nat} (hk : k < 8) : (vrow (fzT k)).setIfInBounds k (.int .i64 (10 + (k : Int))) = vrow (fzT (k + 1)) := by
  rcases k with _ | _ | _ | _ | _ | _ | _ | _ | k
  all_goals first | rfl | omega
/-- an atom frozen -/
def frA (a : HAt) : HAt := (a.1, a.2.map (numOf fz))
def frT (l : List HAt) (k : Nat) : List HAt := (List.range l.length).map fun i => if i < k then frA (aR l i, aA l i) else (0, [])
theorem frT_len (l : List HAt) (k : Nat) : (frT l k).length = l.length := by simp [frT]
theorem frT_0 (l : List HAt) : frT l 0 = List.replicate l.length (0, []) := by
  unfold frT
  refine List.ext_getElem (by simp) fun i h1 h2 => ?_
  simp
theorem frT_set {l : List HAt} {k : Nat} : (frT l k).set k (frA (aR l k, aA l k)) = frT l (k + 1) := by
  refine List.ext_getElem (by simp [frT]) fun i h1 h2 => ?_
  rw [List.getElem_set]
  by_cases e : k = i
  · subst e; simp [frT]
  · rw [if_neg e]
    simp only [frT, List.getElem_map, List.getElem_range]
    by_cases c : i < k
    · rw [if_pos c, if_pos (by omega)]
    · rw [if_neg c, if_neg (by omega)]
theorem frT_all (l : List HAt) : frT l l.length = l.map frA := by
  refine List.ext_getElem (by simp [frT]) fun i h1 h2 => ?_
  simp only [frT, List.getElem_map, List.getElem_range]
  rw [List.length_map] at h2
  rw [if_pos h2, at_get h2]
theorem infoFact : (Try.prog.info? 77).map (fun i => (i.zero, i.size, i.bytes)) = some (some (.agg #[.int .i64 0, .slice none 0 0]), 2, 32) := by kernel_rfl
theorem elemFacts : Elem Try.prog 26 77 2 32 := elem_of Try.underlying26 infoFact rfl (by omega) (by omega)
theorem factNotInt : 77 ≠ 3 := by decide
/-- the block of the numbers -/
def VB (w : World) (b : Nat) (v : List Int) : Prop := w.heap[b]? = some (.cells (vrow v) 95 (0, 0))
theorem VB.at {w : World} {b : Nat} {v : List Int} (h : VB w b v) {i : Nat} (hi : i < v.length) : w.cell? ⟨b, i, none⟩ = some (.int .i64 (v.getD i 0)) := by
  rw [cell_of_row w b i _ _ _ h, vrow_at hi]
theorem VB.fz {w : World} {b : Nat} {v : List Int} (h : VB w b v) (i : Nat) : w.frozen? ⟨b, i, none⟩ = false := frozen_of_row w b i _ _ h
theorem OwnAtoms.base {e : TypeId} {base base' : Nat} {w : World} {v : Value} {l : List HAt} (h : OwnAtoms e base w v l) (hb : base' ≤ base) : OwnAtoms e base' w v l := by
  obtain ⟨vs, h1, h2, h3⟩ := h
  exact ⟨vs, h1, owns_base h2 hb, fun i hi => OwnInts.base (h3 i hi) hb⟩
set_option maxRecDepth 100000 in
set_option maxHeartbeats 16000000 in
theorem freeze_any (q : HQ) (hl : q.2.length ≤ 1000) (hk : ∀ i, i < q.2.length → (aA q.2 i).length ≤ 1000 ∧ ∀ j, j < (aA q.2 i).length → -9 ≤ (aA q.2 i).getD j 0 ∧ (aA q.2 i).getD j 0 ≤ 7) (v : Value) (w : World) (hq : Qr w v q) :
    Calls Try.prog 84 #[v] w fun e w' => ∃ u, e = .returned u ∧ OwnAtoms 77 w.heap.size w' u (q.2.map frA) ∧ Below w.heap.size w w' := by
  obtain ⟨hd, bd⟩ := q
  obtain ⟨h0, b0, rfl, hh, hb⟩ := hq
  simp only at hl hk hh hb ⊢
  obtain ⟨a, b, off, cap, vs, rfl, hle, ha, hcap, hc⟩ := Atoms.get hb
  have Hix := Lib.hid (run_ix (P := Try.prog) (t := 31) (a := a) (len := bd.length) (cap := cap) (b := b) (off := off) (s := 2) Try.underlying31 (by intro w; kernel_rfl) ha)
  have Hc := Lib.hid hc
  have Hk := Lib.hid hk
  obtain ⟨w1, hw1⟩ : ∃ w1, w1 = w.alloc (.cells #[h0, .slice a bd.length cap] 33) := ⟨_, rfl⟩
  have hz1 : w1.heap.size = w.heap.size + 1 := by rw [hw1]; simp
  obtain ⟨w2, hw2⟩ : ∃ w2, w2 = w1.alloc (.cells #[.int .i64 0, .int .i64 0, .int .i64 0, .int .i64 0, .int .i64 0, .int .i64 0, .int .i64 0, .int .i64 0] 95) := ⟨_, rfl⟩
  have hz2 : w2.heap.size = w.heap.size + 2 := by rw [hw2]; simp [hz1]
  have b1 : Below w.heap.size w w1 := by rw [hw1]; exact below_alloc _ _
  have b2 : Below w1.heap.size w1 w2 := by rw [hw2]; exact below_alloc _ _
  have g1 : w1.cell? ⟨w.heap.size, 1, none⟩ = some (.slice a bd.length cap) := by rw [hw1]; exact cell_new w _ _ 1
  have HG := Lib.hid (show w2.cell? ⟨w.heap.size, 1, none⟩ = some (.slice a bd.length cap) from Below.keep b2 g1)
  have HV := Lib.hid (show VB w2 (w.heap.size + 1) (fzT 0) from by
    have := heap_alloc_new w1 (.cells #[.int .i64 0, .int .i64 0, .int .i64 0, .int .i64 0, .int .i64 0, .int .i64 0, .int .i64 0, .int .i64 0] 95)
    rw [← hw2, hz1] at this
    rw [fzT_0]; exact this)
  have Hb2 := Lib.hid (Below.tr b1 b2)
  have Hw1 := Lib.hid hw1
  have Hw2 := Lib.hid hw2
  have Hz1 := Lib.hid hz1
  have Hz2 := Lib.hid hz2
  clear hh hb ha hc hcap hk hw1 hw2 b1 b2 g1 hz1 hz2
  obtain ⟨i0, hi0, hz0, hz01, hby0⟩ := info_parts infoFact
  have Hi := Lib.hid hi0
  have Hz := Lib.hid hz0
  have Hzz := Lib.hid hz01
  have Hby := Lib.hid (show i0.bytes * bd.length ≤ 281474976710656 by rw [hby0]; omega)
  clear hi0 hz0 hz01 hby0
  go_enter Try.func84, Try.ntmps84
  go_upto_region 1 with fail
  rw [← Hw1.out]
  go_upto_region 2 with fail
  rw [← Hw2.out, Hz1.out]
  clear Hw1 Hw2 Hz1
  go_wp2_with fail
  go_loopw [8] (fun vi wr => ∃ k : Nat, vi = .int .i64 k ∧ k ≤ 8 ∧ Below w.heap.size w wr ∧ VB wr (w.heap.size + 1) (fzT k) ∧ wr.cell? ⟨w.heap.size, 1, none⟩ = some (.slice a bd.length cap) ∧ wr.heap.size = w.heap.size + 2) (fun vi _ => 8 - (intOf vi).toNat)
  case atStart => exact ⟨0, rfl, Nat.zero_le _, Hb2.out, HV.out, HG.out, Hz2.out⟩
  case round =>
    clear Hb2 HV HG Hz2
    obtain ⟨k, rfl, hk, hb, hv, hg, hz⟩ := hrel
    have Hb := Lib.hid hb
    have HV := Lib.hid hv
    have HG := Lib.hid hg
    have Hsz := Lib.hid hz
    clear hb hv hg hz
    by_cases hlt : k < 8
    · have c1 := HV.out.at (i := k) (by rw [fzT_len]; exact hlt)
      have f1 := HV.out.fz k
      have hk8 : (k : Int) < 8 := by omega
      have HVn := Lib.hid (show VB (wr.setCell ⟨w.heap.size + 1, k, none⟩ (.int .i64 (10 + (k : Int)))) (w.heap.size + 1) (fzT (k + 1)) from by
        unfold VB
        rw [heap_setCell_same wr _ k _ _ _ HV.out, fzT_set hlt])
      have HBn := Lib.hid (show Below w.heap.size w (wr.setCell ⟨w.heap.size + 1, k, none⟩ (.int .i64 (10 + (k : Int)))) from Hb.out.setCell (by simp) _)
      have HGn := Lib.hid (show (wr.setCell ⟨w.heap.size + 1, k, none⟩ (.int .i64 (10 + (k : Int)))).cell? ⟨w.heap.size, 1, none⟩ = some (.slice a bd.length cap) from (World.cell?_of_block (heap_setCell_other wr ⟨w.heap.size + 1, k, none⟩ w.heap.size _ (by simp))).trans HG.out)
      have Hzn := Lib.hid (show (wr.setCell ⟨w.heap.size + 1, k, none⟩ (.int .i64 (10 + (k : Int)))).heap.size = w.heap.size + 2 from by rw [← Hsz.out]; simp)
      go_wp2_with fail
      go_roundw
      case rel => exact ⟨k + 1, by go_num, by omega, HBn.out, HVn.out, HGn.out, Hzn.out⟩
      case measure => simp [intOf]; omega
    · obtain rfl : k = 8 := by omega
      have hg := HG.out
      go_wp2_with (first | (refine wpList_make_full _ rfl (.tmp 18) (.tmp 18) 26 rfl wr.heap.size 77 i0 (.agg #[.int .i64 0, .slice none 0 0]) 2 Try.underlying26 Hi.out Hz.out Hzz.out .i64 .i64 _ _ bd.length rfl rfl rfl rfl Hby.out (by unfold maxLen; omega) (Nat.le_refl _) ?_; intro w3 hown hgr; have hg3 := Below.keep (show Below wr.heap.size wr w3 from ⟨hgr.os, hgr.tape, hgr.output, hgr.size, fun k hk => hgr.block k hk (by simp)⟩) hg))
      have Hb3 := Lib.hid (show Below w.heap.size w w3 from Below.tr Hb.out ⟨hgr.os, hgr.tape, hgr.output, hgr.size, fun k hk => hgr.block k hk (by simp)⟩)
      have HV3 := Lib.hid (show VB w3 (w.heap.size + 1) fz from by
        have := HV.out
        rw [fzT_8] at this
        exact (hgr.block _ (Array.getElem?_eq_some_iff.1 this).1 (by simp)).trans this)
      have HO3 := Lib.hid (show OwnAtoms 77 wr.heap.size w3 (.slice (some ⟨wr.heap.size, 0, none⟩) bd.length bd.length) (frT bd 0) from by rw [frT_0]; exact ownAtoms_made hown)
      have Hg := Lib.hid (show w.heap.size + 2 ≤ wr.heap.size from by rw [Hsz.out]; exact Nat.le_refl _)
      have Hixg := Lib.hid (run_ix (P := Try.prog) (t := 26) (a := some ⟨wr.heap.size, 0, none⟩) (len := bd.length) (cap := bd.length) (b := wr.heap.size) (off := 0) (s := 2) Try.underlying26 (by intro w; kernel_rfl) (fun _ => rfl))
      obtain ⟨g, hg'⟩ : ∃ g, g = wr.heap.size := ⟨_, rfl⟩
      rw [← hg'] at HO3 Hg Hixg ⊢
      simp only [Nat.zero_add] at Hixg
      clear hg' hown hgr hg hg3 HG Hsz Hb HV Hi Hz Hzz Hby
      go_loopw [23] (fun vi wx => ∃ k : Nat, vi = .int .i64 k ∧ k ≤ bd.length ∧ Below w.heap.size w wx ∧ VB wx (w.heap.size + 1) fz ∧ OwnAtoms 77 g wx (.slice (some ⟨g, 0, none⟩) bd.length bd.length) (frT bd k)) (fun vi _ => bd.length - (intOf vi).toNat)
      case atStart => exact ⟨0, rfl, Nat.zero_le _, Hb3.out, HV3.out, HO3.out⟩
      case round =>
        clear Hb3 HV3 HO3
        obtain ⟨k, rfl, hk, hb, hv, ho⟩ := hrel
        obtain ⟨wx, hwx⟩ : ∃ wx : World, wx = wr := ⟨_, rfl⟩
        subst hwx
        have Hb := Lib.hid hb
        have HV := Lib.hid hv
        have HO := Lib.hid ho
        clear hb hv ho
        by_cases hlt : k < bd.length
        · have hc1 := Below.keep Hb.out (Hc.out k hlt).1
          have hc2 := Below.keep Hb.out (Hc.out k hlt).2.1
          have hi := Ints.keep (Hc.out k hlt).2.2 Hb.out
          have hixk := Hix.out k
          have hixg := Hixg.out k
          obtain ⟨ua, uc, hu⟩ := ints_slice hi
          rw [hu] at hc2 hi
          clear hu
          have HS := Lib.hid (frT_set (l := bd) (k := k))
          have Hkk := Lib.hid (Hk.out k hlt)
          obtain ⟨r, hr⟩ : ∃ t, t = aR bd k := ⟨_, rfl⟩
          obtain ⟨A, hA⟩ : ∃ t, t = aA bd k := ⟨_, rfl⟩
          rw [← hr, ← hA] at HS
          rw [← hr] at hc1
          rw [← hA] at hc2 hi Hkk
          clear hr hA
          obtain ⟨w4, hw4⟩ : ∃ w4, w4 = wx.alloc (.cells #[.int .i64 r, .slice ua A.length uc] 88) := ⟨_, rfl⟩
          have hb4 : Below wx.heap.size wx w4 := by rw [hw4]; exact below_alloc _ _
          have HG4 := Lib.hid (show w4.cell? ⟨wx.heap.size, 0, none⟩ = some (.int .i64 r) ∧ w4.cell? ⟨wx.heap.size, 1, none⟩ = some (.slice ua A.length uc) from by rw [hw4]; exact ⟨cell_new wx _ _ 0, cell_new wx _ _ 1⟩)
          have HF := Lib.hid (fact_any fz rfl r A Hkk.out.1 Hkk.out.2 (.slice ua A.length uc) w4 (hi.keep hb4))
          have HV4 := Lib.hid (show VB w4 (w.heap.size + 1) fz from blk_keep HV.out hb4)
          have HO4 := Lib.hid (HO.out.keep hb4)
          have Hb4 := Lib.hid (Below.tr Hb.out hb4)
          have HSz := Lib.hid (show (Try.prog.info? 95).map (·.size) = some (vrow fz).size from sizeVals)
          have Hg4 := Lib.hid (show g < w4.heap.size from by
            obtain ⟨c, h1, _⟩ := HO4.out.cells (by rw [frT_len]) (k := k) (by rw [frT_len]; exact hlt)
            exact cell_lt h1)
          obtain ⟨Z, hZ⟩ : ∃ Z, Z = vrow fz := ⟨_, rfl⟩
          have HVz := Lib.hid (show w4.heap[w.heap.size + 1]? = some (.cells Z 95 (0, 0)) from by rw [hZ]; exact HV4.out)
          rw [← hZ] at HF HSz
          have Hw4 := Lib.hid hw4
          clear hi hb4 hw4 hZ
          go_upto_region 11 with fail
          rw [← Hw4.out]
          clear Hw4 hc1 hc2 hixk
          have g0 := HG4.out.1
          have g1 := HG4.out.2
          go_wp2_with (first | (refine wpList_load_row rfl 95 (.tmp 3) rfl (w.heap.size + 1) rfl 95 Z (0, 0) _ HVz.out undVals rfl HSz.out ?_))
          refine HF.out.mono ?_
          rintro e w5 ⟨u', rfl, ho5, hb5⟩
          obtain ⟨na, nn, nc, rfl⟩ := own_slice ho5
          have HO5 := Lib.hid (HO4.out.keep hb5)
          have HV5 := Lib.hid (show VB w5 (w.heap.size + 1) fz from blk_keep HV4.out hb5)
          have Hb5 := Lib.hid (Below.tr Hb4.out hb5)
          have Ho5 := Lib.hid (OwnInts.base ho5 (show g ≤ w4.heap.size from Nat.le_of_lt Hg4.out))
          clear ho5 hb5 g0 g1
          obtain ⟨cc, k1, k2, f1, f2, _⟩ := HO5.out.cells (by rw [frT_len]) (k := k) (by rw [frT_len]; exact hlt)
          have HOn := Lib.hid (show OwnAtoms 77 g ((w5.setCell ⟨g, k * 2, none⟩ (.int .i64 r)).setCell ⟨g, k * 2 + 1, none⟩ (.slice na nn nc)) (.slice (some ⟨g, 0, none⟩) bd.length bd.length) (frT bd (k + 1)) from by
            rw [← HS.out]
            exact OwnAtoms.put factNotInt HO5.out (by rw [frT_len]) (by rw [frT_len]; exact hlt) Ho5.out)
          have HBn := Lib.hid (show Below w.heap.size w ((w5.setCell ⟨g, k * 2, none⟩ (.int .i64 r)).setCell ⟨g, k * 2 + 1, none⟩ (.slice na nn nc)) from (Hb5.out.setCell (by have := Hg.out; simp; omega) _).setCell (by have := Hg.out; simp; omega) _)
          have HVn := Lib.hid (show VB ((w5.setCell ⟨g, k * 2, none⟩ (.int .i64 r)).setCell ⟨g, k * 2 + 1, none⟩ (.slice na nn nc)) (w.heap.size + 1) fz from
            (heap_setCell_other _ ⟨g, k * 2 + 1, none⟩ _ _ (by have := Hg.out; simp; omega)).trans ((heap_setCell_other w5 ⟨g, k * 2, none⟩ _ _ (by have := Hg.out; simp; omega)).trans HV5.out))
          go_wp2_with fail
          go_roundw
          case rel => exact ⟨k + 1, by go_num, by omega, HBn.out, HVn.out, HOn.out⟩
          case measure => simp [intOf]; omega
        · obtain rfl : k = bd.length := by omega
          have R := Lib.hid (show OwnAtoms 77 w.heap.size wx (.slice (some ⟨g, 0, none⟩) bd.length bd.length) (bd.map frA) from by
            have := HO.out
            rw [frT_all] at this
            exact OwnAtoms.base this (by have := Hg.out; omega))
          go_wp2_with fail
          go_ret
          exact ⟨_, rfl, R.out, Hb.out⟩
#print axioms freeze_any
end Go.Proofs.Ytfplmdieeabgpaa
