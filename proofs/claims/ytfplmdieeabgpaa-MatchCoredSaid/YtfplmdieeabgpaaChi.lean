/- Contract of hasImage. -/
import Derived.Test.YtfplmdieeabgpaaChm
import Derived.BigRegion
namespace Go.Proofs.Ytfplmdieeabgpaa
open Go.RowKit
def imT (A h : List Int) (k : Nat) : List Int := (A.take k).map (app h) ++ A.drop k
theorem imT_len (A h : List Int) {k : Nat} (hk : k ≤ A.length) : (imT A h k).length = A.length := by simp [imT]; omega
theorem imT_set {A h : List Int} {k : Nat} (hk : k < A.length) : (imT A h k).set k (app h (A.getD k 0)) = imT A h (k + 1) := by
  have e : A.getD k 0 = A[k] := by rw [List.getD_eq_getElem?_getD, List.getElem?_eq_getElem hk]; rfl
  have hl : ((A.take k).map (app h)).length = k := by simp; omega
  unfold imT
  rw [List.set_append_right _ _ (by omega), hl, Nat.sub_self, List.drop_eq_getElem_cons hk, List.set_cons_zero, List.take_succ_eq_append_getElem hk, List.map_append, List.append_assoc, e]
  rfl
theorem imT_skip {A h : List Int} {k : Nat} (hk : k < A.length) (ha : app h (A.getD k 0) = A.getD k 0) : imT A h k = imT A h (k + 1) := by
  rw [← imT_set hk, ha]
  have e : A.getD k 0 = A[k] := by rw [List.getD_eq_getElem?_getD, List.getElem?_eq_getElem hk]; rfl
  have hl : ((A.take k).map (app h)).length = k := by simp; omega
  unfold imT
  rw [List.set_append_right _ _ (by omega), hl, Nat.sub_self, List.drop_eq_getElem_cons hk, List.set_cons_zero, e]
theorem imT_0 (A h : List Int) : imT A h 0 = A := by simp [imT]
theorem imT_all (A h : List Int) : imT A h A.length = A.map (app h) := by simp [imT]
set_option maxRecDepth 100000 in
set_option maxHeartbeats 16000000 in
theorem hasImage_any (r : Int) (A : List Int) (hA : ∀ i, i < A.length → -9 ≤ A.getD i 0 ∧ A.getD i 0 ≤ 7) (hA0 : 0 < A.length) (hA1 : A.length ≤ 1000) (h : List Int) (h8 : h.length = 8) (body : List HAt) (u uh ub : Value) (w : World) (hu : Ints w u A) (hh : Ints w uh h) (hb : Atoms w ub body) (B : Bool) (hB : decide ((r, A.map (app h)) ∈ body) = B) :
    Calls Try.prog 78 #[.agg #[.int .i64 r, u], uh, ub] w fun e w' => e = .returned (.bool B) ∧ Below w.heap.size w w' := by
  obtain ⟨w1, hw1⟩ : ∃ x, x = w.alloc (.cells #[.int .i64 r, u] 88) := ⟨_, rfl⟩
  have hb1 : Below w.heap.size w w1 := by rw [hw1]; exact below_alloc _ _
  have hat : AtB w1 w.heap.size r u := by rw [hw1]; exact heap_alloc_new _ _
  have HCl := Lib.hid (cloneI_any A u w1 (by omega) (hu.keep hb1))
  obtain ⟨a, b, off, cap, rfl, hle, ha, hc⟩ := Ints.get hu
  have Hix := Lib.hid (run_ix (P := Try.prog) (t := 22) (a := a) (len := A.length) (cap := cap) (b := b) (off := off) (s := 1) Try.underlying22 (by intro w; kernel_rfl) ha)
  obtain ⟨a2, b2, off2, cap2, rfl, hle2, ha2, hc2⟩ := Ints.get hh
  have Hix2 := Lib.hid (run_ix (P := Try.prog) (t := 22) (a := a2) (len := h.length) (cap := cap2) (b := b2) (off := off2) (s := 1) Try.underlying22 (by intro w; kernel_rfl) ha2)
  simp only [Nat.mul_one] at Hix Hix2
  rw [h8] at Hix2 hle2 ⊢
  have gd : ∀ (l : List Int) (i : Nat) (hi : i < l.length), l[i] = l.getD i 0 := fun l i hi => by rw [List.getD_eq_getElem?_getD, List.getElem?_eq_getElem hi]; rfl
  have Hc := Lib.hid (show ∀ i, i < A.length → w.cell? ⟨b, off + i, none⟩ = some (.int .i64 (A.getD i 0)) from fun i hi => by rw [hc i hi, gd])
  have Hc2 := Lib.hid (show ∀ i, i < 8 → w.cell? ⟨b2, off2 + i, none⟩ = some (.int .i64 (h.getD i 0)) from fun i hi => by rw [hc2 i (by omega), gd])
  obtain ⟨ba, bc, rfl⟩ := atoms_slice hb
  obtain ⟨bn, hbn⟩ : ∃ x, x = body.length := ⟨_, rfl⟩
  rw [← hbn] at hb ⊢
  have Hbd := Lib.hid hb
  have HA := Lib.hid hA
  have HB := Lib.hid hB
  have Hb1 := Lib.hid hb1
  have Hat := Lib.hid hat
  have Hw1 := Lib.hid hw1
  obtain ⟨ob, hob⟩ : ∃ x, x = w.heap.size := ⟨_, rfl⟩
  rw [← hob] at Hat
  have Hob := Lib.hid hob
  clear hu hh hb ha ha2 hc hc2 hA hB hb1 hat hw1 hbn hob gd h8
  go_enter Try.func78, Try.ntmps78
  go_upto_region 1 with fail
  rw [← Hw1.out, ← Hob.out]
  clear Hw1
  have g1 := aCell Hat.out 1 rfl
  go_wp2_with fail
  refine HCl.out.mono ?_
  rintro e w2 ⟨v2, rfl, ho, hb2⟩
  obtain ⟨g, ic, cur, hv2, hbg, hgc⟩ : ∃ g c cur, v2 = .slice (some ⟨g, 0, none⟩) A.length c ∧ w1.heap.size ≤ g ∧ w2.heap[g]? = some (.cells cur 3 (0, 0)) := by
    rcases ho.2 with ⟨_, h0⟩ | ⟨g, cap, cur, h1, h2, h3, _⟩
    · omega
    · exact ⟨g, cap, cur, h1, h2, h3⟩
  subst hv2
  obtain ⟨w3, hw3⟩ : ∃ x, x = w2.alloc (.cells #[.slice (some ⟨g, 0, none⟩) A.length ic] 22) := ⟨_, rfl⟩
  have hb3 : Below w2.heap.size w2 w3 := by rw [hw3]; exact below_alloc _ _
  obtain ⟨bi, hbi⟩ : ∃ x, x = w2.heap.size := ⟨_, rfl⟩
  have HI3 := Lib.hid (show CelI w3 bi (.slice (some ⟨g, 0, none⟩) A.length ic) from by rw [hw3, hbi]; exact heap_alloc_new _ _)
  have HO3 := Lib.hid (show w3.ownsRow g 3 1 (.slice (some ⟨g, 0, none⟩) A.length ic) A.length ((imT A h 0).map (Value.int .i64)) from by
    rw [imT_0]
    have := ho.keep hb3
    refine ⟨this.1, ?_⟩
    rcases this.2 with h1 | ⟨g', cap, cur, h1, h2, r⟩
    · exact .inl h1
    · injection h1 with e1 e2 e3
      injection e1 with e1
      injection e1 with e1
      exact .inr ⟨g', cap, cur, by rw [e1, e2, e3], by omega, r⟩)
  have HA3 := Lib.hid ((Hat.out.keep hb2).keep hb3)
  have HB3 := Lib.hid (Below.tr Hb1.out (Below.tr hb2 hb3))
  have Hg := Lib.hid (show ob < g ∧ g < bi from ⟨by have := (Array.getElem?_eq_some_iff.1 Hat.out).1; omega, by rw [hbi]; exact (Array.getElem?_eq_some_iff.1 hgc).1⟩)
  have Hw3 := Lib.hid hw3
  have Hbi := Lib.hid hbi
  clear ho hb2 hb3 hw3 hbi hgc hbg HCl Hat Hb1 g1
  go_upto_region 2 with fail
  rw [← Hw3.out, ← Hbi.out]
  clear Hw3 Hbi
  have g1 := aCell HA3.out 1 rfl
  go_wp2_with fail
  clear g1
  have Hixg := Lib.hid (run_ix (P := Try.prog) (t := 22) (a := some ⟨g, 0, none⟩) (len := A.length) (cap := ic) (b := g) (off := 0) (s := 1) Try.underlying22 (by intro w; kernel_rfl) (fun _ => rfl))
  simp only [Nat.zero_add, Nat.mul_one] at Hixg
  go_loopw [16] (fun vi wr => ∃ k : Nat, vi = .int .i64 k ∧ k ≤ A.length ∧ Below w.heap.size w wr ∧ AtB wr ob r (.slice a A.length cap) ∧ CelI wr bi (.slice (some ⟨g, 0, none⟩) A.length ic) ∧ wr.ownsRow g 3 1 (.slice (some ⟨g, 0, none⟩) A.length ic) A.length ((imT A h k).map (Value.int .i64))) (fun vi _ => A.length - (intOf vi).toNat)
  case atStart => exact ⟨0, rfl, Nat.zero_le _, HB3.out, HA3.out, HI3.out, HO3.out⟩
  case round =>
    clear HB3 HA3 HI3 HO3
    obtain ⟨k, rfl, hk, hb, hat, hci, ho⟩ := hrel
    have Hb := Lib.hid hb
    have Hat := Lib.hid hat
    have Hci := Lib.hid hci
    have HO := Lib.hid ho
    clear hb hat hci ho
    by_cases hlt : k < A.length
    · have hck := Below.keep Hb.out (Hc.out k hlt)
      have hixk := Hix.out k
      have hr := HA.out k hlt
      have HS := Lib.hid (imT_set (h := h) hlt)
      have HSk := Lib.hid (imT_skip (h := h) hlt)
      obtain ⟨t, ht⟩ : ∃ t, t = A.getD k 0 := ⟨_, rfl⟩
      rw [← ht] at hck hr HS HSk
      clear ht
      by_cases c : 0 ≤ t
      · obtain ⟨n, rfl⟩ : ∃ n : Nat, t = n := ⟨t.toNat, by omega⟩
        have hn8 : n < 8 := by omega
        have HV := Lib.hid (isVar_any (n : Int) true (decide_eq_true ⟨by omega, by omega⟩) wr)
        have hcn := Below.keep Hb.out (Hc2.out n hn8)
        have hixn := Hix2.out n
        have happ : app h (n : Int) = h.getD n 0 := by unfold app; rw [if_pos (by omega), Int.toNat_natCast]
        rw [happ] at HS
        obtain ⟨X, hX⟩ : ∃ x, x = h.getD n 0 := ⟨_, rfl⟩
        rw [← hX] at HS hcn
        clear hX happ HSk c
        have hixg := Hixg.out k
        have gi := aCell Hci.out 0 rfl
        have hfz := World.ownsRow.frozenAt HO.out k
        have hcell := World.ownsRow.cellAt HO.out k (by omega)
        rw [List.getElem?_eq_getElem (by rw [List.length_map, imT_len A h hk]; exact hlt)] at hcell
        obtain ⟨c0, hc0⟩ : ∃ c0, c0 = ((imT A h k).map (Value.int .i64))[k]'(by rw [List.length_map, imT_len A h hk]; exact hlt) := ⟨_, rfl⟩
        rw [← hc0] at hcell
        clear hc0
        have HOn := Lib.hid (fun d => show ((wr.drewN d).setCell ⟨g, k, none⟩ (.int .i64 X)).ownsRow g 3 1 (.slice (some ⟨g, 0, none⟩) A.length ic) A.length ((imT A h (k + 1)).map (Value.int .i64)) from by
          have := (World.ownsRow.stored (w := wr.drewN d) HO.out k (.int .i64 X)).1
          have e : ((imT A h k).map (Value.int .i64)).set k (.int .i64 X) = (imT A h (k + 1)).map (Value.int .i64) := by rw [← HS.out, List.map_set]
          rw [e] at this; exact this)
        have HBn := Lib.hid (fun d => show Below w.heap.size w ((wr.drewN d).setCell ⟨g, k, none⟩ (.int .i64 X)) from Below.setCell (w := wr.drewN d) ⟨Hb.out.os, Hb.out.tape, Hb.out.output, Hb.out.size, Hb.out.block⟩ (by have := Hg.out; have := Hob.out; simp; omega) _)
        have HAn := Lib.hid (fun d => show AtB ((wr.drewN d).setCell ⟨g, k, none⟩ (.int .i64 X)) ob r (.slice a A.length cap) from (heap_setCell_other (wr.drewN d) ⟨g, k, none⟩ ob _ (by have := Hg.out; show ob ≠ g; omega)).trans Hat.out)
        have HCn := Lib.hid (fun d => show CelI ((wr.drewN d).setCell ⟨g, k, none⟩ (.int .i64 X)) bi (.slice (some ⟨g, 0, none⟩) A.length ic) from (heap_setCell_other (wr.drewN d) ⟨g, k, none⟩ bi _ (by have := Hg.out; show bi ≠ g; omega)).trans Hci.out)
        go_wp2_with fail
        refine HV.out.mono ?_
        rintro e w5 ⟨rfl, rfl⟩
        go_upto_region 6 with fail
        have gi : w5.cell? ⟨bi, 0, none⟩ = some (.slice (some ⟨g, 0, none⟩) A.length ic) := gi
        go_region
        have HOn := Lib.hid (HOn.out 1)
        have HBn := Lib.hid (HBn.out 1)
        have HAn := Lib.hid (HAn.out 1)
        have HCn := Lib.hid (HCn.out 1)
        generalize hw9 : (w5.setCell ⟨g, k, none⟩ (.int .i64 X)).drew = w9
        have e9 : (w5.drewN 1).setCell ⟨g, k, none⟩ (.int .i64 X) = w9 := hw9
        rw [e9] at HOn HBn HAn HCn
        clear hw9 e9 hck gi hcn hcell hfz
        go_wp2_with fail
        go_roundw
        case rel => exact ⟨k + 1, by go_num, by omega, HBn.out, HAn.out, HCn.out, HOn.out⟩
        case measure => simp [intOf]; omega
      · have HV := Lib.hid (isVar_any t false (decide_eq_false fun h => c h.1) wr)
        have HOn := Lib.hid (show wr.ownsRow g 3 1 (.slice (some ⟨g, 0, none⟩) A.length ic) A.length ((imT A h (k + 1)).map (Value.int .i64)) from by
          rw [← HSk.out (by unfold app; rw [if_neg c])]; exact HO.out)
        clear c HS HSk HO
        go_wp2_with fail
        refine HV.out.mono ?_
        rintro e w5 ⟨rfl, rfl⟩
        go_wp2_with fail
        go_roundw
        case rel => exact ⟨k + 1, by go_num, by omega, Hb.out, Hat.out, Hci.out, HOn.out⟩
        case measure => simp [intOf]; omega
    · obtain rfl : k = A.length := by omega
      have HI := Lib.hid (show Ints wr (.slice (some ⟨g, 0, none⟩) A.length ic) (A.map (app h)) from by
        have := HO.out
        rw [imT_all] at this
        have h2 : OwnInts g wr (.slice (some ⟨g, 0, none⟩) A.length ic) (A.map (app h)) := by unfold OwnInts; rw [List.length_map]; exact this
        exact h2.ints)
      have HK := Lib.hid (conHI_any r (A.map (app h)) body _ _ ob bi wr (Hbd.out.keep Hb.out) HI.out Hat.out Hci.out B HB.out)
      go_wp2_with fail
      refine HK.out.mono ?_
      rintro e w5 ⟨rfl, hb5⟩
      have Hb5 := Lib.hid (Below.tr Hb.out hb5)
      clear hb5
      go_wp2_with fail
      go_ret
      exact ⟨rfl, Hb5.out⟩
#print axioms hasImage_any
end Go.Proofs.Ytfplmdieeabgpaa
