/- Contracts of thaw, terms, agrees. -/
import Derived.Test.YtfplmdieeabgpaaRes
import Derived.BigQuiet
namespace Go.Proofs.Ytfplmdieeabgpaa
open Go.RowKit
/-- the term of a number -/
def thw (x : Int) : Int := if 10 ≤ x then x - 10 else -x
def trm1 (x : Int) : Int := if x = 0 then 99 else thw x
def trm (v : List Int) : List Int := v.map trm1
theorem thaw_any (x : Int) (hx : 0 ≤ x ∧ x ≤ 99) (w : World) : Calls Try.prog 140 #[.int .i64 x] w fun e w' => e = .returned (.int .i64 (thw x)) ∧ w = w' := by
  by_cases h : 10 ≤ x
  · have R := Lib.hid (show thw x = x - 10 from if_pos h)
    have q : x ≥ 10 := h
    go_enter Try.func140, Try.ntmps140
    go_wp2_with fail
    go_ret
    exact ⟨by rw [R.out]; rfl, rfl⟩
  · have R := Lib.hid (show thw x = -x from if_neg h)
    have q : ¬ x ≥ 10 := h
    have q1 : IntKind.i64.wrap (-x) = -x := IntWalk.i64_in _ ⟨by omega, by omega⟩
    go_enter Try.func140, Try.ntmps140
    go_wp2_with fail
    go_ret
    exact ⟨by rw [R.out]; rfl, rfl⟩
theorem run_index_arr {P : Program} {t e : TypeId} {n : Nat} {cs : Array Value} {i : Nat} {x : Value} (ht : P.underlying t = some (.array n e)) (hz : ∀ w, (sizeOf e).run P w = .ok 1 w) (ha : ∀ w, (isAgg e).run P w = .ok false w) (hi : i < n) (hx : cs[i]? = some x) (w : World) :
    (Instr.index t (.agg cs) (.int .i64 i)).run P w = .ok x w := by
  have hn : (0 : Int) ≤ (i : Int) ∧ (i : Int) < (n : Int) := by omega
  simp [Instr.index, run_underlying ht, asIntOf, hn, go_sem, hz, ha, hx]
  intro h; omega
def trT (v : List Int) (k : Nat) : List Int := (v.take k).map trm1 ++ List.replicate (8 - k) 0
theorem trT_len {v : List Int} (hv : v.length = 8) {k : Nat} (h : k ≤ 8) : (trT v k).length = 8 := by simp [trT]; omega
theorem trT_set {v : List Int} (hv : v.length = 8) {k : Nat} (h : k < 8) : (trT v k).set k (trm1 (v.getD k 0)) = trT v (k + 1) := by
  have e : v.getD k 0 = v[k] := by rw [List.getD_eq_getElem?_getD, List.getElem?_eq_getElem (by omega)]; rfl
  have hl : ((v.take k).map trm1).length = k := by simp; omega
  unfold trT
  rw [List.set_append_right _ _ (by omega), hl, Nat.sub_self, show 8 - k = (8 - (k + 1)) + 1 by omega, List.replicate_succ, List.set_cons_zero, List.take_succ_eq_append_getElem (by omega), List.map_append, List.append_assoc, e]
  rfl
theorem trT_0 (v : List Int) : trT v 0 = List.replicate 8 0 := by simp [trT]
theorem trT_8 {v : List Int} (hv : v.length = 8) : trT v 8 = trm v := by simp [trT, trm, List.take_of_length_le (Nat.le_of_eq hv)]
set_option maxRecDepth 100000 in
set_option maxHeartbeats 8000000 in
theorem terms_any (v : List Int) (hv8 : v.length = 8) (hvb : ∀ i, i < 8 → 0 ≤ v.getD i 0 ∧ v.getD i 0 ≤ 99) (w : World) :
    Calls Try.prog 110 #[.agg (vrow v)] w fun e w' => ∃ y, e = .returned y ∧ OwnInts w.heap.size w' y (trm v) ∧ Below w.heap.size w w' := by
  obtain ⟨A, hA⟩ : ∃ A, A = vrow v := ⟨_, rfl⟩
  have HA := Lib.hid hA
  rw [← hA]
  obtain ⟨w1, hw1⟩ : ∃ w1, w1 = w.alloc (.cells A 95) := ⟨_, rfl⟩
  have Hb1 := Lib.hid (show Below w.heap.size w w1 from by rw [hw1]; exact below_alloc _ _)
  have Hg1 := Lib.hid (show w1.heap[w.heap.size]? = some (.cells A 95 (0, 0)) from by rw [hw1]; exact heap_alloc_new w _)
  have Hw1 := Lib.hid hw1
  obtain ⟨i0, hi0, hz0, hz01, hby0⟩ := info_parts infoInt
  have Hi := Lib.hid hi0
  have Hz := Lib.hid hz0
  have Hzz := Lib.hid hz01
  have Hby := Lib.hid (show i0.bytes * 8 ≤ 281474976710656 by rw [hby0]; omega)
  have HSz := Lib.hid (show (Try.prog.info? 95).map (·.size) = some A.size from by rw [hA, vrow_size, hv8]; kernel_rfl)
  have Hv8 := Lib.hid hv8
  have Hvb := Lib.hid hvb
  obtain ⟨ob, hob⟩ : ∃ ob, ob = w.heap.size := ⟨_, rfl⟩
  rw [← hob] at Hg1
  have Hob := Lib.hid hob
  clear hw1 hA hv8 hvb hi0 hz0 hz01 hby0 hob
  go_enter Try.func110, Try.ntmps110
  go_upto_region 1 with fail
  rw [← Hw1.out, ← Hob.out]
  clear Hw1
  go_upto_region 2 with (refine wpList_make_full _ rfl _ _ 22 rfl w1.heap.size 3 i0 (.int .i64 0) 1 Try.underlying22 Hi.out Hz.out Hzz.out .i64 .i64 _ _ 8 rfl rfl rfl rfl Hby.out (by unfold maxLen; omega) (Nat.le_refl _) ?_; intro w3 hown hgr)
  have hb3 : Below w1.heap.size w1 w3 := ⟨hgr.os, hgr.tape, hgr.output, hgr.size, fun k hk => hgr.block k hk (by simp)⟩
  have Hb3 := Lib.hid (Below.tr Hb1.out hb3)
  have HG3 := Lib.hid ((hb3.block _ (Array.getElem?_eq_some_iff.1 Hg1.out).1).trans Hg1.out)
  have HO3 := Lib.hid (show w3.ownsRow w1.heap.size 3 1 (.slice (some ⟨w1.heap.size, 0, none⟩) 8 8) 8 ((trT v 0).map (Value.int .i64)) from by
    have e : (madeCells (Value.int IntKind.i64 0).cells (8 * 1)).toList = (trT v 0).map (Value.int .i64) := by
      rw [trT_0, List.map_replicate]
      exact toList_madeCells_one _ _
    rw [e] at hown; exact hown)
  have Hgw := Lib.hid (show w.heap.size ≤ w1.heap.size from Hb1.out.size)
  have Hixg := Lib.hid (run_ix (P := Try.prog) (t := 22) (a := some ⟨w1.heap.size, 0, none⟩) (len := 8) (cap := 8) (b := w1.heap.size) (off := 0) (s := 1) Try.underlying22 (by intro w; kernel_rfl) (fun _ => rfl))
  simp only [Nat.zero_add, Nat.mul_one] at Hixg
  clear hown hgr hb3 Hi Hz Hzz Hby Hb1 Hg1
  go_wp2_with (first | (refine wpList_load_row rfl 95 (.tmp 1) rfl ob rfl 95 A (0, 0) _ HG3.out Try.underlying95 rfl HSz.out ?_))

  obtain ⟨g, hg'⟩ : ∃ g, g = w1.heap.size := ⟨_, rfl⟩
  rw [← hg'] at HO3 Hixg Hgw ⊢
  clear hg' HG3 HSz
  go_loopw [8] (fun vi wx => ∃ k : Nat, vi = .int .i64 k ∧ k ≤ 8 ∧ Below w.heap.size w wx ∧ wx.ownsRow g 3 1 (.slice (some ⟨g, 0, none⟩) 8 8) 8 ((trT v k).map (Value.int .i64))) (fun vi _ => 8 - (intOf vi).toNat)
  case atStart => exact ⟨0, rfl, Nat.zero_le _, Hb3.out, HO3.out⟩
  case round =>
    clear Hb3 HO3
    obtain ⟨k, rfl, hk, hb, ho⟩ := hrel
    have Hb := Lib.hid hb
    have HO := Lib.hid ho
    clear hb ho
    by_cases hlt : k < 8
    · have hixg := Hixg.out k
      have HS := Lib.hid (trT_set (v := v) Hv8.out hlt)
      have hv := Hvb.out k hlt
      have hA8 : A[k]? = some (.int .i64 (v.getD k 0)) := by rw [HA.out]; exact vrow_at (by rw [Hv8.out]; exact hlt)
      have hix := fun w => run_index_arr (P := Try.prog) (t := 95) (e := 3) (n := 8) (cs := A) (i := k) Try.underlying95 (by intro w; kernel_rfl) (by intro w; kernel_rfl) hlt hA8 w
      have hcell := World.ownsRow.cellAt HO.out k (by omega)
      rw [List.getElem?_eq_getElem (by rw [List.length_map, trT_len Hv8.out hk]; exact hlt)] at hcell
      obtain ⟨c0, hc0⟩ : ∃ c0, c0 = ((trT v k).map (Value.int .i64))[k]'(by rw [List.length_map, trT_len Hv8.out hk]; exact hlt) := ⟨_, rfl⟩
      rw [← hc0] at hcell
      have hfz := World.ownsRow.frozenAt HO.out k
      obtain ⟨x, hx⟩ : ∃ x, x = v.getD k 0 := ⟨_, rfl⟩
      rw [← hx] at HS hv hix
      clear hx hA8 hc0
      have H9 := Lib.hid (World.ownsRow.stored HO.out k (.int .i64 99)).1
      have HB9 := Lib.hid (show Below w.heap.size w (wr.setCell ⟨g, k, none⟩ (.int .i64 99)) from Hb.out.setCell Hgw.out _)
      by_cases hz : x = 0
      · have q1 : (x != 0) = false := by rw [bne_eq_false_iff_eq]; exact hz
        have HOn := Lib.hid (show (wr.setCell ⟨g, k, none⟩ (.int .i64 99)).ownsRow g 3 1 (.slice (some ⟨g, 0, none⟩) 8 8) 8 ((trT v (k + 1)).map (Value.int .i64)) from by
          have := H9.out
          have e : ((trT v k).map (Value.int .i64)).set k (.int .i64 99) = (trT v (k + 1)).map (Value.int .i64) := by
            rw [← HS.out, hz, List.map_set]; rfl
          rw [e] at this
          exact this)
        clear HO Hb hz
        go_wp2_with fail
        go_roundw
        case rel => exact ⟨k + 1, by go_num, by omega, HB9.out, HOn.out⟩
        case measure => simp [intOf]; omega
      · have q1 : (x != 0) = true := by rw [bne_iff_ne]; exact hz
        have HT := Lib.hid (thaw_any x hv)
        have HOn := Lib.hid (show ((wr.setCell ⟨g, k, none⟩ (.int .i64 99)).setCell ⟨g, k, none⟩ (.int .i64 (thw x))).ownsRow g 3 1 (.slice (some ⟨g, 0, none⟩) 8 8) 8 ((trT v (k + 1)).map (Value.int .i64)) from by
          have := (World.ownsRow.stored H9.out k (.int .i64 (thw x))).1
          have e : (((trT v k).map (Value.int .i64)).set k (.int .i64 99)).set k (.int .i64 (thw x)) = (trT v (k + 1)).map (Value.int .i64) := by
            rw [← HS.out, List.set_set, List.map_set, show trm1 x = thw x from by unfold trm1; rw [if_neg hz]]
          rw [e] at this
          exact this)
        have HBn := Lib.hid (show Below w.heap.size w ((wr.setCell ⟨g, k, none⟩ (.int .i64 99)).setCell ⟨g, k, none⟩ (.int .i64 (thw x))) from HB9.out.setCell Hgw.out _)
        clear HO Hb hz
        go_wp2_with fail
        refine (HT.out _).mono ?_
        rintro e w5 ⟨rfl, rfl⟩
        obtain ⟨y, hy⟩ : ∃ y, y = thw x := ⟨_, rfl⟩
        rw [← hy] at HOn HBn ⊢
        clear hy
        have hf9 := World.ownsRow.frozenAt H9.out k
        have hc9 := World.ownsRow.cellAt H9.out k (by omega)
        rw [List.getElem?_set_self (by rw [List.length_map, trT_len Hv8.out hk]; exact hlt)] at hc9
        obtain ⟨w9, hw9⟩ : ∃ w9, w9 = wr.setCell ⟨g, k, none⟩ (.int .i64 99) := ⟨_, rfl⟩
        rw [← hw9] at hf9 hc9 HOn HBn ⊢
        clear hw9 H9 HB9
        go_wp2_with fail
        go_roundw
        case rel => exact ⟨k + 1, by go_num, by omega, HBn.out, HOn.out⟩
        case measure => simp [intOf]; omega
    · obtain rfl : k = 8 := by omega
      have HR := Lib.hid (show OwnInts w.heap.size wr (.slice (some ⟨g, 0, none⟩) 8 8) (trm v) from by
        have := HO.out
        rw [trT_8 Hv8.out] at this
        refine OwnInts.base (base := g) ?_ Hgw.out
        unfold OwnInts
        rw [show (trm v).length = 8 by simp [trm, Hv8.out]]; exact this)
      go_wp2_with fail
      go_ret
      exact ⟨_, rfl, HR.out, Hb.out⟩
/-- do the terms of one head lead to the other -/
def agr (h hd td : List Int) : Prop := ∀ i, i < hd.length → h.getD (hd.getD i 0).toNat 0 = td.getD i 0
instance (h hd td : List Int) : Decidable (agr h hd td) := inferInstanceAs (Decidable (∀ i, i < hd.length → _))
set_option maxRecDepth 100000 in
set_option maxHeartbeats 8000000 in
theorem agrees_any (h hd td : List Int) (h8 : h.length = 8) (hh : ∀ k, k < hd.length → 0 ≤ hd.getD k 0 ∧ hd.getD k 0 < 8) (hl : hd.length ≤ td.length) (u u1 u2 : Value) (w : World) (hu : Ints w u h) (hu1 : Ints w u1 hd) (hu2 : Ints w u2 td) (B : Bool) (hB : decide (agr h hd td) = B) :
    Calls Try.prog 76 #[u, u1, u2] w fun e w' => e = .returned (.bool B) ∧ ∃ n, w' = w.drewN n := by
  obtain ⟨a, b, off, cap, rfl, hle, ha, hc⟩ := Ints.get hu
  obtain ⟨a1, b1, off1, cap1, rfl, hle1, ha1, hc1⟩ := Ints.get hu1
  obtain ⟨a2, b2, off2, cap2, rfl, hle2, ha2, hc2⟩ := Ints.get hu2
  have Hix := Lib.hid (run_ix (P := Try.prog) (t := 22) (a := a) (len := h.length) (cap := cap) (b := b) (off := off) (s := 1) Try.underlying22 (by intro w; kernel_rfl) ha)
  have Hix1 := Lib.hid (run_ix (P := Try.prog) (t := 22) (a := a1) (len := hd.length) (cap := cap1) (b := b1) (off := off1) (s := 1) Try.underlying22 (by intro w; kernel_rfl) ha1)
  have Hix2 := Lib.hid (run_ix (P := Try.prog) (t := 22) (a := a2) (len := td.length) (cap := cap2) (b := b2) (off := off2) (s := 1) Try.underlying22 (by intro w; kernel_rfl) ha2)
  simp only [Nat.mul_one] at Hix Hix1 Hix2
  have gd : ∀ (l : List Int) (i : Nat) (hi : i < l.length), l[i] = l.getD i 0 := fun l i hi => by rw [List.getD_eq_getElem?_getD, List.getElem?_eq_getElem hi]; rfl
  have Hc := Lib.hid (show ∀ i, i < h.length → w.cell? ⟨b, off + i, none⟩ = some (.int .i64 (h.getD i 0)) from fun i hi => by rw [hc i hi, gd])
  have Hc1 := Lib.hid (show ∀ i, i < hd.length → w.cell? ⟨b1, off1 + i, none⟩ = some (.int .i64 (hd.getD i 0)) from fun i hi => by rw [hc1 i hi, gd])
  have Hc2 := Lib.hid (show ∀ i, i < td.length → w.cell? ⟨b2, off2 + i, none⟩ = some (.int .i64 (td.getD i 0)) from fun i hi => by rw [hc2 i hi, gd])
  have HF := Lib.hid (fun (r : ¬ agr h hd td) => show false = B from by rw [← hB]; exact (decide_eq_false r).symm)
  have HT := Lib.hid (fun (r : agr h hd td) => show true = B from by rw [← hB]; exact (decide_eq_true r).symm)
  have Hh := Lib.hid hh
  have Hl := Lib.hid hl
  have H8 := Lib.hid h8
  clear hu hu1 hu2 ha ha1 ha2 hc hc1 hc2 hB hh gd
  rw [h8] at Hix hle Hc ⊢
  clear h8 hl
  go_enter Try.func76, Try.ntmps76
  go_wp2_with fail
  go_loopw [11] (fun vi wr => ∃ k n : Nat, vi = .int .i64 k ∧ k ≤ hd.length ∧ wr = w.drewN n ∧ ∀ i, i < k → h.getD (hd.getD i 0).toNat 0 = td.getD i 0) (fun vi _ => hd.length - (intOf vi).toNat)
  case atStart => exact ⟨0, 0, rfl, Nat.zero_le _, rfl, fun i hi => by omega⟩
  case round =>
    obtain ⟨k, n, rfl, hk, hwr, hin⟩ := hrel
    have Hwr := Lib.hid hwr
    have Hin := Lib.hid hin
    clear hwr hin
    by_cases hlt : k < hd.length
    · have hlt2 : k < td.length := by have := Hl.out; omega
      have cell : ∀ a, wr.cell? a = w.cell? a := fun a => by rw [Hwr.out]; rfl
      have hck1 := (cell _).trans (Hc1.out k hlt)
      have hck2 := (cell _).trans (Hc2.out k hlt2)
      have hixk1 := Hix1.out k
      have hixk2 := Hix2.out k
      have hv := Hh.out k hlt
      have HD := Lib.hid (show h.getD (hd.getD k 0).toNat 0 = td.getD k 0 ↔ h.getD (hd.getD k 0).toNat 0 = td.getD k 0 from Iff.rfl)
      obtain ⟨t, ht⟩ : ∃ t, t = hd.getD k 0 := ⟨_, rfl⟩
      rw [← ht] at hck1 hv HD
      have Ht := Lib.hid ht
      clear ht
      obtain ⟨n2, rfl⟩ : ∃ n : Nat, t = n := ⟨t.toNat, by omega⟩
      have hck := (cell _).trans (Hc.out n2 (by omega))
      have hixn := Hix.out n2
      have hn8 : n2 < 8 := by omega
      clear cell hv
      obtain ⟨x, hx⟩ : ∃ t, t = h.getD n2 0 := ⟨_, rfl⟩
      obtain ⟨y, hy⟩ : ∃ t, t = td.getD k 0 := ⟨_, rfl⟩
      rw [← hx] at hck
      rw [← hy] at hck2
      have Hxy := Lib.hid (show h.getD (hd.getD k 0).toNat 0 = x ∧ td.getD k 0 = y from ⟨by rw [← Ht.out, hx]; rfl, hy.symm⟩)
      clear hx hy HD
      by_cases c : x = y
      · have q1 : (x != y) = false := by rw [bne_eq_false_iff_eq]; exact c
        have HI := Lib.hid (show ∀ i, i < k + 1 → h.getD (hd.getD i 0).toNat 0 = td.getD i 0 from fun i hi => by
          by_cases e : i = k
          · subst e; rw [Hxy.out.1, Hxy.out.2]; exact c
          · exact Hin.out i (by omega))
        clear c
        go_upto_region 4 with fail
        go_quiet (fail)
        generalize hw9 : wr.drewN _ = w9
        have H9 := Lib.hid (show ∃ q, w9 = w.drewN q from ⟨_, by rw [← hw9, Hwr.out]; exact World.drewN_drewN _ _ _⟩)
        clear hw9 hck hck1 hck2
        go_wp2_with fail
        obtain ⟨q, hq⟩ := H9.out
        have Hq := Lib.hid hq
        clear hq
        go_roundw
        case rel => exact ⟨k + 1, q, by go_num, by omega, Hq.out, HI.out⟩
        case measure => simp [intOf]; omega
      · have q1 : (x != y) = true := by rw [bne_iff_ne]; exact c
        have R := Lib.hid (HF.out fun r => c (by have := r k hlt; rw [Hxy.out.1, Hxy.out.2] at this; exact this))
        clear c
        go_upto_region 4 with fail
        go_quiet (fail)
        generalize hw9 : wr.drewN _ = w9
        have H9 := Lib.hid (show ∃ q, w9 = w.drewN q from ⟨_, by rw [← hw9, Hwr.out]; exact World.drewN_drewN _ _ _⟩)
        clear hw9 hck hck1 hck2
        go_wp2_with fail
        go_ret
        exact ⟨by rw [← R.out]; rfl, H9.out⟩
    · obtain rfl : k = hd.length := by omega
      have R := Lib.hid (HT.out Hin.out)
      go_wp2_with fail
      go_ret
      exact ⟨by rw [← R.out]; rfl, n, Hwr.out⟩
#print axioms terms_any
#print axioms agrees_any
end Go.Proofs.Ytfplmdieeabgpaa
