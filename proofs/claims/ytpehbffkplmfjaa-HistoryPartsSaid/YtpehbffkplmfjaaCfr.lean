/- Contract of the reference's conflicts. -/
import Derived.Test.YtpehbffkplmfjaaCfm
namespace Go.Proofs.Ytpehbffkplmfjaa
open Go.RowKit
theorem part_row {h : List NOp} (hh : VH h) {i : Nat} (hi : i < (partN h).length) : (1 ≤ tT (partN h) i ∧ tT (partN h) i ≤ 6) ∧ tK (partN h) i ≤ 3 := by
  have hm : (partN h)[i] ∈ h := (List.mem_filter.1 (List.getElem_mem hi)).1
  obtain ⟨j, hj, e⟩ := List.getElem_of_mem hm
  rw [nop_get hi, nop_get hj] at e
  injection e with e1 e2
  injection e2 with e2 e3
  rw [← e1, ← e2]
  exact ⟨hh.t6 j hj, hh.k3 j hj⟩
theorem part_le (h : List NOp) : (partN h).length ≤ h.length := List.length_filter_le _ _
/-- a table of edges in a block -/
def MatB (w : World) (b : Nat) (E : Nat → Nat → Bool) : Prop := Blk w b 80 49 fun j => .bool (E (j / 7) (j % 7))
theorem MatB.congr {w : World} {b : Nat} {E F : Nat → Nat → Bool} (h : MatB w b E) (e : E = F) : MatB w b F := e ▸ h
theorem MatB.put {w : World} {b : Nat} {E : Nat → Nat → Bool} (h : MatB w b E) {s t : Nat} (ht : t < 7) : MatB (w.setCell ⟨b, s * 7 + t, none⟩ (.bool true)) b fun x y => if x = s ∧ y = t then true else E x y := by
  refine (Blk.put h (s * 7 + t) (.bool true)).congr fun j _ => ?_
  show (if j = s * 7 + t then Value.bool true else .bool (E (j / 7) (j % 7))) = .bool (if j / 7 = s ∧ j % 7 = t then true else E (j / 7) (j % 7))
  by_cases e : j = s * 7 + t
  · have h1 : j / 7 = s ∧ j % 7 = t := ⟨by omega, by omega⟩
    rw [if_pos e, if_pos h1]
  · have h1 : ¬ (j / 7 = s ∧ j % 7 = t) := by omega
    rw [if_neg e, if_neg h1]
theorem mat_one (E : Nat → Nat → Bool) : (mat E).all (·.oneCell') = true := by
  rw [Array.all_eq_true]
  intro i hi
  simp only [mat, row, List.getElem_toArray, List.getElem_map]
  rfl
set_option maxRecDepth 100000 in
set_option maxHeartbeats 8000000 in
theorem conflicts_any {h : List NOp} (hh : VH h) (v : Value) (w : World) (hv : Ops w v (castO h)) :
    Calls Try.prog 59 #[v] w fun e w' => e = .returned (.agg (mat (edR (partN h) (partN h).length))) ∧ Below w.heap.size w w' := by
  have hb0 : Below w.heap.size w ((w.alloc (.cells #[.bool false, .bool false, .bool false, .bool false, .bool false, .bool false, .bool false, .bool false, .bool false, .bool false, .bool false, .bool false, .bool false, .bool false, .bool false, .bool false, .bool false, .bool false, .bool false, .bool false, .bool false, .bool false, .bool false, .bool false, .bool false, .bool false, .bool false, .bool false, .bool false, .bool false, .bool false, .bool false, .bool false, .bool false, .bool false, .bool false, .bool false, .bool false, .bool false, .bool false, .bool false, .bool false, .bool false, .bool false, .bool false, .bool false, .bool false, .bool false, .bool false] 80)).alloc (.cells #[.bool false, .bool false, .bool false, .bool false, .bool false, .bool false, .bool false, .bool false, .bool false, .bool false, .bool false, .bool false, .bool false, .bool false, .bool false, .bool false, .bool false, .bool false, .bool false, .bool false, .bool false, .bool false, .bool false, .bool false, .bool false, .bool false, .bool false, .bool false, .bool false, .bool false, .bool false, .bool false, .bool false, .bool false, .bool false, .bool false, .bool false, .bool false, .bool false, .bool false, .bool false, .bool false, .bool false, .bool false, .bool false, .bool false, .bool false, .bool false, .bool false] 80)) := ((Below.refl _ _).alloc (Nat.le_refl _) _).alloc (by simp) _
  have hB1 : MatB ((w.alloc (.cells #[.bool false, .bool false, .bool false, .bool false, .bool false, .bool false, .bool false, .bool false, .bool false, .bool false, .bool false, .bool false, .bool false, .bool false, .bool false, .bool false, .bool false, .bool false, .bool false, .bool false, .bool false, .bool false, .bool false, .bool false, .bool false, .bool false, .bool false, .bool false, .bool false, .bool false, .bool false, .bool false, .bool false, .bool false, .bool false, .bool false, .bool false, .bool false, .bool false, .bool false, .bool false, .bool false, .bool false, .bool false, .bool false, .bool false, .bool false, .bool false, .bool false] 80)).alloc (.cells #[.bool false, .bool false, .bool false, .bool false, .bool false, .bool false, .bool false, .bool false, .bool false, .bool false, .bool false, .bool false, .bool false, .bool false, .bool false, .bool false, .bool false, .bool false, .bool false, .bool false, .bool false, .bool false, .bool false, .bool false, .bool false, .bool false, .bool false, .bool false, .bool false, .bool false, .bool false, .bool false, .bool false, .bool false, .bool false, .bool false, .bool false, .bool false, .bool false, .bool false, .bool false, .bool false, .bool false, .bool false, .bool false, .bool false, .bool false, .bool false, .bool false] 80)) w.heap.size fun _ _ => false := Blk.keep (blk_new w 80 49 fun _ => .bool false) (below_alloc _ _)
  have hB2 : MatB ((w.alloc (.cells #[.bool false, .bool false, .bool false, .bool false, .bool false, .bool false, .bool false, .bool false, .bool false, .bool false, .bool false, .bool false, .bool false, .bool false, .bool false, .bool false, .bool false, .bool false, .bool false, .bool false, .bool false, .bool false, .bool false, .bool false, .bool false, .bool false, .bool false, .bool false, .bool false, .bool false, .bool false, .bool false, .bool false, .bool false, .bool false, .bool false, .bool false, .bool false, .bool false, .bool false, .bool false, .bool false, .bool false, .bool false, .bool false, .bool false, .bool false, .bool false, .bool false] 80)).alloc (.cells #[.bool false, .bool false, .bool false, .bool false, .bool false, .bool false, .bool false, .bool false, .bool false, .bool false, .bool false, .bool false, .bool false, .bool false, .bool false, .bool false, .bool false, .bool false, .bool false, .bool false, .bool false, .bool false, .bool false, .bool false, .bool false, .bool false, .bool false, .bool false, .bool false, .bool false, .bool false, .bool false, .bool false, .bool false, .bool false, .bool false, .bool false, .bool false, .bool false, .bool false, .bool false, .bool false, .bool false, .bool false, .bool false, .bool false, .bool false, .bool false, .bool false] 80)) (w.heap.size + 1) fun _ _ => false := by
    have := blk_new (w.alloc (.cells #[.bool false, .bool false, .bool false, .bool false, .bool false, .bool false, .bool false, .bool false, .bool false, .bool false, .bool false, .bool false, .bool false, .bool false, .bool false, .bool false, .bool false, .bool false, .bool false, .bool false, .bool false, .bool false, .bool false, .bool false, .bool false, .bool false, .bool false, .bool false, .bool false, .bool false, .bool false, .bool false, .bool false, .bool false, .bool false, .bool false, .bool false, .bool false, .bool false, .bool false, .bool false, .bool false, .bool false, .bool false, .bool false, .bool false, .bool false, .bool false, .bool false] 80)) 80 49 (fun _ => .bool false)
    rw [show (w.alloc (.cells #[.bool false, .bool false, .bool false, .bool false, .bool false, .bool false, .bool false, .bool false, .bool false, .bool false, .bool false, .bool false, .bool false, .bool false, .bool false, .bool false, .bool false, .bool false, .bool false, .bool false, .bool false, .bool false, .bool false, .bool false, .bool false, .bool false, .bool false, .bool false, .bool false, .bool false, .bool false, .bool false, .bool false, .bool false, .bool false, .bool false, .bool false, .bool false, .bool false, .bool false, .bool false, .bool false, .bool false, .bool false, .bool false, .bool false, .bool false, .bool false, .bool false] 80)).heap.size = w.heap.size + 1 by simp] at this; exact this
  have HP := Lib.hid (part_any hh v _ (Ops.keep hv hb0))
  have Hrow := Lib.hid (fun (i : Nat) (hi : i < (partN h).length) => part_row hh hi)
  have h40 : (partN h).length ≤ 40 := by have := part_le h; have := hh.le; omega
  obtain ⟨a0, c0, rfl⟩ := ops_slice hv
  clear hv hh
  obtain ⟨H, hH⟩ : ∃ H, H = partN h := ⟨_, rfl⟩
  rw [← hH] at HP Hrow h40 ⊢
  clear hH
  obtain ⟨w1, hw1⟩ : ∃ w1, w1 = (w.alloc (.cells #[.bool false, .bool false, .bool false, .bool false, .bool false, .bool false, .bool false, .bool false, .bool false, .bool false, .bool false, .bool false, .bool false, .bool false, .bool false, .bool false, .bool false, .bool false, .bool false, .bool false, .bool false, .bool false, .bool false, .bool false, .bool false, .bool false, .bool false, .bool false, .bool false, .bool false, .bool false, .bool false, .bool false, .bool false, .bool false, .bool false, .bool false, .bool false, .bool false, .bool false, .bool false, .bool false, .bool false, .bool false, .bool false, .bool false, .bool false, .bool false, .bool false] 80)).alloc (.cells #[.bool false, .bool false, .bool false, .bool false, .bool false, .bool false, .bool false, .bool false, .bool false, .bool false, .bool false, .bool false, .bool false, .bool false, .bool false, .bool false, .bool false, .bool false, .bool false, .bool false, .bool false, .bool false, .bool false, .bool false, .bool false, .bool false, .bool false, .bool false, .bool false, .bool false, .bool false, .bool false, .bool false, .bool false, .bool false, .bool false, .bool false, .bool false, .bool false, .bool false, .bool false, .bool false, .bool false, .bool false, .bool false, .bool false, .bool false, .bool false, .bool false] 80) := ⟨_, rfl⟩
  rw [← hw1] at HP hb0 hB1 hB2
  have Hw1 := Lib.hid hw1
  have Hb0 := Lib.hid hb0
  have HB1 := Lib.hid hB1
  have HB2 := Lib.hid hB2
  clear hw1 hb0 hB1 hB2
  go_enter Try.func59, Try.ntmps59
  go_wp2_with fail
  rw [← Hw1.out]
  clear Hw1
  refine HP.out.mono ?_
  rintro e w2 ⟨v2, rfl, ho2, hb2⟩
  obtain ⟨a, b, off, cap, rfl, hle, ha, hcap, hc⟩ := Ops.nat ho2.ops
  have hix := run_ix (P := Try.prog) (t := 23) (a := a) (len := H.length) (cap := cap) (b := b) (off := off) (s := 3) Try.underlying23 (by intro w; kernel_rfl) ha
  have hixj := fun n (hn : n ≤ H.length) => run_ix (P := Try.prog) (t := 23) (a := a) (len := n) (cap := cap) (b := b) (off := off) (s := 3) Try.underlying23 (by intro w; kernel_rfl) (fun h => ha (by omega))
  have hsub := fun k (hk : k ≤ H.length) w => Ops.sub (P := Try.prog) (a := a) (k := k) Try.underlying23 (by intro w; kernel_rfl) hcap hk w
  have hwb : w.heap.size + 1 < w1.heap.size := HB2.out.lt
  have Hwb := Lib.hid hwb
  have Hc := Lib.hid (fun (w3 : World) (hk : ∀ g, w1.heap.size ≤ g → g < w2.heap.size → w3.heap[g]? = w2.heap[g]?) => show ∀ i, i < H.length → w3.cell? ⟨b, off + i * 3, none⟩ = some (.int .i64 (tT H i : Nat)) ∧ w3.cell? ⟨b, off + i * 3 + 1, none⟩ = some (.int .i64 (tK H i : Nat)) ∧ w3.cell? ⟨b, off + i * 3 + 2, none⟩ = some (.int .i64 (tI H i : Nat)) from fun i hi => by
    have h3 : OwnOps 55 w1.heap.size w3 (.slice a H.length cap) (castO H) := own_block ho2 fun g hg => hk g (own_lt ho2 hg).1 (own_lt ho2 hg).2
    obtain ⟨a', b', off', cap', e, _, ha', _, hc'⟩ := Ops.nat h3.ops
    injection e with e1 _ e3
    subst e1
    have q := ha (by omega)
    have q' := ha' (by omega)
    rw [q] at q'
    injection q' with q'
    injection q' with q1 q2
    subst q1 q2
    exact hc' i hi)
  have Hb2 := Lib.hid (Below.tr Hb0.out hb2)
  have HM1 := Lib.hid (show MatB w2 w.heap.size fun _ _ => false from Blk.keep HB1.out hb2)
  have HM2 := Lib.hid (show MatB w2 (w.heap.size + 1) (edR H 0) from Blk.keep HB2.out hb2)
  have Hs2 := Lib.hid hb2.size
  have Hix := Lib.hid hix
  have Hixj := Lib.hid hixj
  have Hsub := Lib.hid hsub
  clear ho2 hb2 ha hc hix hixj hsub hcap hle HP HB1 HB2 Hb0 hwb
  go_wp2_with fail
  go_loopw [12] (fun i wr => ∃ k : Nat, i = .int .i64 k ∧ k ≤ H.length ∧ Below w.heap.size w wr ∧ MatB wr w.heap.size (fun _ _ => false) ∧ MatB wr (w.heap.size + 1) (edR H k) ∧ w2.heap.size ≤ wr.heap.size ∧ ∀ g, w1.heap.size ≤ g → g < w2.heap.size → wr.heap[g]? = w2.heap[g]?) (fun i _ => H.length - (intOf i).toNat)
  case atStart => exact ⟨0, rfl, Nat.zero_le _, Hb2.out, HM1.out, HM2.out, Nat.le_refl _, fun _ _ _ => rfl⟩
  case round =>
    clear Hb2 HM1 HM2
    obtain ⟨k, rfl, hk, hb, hV, hE, hs, hkp⟩ := hrel
    have Hb := Lib.hid hb
    have HV := Lib.hid hV
    have HE := Lib.hid hE
    have Hsz := Lib.hid hs
    have Hkp := Lib.hid hkp
    clear hb hV hE hs hkp
    by_cases hlt : k < H.length
    · obtain ⟨hc1, hc2, hc3⟩ := Hc.out wr Hkp.out k hlt
      have hixk := Hix.out k
      have hsk := Hsub.out k hk
      have Ho := Lib.hid (Hrow.out k hlt)
      obtain ⟨t, ht⟩ : ∃ t, t = tT H k := ⟨_, rfl⟩
      obtain ⟨q, hq⟩ : ∃ q, q = tK H k := ⟨_, rfl⟩
      obtain ⟨x, hx⟩ : ∃ x, x = tI H k := ⟨_, rfl⟩
      rw [← ht] at hc1 Ho
      rw [← hq] at hc2 Ho
      rw [← hx] at hc3
      have He := Lib.hid (And.intro ht (And.intro hq hx))
      clear ht hq hx
      have hbn := below_alloc wr (.cells #[.int .i64 t, .int .i64 q, .int .i64 x] 55)
      have Hb1 := Lib.hid (show Below w.heap.size w (wr.alloc (.cells #[.int .i64 t, .int .i64 q, .int .i64 x] 55)) from Below.tr Hb.out hbn)
      have HV1 := Lib.hid (show MatB (wr.alloc (.cells #[.int .i64 t, .int .i64 q, .int .i64 x] 55)) w.heap.size (fun _ _ => false) from Blk.keep HV.out hbn)
      have HE1 := Lib.hid (show MatB (wr.alloc (.cells #[.int .i64 t, .int .i64 q, .int .i64 x] 55)) (w.heap.size + 1) (edRIn H k (edR H k) 0) from Blk.keep HE.out hbn)
      have HC1 := Lib.hid (And.intro (cell_new wr #[.int .i64 t, .int .i64 q, .int .i64 x] 55 0) (And.intro (cell_new wr #[.int .i64 t, .int .i64 q, .int .i64 x] 55 1) (cell_new wr #[.int .i64 t, .int .i64 q, .int .i64 x] 55 2)))
      have Hs1 := Lib.hid (show w2.heap.size ≤ (wr.alloc (.cells #[.int .i64 t, .int .i64 q, .int .i64 x] 55)).heap.size from Nat.le_trans Hsz.out hbn.size)
      have Hk1 := Lib.hid (show ∀ g, w1.heap.size ≤ g → g < w2.heap.size → (wr.alloc (.cells #[.int .i64 t, .int .i64 q, .int .i64 x] 55)).heap[g]? = w2.heap[g]? from fun g h1 h2 => (hbn.block g (Nat.lt_of_lt_of_le h2 Hsz.out)).trans (Hkp.out g h1 h2))
      have Hob := Lib.hid (show w2.heap.size ≤ wr.heap.size from Hsz.out)
      clear HV HE hbn
      go_wp2_with fail
      generalize hob : wr.heap.size = ob at *
      clear hc1 hc2 hc3 hixk hob hsk Hb Hsz Hkp
      generalize wr.alloc (.cells #[.int .i64 t, .int .i64 q, .int .i64 x] 55) = w4 at *
      go_loopw [21] (fun i wx => ∃ j : Nat, i = .int .i64 j ∧ j ≤ k ∧ Below w.heap.size w wx ∧ MatB wx w.heap.size (fun _ _ => false) ∧ MatB wx (w.heap.size + 1) (edRIn H k (edR H k) j) ∧ (w2.heap.size ≤ wx.heap.size ∧ ∀ g, w1.heap.size ≤ g → g < w2.heap.size → wx.heap[g]? = w2.heap[g]?) ∧ wx.cell? ⟨ob, 0, none⟩ = some (.int .i64 t) ∧ wx.cell? ⟨ob, 1, none⟩ = some (.int .i64 q) ∧ wx.cell? ⟨ob, 2, none⟩ = some (.int .i64 x)) (fun i _ => k - (intOf i).toNat)
      case atStart => exact ⟨0, rfl, Nat.zero_le _, Hb1.out, HV1.out, HE1.out, ⟨Hs1.out, Hk1.out⟩, HC1.out.1, HC1.out.2.1, HC1.out.2.2⟩
      case round =>
        clear Hb1 HE1 HV1 HC1 Hs1 Hk1
        obtain ⟨j, rfl, hj, hb, hV, hE, hs, hc0, hc1, hc2⟩ := hrel
        have Hb := Lib.hid hb
        have HV := Lib.hid hV
        have HE := Lib.hid hE
        have Hsz := Lib.hid hs
        have HCo := Lib.hid (And.intro hc0 (And.intro hc1 hc2))
        clear hb hV hE hs hc0 hc1 hc2
        by_cases hjk : j < k
        · have hjl : j < H.length := by omega
          obtain ⟨hd1, hd2, hd3⟩ := Hc.out wr Hsz.out.2 j hjl
          have hixk := Hixj.out k hk j
          have Hp := Lib.hid (Hrow.out j hjl)
          have Hyes := Lib.hid (fun e : CfR H k j => edRIn_yes (E := edR H k) e)
          have Hno := Lib.hid (fun e : ¬ CfR H k j => edRIn_no (E := edR H k) e)
          have Hdf := Lib.hid (show CfR H k j ↔ Cf (tT H j) (tK H j) (tI H j) t q x by unfold CfR; rw [← He.out.1, ← He.out.2.1, ← He.out.2.2])
          obtain ⟨s, hs⟩ : ∃ s, s = tT H j := ⟨_, rfl⟩
          obtain ⟨r, hr⟩ : ∃ r, r = tK H j := ⟨_, rfl⟩
          obtain ⟨y, hy⟩ : ∃ y, y = tI H j := ⟨_, rfl⟩
          rw [← hs] at hd1 Hp Hyes Hdf
          rw [← hr] at hd2 Hdf Hp
          rw [← hy] at hd3 Hdf
          rw [← He.out.1] at Hyes
          clear hs hr hy
          have e0 := cell_new wr #[.int .i64 s, .int .i64 r, .int .i64 y] 55 0
          have e1 := cell_new wr #[.int .i64 s, .int .i64 r, .int .i64 y] 55 1
          have e2 := cell_new wr #[.int .i64 s, .int .i64 r, .int .i64 y] 55 2
          have hbn := below_alloc wr (.cells #[.int .i64 s, .int .i64 r, .int .i64 y] 55)
          have Hb3 := Lib.hid (show Below w.heap.size w (wr.alloc (.cells #[.int .i64 s, .int .i64 r, .int .i64 y] 55)) from Below.tr Hb.out hbn)
          have HV3 := Lib.hid (show MatB (wr.alloc (.cells #[.int .i64 s, .int .i64 r, .int .i64 y] 55)) w.heap.size (fun _ _ => false) from Blk.keep HV.out hbn)
          have HE3 := Lib.hid (show MatB (wr.alloc (.cells #[.int .i64 s, .int .i64 r, .int .i64 y] 55)) (w.heap.size + 1) (edRIn H k (edR H k) j) from Blk.keep HE.out hbn)
          have HC3 := Lib.hid (And.intro (Below.keep hbn HCo.out.1) (And.intro (Below.keep hbn HCo.out.2.1) (Below.keep hbn HCo.out.2.2)))
          have HD3 := Lib.hid (And.intro e0 (And.intro e1 e2))
          have HS3 := Lib.hid (show w2.heap.size ≤ (wr.alloc (.cells #[.int .i64 s, .int .i64 r, .int .i64 y] 55)).heap.size ∧ ∀ g, w1.heap.size ≤ g → g < w2.heap.size → (wr.alloc (.cells #[.int .i64 s, .int .i64 r, .int .i64 y] 55)).heap[g]? = w2.heap[g]? from ⟨Nat.le_trans Hsz.out.1 hbn.size, fun g h1 h2 => (hbn.block g (Nat.lt_of_lt_of_le h2 Hsz.out.1)).trans (Hsz.out.2 g h1 h2)⟩)
          have Hpb := Lib.hid (show ob < wr.heap.size from cell_lt HCo.out.1)
          clear HV HE HCo e0 e1 e2 hbn
          go_upto_region 9 with fail
          clear hd1 hd2 hd3 hixk
          generalize hp : wr.heap.size = pp at *
          clear hp Hb Hsz
          generalize wr.alloc (.cells #[.int .i64 s, .int .i64 r, .int .i64 y] 55) = w5 at *
          have c0 := HC3.out.1
          have c1 := HC3.out.2.1
          have c2 := HC3.out.2.2
          have d0 : w5.cell? ⟨pp, 0, none⟩ = some (.int .i64 s) := HD3.out.1
          have d1 : w5.cell? ⟨pp, 1, none⟩ = some (.int .i64 r) := HD3.out.2.1
          have d2 : w5.cell? ⟨pp, 2, none⟩ = some (.int .i64 y) := HD3.out.2.2
          have ho := Ho.out
          have hp := Hp.out
          have hwr : IntKind.i64.wrap ((q : Int) + (r : Int)) = (q : Int) + (r : Int) := IntWalk.i64_in _ ⟨by omega, by omega⟩
          by_cases f0 : q ≤ 1
          · have q0 : (q : Int) < 2 := by omega
            by_cases f1 : r ≤ 1
            · have q1 : (r : Int) < 2 := by omega
              by_cases f2 : 0 < q + r
              · have q2 : ((q : Int) + (r : Int)) > 0 := by omega
                by_cases f3 : x = y
                · have q3 : ((x : Int) == (y : Int)) = true := by rw [beq_iff_eq]; omega
                  by_cases f4 : t ≠ s
                  · have q4 : ((t : Int) != (s : Int)) = true := by rw [bne_iff_ne]; omega
                    have R := Lib.hid (Hyes.out (Hdf.out.2 (by unfold Cf; omega)))
                    clear f0 f1 f2 f3 f4
                    go_upto_region 10 with fail
                    have hs7 : (s : Int) < 7 := by omega
                    have ht7 : (t : Int) < 7 := by omega
                    have hs0 : (0 : Int) ≤ (s : Int) := by omega
                    have ht0 : (0 : Int) ≤ (t : Int) := by omega
                    have hfz := Blk.fz HE3.out (s * 7 + t)
                    have hme := Blk.at HE3.out (show s * 7 + t < 49 by omega)
                    have hz66 := cells66
                    have hob := Hob.out
                    have hwb := Hwb.out
                    have hs2 := Hs2.out
                    have RE := Lib.hid (show MatB ((w5.setCell ⟨w.heap.size + 1, s * 7 + t, none⟩ (.bool true)).drew) (w.heap.size + 1) (edRIn H k (edR H k) (j + 1)) from by rw [R.out]; exact MatB.put HE3.out (by omega))
                    have RV := Lib.hid (show MatB ((w5.setCell ⟨w.heap.size + 1, s * 7 + t, none⟩ (.bool true)).drew) w.heap.size (fun _ _ => false) from Blk.other HV3.out (by omega) _)
                    have RB := Lib.hid (show Below w.heap.size w ((w5.setCell ⟨w.heap.size + 1, s * 7 + t, none⟩ (.bool true)).drew) from (Hb3.out.setCell (by simp) _).drew)
                    have RS := Lib.hid (show w2.heap.size ≤ ((w5.setCell ⟨w.heap.size + 1, s * 7 + t, none⟩ (.bool true)).drew).heap.size ∧ ∀ g, w1.heap.size ≤ g → g < w2.heap.size → ((w5.setCell ⟨w.heap.size + 1, s * 7 + t, none⟩ (.bool true)).drew).heap[g]? = w2.heap[g]? from ⟨by simpa using HS3.out.1, fun g h1 h2 => (heap_setCell_other w5 ⟨w.heap.size + 1, s * 7 + t, none⟩ g _ (show g ≠ w.heap.size + 1 by omega)).trans (HS3.out.2 g h1 h2)⟩)
                    have RC := Lib.hid (show ((w5.setCell ⟨w.heap.size + 1, s * 7 + t, none⟩ (.bool true)).drew).cell? ⟨ob, 0, none⟩ = some (.int .i64 t) ∧ ((w5.setCell ⟨w.heap.size + 1, s * 7 + t, none⟩ (.bool true)).drew).cell? ⟨ob, 1, none⟩ = some (.int .i64 q) ∧ ((w5.setCell ⟨w.heap.size + 1, s * 7 + t, none⟩ (.bool true)).drew).cell? ⟨ob, 2, none⟩ = some (.int .i64 x) from ⟨(cell_other (by omega)).trans c0, (cell_other (by omega)).trans c1, (cell_other (by omega)).trans c2⟩)
                    clear R HC3 HD3 HE3 HV3 Hb3 HS3 ho hp hob hwb hs2
                    go_region
                    all_goals
                      go_wp2_with fail
                      go_roundw
                      case rel => exact ⟨j + 1, by go_num, by omega, RB.out, RV.out, RE.out, RS.out, RC.out.1, RC.out.2.1, RC.out.2.2⟩
                      case measure => simp [intOf]; omega
                  · have q4 : ((t : Int) != (s : Int)) = false := by rw [bne_eq_false_iff_eq]; omega
                    have R := Lib.hid (Hno.out fun e => by have := Hdf.out.1 e; unfold Cf at this; omega)
                    clear f0 f1 f2 f3 f4
                    go_wp2_with fail
                    go_roundw
                    case rel => exact ⟨j + 1, by go_num, by omega, Hb3.out, HV3.out, HE3.out.congr R.out.symm, HS3.out, HC3.out.1, HC3.out.2.1, HC3.out.2.2⟩
                    case measure => simp [intOf]; omega
                · have q3 : ((x : Int) == (y : Int)) = false := by rw [beq_eq_false_iff_ne]; omega
                  have R := Lib.hid (Hno.out fun e => by have := Hdf.out.1 e; unfold Cf at this; omega)
                  clear f0 f1 f2 f3
                  go_wp2_with fail
                  go_roundw
                  case rel => exact ⟨j + 1, by go_num, by omega, Hb3.out, HV3.out, HE3.out.congr R.out.symm, HS3.out, HC3.out.1, HC3.out.2.1, HC3.out.2.2⟩
                  case measure => simp [intOf]; omega
              · have q2 : ¬ ((q : Int) + (r : Int)) > 0 := by omega
                have R := Lib.hid (Hno.out fun e => by have := Hdf.out.1 e; unfold Cf at this; omega)
                clear f0 f1 f2
                go_wp2_with fail
                go_roundw
                case rel => exact ⟨j + 1, by go_num, by omega, Hb3.out, HV3.out, HE3.out.congr R.out.symm, HS3.out, HC3.out.1, HC3.out.2.1, HC3.out.2.2⟩
                case measure => simp [intOf]; omega
            · have q1 : ¬ (r : Int) < 2 := by omega
              have R := Lib.hid (Hno.out fun e => by have := Hdf.out.1 e; unfold Cf at this; omega)
              clear f0 f1
              go_wp2_with fail
              go_roundw
              case rel => exact ⟨j + 1, by go_num, by omega, Hb3.out, HV3.out, HE3.out.congr R.out.symm, HS3.out, HC3.out.1, HC3.out.2.1, HC3.out.2.2⟩
              case measure => simp [intOf]; omega
          · have q0 : ¬ (q : Int) < 2 := by omega
            have R := Lib.hid (Hno.out fun e => by have := Hdf.out.1 e; unfold Cf at this; omega)
            clear f0
            go_wp2_with fail
            go_roundw
            case rel => exact ⟨j + 1, by go_num, by omega, Hb3.out, HV3.out, HE3.out.congr R.out.symm, HS3.out, HC3.out.1, HC3.out.2.1, HC3.out.2.2⟩
            case measure => simp [intOf]; omega
        · obtain rfl : j = k := by omega
          go_wp2_with fail
          go_roundw
          case rel => exact ⟨j + 1, by go_num, by omega, Hb.out, HV.out, HE.out, Hsz.out.1, Hsz.out.2⟩
          case measure => simp [intOf]; omega
    · obtain rfl : k = H.length := by omega
      have hB1 := HV.out
      have hB2 := HE.out
      unfold MatB Blk at hB1 hB2
      have hF : Blk (wr.setRow w.heap.size (mat (edR H H.length))) w.heap.size 80 49 (fun j => .bool (edR H H.length (j / 7) (j % 7))) := Blk.setRow HV.out _
      have hR : Below w.heap.size w (wr.setRow w.heap.size (mat (edR H H.length))) := below_setRow Hb.out (Nat.le_refl _) _
      have hS : (Try.prog.info? 80).map (·.size) = some (mat (edR H H.length)).size := by unfold mat; rw [row_size]; kernel_rfl
      have hM : mat (edR H H.length) = row 49 fun j => .bool (edR H H.length (j / 7) (j % 7)) := rfl
      rw [← hM] at hB2
      have h1 := mat_one (edR H H.length)
      have hsz : (row 49 fun _ => Value.bool false).size = (mat (edR H H.length)).size := by unfold mat; rw [row_size, row_size]
      have HB1 := Lib.hid hB1
      have HB2 := Lib.hid hB2
      have HS := Lib.hid hS
      have H1 := Lib.hid h1
      have HZ := Lib.hid hsz
      have HF := Lib.hid hF
      have HR := Lib.hid hR
      clear hB1 hB2 hS h1 hsz hF hR hM
      obtain ⟨L, hL⟩ : ∃ L, L = mat (edR H H.length) := ⟨_, rfl⟩
      rw [← hL] at HB2 HS H1 HZ HF HR
      have HL := Lib.hid hL
      clear hL
      go_wp2_with (first | (refine wpList_load_row rfl 80 (.tmp 3) rfl (w.heap.size + 1) rfl 80 L (0, 0) _ HB2.out undEdges rfl HS.out ?_) | (refine wpList_store_row rfl 80 (.tmp 2) (.tmp 63) rfl w.heap.size L rfl rfl 80 (row 49 fun _ => .bool false) HB1.out HS.out HZ.out H1.out ?_))
      exact bodyPost_ret (results_cell_row Try.results59 _ _ w.heap.size 80 L (0, 0) _ rfl (by have := HF.out; rw [HL.out] at this ⊢; exact this) undEdges rfl HS.out) rfl ⟨by rw [HL.out], HR.out⟩
#print axioms conflicts_any
end Go.Proofs.Ytpehbffkplmfjaa
