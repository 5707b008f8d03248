/- Views: what a run has read and written last; the contract of (*view).do. -/
import Derived.Test.YtpehbffkplmfjaaEdg
namespace Go.Proofs.Ytpehbffkplmfjaa
open Go.RowKit
/-- a view in a block: cells 0 to 39 what each operation reads, cells 40 to 45 the last writers -/
def VwB (w : World) (b : Nat) (V : Nat → Nat) : Prop := Blk w b 88 46 fun j => .int .i64 (V j : Nat)
/-- operation i comes next -/
def doV (h : List NOp) (i : Nat) (V : Nat → Nat) : Nat → Nat :=
  if tK h i = 0 then fun j => if j = i then V (40 + tI h i) else V j
  else if tK h i = 1 then fun j => if j = 40 + tI h i then tT h i else V j
  else V
theorem VwB.congr {w : World} {b : Nat} {V U : Nat → Nat} (h : VwB w b V) (e : ∀ j, j < 46 → V j = U j) : VwB w b U := Blk.congr h fun j hj => by rw [e j hj]
set_option maxRecDepth 100000 in
set_option maxHeartbeats 8000000 in
theorem do_any {h : List NOp} (hh : VH h) {i : Nat} (hi : i < h.length) {V : Nat → Nat} {b : Nat} (v : Value) (w : World) (hv : Ops w v (castO h)) (hV : VwB w b V) :
    Calls Try.prog 61 #[.pointer (some ⟨b, 0, none⟩), v, .int .i64 i] w fun e w' => e = .returned (.tuple #[]) ∧ VwB w' b (doV h i V) ∧ w.grownBy w' (some b) := by
  obtain ⟨a, bl, off, cap, rfl, hle, ha, hcap, hc⟩ := Ops.nat hv
  have hix := run_ix (P := Try.prog) (t := 29) (a := a) (len := h.length) (cap := cap) (b := bl) (off := off) (s := 3) Try.underlying29 (by intro w; kernel_rfl) ha
  have h40 := hh.le
  have hixi := hix i
  obtain ⟨hc1, hc2, hc3⟩ := hc i hi
  have hx6 := (hh.x5 i hi).1
  have hd : doV h i V = if tK h i = 0 then fun j => if j = i then V (40 + tI h i) else V j else if tK h i = 1 then fun j => if j = 40 + tI h i then tT h i else V j else V := rfl
  obtain ⟨D, hD⟩ : ∃ D, D = doV h i V := ⟨_, rfl⟩
  rw [← hD] at hd ⊢
  obtain ⟨t, ht⟩ : ∃ t, t = tT h i := ⟨_, rfl⟩
  obtain ⟨q, hq⟩ : ∃ q, q = tK h i := ⟨_, rfl⟩
  obtain ⟨x, hx⟩ : ∃ x, x = tI h i := ⟨_, rfl⟩
  rw [← ht, ← hq, ← hx] at hd
  rw [← ht] at hc1
  rw [← hq] at hc2
  rw [← hx] at hc3 hx6
  have Hb := Lib.hid hV.lt
  have Hg2 := Lib.hid (World.grownBy_alloc w (.cells #[.int .i64 t, .int .i64 q, .int .i64 x] 58) (some b))
  have hV2 : VwB (w.alloc (.cells #[.int .i64 t, .int .i64 q, .int .i64 x] 58)) b V := Blk.keep hV (below_alloc w (.cells #[.int .i64 t, .int .i64 q, .int .i64 x] 58))
  have hcx := Blk.at hV2 (show 40 + x < 46 by omega)
  have hfi := Blk.fz hV2 i
  have hfx := Blk.fz hV2 (40 + x)
  have hci := Blk.at hV2 (show i < 46 by omega)
  have hii : (i : Int) < 40 := by omega
  have hi0 : (0 : Int) ≤ (i : Int) := by omega
  have hxi : (x : Int) < 6 := by omega
  have hx0 : (0 : Int) ≤ (x : Int) := by omega
  have e0 := cell_new w #[.int .i64 t, .int .i64 q, .int .i64 x] 58 0
  have e1 := cell_new w #[.int .i64 t, .int .i64 q, .int .i64 x] 58 1
  have e2 := cell_new w #[.int .i64 t, .int .i64 q, .int .i64 x] 58 2
  have HV2 := Lib.hid hV2
  have Hd := Lib.hid hd
  obtain ⟨z, hz⟩ : ∃ z, z = V (40 + x) := ⟨_, rfl⟩
  rw [← hz] at hcx
  have Hz := Lib.hid hz
  clear hd hD ht hq hx hc hix hv hV ha hle hcap hV2 hh hz
  by_cases q0 : q = 0
  · subst q0
    have R := Lib.hid (fun (w2 : World) (h2 : VwB w2 b V) => show VwB (w2.setCell ⟨b, i, none⟩ (.int .i64 z)).drew b D from by
      refine Blk.congr (show Blk (w2.setCell ⟨b, i, none⟩ (.int .i64 z)).drew b 88 46 _ from Blk.put h2 i (.int .i64 z)) fun j _ => ?_
      rw [Hd.out, if_pos rfl, Hz.out]
      by_cases e : j = i
      · simp only [e, if_true]
      · simp only [e, if_false])
    have R2 := Lib.hid (fun (w2 : World) (h2 : w.grownBy w2 (some b)) => show w.grownBy (w2.setCell ⟨b, i, none⟩ (.int .i64 z)).drew (some b) from
      ⟨h2.os, h2.tape, h2.output, by simpa using h2.size, fun k hk hne => (heap_setCell_other w2 ⟨b, i, none⟩ k _ (fun e => hne (by rw [e]))).trans (h2.block k hk hne)⟩)
    go_enter Try.func61, Try.ntmps61
    go_wp2_with fail
    generalize w.heap.size = pb at *
    generalize w.alloc (.cells #[.int .i64 t, .int .i64 (0 : Nat), .int .i64 x] 58) = w2 at *
    go_region
    all_goals
      go_wp2_with fail
      go_end0
      exact ⟨rfl, R.out _ HV2.out, R2.out _ Hg2.out⟩
  · have q1 : ((q : Int) == 0) = false := by rw [beq_eq_false_iff_ne]; omega
    by_cases q2 : q = 1
    · subst q2
      have R := Lib.hid (fun (w2 : World) (h2 : VwB w2 b V) => show VwB (w2.setCell ⟨b, 40 + x, none⟩ (.int .i64 t)).drew b D from by
        refine Blk.congr (show Blk (w2.setCell ⟨b, 40 + x, none⟩ (.int .i64 t)).drew b 88 46 _ from Blk.put h2 (40 + x) (.int .i64 t)) fun j _ => ?_
        rw [Hd.out, if_neg (show ¬ ((1 : Nat) = 0) by decide), if_pos rfl]
        by_cases e : j = 40 + x
        · simp only [e, if_true]
        · simp only [e, if_false])
      have R2 := Lib.hid (fun (w2 : World) (h2 : w.grownBy w2 (some b)) => show w.grownBy (w2.setCell ⟨b, 40 + x, none⟩ (.int .i64 t)).drew (some b) from
        ⟨h2.os, h2.tape, h2.output, by simpa using h2.size, fun k hk hne => (heap_setCell_other w2 ⟨b, 40 + x, none⟩ k _ (fun e => hne (by rw [e]))).trans (h2.block k hk hne)⟩)
      clear q0 q1
      go_enter Try.func61, Try.ntmps61
      go_wp2_with fail
      generalize w.heap.size = pb at *
      generalize w.alloc (.cells #[.int .i64 t, .int .i64 (1 : Nat), .int .i64 x] 58) = w2 at *
      go_region
      all_goals
        go_wp2_with fail
        go_end0
        exact ⟨rfl, R.out _ HV2.out, R2.out _ Hg2.out⟩
    · have R := Lib.hid (show D = V from by rw [Hd.out, if_neg q0, if_neg q2])
      have q3 : ((q : Int) == 1) = false := by rw [beq_eq_false_iff_ne]; omega
      clear q0 q2
      go_enter Try.func61, Try.ntmps61
      go_wp2_with fail
      go_end0
      exact ⟨rfl, by rw [R.out]; exact HV2.out, Hg2.out⟩
#print axioms do_any
end Go.Proofs.Ytpehbffkplmfjaa
