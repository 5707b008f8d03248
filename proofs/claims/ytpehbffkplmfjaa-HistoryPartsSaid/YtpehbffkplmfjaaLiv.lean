/- Contract of livesOf. -/
import Derived.Test.YtpehbffkplmfjaaVal
namespace Go.Proofs.Ytpehbffkplmfjaa
open Go.RowKit

/-- a slice of a history: what a walk takes of it -/
theorem Ops.nat {w : World} {v : Value} {h : List NOp} (hv : Ops w v (castO h)) : ∃ a b off cap, v = .slice a h.length cap ∧ h.length ≤ 9223372036854775807 ∧ (0 < h.length → a = some ⟨b, off, none⟩) ∧ h.length ≤ cap ∧
    ∀ i, i < h.length → w.cell? ⟨b, off + i * 3, none⟩ = some (.int .i64 (tT h i : Nat)) ∧ w.cell? ⟨b, off + i * 3 + 1, none⟩ = some (.int .i64 (tK h i : Nat)) ∧ w.cell? ⟨b, off + i * 3 + 2, none⟩ = some (.int .i64 (tI h i : Nat)) := by
  obtain ⟨a, b, off, cap, h1, h2, h3, h4, h5⟩ := Ops.get hv
  rw [castO_length] at h1 h2 h3 h4
  refine ⟨a, b, off, cap, h1, h2, h3, h4, fun i hi => ?_⟩
  have := h5 i (by rw [castO_length]; exact hi)
  rwa [(castO_at h i).1, (castO_at h i).2.1, (castO_at h i).2.2] at this
def lv (h : List NOp) (n j : Nat) : Nat := if j < 7 then beg h n j else if j < 14 then en h 2 n (j - 7) else en h 3 n (j - 14)
def lvF (h : List NOp) (n j : Nat) : Value := .int .i64 (lv h n j : Nat)
theorem lv_le (h : List NOp) {n : Nat} (hn : n ≤ 40) (j : Nat) : lv h n j ≤ 40 := by
  unfold lv; split
  · exact beg_le _ _ _
  · split
    · exact en_le _ _ _ _ hn
    · exact en_le _ _ _ _ hn
theorem lv_0 (h : List NOp) (j : Nat) : lv h 0 j = 40 := by
  unfold lv; split
  · rfl
  · split <;> rfl
/-- the lives of a history, as a value -/
def livA (h : List NOp) : Array Value := row 21 (lvF h h.length)
theorem lv_step (h : List NOp) (n j : Nat) (hT : tT h n < 7) : lv h (n + 1) j = if j = tT h n then min (lv h n j) n else if j = 7 + tT h n ∧ tK h n = 2 then n else if j = 14 + tT h n ∧ tK h n = 3 then n else lv h n j := by
  unfold lv
  by_cases h1 : j < 7
  · simp only [h1, if_true, beg]
    by_cases e : tT h n = j
    · simp only [e, if_true]
    · have e2 : ¬ j = tT h n := fun e2 => e e2.symm
      have e3 : ¬ (j = 7 + tT h n ∧ tK h n = 2) := by omega
      have e4 : ¬ (j = 14 + tT h n ∧ tK h n = 3) := by omega
      simp only [e, e2, e3, e4, if_false]
  · have e2 : ¬ j = tT h n := by omega
    simp only [h1, if_false, e2]
    by_cases h2 : j < 14
    · have e4 : ¬ (j = 14 + tT h n ∧ tK h n = 3) := by omega
      simp only [h2, if_true, en, e4, if_false]
      by_cases e : tT h n = j - 7 ∧ tK h n = 2
      · rw [if_pos e, if_pos (show j = 7 + tT h n ∧ tK h n = 2 by omega)]
      · rw [if_neg e, if_neg (show ¬ (j = 7 + tT h n ∧ tK h n = 2) by omega)]
    · have e3 : ¬ (j = 7 + tT h n ∧ tK h n = 2) := by omega
      simp only [h2, if_false, en, e3]
      by_cases e : j = 14 + tT h n ∧ tK h n = 3
      · rw [if_pos e, if_pos (show tT h n = j - 14 ∧ tK h n = 3 by omega)]
      · rw [if_neg e, if_neg (show ¬ (tT h n = j - 14 ∧ tK h n = 3) by omega)]
theorem row_one (h : List NOp) (n : Nat) : (row 21 (lvF h n)).all (·.oneCell') = true := by
  rw [Array.all_eq_true]
  intro i hi
  simp only [row, List.getElem_toArray, List.getElem_map, lvF]
  rfl
theorem Blk.setRow {w : World} {b : Nat} {t : TypeId} {n : Nat} {f : Nat → Value} (h : Blk w b t n f) (g : Nat → Value) : Blk (w.setRow b (row n g)) b t n g := by
  unfold Blk at *
  simp [World.setRow, Array.getElem?_modify, h]
theorem below_setRow {B : Nat} {a w : World} (h : Below B a w) {b : Nat} (hb : B ≤ b) (cs : Array Value) : Below B a (w.setRow b cs) :=
  ⟨h.os, h.tape, h.output, by simpa [World.setRow] using h.size, fun k hk => by
    have : b ≠ k := by omega
    simp only [World.setRow, Array.getElem?_modify]
    rw [if_neg this]
    exact h.block k hk⟩
theorem cellsZ (w : World) : Blk ((w.alloc (.cells #[.int .i64 0, .int .i64 0, .int .i64 0, .int .i64 0, .int .i64 0, .int .i64 0, .int .i64 0, .int .i64 0, .int .i64 0, .int .i64 0, .int .i64 0, .int .i64 0, .int .i64 0, .int .i64 0, .int .i64 0, .int .i64 0, .int .i64 0, .int .i64 0, .int .i64 0, .int .i64 0, .int .i64 0] 70)).alloc (.cells #[.int .i64 0, .int .i64 0, .int .i64 0, .int .i64 0, .int .i64 0, .int .i64 0, .int .i64 0, .int .i64 0, .int .i64 0, .int .i64 0, .int .i64 0, .int .i64 0, .int .i64 0, .int .i64 0, .int .i64 0, .int .i64 0, .int .i64 0, .int .i64 0, .int .i64 0, .int .i64 0, .int .i64 0] 70)) w.heap.size 70 21 (fun _ => .int .i64 0) ∧
    Blk ((w.alloc (.cells #[.int .i64 0, .int .i64 0, .int .i64 0, .int .i64 0, .int .i64 0, .int .i64 0, .int .i64 0, .int .i64 0, .int .i64 0, .int .i64 0, .int .i64 0, .int .i64 0, .int .i64 0, .int .i64 0, .int .i64 0, .int .i64 0, .int .i64 0, .int .i64 0, .int .i64 0, .int .i64 0, .int .i64 0] 70)).alloc (.cells #[.int .i64 0, .int .i64 0, .int .i64 0, .int .i64 0, .int .i64 0, .int .i64 0, .int .i64 0, .int .i64 0, .int .i64 0, .int .i64 0, .int .i64 0, .int .i64 0, .int .i64 0, .int .i64 0, .int .i64 0, .int .i64 0, .int .i64 0, .int .i64 0, .int .i64 0, .int .i64 0, .int .i64 0] 70)) (w.heap.size + 1) 70 21 (fun _ => .int .i64 0) :=
  ⟨Blk.keep (blk_new w 70 21 fun _ => .int .i64 0) (below_alloc _ _), by have := blk_new (w.alloc (.cells (row 21 fun _ => .int .i64 0) 70)) 70 21 (fun _ => .int .i64 0); rw [show (w.alloc (.cells (row 21 fun _ => .int .i64 0) 70)).heap.size = w.heap.size + 1 by simp] at this; exact this⟩
set_option maxRecDepth 100000 in
set_option maxHeartbeats 8000000 in
theorem livesOf_any {h : List NOp} (hh : VH h) (v : Value) (w : World) (hv : Ops w v (castO h)) :
    Calls Try.prog 52 #[v] w fun e w' => e = .returned (.agg (livA h)) ∧ Below w.heap.size w w' := by
  obtain ⟨a, b, off, cap, rfl, hle, ha, hcap, hc⟩ := Ops.nat hv
  have hix := run_ix (P := Try.prog) (t := 29) (a := a) (len := h.length) (cap := cap) (b := b) (off := off) (s := 3) Try.underlying29 (by intro w; kernel_rfl) ha
  have h40 := hh.le
  have Hc := Lib.hid hc
  have Hix := Lib.hid hix
  have HH := Lib.hid hh
  clear ha hv hc hix hcap hh hle
  go_enter Try.func52, Try.ntmps52
  go_wp2_with fail
  have hz := cellsZ w
  have hb1 : Below w.heap.size w ((w.alloc (.cells #[.int .i64 0, .int .i64 0, .int .i64 0, .int .i64 0, .int .i64 0, .int .i64 0, .int .i64 0, .int .i64 0, .int .i64 0, .int .i64 0, .int .i64 0, .int .i64 0, .int .i64 0, .int .i64 0, .int .i64 0, .int .i64 0, .int .i64 0, .int .i64 0, .int .i64 0, .int .i64 0, .int .i64 0] 70)).alloc (.cells #[.int .i64 0, .int .i64 0, .int .i64 0, .int .i64 0, .int .i64 0, .int .i64 0, .int .i64 0, .int .i64 0, .int .i64 0, .int .i64 0, .int .i64 0, .int .i64 0, .int .i64 0, .int .i64 0, .int .i64 0, .int .i64 0, .int .i64 0, .int .i64 0, .int .i64 0, .int .i64 0, .int .i64 0] 70)) := ((Below.refl _ _).alloc (Nat.le_refl _) _).alloc (by simp) _
  obtain ⟨w1, hw1⟩ : ∃ w1, w1 = (w.alloc (.cells #[.int .i64 0, .int .i64 0, .int .i64 0, .int .i64 0, .int .i64 0, .int .i64 0, .int .i64 0, .int .i64 0, .int .i64 0, .int .i64 0, .int .i64 0, .int .i64 0, .int .i64 0, .int .i64 0, .int .i64 0, .int .i64 0, .int .i64 0, .int .i64 0, .int .i64 0, .int .i64 0, .int .i64 0] 70)).alloc (.cells #[.int .i64 0, .int .i64 0, .int .i64 0, .int .i64 0, .int .i64 0, .int .i64 0, .int .i64 0, .int .i64 0, .int .i64 0, .int .i64 0, .int .i64 0, .int .i64 0, .int .i64 0, .int .i64 0, .int .i64 0, .int .i64 0, .int .i64 0, .int .i64 0, .int .i64 0, .int .i64 0, .int .i64 0] 70) := ⟨_, rfl⟩
  rw [← hw1] at hz hb1 ⊢
  have Hz := Lib.hid hz
  have Hb1 := Lib.hid hb1
  clear hw1 hz hb1
  go_loopw [7] (fun i wr => ∃ k : Nat, i = .int .i64 k ∧ k ≤ 7 ∧ Below w.heap.size w wr ∧ Blk wr w.heap.size 70 21 (fun _ => .int .i64 0) ∧ Blk wr (w.heap.size + 1) 70 21 (fun j => if j % 7 < k then .int .i64 40 else .int .i64 0)) (fun i _ => 7 - (intOf i).toNat)
  case atStart => exact ⟨0, rfl, by omega, Hb1.out, Hz.out.1, Hz.out.2⟩
  case round =>
    clear Hz Hb1
    obtain ⟨k, rfl, hk, hb, hB1, hB2⟩ := hrel
    have Hb := Lib.hid hb
    have HB1 := Lib.hid hB1
    have HB2 := Lib.hid hB2
    clear hb hB1 hB2
    by_cases hlt : k < 7
    · have hki : (k : Int) < 7 := by omega
      have c1 := HB2.out.at (show k < 21 by omega)
      have c2 := HB2.out.at (show 7 + k < 21 by omega)
      have c3 := HB2.out.at (show 14 + k < 21 by omega)
      have f1 := HB2.out.fz k
      have f2 := HB2.out.fz (7 + k)
      have f3 := HB2.out.fz (14 + k)
      have n1 : ¬ k = 7 + k := by omega
      have n2 : ¬ k = 14 + k := by omega
      have n3 : ¬ 7 + k = 14 + k := by omega
      have R := Lib.hid (((HB2.out.put k (.int .i64 40)).put (7 + k) (.int .i64 40)).put (14 + k) (.int .i64 40) |>.congr (g := fun j => if j % 7 < k + 1 then .int .i64 40 else .int .i64 0) (fun j hj => by
        by_cases e : j % 7 = k
        · rw [if_pos (show j % 7 < k + 1 by omega)]
          by_cases e3 : j = 14 + k
          · rw [if_pos e3]
          · rw [if_neg e3]
            by_cases e2 : j = 7 + k
            · rw [if_pos e2]
            · rw [if_neg e2, if_pos (show j = k by omega)]
        · rw [if_neg (show ¬ j = 14 + k by omega), if_neg (show ¬ j = 7 + k by omega), if_neg (show ¬ j = k by omega)]
          by_cases e4 : j % 7 < k
          · rw [if_pos e4, if_pos (show j % 7 < k + 1 by omega)]
          · rw [if_neg e4, if_neg (show ¬ j % 7 < k + 1 by omega)]))
      have R1 := Lib.hid (show Below w.heap.size w (((wr.setCell ⟨w.heap.size + 1, k, none⟩ (.int .i64 40)).setCell ⟨w.heap.size + 1, 7 + k, none⟩ (.int .i64 40)).setCell ⟨w.heap.size + 1, 14 + k, none⟩ (.int .i64 40)) from ((Hb.out.setCell (by simp) _).setCell (by simp) _).setCell (by simp) _)
      have R2 := Lib.hid (show Blk (((wr.setCell ⟨w.heap.size + 1, k, none⟩ (.int .i64 40)).setCell ⟨w.heap.size + 1, 7 + k, none⟩ (.int .i64 40)).setCell ⟨w.heap.size + 1, 14 + k, none⟩ (.int .i64 40)) w.heap.size 70 21 (fun _ => .int .i64 0) from ((HB1.out.other (by omega) _).other (by omega) _).other (by omega) _)
      go_wp2_with fail
      go_roundw
      case rel => exact ⟨k + 1, by go_num, by omega, R1.out, R2.out, R.out⟩
      case measure => simp [intOf]; omega
    · obtain rfl : k = 7 := by omega
      have HB3 := Lib.hid (show Blk wr (w.heap.size + 1) 70 21 (lvF h 0) from HB2.out.congr fun j hj => by
        rw [if_pos (by omega)]; unfold lvF; rw [lv_0]; rfl)
      clear HB2
      go_wp2_with fail
      obtain ⟨wo, rfl⟩ : ∃ wo : World, wo = wr := ⟨_, rfl⟩
      go_loopw [22] (fun i wx => ∃ k : Nat, i = .int .i64 k ∧ k ≤ h.length ∧ Below w.heap.size w wx ∧ Blk wx w.heap.size 70 21 (fun _ => .int .i64 0) ∧ Blk wx (w.heap.size + 1) 70 21 (lvF h k)) (fun i _ => h.length - (intOf i).toNat)
      case atStart => exact ⟨0, rfl, Nat.zero_le _, Hb.out, HB1.out, HB3.out⟩
      case round =>
        clear Hb HB1 HB3
        obtain ⟨k, rfl, hk, hb, hB1, hB2⟩ := hrel
        have Hb := Lib.hid hb
        have HB1 := Lib.hid hB1
        have HB2 := Lib.hid hB2
        clear hb hB1 hB2
        by_cases hlt : k < h.length
        · have hc1 := Below.keep Hb.out (Hc.out k hlt).1
          have hc2 := Below.keep Hb.out (Hc.out k hlt).2.1
          have hc3 := Below.keep Hb.out (Hc.out k hlt).2.2
          have hixk := Hix.out k
          have ht6 := HH.out.t6 k hlt
          have Hst := Lib.hid (fun j => lv_step h k j (by omega))
          have hm40 := lv_le h (n := k) (by omega) (tT h k)
          obtain ⟨t, ht⟩ : ∃ t, t = tT h k := ⟨_, rfl⟩
          obtain ⟨q, hq⟩ : ∃ q, q = tK h k := ⟨_, rfl⟩
          obtain ⟨x, hx⟩ : ∃ x, x = tI h k := ⟨_, rfl⟩
          rw [← ht] at hc1 ht6 hm40 Hst
          rw [← hq] at hc2 Hst
          rw [← hx] at hc3
          obtain ⟨ht1, ht2⟩ := ht6
          obtain ⟨m, hm⟩ : ∃ m, m = lv h k t := ⟨_, rfl⟩
          have Hm := Lib.hid hm
          rw [← hm] at hm40
          clear ht hq hx hm
          have hti : (t : Int) < 7 := by omega
          have ht0 : (0 : Int) ≤ (t : Int) := by omega
          have e0 := cell_new wr #[.int .i64 t, .int .i64 q, .int .i64 x] 58 0
          have e1 := cell_new wr #[.int .i64 t, .int .i64 q, .int .i64 x] 58 1
          have Hsz := Lib.hid (show w.heap.size + 1 < wr.heap.size from HB2.out.lt)
          have Hw1 := Lib.hid (show Below w.heap.size w (wr.alloc (.cells #[.int .i64 t, .int .i64 q, .int .i64 x] 58)) from Hb.out.alloc Hb.out.size _)
          have HA1 := Lib.hid (HB1.out.keep (below_alloc wr (.cells #[.int .i64 t, .int .i64 q, .int .i64 x] 58)))
          have HA2 := Lib.hid (HB2.out.keep (below_alloc wr (.cells #[.int .i64 t, .int .i64 q, .int .i64 x] 58)))
          go_upto_region 10 with fail
          have E0 := Lib.hid (show (wr.alloc (.cells #[.int .i64 t, .int .i64 q, .int .i64 x] 58)).cell? ⟨wr.heap.size, 0, none⟩ = some (.int .i64 t) from e0)
          have E1 := Lib.hid (show (wr.alloc (.cells #[.int .i64 t, .int .i64 q, .int .i64 x] 58)).cell? ⟨wr.heap.size, 1, none⟩ = some (.int .i64 q) from e1)
          clear e0 e1 hc1 hc2 hc3 hixk
          generalize wr.alloc (.cells #[.int .i64 t, .int .i64 q, .int .i64 x] 58) = w2 at *
          go_cut [] (fun w3 => (Blk w3 w.heap.size 70 21 (fun _ => .int .i64 0) ∧ Blk w3 (w.heap.size + 1) 70 21 (fun j => if j = t then .int .i64 (min m k : Nat) else lvF h k j)) ∧ Below w.heap.size w w3 ∧ w3.cell? ⟨wr.heap.size, 0, none⟩ = some (.int .i64 t) ∧ w3.cell? ⟨wr.heap.size, 1, none⟩ = some (.int .i64 q))
          case first =>
            have d0 := E0.out
            have dt := HA2.out.at (show t < 21 by omega)
            unfold lvF at dt
            rw [← Hm.out] at dt
            have df := HA2.out.fz t
            have HV := Lib.hid (fun (V : Nat) (hV : V = min m k) => (show (Blk (w2.setCell ⟨w.heap.size + 1, t, none⟩ (.int .i64 V)).drew w.heap.size 70 21 (fun _ => .int .i64 0) ∧ Blk (w2.setCell ⟨w.heap.size + 1, t, none⟩ (.int .i64 V)).drew (w.heap.size + 1) 70 21 (fun j => if j = t then .int .i64 (min m k : Nat) else lvF h k j)) ∧ Below w.heap.size w (w2.setCell ⟨w.heap.size + 1, t, none⟩ (.int .i64 V)).drew ∧ (w2.setCell ⟨w.heap.size + 1, t, none⟩ (.int .i64 V)).drew.cell? ⟨wr.heap.size, 0, none⟩ = some (.int .i64 t) ∧ (w2.setCell ⟨w.heap.size + 1, t, none⟩ (.int .i64 V)).drew.cell? ⟨wr.heap.size, 1, none⟩ = some (.int .i64 q) from by
              subst hV
              exact ⟨⟨HA1.out.other (by omega) _, HA2.out.put t _⟩, (Hw1.out.setCell (by simp) _).drew, (cell_other (by have := Hsz.out; omega)).trans E0.out, (cell_other (by have := Hsz.out; omega)).trans E1.out⟩))
            by_cases hkm : k < m
            · have R := Lib.hid (HV.out k (by omega))
              go_region
              go_wp2_with fail
              go_meet
              exact R.out
            · have R := Lib.hid (HV.out m (by omega))
              go_region
              go_wp2_with fail
              go_meet
              exact R.out
          case rest =>
          obtain ⟨⟨hC1, hC2⟩, hC3, hC4, hC5⟩ := hcut
          have HC1 := Lib.hid hC1
          have HC2 := Lib.hid hC2
          have HC3 := Lib.hid hC3
          have HC4 := Lib.hid hC4
          have HC5 := Lib.hid hC5
          clear hC1 hC2 hC3 hC4 hC5 E0 E1 HA1 HA2 Hw1
          generalize wc = w3 at *
          have d0 := HC4.out
          have d1 := HC5.out
          have g1 := HC2.out.at (show 7 + t < 21 by omega)
          have g2 := HC2.out.at (show 14 + t < 21 by omega)
          have g3 := HC2.out.fz (7 + t)
          have g4 := HC2.out.fz (14 + t)
          by_cases h2 : q = 2
          · have q2 : ((q : Int) == 2) = true := by rw [beq_iff_eq]; omega
            have RA := Lib.hid (show Blk (w3.setCell ⟨w.heap.size + 1, 7 + t, none⟩ (.int .i64 k)) (w.heap.size + 1) 70 21 (lvF h (k + 1)) from (HC2.out.put (7 + t) (.int .i64 k)).congr fun j hj => by
              unfold lvF; rw [Hst.out j]
              by_cases e1 : j = t
              · rw [if_neg (by omega), if_pos e1, if_pos e1, e1, ← Hm.out]
              · rw [if_neg e1, if_neg e1]
                by_cases e2 : j = 7 + t
                · rw [if_pos e2, if_pos ⟨e2, h2⟩]
                · rw [if_neg e2, if_neg (show ¬ (j = 7 + t ∧ q = 2) from fun h => e2 h.1), if_neg (show ¬ (j = 14 + t ∧ q = 3) by omega)])
            have RB := Lib.hid (show Below w.heap.size w (w3.setCell ⟨w.heap.size + 1, 7 + t, none⟩ (.int .i64 k)) from HC3.out.setCell (by simp) _)
            have RC := Lib.hid (show Blk (w3.setCell ⟨w.heap.size + 1, 7 + t, none⟩ (.int .i64 k)) w.heap.size 70 21 (fun _ => .int .i64 0) from HC1.out.other (by omega) _)
            clear h2
            go_wp2_with fail
            go_roundw
            case rel => exact ⟨k + 1, by go_num, by omega, RB.out, RC.out, RA.out⟩
            case measure => simp [intOf]; omega
          · have q2 : ((q : Int) == 2) = false := by rw [beq_eq_false_iff_ne]; omega
            by_cases h3 : q = 3
            · have q3 : ((q : Int) == 3) = true := by rw [beq_iff_eq]; omega
              have RA := Lib.hid (show Blk (w3.setCell ⟨w.heap.size + 1, 14 + t, none⟩ (.int .i64 k)) (w.heap.size + 1) 70 21 (lvF h (k + 1)) from (HC2.out.put (14 + t) (.int .i64 k)).congr fun j hj => by
                unfold lvF; rw [Hst.out j]
                by_cases e1 : j = t
                · rw [if_neg (by omega), if_pos e1, if_pos e1, e1, ← Hm.out]
                · have e3 : ¬ (j = 7 + t ∧ q = 2) := fun h => h2 h.2
                  rw [if_neg e1, if_neg e1, if_neg e3]
                  by_cases e2 : j = 14 + t
                  · rw [if_pos e2, if_pos ⟨e2, h3⟩]
                  · rw [if_neg e2, if_neg (show ¬ (j = 14 + t ∧ q = 3) from fun h => e2 h.1)])
              have RB := Lib.hid (show Below w.heap.size w (w3.setCell ⟨w.heap.size + 1, 14 + t, none⟩ (.int .i64 k)) from HC3.out.setCell (by simp) _)
              have RC := Lib.hid (show Blk (w3.setCell ⟨w.heap.size + 1, 14 + t, none⟩ (.int .i64 k)) w.heap.size 70 21 (fun _ => .int .i64 0) from HC1.out.other (by omega) _)
              clear h2 h3
              go_wp2_with fail
              go_roundw
              case rel => exact ⟨k + 1, by go_num, by omega, RB.out, RC.out, RA.out⟩
              case measure => simp [intOf]; omega
            · have q3 : ((q : Int) == 3) = false := by rw [beq_eq_false_iff_ne]; omega
              have RA := Lib.hid (show Blk w3 (w.heap.size + 1) 70 21 (lvF h (k + 1)) from HC2.out.congr fun j hj => by
                unfold lvF; rw [Hst.out j]
                by_cases e1 : j = t
                · rw [if_pos e1, if_pos e1, e1, ← Hm.out]
                · rw [if_neg e1, if_neg e1, if_neg (show ¬ (j = 7 + t ∧ q = 2) from fun h => h2 h.2), if_neg (show ¬ (j = 14 + t ∧ q = 3) from fun h => h3 h.2)])
              clear h2 h3
              go_wp2_with fail
              go_roundw
              case rel => exact ⟨k + 1, by go_num, by omega, HC3.out, HC1.out, RA.out⟩
              case measure => simp [intOf]; omega
        · obtain rfl : k = h.length := by omega
          have hB1 := HB1.out
          have hB2 := HB2.out
          unfold Blk at hB1 hB2
          go_wp2_with (first | (refine wpList_load_row rfl 70 (.tmp 3) rfl (w.heap.size + 1) rfl 70 (row 21 (lvF h h.length)) (0, 0) _ hB2 Try.underlying70 rfl (by rw [row_size]; exact sizeLives) ?_) | (refine wpList_store_row rfl 70 (.tmp 2) (.tmp 55) rfl w.heap.size (row 21 (lvF h h.length)) rfl rfl 70 (row 21 fun _ => .int .i64 0) hB1 (by rw [row_size]; exact sizeLives) (by rw [row_size, row_size]) (row_one _ _) ?_))
          have hF : Blk (wr.setRow w.heap.size (row 21 (lvF h h.length))) w.heap.size 70 21 (lvF h h.length) := HB1.out.setRow _
          have hR : Below w.heap.size w (wr.setRow w.heap.size (row 21 (lvF h h.length))) := below_setRow Hb.out (Nat.le_refl _) _
          exact bodyPost_ret (results_cell_row Try.results52 _ _ w.heap.size 70 (row 21 (lvF h h.length)) (0, 0) _ rfl hF Try.underlying70 rfl (by rw [row_size]; exact sizeLives)) rfl ⟨rfl, hR⟩
#print axioms livesOf_any
end Go.Proofs.Ytpehbffkplmfjaa
