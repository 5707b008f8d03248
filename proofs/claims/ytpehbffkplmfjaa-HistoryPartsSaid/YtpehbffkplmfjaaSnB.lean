/- The reference's writes and begin. The reference's reads. The reference's overlap. The math of snapshots: the program's sets of items are what the reference asks. The math of the edges under snapshots: the program's and the reference's. Contract of Danger's closure. Contract of Danger. -/
import Derived.Test.YtpehbffkplmfjaaSnA
import Derived.Test.YtpehbffkplmfjaaEnd
import Derived.Test.YtpehbffkplmfjaaCfm
namespace Go.Proofs.Ytpehbffkplmfjaa
open Go.RowKit
/-- transaction t writes item x -/
def WrP (h : List NOp) (t x : Nat) : Prop := ∃ i, i < h.length ∧ tT h i = t ∧ tK h i = 1 ∧ tI h i = x
set_option maxRecDepth 100000 in
set_option maxHeartbeats 4000000 in
theorem writesR_any {h : List NOp} (hh : VH h) (t x : Nat) (v : Value) (w : World) (hv : Ops w v (castO h)) :
    Calls Try.prog 76 #[v, .int .i64 t, .int .i64 x] w fun e w' => ∃ B : Bool, e = .returned (.bool B) ∧ (B = true ↔ WrP h t x) ∧ Below w.heap.size w w' := by
  obtain ⟨a, bl, off, cap, rfl, hle, ha, hcap, hc⟩ := Ops.nat hv
  have hix := run_ix (P := Try.prog) (t := 23) (a := a) (len := h.length) (cap := cap) (b := bl) (off := off) (s := 3) Try.underlying23 (by intro w; kernel_rfl) ha
  have h40 := hh.le
  have Hc := Lib.hid hc
  have Hix := Lib.hid hix
  clear hc hix ha hle hcap hv hh
  go_enter Try.func76, Try.ntmps76
  go_wp2_with fail
  go_loopw [11] (fun vk wr => ∃ k : Nat, vk = .int .i64 k ∧ k ≤ h.length ∧ Below w.heap.size w wr ∧ ∀ i, i < k → ¬ (tT h i = t ∧ tK h i = 1 ∧ tI h i = x)) (fun vk _ => h.length - (intOf vk).toNat)
  case atStart => exact ⟨0, rfl, Nat.zero_le _, Below.refl _ _, fun i hi => by omega⟩
  case round =>
    obtain ⟨k, rfl, hk, hb, hno⟩ := hrel
    obtain ⟨wA, hwA⟩ : ∃ wA : World, wA = wr := ⟨_, rfl⟩
    subst hwA
    have Hb := Lib.hid hb
    have Hno := Lib.hid hno
    clear hb hno
    by_cases hlt : k < h.length
    · have hc1 := Below.keep Hb.out (Hc.out k hlt).1
      have hc2 := Below.keep Hb.out (Hc.out k hlt).2.1
      have hc3 := Below.keep Hb.out (Hc.out k hlt).2.2
      have hixk := Hix.out k
      have HY := Lib.hid (fun (q : tT h k = t ∧ tK h k = 1 ∧ tI h k = x) => show WrP h t x from ⟨k, hlt, q⟩)
      have HN := Lib.hid (fun (q : ¬ (tT h k = t ∧ tK h k = 1 ∧ tI h k = x)) => show ∀ i, i < k + 1 → ¬ (tT h i = t ∧ tK h i = 1 ∧ tI h i = x) from fun i hi => by
        by_cases e : i = k
        · subst e; exact q
        · exact Hno.out i (by omega))
      obtain ⟨s, hs⟩ : ∃ s, s = tT h k := ⟨_, rfl⟩
      obtain ⟨q, hq⟩ : ∃ r, r = tK h k := ⟨_, rfl⟩
      obtain ⟨y, hy⟩ : ∃ x, x = tI h k := ⟨_, rfl⟩
      rw [← hs] at hc1 HY HN
      rw [← hq] at hc2 HY HN
      rw [← hy] at hc3 HY HN
      clear hs hq hy
      have Hb2 := Lib.hid (Below.tr Hb.out (below_alloc wA (.cells #[.int .i64 s, .int .i64 q, .int .i64 y] 55)))
      have g0 : (wA.alloc (.cells #[.int .i64 s, .int .i64 q, .int .i64 y] 55)).cell? ⟨wA.heap.size, 0, none⟩ = some (.int .i64 s) := cell_new wA _ _ 0
      have g1 : (wA.alloc (.cells #[.int .i64 s, .int .i64 q, .int .i64 y] 55)).cell? ⟨wA.heap.size, 1, none⟩ = some (.int .i64 q) := cell_new wA _ _ 1
      have g2 : (wA.alloc (.cells #[.int .i64 s, .int .i64 q, .int .i64 y] 55)).cell? ⟨wA.heap.size, 2, none⟩ = some (.int .i64 y) := cell_new wA _ _ 2
      by_cases e1 : s = t
      · have r1 : ((s : Int) == (t : Int)) = true := by rw [beq_iff_eq]; omega
        by_cases e2 : q = 1
        · have r2 : ((q : Int) == 1) = true := by rw [beq_iff_eq]; omega
          by_cases e3 : y = x
          · have r3 : ((y : Int) == (x : Int)) = true := by rw [beq_iff_eq]; omega
            have R := Lib.hid (HY.out ⟨e1, e2, e3⟩)
            clear e1 e2 e3
            go_wp2_with fail
            go_ret
            exact ⟨true, rfl, ⟨fun _ => R.out, fun _ => rfl⟩, Hb2.out⟩
          · have r3 : ((y : Int) == (x : Int)) = false := by rw [beq_eq_false_iff_ne]; omega
            have R := Lib.hid (HN.out (fun q => e3 q.2.2))
            clear e1 e2 e3
            go_wp2_with fail
            go_roundw
            case rel => exact ⟨k + 1, by go_num, by omega, Hb2.out, R.out⟩
            case measure => simp [intOf]; omega
        · have r2 : ((q : Int) == 1) = false := by rw [beq_eq_false_iff_ne]; omega
          have R := Lib.hid (HN.out (fun q => e2 q.2.1))
          clear e1 e2
          go_wp2_with fail
          go_roundw
          case rel => exact ⟨k + 1, by go_num, by omega, Hb2.out, R.out⟩
          case measure => simp [intOf]; omega
      · have r1 : ((s : Int) == (t : Int)) = false := by rw [beq_eq_false_iff_ne]; omega
        have R := Lib.hid (HN.out (fun q => e1 q.1))
        clear e1
        go_wp2_with fail
        go_roundw
        case rel => exact ⟨k + 1, by go_num, by omega, Hb2.out, R.out⟩
        case measure => simp [intOf]; omega
    · obtain rfl : k = h.length := by omega
      have R := Lib.hid (show ¬ WrP h t x from fun ⟨i, hi, q⟩ => Hno.out i hi q)
      go_wp2_with fail
      go_ret
      exact ⟨false, rfl, ⟨fun q => (by cases q), fun q => absurd q R.out⟩, Hb.out⟩
theorem beg_first {h : List NOp} {t k : Nat} (hk : tT h k = t) (hno : ∀ i, i < k → tT h i ≠ t) (hk40 : k ≤ 40) : ∀ n, n ≤ 40 → (n ≤ k → beg h n t = 40) ∧ (k < n → beg h n t = k)
  | 0, _ => ⟨fun _ => rfl, fun h => by omega⟩
  | n + 1, hn => by
    have ih := beg_first hk hno hk40 n (by omega)
    rw [beg]
    refine ⟨fun h1 => ?_, fun h1 => ?_⟩
    · rw [if_neg (hno n (by omega))]; exact ih.1 (by omega)
    · by_cases e : n = k
      · subst e
        rw [if_pos hk, ih.1 (Nat.le_refl _)]; omega
      · rw [ih.2 (by omega)]
        split <;> omega
set_option maxRecDepth 100000 in
set_option maxHeartbeats 4000000 in
theorem beginR_any {h : List NOp} (hh : VH h) {t : Nat} (hex : ∃ i, i < h.length ∧ tT h i = t) (v : Value) (w : World) (hv : Ops w v (castO h)) :
    Calls Try.prog 102 #[v, .int .i64 t] w fun e w' => e = .returned (.int .i64 (beg h h.length t : Nat)) ∧ w' = w := by
  obtain ⟨a, bl, off, cap, rfl, hle, ha, hcap, hc⟩ := Ops.nat hv
  have hix := run_ix (P := Try.prog) (t := 23) (a := a) (len := h.length) (cap := cap) (b := bl) (off := off) (s := 3) Try.underlying23 (by intro w; kernel_rfl) ha
  have h40 := hh.le
  have Hc := Lib.hid hc
  have Hix := Lib.hid hix
  obtain ⟨z, hz, htz⟩ := hex
  have Htz := Lib.hid htz
  have HF := Lib.hid (fun k (hk : k < h.length) (e : tT h k = t) (hno : ∀ i, i < k → tT h i ≠ t) => (beg_first e hno (by omega) h.length h40).2 hk)
  clear hc hix ha hle hcap hv hh htz
  go_enter Try.func102, Try.ntmps102
  go_wp2_with fail
  go_loopw [5] (fun vk wr => ∃ k : Nat, vk = .int .i64 k ∧ k ≤ z ∧ w = wr ∧ ∀ i, i < k → tT h i ≠ t) (fun vk _ => z - (intOf vk).toNat)
  case atStart => exact ⟨0, rfl, Nat.zero_le _, rfl, fun i hi => by omega⟩
  case round =>
    obtain ⟨k, rfl, hk, rfl, hno⟩ := hrel
    have Hno := Lib.hid hno
    clear hno
    have hlt : k < h.length := by omega
    have hc1 := (Hc.out k hlt).1
    have hixk := Hix.out k
    have HFk := Lib.hid (fun e => HF.out k hlt e Hno.out)
    have HN := Lib.hid (fun (q : tT h k ≠ t) => show ∀ i, i < k + 1 → tT h i ≠ t from fun i hi => by
      by_cases e : i = k
      · subst e; exact q
      · exact Hno.out i (by omega))
    have Hkz := Lib.hid (fun (q : tT h k ≠ t) => show k < z from by
      rcases Nat.lt_or_ge k z with h1 | h1
      · exact h1
      · have e : k = z := by omega
        rw [e] at q
        exact absurd Htz.out q)
    obtain ⟨s, hs⟩ : ∃ s, s = tT h k := ⟨_, rfl⟩
    rw [← hs] at hc1 HFk HN Hkz
    clear hs
    by_cases e : s = t
    · have R := Lib.hid (HFk.out e)
      have q : ((s : Int) != (t : Int)) = false := by rw [bne_eq_false_iff_eq]; omega
      clear e
      go_wp2_with fail
      go_ret
      exact ⟨by rw [R.out]; rfl, rfl⟩
    · have R := Lib.hid (HN.out e)
      have hkz := Hkz.out e
      have q : ((s : Int) != (t : Int)) = true := by rw [bne_iff_ne]; omega
      clear e
      go_wp2_with fail
      go_roundw
      case rel => exact ⟨k + 1, by go_num, by omega, (by first | rfl | trivial), R.out⟩
      case measure => simp [intOf]; omega
#print axioms beginR_any
#print axioms writesR_any
/-- an operation of t on item x, a read or a write -/
def OnP (h : List NOp) (t x i : Nat) : Prop := tT h i = t ∧ tI h i = x ∧ tK h i < 2
/-- transaction t reads item x, not from its own write -/
def RdP (h : List NOp) (t x : Nat) : Prop := ∃ i, i < h.length ∧ OnP h t x i ∧ tK h i = 0 ∧ ∀ j, j < i → ¬ OnP h t x j
set_option maxRecDepth 100000 in
set_option maxHeartbeats 4000000 in
theorem readsR_any {h : List NOp} (hh : VH h) (t x : Nat) (v : Value) (w : World) (hv : Ops w v (castO h)) :
    Calls Try.prog 103 #[v, .int .i64 t, .int .i64 x] w fun e w' => ∃ B : Bool, e = .returned (.bool B) ∧ (B = true ↔ RdP h t x) ∧ Below w.heap.size w w' := by
  obtain ⟨a, bl, off, cap, rfl, hle, ha, hcap, hc⟩ := Ops.nat hv
  have hix := run_ix (P := Try.prog) (t := 23) (a := a) (len := h.length) (cap := cap) (b := bl) (off := off) (s := 3) Try.underlying23 (by intro w; kernel_rfl) ha
  have h40 := hh.le
  have Hc := Lib.hid hc
  have Hix := Lib.hid hix
  clear hc hix ha hle hcap hv hh
  go_enter Try.func103, Try.ntmps103
  go_wp2_with fail
  go_loopw [11] (fun vk wr => ∃ k : Nat, vk = .int .i64 k ∧ k ≤ h.length ∧ Below w.heap.size w wr ∧ ∀ i, i < k → ¬ OnP h t x i) (fun vk _ => h.length - (intOf vk).toNat)
  case atStart => exact ⟨0, rfl, Nat.zero_le _, Below.refl _ _, fun i hi => by omega⟩
  case round =>
    obtain ⟨k, rfl, hk, hb, hno⟩ := hrel
    obtain ⟨wA, hwA⟩ : ∃ wA : World, wA = wr := ⟨_, rfl⟩
    subst hwA
    have Hb := Lib.hid hb
    have Hno := Lib.hid hno
    clear hb hno
    by_cases hlt : k < h.length
    · have hc1 := Below.keep Hb.out (Hc.out k hlt).1
      have hc2 := Below.keep Hb.out (Hc.out k hlt).2.1
      have hc3 := Below.keep Hb.out (Hc.out k hlt).2.2
      have hixk := Hix.out k
      have HY := Lib.hid (fun (q : tT h k = t ∧ tI h k = x ∧ tK h k < 2) => show (RdP h t x ↔ tK h k = 0) from ⟨fun ⟨i, hi, h1, h2, h3⟩ => by
        rcases Nat.lt_trichotomy i k with c | c | c
        · exact absurd h1 (Hno.out i c)
        · rw [← c]; exact h2
        · exact absurd q (h3 k c), fun e => ⟨k, hlt, q, e, fun j hj => Hno.out j hj⟩⟩)
      have HN := Lib.hid (fun (q : ¬ (tT h k = t ∧ tI h k = x ∧ tK h k < 2)) => show ∀ i, i < k + 1 → ¬ OnP h t x i from fun i hi => by
        by_cases e : i = k
        · subst e; exact q
        · exact Hno.out i (by omega))
      obtain ⟨s, hs⟩ : ∃ s, s = tT h k := ⟨_, rfl⟩
      obtain ⟨q, hq⟩ : ∃ r, r = tK h k := ⟨_, rfl⟩
      obtain ⟨y, hy⟩ : ∃ x, x = tI h k := ⟨_, rfl⟩
      rw [← hs] at hc1 HY HN
      rw [← hq] at hc2 HY HN
      rw [← hy] at hc3 HY HN
      clear hs hq hy
      have Hb2 := Lib.hid (Below.tr Hb.out (below_alloc wA (.cells #[.int .i64 s, .int .i64 q, .int .i64 y] 55)))
      have g0 : (wA.alloc (.cells #[.int .i64 s, .int .i64 q, .int .i64 y] 55)).cell? ⟨wA.heap.size, 0, none⟩ = some (.int .i64 s) := cell_new wA _ _ 0
      have g1 : (wA.alloc (.cells #[.int .i64 s, .int .i64 q, .int .i64 y] 55)).cell? ⟨wA.heap.size, 1, none⟩ = some (.int .i64 q) := cell_new wA _ _ 1
      have g2 : (wA.alloc (.cells #[.int .i64 s, .int .i64 q, .int .i64 y] 55)).cell? ⟨wA.heap.size, 2, none⟩ = some (.int .i64 y) := cell_new wA _ _ 2
      by_cases e1 : s = t
      · have r1 : ((s : Int) == (t : Int)) = true := by rw [beq_iff_eq]; omega
        by_cases e2 : y = x
        · have r2 : ((y : Int) == (x : Int)) = true := by rw [beq_iff_eq]; omega
          by_cases e3 : q < 2
          · have r3 : (q : Int) < 2 := by omega
            have R := Lib.hid (HY.out ⟨e1, e2, e3⟩)
            by_cases e4 : q = 0
            · have r4 : ((q : Int) == 0) = true := by rw [beq_iff_eq]; omega
              have R2 := Lib.hid (R.out.2 e4)
              clear e1 e2 e3 e4
              go_wp2_with fail
              go_ret
              exact ⟨true, rfl, ⟨fun _ => R2.out, fun _ => rfl⟩, Hb2.out⟩
            · have r4 : ((q : Int) == 0) = false := by rw [beq_eq_false_iff_ne]; omega
              have R2 := Lib.hid (show ¬ RdP h t x from fun p => e4 (R.out.1 p))
              clear e1 e2 e3 e4
              go_wp2_with fail
              go_ret
              exact ⟨false, rfl, ⟨fun q => (by cases q), fun q => absurd q R2.out⟩, Hb2.out⟩
          · have r3 : ¬ (q : Int) < 2 := by omega
            have R := Lib.hid (HN.out (fun q => e3 q.2.2))
            clear e1 e2 e3
            go_wp2_with fail
            go_roundw
            case rel => exact ⟨k + 1, by go_num, by omega, Hb2.out, R.out⟩
            case measure => simp [intOf]; omega
        · have r2 : ((y : Int) == (x : Int)) = false := by rw [beq_eq_false_iff_ne]; omega
          have R := Lib.hid (HN.out (fun q => e2 q.2.1))
          clear e1 e2
          go_wp2_with fail
          go_roundw
          case rel => exact ⟨k + 1, by go_num, by omega, Hb2.out, R.out⟩
          case measure => simp [intOf]; omega
      · have r1 : ((s : Int) == (t : Int)) = false := by rw [beq_eq_false_iff_ne]; omega
        have R := Lib.hid (HN.out (fun q => e1 q.1))
        clear e1
        go_wp2_with fail
        go_roundw
        case rel => exact ⟨k + 1, by go_num, by omega, Hb2.out, R.out⟩
        case measure => simp [intOf]; omega
    · obtain rfl : k = h.length := by omega
      have R := Lib.hid (show ¬ RdP h t x from fun ⟨i, hi, q, _⟩ => Hno.out i hi q)
      go_wp2_with fail
      go_ret
      exact ⟨false, rfl, ⟨fun q => (by cases q), fun q => absurd q R.out⟩, Hb.out⟩
#print axioms readsR_any
theorem endI_is {h : List NOp} {t : Nat} (ht : t < 7) (hc : lv h h.length (7 + t) ≠ 40) : endI h 2 t = (lv h h.length (7 + t) : Nat) := by
  rw [lv_com h ht] at hc ⊢
  unfold endI
  rw [if_neg hc]
theorem com_has {h : List NOp} (hh : VH h) {t : Nat} (ht : t < 7) (hc : lv h h.length (7 + t) ≠ 40) : ∃ i, i < h.length ∧ tT h i = t := by
  rw [lv_com h ht] at hc
  rcases en_spec h 2 t h.length hh.le with h1 | h1
  · exact absurd h1.1 hc
  · exact ⟨_, h1.1, h1.2.1⟩
set_option maxRecDepth 100000 in
set_option maxHeartbeats 4000000 in
theorem overlapR_any {h : List NOp} (hh : VH h) {a c : Nat} (ha : a < 7) (hc : c < 7) (ca : lv h h.length (7 + a) ≠ 40) (cc : lv h h.length (7 + c) ≠ 40) (B : Bool) (hB : decide (Ovl h a c) = B) (v : Value) (w : World) (hv : Ops w v (castO h)) :
    Calls Try.prog 75 #[v, .int .i64 a, .int .i64 c] w fun e w' => e = .returned (.bool B) ∧ Below w.heap.size w w' := by
  have HBa := Lib.hid (fun w' (hb : Below w.heap.size w w') => beginR_any hh (com_has hh ha ca) v w' (Ops.keep hv hb))
  have HBc := Lib.hid (fun w' (hb : Below w.heap.size w w') => beginR_any hh (com_has hh hc cc) v w' (Ops.keep hv hb))
  have HEa := Lib.hid (fun w' (hb : Below w.heap.size w w') => end_any hh (q := 2) (by omega) a v w' (Ops.keep hv hb))
  have HEc := Lib.hid (fun w' (hb : Below w.heap.size w w') => end_any hh (q := 2) (by omega) c v w' (Ops.keep hv hb))
  rw [endI_is ha ca] at HEa
  rw [endI_is hc cc] at HEc
  rw [← lv_beg h ha] at HBa
  rw [← lv_beg h hc] at HBc
  obtain ⟨p1, h1⟩ : ∃ p, p = lv h h.length a := ⟨_, rfl⟩
  obtain ⟨p2, h2⟩ : ∃ p, p = lv h h.length (7 + c) := ⟨_, rfl⟩
  obtain ⟨p3, h3⟩ : ∃ p, p = lv h h.length c := ⟨_, rfl⟩
  obtain ⟨p4, h4⟩ : ∃ p, p = lv h h.length (7 + a) := ⟨_, rfl⟩
  have HB := Lib.hid (show decide (p1 < p2 ∧ p3 < p4) = B from by rw [← hB]; exact decide_eq_decide.2 (by rw [h1, h2, h3, h4]; exact Iff.rfl))
  rw [← h1] at HBa
  rw [← h2] at HEc
  rw [← h3] at HBc
  rw [← h4] at HEa
  obtain ⟨a', c', rfl⟩ := ops_slice hv
  clear hv hh h1 h2 h3 h4 hB ca cc ha hc
  go_enter Try.func75, Try.ntmps75
  go_wp2_with fail
  refine (HBa.out w (Below.refl _ _)).mono ?_
  rintro e w1 ⟨rfl, rfl⟩
  go_wp2_with fail
  refine (HEc.out _ (Below.refl _ _)).mono ?_
  rintro e w2 ⟨rfl, hb2⟩
  have Hb2 := Lib.hid hb2
  clear hb2
  by_cases q1 : p1 < p2
  · have d1 : (p1 : Int) < (p2 : Int) := by omega
    obtain ⟨D, hD⟩ : ∃ D, D = decide (p3 < p4) := ⟨_, rfl⟩
    have d2 : decide ((p3 : Int) < (p4 : Int)) = D := by rw [hD]; exact decide_eq_decide.2 (by omega)
    have d2' : decide (p3 < p4) = D := hD.symm
    have HR2 := Lib.hid (show D = B from by rw [hD, ← HB.out]; exact decide_eq_decide.2 ⟨fun x => ⟨q1, x⟩, fun x => x.2⟩)
    clear q1 HB hD
    go_wp2_with fail
    refine (HBc.out _ Hb2.out).mono ?_
    rintro e w3 ⟨rfl, rfl⟩
    go_wp2_with fail
    refine (HEa.out _ Hb2.out).mono ?_
    rintro e w4 ⟨rfl, hb4⟩
    have Hb4 := Lib.hid (Below.tr Hb2.out hb4)
    clear hb4
    go_wp2_with fail
    go_ret
    exact ⟨by rw [← HR2.out]; rfl, Hb4.out⟩
  · have d1 : ¬ (p1 : Int) < (p2 : Int) := by omega
    have HR2 := Lib.hid (show false = B from by rw [← HB.out]; exact (decide_eq_false (fun x => q1 x.1)).symm)
    clear q1 HB
    go_wp2_with fail
    go_ret
    exact ⟨by rw [← HR2.out]; rfl, Hb2.out⟩
#print axioms overlapR_any
theorem snW_bit {h : List NOp} {t x : Nat} : ∀ n, (snW h n t).testBit x = true ↔ ∃ i, i < n ∧ tT h i = t ∧ tK h i = 1 ∧ tI h i = x
  | 0 => ⟨fun e => (by simp [snW] at e), fun ⟨i, hi, _⟩ => by omega⟩
  | n + 1 => by
    have ih := snW_bit (h := h) (t := t) (x := x) n
    rw [snW]
    by_cases hk : tK h n = 1
    · rw [if_pos hk]
      by_cases ht : t = tT h n
      · simp only [ht, if_true] at ih ⊢
        rw [Nat.testBit_or, Bool.or_eq_true, ih, Nat.testBit_two_pow, decide_eq_true_eq]
        constructor
        · rintro (⟨i, hi, q⟩ | e)
          · exact ⟨i, by omega, q⟩
          · exact ⟨n, by omega, rfl, hk, e⟩
        · rintro ⟨i, hi, q⟩
          by_cases e : i = n
          · subst e; exact .inr q.2.2
          · exact .inl ⟨i, by omega, q⟩
      · simp only [ht, if_false]
        rw [ih]
        exact ⟨fun ⟨i, hi, q⟩ => ⟨i, by omega, q⟩, fun ⟨i, hi, q⟩ => ⟨i, by
          by_cases e : i = n
          · subst e; exact absurd q.1.symm ht
          · omega, q⟩⟩
    · rw [if_neg hk, ih]
      exact ⟨fun ⟨i, hi, q⟩ => ⟨i, by omega, q⟩, fun ⟨i, hi, q⟩ => ⟨i, by
        by_cases e : i = n
        · subst e; exact absurd q.2.1 hk
        · omega, q⟩⟩
theorem snR_bit {h : List NOp} {t x : Nat} : ∀ n, (snR h n t).testBit x = true ↔ ∃ i, i < n ∧ tT h i = t ∧ tK h i = 0 ∧ tI h i = x ∧ ∀ j, j < i → ¬ (tT h j = t ∧ tK h j = 1 ∧ tI h j = x)
  | 0 => ⟨fun e => (by simp [snR] at e), fun ⟨i, hi, _⟩ => by omega⟩
  | n + 1 => by
    have ih := snR_bit (h := h) (t := t) (x := x) n
    rw [snR]
    by_cases hk : tK h n = 0
    · rw [if_pos hk]
      by_cases ht : t = tT h n
      · have hw := snW_bit (h := h) (t := t) (x := x) n
        simp only [ht, if_true] at ih hw ⊢
        rw [Nat.testBit_or, Bool.or_eq_true, ih, testBit_ndiff, Nat.testBit_two_pow, Bool.and_eq_true, decide_eq_true_eq]
        constructor
        · rintro (⟨i, hi, q⟩ | ⟨e, e2⟩)
          · exact ⟨i, by omega, q⟩
          · refine ⟨n, by omega, rfl, hk, e, fun j hj q => ?_⟩
            rw [hw.2 ⟨j, hj, q⟩] at e2
            exact absurd e2 (by decide)
        · rintro ⟨i, hi, q⟩
          by_cases e : i = n
          · subst e
            refine .inr ⟨q.2.2.1, ?_⟩
            cases hc : (snW h i (tT h i)).testBit x with
            | false => rfl
            | true =>
              obtain ⟨j, hj, r⟩ := hw.1 hc
              exact absurd r (q.2.2.2 j hj)
          · exact .inl ⟨i, by omega, q⟩
      · simp only [ht, if_false]
        rw [ih]
        exact ⟨fun ⟨i, hi, q⟩ => ⟨i, by omega, q⟩, fun ⟨i, hi, q⟩ => ⟨i, by
          by_cases e : i = n
          · subst e; exact absurd q.1.symm ht
          · omega, q⟩⟩
    · rw [if_neg hk, ih]
      exact ⟨fun ⟨i, hi, q⟩ => ⟨i, by omega, q⟩, fun ⟨i, hi, q⟩ => ⟨i, by
        by_cases e : i = n
        · subst e; exact absurd q.2.1 hk
        · omega, q⟩⟩
theorem first_at {p : Nat → Prop} : ∀ n, p n → ∃ i, i ≤ n ∧ p i ∧ ∀ j, j < i → ¬ p j := by
  intro n
  induction n using Nat.strongRecOn with
  | _ n ih =>
    intro hn
    by_cases h : ∃ j, j < n ∧ p j
    · obtain ⟨j, hj, hp⟩ := h
      obtain ⟨i, hi, r⟩ := ih j hj hp
      exact ⟨i, by omega, r⟩
    · exact ⟨n, Nat.le_refl _, hn, fun j hj hp => h ⟨j, hj, hp⟩⟩
/-- the sets of the program hold what the reference asks -/
theorem snW_wr {h : List NOp} {t x : Nat} : (snW h h.length t).testBit x = true ↔ WrP h t x := snW_bit _
theorem snR_rd {h : List NOp} {t x : Nat} : (snR h h.length t).testBit x = true ↔ RdP h t x := by
  rw [snR_bit]
  constructor
  · rintro ⟨i, hi, h1, h2, h3, h4⟩
    obtain ⟨k, hk, ⟨q1, q2, q3⟩, q4⟩ := first_at (p := fun i => OnP h t x i) i ⟨h1, h3, by omega⟩
    refine ⟨k, by omega, ⟨q1, q2, q3⟩, ?_, q4⟩
    by_cases e : k = i
    · rw [e]; exact h2
    · have := h4 k (by omega)
      have : tK h k ≠ 1 := fun c => this ⟨q1, c, q2⟩
      omega
  · rintro ⟨i, hi, ⟨q1, q2, q3⟩, q4, q5⟩
    exact ⟨i, hi, q1, q4, q2, fun j hj r => q5 j hj ⟨r.1, r.2.2, by omega⟩⟩
theorem VH.row {h : List NOp} (hh : VH h) {i : Nat} (hi : i < h.length) : tT h i < 7 ∧ 1 ≤ tT h i ∧ tI h i < 6 := by
  have h1 := hh.t6 i hi
  have h2 := hh.x5 i hi
  omega
theorem wrP_lt {h : List NOp} (hh : VH h) {t x : Nat} (hw : WrP h t x) : x < 6 := by
  obtain ⟨i, hi, _, _, rfl⟩ := hw
  exact (hh.row hi).2.2
theorem rdP_lt {h : List NOp} (hh : VH h) {t x : Nat} (hw : RdP h t x) : x < 6 := by
  obtain ⟨i, hi, ⟨_, rfl, _⟩, _⟩ := hw
  exact (hh.row hi).2.2
theorem and_bit {a b : Nat} : a &&& b ≠ 0 ↔ ∃ x, a.testBit x = true ∧ b.testBit x = true := by
  constructor
  · intro h
    apply Classical.byContradiction
    intro hn
    apply h
    apply Nat.eq_of_testBit_eq
    intro i
    rw [Nat.testBit_and, Nat.zero_testBit]
    cases ha : a.testBit i with
    | false => rfl
    | true =>
      cases hb : b.testBit i with
      | false => rfl
      | true => exact absurd ⟨i, ha, hb⟩ hn
  · rintro ⟨x, ha, hb⟩ e
    have := Nat.testBit_and a b x
    rw [e, Nat.zero_testBit, ha, hb] at this
    exact absurd this (by decide)
theorem bad_iff {h : List NOp} (hh : VH h) {a c : Nat} : Bad h (snW h h.length) a c ↔ Ovl h a c ∧ ∃ x, x < 6 ∧ WrP h a x ∧ WrP h c x := by
  unfold Bad
  rw [and_bit]
  constructor
  · rintro ⟨h1, x, h2, h3⟩
    exact ⟨h1, x, wrP_lt hh (snW_wr.1 h2), snW_wr.1 h2, snW_wr.1 h3⟩
  · rintro ⟨h1, x, _, h2, h3⟩
    exact ⟨h1, x, snW_wr.2 h2, snW_wr.2 h3⟩
theorem mis_iff {h : List NOp} (hh : VH h) {a c : Nat} : Mis h (snW h h.length) (snR h h.length) a c ↔ ∃ x, x < 6 ∧ RdP h a x ∧ WrP h c x ∧ lv h h.length a < lv h h.length (7 + c) := by
  unfold Mis
  rw [and_bit]
  constructor
  · rintro ⟨⟨x, h2, h3⟩, h1⟩
    exact ⟨x, wrP_lt hh (snW_wr.1 h3), snR_rd.1 h2, snW_wr.1 h3, h1⟩
  · rintro ⟨x, _, h2, h3, h1⟩
    exact ⟨⟨x, snR_rd.2 h2, snW_wr.2 h3⟩, h1⟩
/-- the a-edges -/
def An (h : List NOp) (a c : Nat) : Prop := a ≠ c ∧ Mis h (snW h h.length) (snR h h.length) a c
instance (h : List NOp) (a c : Nat) : Decidable (An h a c) := inferInstanceAs (Decidable (_ ∧ _))
/-- a dangerous step -/
def Dg (h : List NOp) (a c : Nat) : Prop := An h a c ∧ Ovl h a c
instance (h : List NOp) (a c : Nat) : Decidable (Dg h a c) := inferInstanceAs (Decidable (_ ∧ _))
/-- the dangerous pairs: of x and y with the first k transactions -/
def tri (x y z : Nat) : NOp := (x, y, z)
def dgZ (h : List NOp) (l : List Nat) (x y k : Nat) : List NOp := if Dg h x y then ((l.take k).filter fun z => decide (Dg h y z)).map (tri x y) else []
def dgY (h : List NOp) (l : List Nat) (x j : Nat) : List NOp := (l.take j).flatMap fun y => dgZ h l x y l.length
def dgX (h : List NOp) (l : List Nat) (i : Nat) : List NOp := (l.take i).flatMap fun x => dgY h l x l.length
theorem take_getD {l : List Nat} {k : Nat} (hk : k < l.length) : l.take (k + 1) = l.take k ++ [l.getD k 0] := by
  rw [List.take_succ_eq_append_getElem hk, List.getD_eq_getElem?_getD, List.getElem?_eq_getElem hk]; rfl
theorem dgZ_step {h : List NOp} {l : List Nat} {x y k : Nat} (hk : k < l.length) : dgZ h l x y (k + 1) = if Dg h x y ∧ Dg h y (l.getD k 0) then dgZ h l x y k ++ [(x, y, l.getD k 0)] else dgZ h l x y k := by
  unfold dgZ
  rw [take_getD hk]
  generalize l.getD k 0 = z
  by_cases h1 : Dg h x y
  · by_cases h2 : Dg h y z
    · rw [if_pos h1, if_pos ⟨h1, h2⟩, if_pos h1, List.filter_append, List.map_append]
      simp [h2, tri]
    · rw [if_pos h1, if_neg (fun q => h2 q.2), if_pos h1, List.filter_append, List.map_append]
      simp [h2]
  · rw [if_neg h1, if_neg (fun q => h1 q.1), if_neg h1]
theorem dgZ_no {h : List NOp} {l : List Nat} {x y k : Nat} (hn : ¬ Dg h x y) : dgZ h l x y k = [] := if_neg hn
theorem dgY_step {h : List NOp} {l : List Nat} {x j : Nat} (hj : j < l.length) : dgY h l x (j + 1) = dgY h l x j ++ dgZ h l x (l.getD j 0) l.length := by
  unfold dgY
  rw [take_getD hj, List.flatMap_append]; simp
theorem dgX_step {h : List NOp} {l : List Nat} {i : Nat} (hi : i < l.length) : dgX h l (i + 1) = dgX h l i ++ dgY h l (l.getD i 0) l.length := by
  unfold dgX
  rw [take_getD hi, List.flatMap_append]; simp
theorem flat_le {α β : Type} {f : α → List β} {n : Nat} : ∀ {l : List α}, (∀ x, x ∈ l → (f x).length ≤ n) → (l.flatMap f).length ≤ l.length * n
  | [], _ => by simp
  | a :: l, h => by
    have h1 := h a (by simp)
    have h2 := flat_le (l := l) (fun x hx => h x (by simp [hx]))
    simp only [List.flatMap_cons, List.length_append, List.length_cons]
    rw [Nat.add_mul]; omega
theorem dgZ_le {h : List NOp} {l : List Nat} {x y k : Nat} (hl : l.length ≤ 7) : (dgZ h l x y k).length ≤ 7 := by
  unfold dgZ
  split
  · rw [List.length_map]
    have h1 := List.length_filter_le (fun z => decide (Dg h y z)) (l.take k)
    have h2 : (l.take k).length ≤ l.length := List.length_take_le' _ _
    omega
  · simp
theorem dgY_le {h : List NOp} {l : List Nat} {x j : Nat} (hl : l.length ≤ 7) : (dgY h l x j).length ≤ 49 := by
  unfold dgY
  have h1 := flat_le (f := fun y => dgZ h l x y l.length) (n := 7) (l := l.take j) (fun y _ => dgZ_le hl)
  have h2 : (l.take j).length ≤ l.length := List.length_take_le' _ _
  omega
theorem dgX_le {h : List NOp} {l : List Nat} {i : Nat} (hl : l.length ≤ 7) : (dgX h l i).length ≤ 343 := by
  unfold dgX
  have h1 := flat_le (f := fun x => dgY h l x l.length) (n := 49) (l := l.take i) (fun y _ => dgY_le hl)
  have h2 : (l.take i).length ≤ l.length := List.length_take_le' _ _
  omega
/-- all dangerous pairs -/
def dgN (h : List NOp) : List NOp := dgX h (comN h 7) (comN h 7).length
#print axioms dgX_le
theorem mem_comS {h : List NOp} {t : Nat} : t ∈ comN h 7 ↔ t < 7 ∧ lv h h.length (7 + t) ≠ 40 := by
  unfold comN
  rw [List.mem_filter, List.mem_range, decide_eq_true_eq]
theorem com_pos {h : List NOp} (hh : VH h) {t : Nat} (ht : t ∈ comN h 7) : 0 < t := by
  obtain ⟨h1, h2⟩ := mem_comS.1 ht
  obtain ⟨i, hi, rfl⟩ := com_has hh h1 h2
  exact (hh.row hi).2.1
theorem beg_min {h : List NOp} {i : Nat} (hi40 : i ≤ 40) : ∀ n, i < n → n ≤ 41 → beg h n (tT h i) ≤ i
  | 0, hn, _ => by omega
  | n + 1, hn, h41 => by
    rw [beg]
    by_cases e : i = n
    · subst e; rw [if_pos rfl]; exact Nat.min_le_right _ _
    · have := beg_min (h := h) hi40 n (by omega) (by omega)
      split
      · exact Nat.le_trans (Nat.min_le_left _ _) this
      · exact this
theorem beg_com {h : List NOp} (hh : VH h) {t : Nat} (ht : t < 7) (hc : lv h h.length (7 + t) ≠ 40) : lv h h.length t ≤ lv h h.length (7 + t) := by
  rw [lv_com h ht] at hc ⊢
  rw [lv_beg h ht]
  have hl := hh.le
  rcases en_spec h 2 t h.length hh.le with e | e
  · exact absurd e.1 hc
  · have := beg_min (h := h) (i := en h 2 h.length t) (by omega) h.length e.1 (by omega)
    rw [e.2.1] at this; exact this
theorem seR_bit {h : List NOp} {W F : Nat → Nat} {l : List Nat} {i a c : Nat} {f : Nat → Nat} : ∀ j, j ≤ l.length → ((seR h W F l i f j a).testBit c = true ↔ (f a).testBit c = true ∨ a = l.getD i 0 ∧ a ≠ c ∧ SnE h W F l a c ∧ ∃ k, k < j ∧ c = l.getD k 0)
  | 0, _ => by
    rw [seR]
    exact ⟨.inl, fun q => q.elim id fun ⟨_, _, _, k, hk, _⟩ => by omega⟩
  | j + 1, hj => by
    have ih := seR_bit (h := h) (W := W) (F := F) (l := l) (i := i) (a := a) (c := c) (f := f) j (by omega)
    have ex : (∃ k, k < j + 1 ∧ c = l.getD k 0) ↔ (∃ k, k < j ∧ c = l.getD k 0) ∨ c = l.getD j 0 := by
      constructor
      · rintro ⟨k, hk, e⟩
        by_cases q : k = j
        · subst q; exact .inr e
        · exact .inl ⟨k, by omega, e⟩
      · rintro (⟨k, hk, e⟩ | e)
        · exact ⟨k, by omega, e⟩
        · exact ⟨j, by omega, e⟩
    rw [seR]
    by_cases q : l.getD i 0 ≠ l.getD j 0 ∧ SnE h W F l (l.getD i 0) (l.getD j 0)
    · rw [if_pos q]
      by_cases e : a = l.getD i 0
      · simp only [e, if_true] at ih ⊢
        rw [Nat.testBit_or, Bool.or_eq_true, ih, Nat.testBit_two_pow, decide_eq_true_eq, ex]
        constructor
        · rintro ((r | ⟨_, r2, r3, r4⟩) | r)
          · exact .inl r
          · exact .inr ⟨trivial, r2, r3, .inl r4⟩
          · exact .inr ⟨trivial, by rw [← r]; exact q.1, by rw [← r]; exact q.2, .inr r.symm⟩
        · rintro (r | ⟨_, r2, r3, r4 | r4⟩)
          · exact .inl (.inl r)
          · exact .inl (.inr ⟨trivial, r2, r3, r4⟩)
          · exact .inr r4.symm
      · simp only [e, if_false] at ih ⊢
        rw [ih]
        simp
    · rw [if_neg q, ih, ex]
      constructor
      · rintro (r | ⟨r1, r2, r3, r4⟩)
        · exact .inl r
        · exact .inr ⟨r1, r2, r3, .inl r4⟩
      · rintro (r | ⟨r1, r2, r3, r4 | r4⟩)
        · exact .inl r
        · exact .inr ⟨r1, r2, r3, r4⟩
        · rw [r4, r1] at r2 r3
          exact absurd ⟨r2, r3⟩ q
theorem seT_bit {h : List NOp} {W F : Nat → Nat} {l : List Nat} {a c : Nat} : ∀ i, i ≤ l.length → ((seT h W F l i a).testBit c = true ↔ a ≠ c ∧ SnE h W F l a c ∧ c ∈ l ∧ ∃ k, k < i ∧ a = l.getD k 0)
  | 0, _ => by
    rw [seT]
    exact ⟨fun e => (by simp at e), fun ⟨_, _, _, k, hk, _⟩ => by omega⟩
  | i + 1, hi => by
    have ih := seT_bit (h := h) (W := W) (F := F) (l := l) (a := a) (c := c) i (by omega)
    have hc : (∃ k, k < l.length ∧ c = l.getD k 0) ↔ c ∈ l := by
      constructor
      · rintro ⟨k, hk, rfl⟩; exact getD_mem hk
      · intro hc
        obtain ⟨k, hk, rfl⟩ := List.getElem_of_mem hc
        exact ⟨k, hk, by rw [List.getD_eq_getElem?_getD, List.getElem?_eq_getElem hk]; rfl⟩
    rw [seT, seR_bit _ (Nat.le_refl _), ih, hc]
    constructor
    · rintro (⟨r1, r2, r3, k, hk, r4⟩ | ⟨r1, r2, r3, r4⟩)
      · exact ⟨r1, r2, r3, k, by omega, r4⟩
      · exact ⟨r2, r3, r4, i, by omega, r1⟩
    · rintro ⟨r1, r2, r3, k, hk, r4⟩
      by_cases q : k = i
      · subst q; exact .inr ⟨r4, r1, r2, r3⟩
      · exact .inl ⟨r1, r2, r3, k, by omega, r4⟩
theorem mem_getD {l : List Nat} {a : Nat} : (∃ k, k < l.length ∧ a = l.getD k 0) ↔ a ∈ l := by
  constructor
  · rintro ⟨k, hk, rfl⟩; exact getD_mem hk
  · intro hc
    obtain ⟨k, hk, rfl⟩ := List.getElem_of_mem hc
    exact ⟨k, hk, by rw [List.getD_eq_getElem?_getD, List.getElem?_eq_getElem hk]; rfl⟩
/-- the reference's last writer before b, of the first k transactions -/
def LbQ (h : List NOp) (x b last t : Nat) : Prop := t ≠ b ∧ WrP h t x ∧ lv h h.length (7 + t) < lv h h.length b ∧ (last = 0 ∨ lv h h.length (7 + last) < lv h h.length (7 + t))
noncomputable instance (h : List NOp) (x b last t : Nat) : Decidable (LbQ h x b last t) := Classical.propDecidable _
noncomputable def lbR (h : List NOp) (x b : Nat) : Nat → Nat
  | 0 => 0
  | k + 1 => if LbQ h x b (lbR h x b k) ((comN h 7).getD k 0) then (comN h 7).getD k 0 else lbR h x b k
theorem lbR_is {h : List NOp} (hh : VH h) {x b : Nat} : ∀ k, k ≤ (comN h 7).length → lbR h x b k = lbTo h (snW h h.length) x (lv h h.length b) (comN h 7) k
  | 0, _ => rfl
  | k + 1, hk => by
    have ih := lbR_is hh (x := x) (b := b) k (by omega)
    have hm : (comN h 7).getD k 0 ∈ comN h 7 := getD_mem (by omega)
    rw [lbR, lbTo, ih]
    generalize (comN h 7).getD k 0 = t at *
    have e : LbQ h x b (lbTo h (snW h h.length) x (lv h h.length b) (comN h 7) k) t ↔ LbC h (snW h h.length) x (lv h h.length b) (lbTo h (snW h h.length) x (lv h h.length b) (comN h 7) k) t := by
      unfold LbQ LbC
      rw [snW_wr]
      refine ⟨fun q => q.2, fun q => ⟨fun e => ?_, q⟩⟩
      obtain ⟨h1, h2⟩ := mem_comS.1 hm
      have h3 := beg_com hh h1 h2
      have h4 := q.2.1
      rw [← e] at h4
      omega
    by_cases q : LbC h (snW h h.length) x (lv h h.length b) (lbTo h (snW h h.length) x (lv h h.length b) (comN h 7) k) t
    · rw [if_pos q, if_pos (e.2 q)]
    · rw [if_neg q, if_neg (fun r => q (e.1 r))]
theorem lbR_mem {h : List NOp} {x b : Nat} : ∀ k, k ≤ (comN h 7).length → lbR h x b k = 0 ∨ lbR h x b k ∈ comN h 7 ∧ lbR h x b k ≠ b
  | 0, _ => .inl rfl
  | k + 1, hk => by
    rw [lbR]
    split
    · rename_i q
      exact .inr ⟨getD_mem (by omega), q.1⟩
    · exact lbR_mem k (by omega)
/-- the edges of all sorts, as the reference finds them -/
def AllE (h : List NOp) (a b : Nat) : Prop :=
  (a ∈ comN h 7 ∧ b ∈ comN h 7 ∧ An h a b) ∨ b ∈ comN h 7 ∧ ∃ x, x < 6 ∧ ((a ∈ comN h 7 ∧ a ≠ b ∧ WrP h a x ∧ WrP h b x ∧ lv h h.length (7 + a) < lv h h.length (7 + b)) ∨ (lbR h x b (comN h 7).length = a ∧ 0 < a ∧ RdP h b x))
theorem allE_snEd {h : List NOp} (hh : VH h) (a b : Nat) : AllE h a b ↔ (snEd h a).testBit b = true := by
  unfold snEd
  rw [seT_bit _ (Nat.le_refl _), mem_getD]
  have hrd : rdB h (snW h h.length) (snR h h.length) (comN h 7) a b = true ↔ ∃ x, x < 6 ∧ RdP h b x ∧ lbR h x b (comN h 7).length = a := by
    unfold rdB
    rw [List.any_eq_true]
    constructor
    · rintro ⟨x, hx, q⟩
      rw [Bool.and_eq_true, decide_eq_true_eq, snR_rd] at q
      exact ⟨x, List.mem_range.1 hx, q.1, by rw [lbR_is hh _ (Nat.le_refl _)]; exact q.2⟩
    · rintro ⟨x, hx, q1, q2⟩
      refine ⟨x, List.mem_range.2 hx, ?_⟩
      rw [Bool.and_eq_true, decide_eq_true_eq, snR_rd]
      rw [lbR_is hh _ (Nat.le_refl _)] at q2
      exact ⟨q1, q2⟩
  unfold AllE SnE An
  rw [hrd]
  constructor
  · rintro (⟨h1, h2, h3, h4⟩ | ⟨h1, x, hx, (⟨h2, h3, h4, h5, h6⟩ | ⟨h2, h3, h4⟩)⟩)
    · exact ⟨h3, .inr (.inr h4), h2, h1⟩
    · exact ⟨h3, .inl ⟨and_bit.2 ⟨x, snW_wr.2 h4, snW_wr.2 h5⟩, h6⟩, h1, h2⟩
    · rcases lbR_mem (h := h) (x := x) (b := b) _ (Nat.le_refl _) with e | e
      · omega
      · rw [h2] at e
        exact ⟨e.2, .inr (.inl ⟨x, hx, h4, h2⟩), h1, e.1⟩
  · rintro ⟨h1, (⟨h2, h3⟩ | ⟨x, hx, h2, h3⟩ | h2), h4, h5⟩
    · obtain ⟨x, q1, q2⟩ := and_bit.1 h2
      exact .inr ⟨h4, x, wrP_lt hh (snW_wr.1 q1), .inl ⟨h5, h1, snW_wr.1 q1, snW_wr.1 q2, h3⟩⟩
    · exact .inr ⟨h4, x, hx, .inr ⟨h3, com_pos hh h5, h2⟩⟩
    · exact .inl ⟨h5, h4, h1, h2⟩
theorem snEd_irr {h : List NOp} (x : Nat) : (snEd h x).testBit x = false := by
  cases e : (snEd h x).testBit x with
  | false => rfl
  | true =>
    unfold snEd at e
    exact absurd rfl ((seT_bit _ (Nat.le_refl _)).1 e).1
theorem snOrd_fst (h : List NOp) : snOrd h = fst' (fun a b => (snEd h a).testBit b) (comN h 7) := by
  unfold snOrd
  rw [fo_fst (fun x => snEd_irr x) _ _ _ rfl]
  simp
#print axioms snOrd_fst
#print axioms allE_snEd
theorem infoTri : (Try.prog.info? 48).map (fun i => (i.zero, i.size, i.bytes)) = some (some (.agg #[.int .i64 0, .int .i64 0, .int .i64 0]), 3, 24) := by kernel_rfl
theorem elemTri : Elem Try.prog 43 48 3 24 := elem_of Try.underlying43 infoTri rfl (by omega) (by omega)
/-- what the closure keeps: its box and the row in it -/
structure Dk (w0 wr : World) (v : Value) (R : List NOp) : Prop where
  b : Below w0.heap.size w0 wr
  k : Blk wr w0.heap.size 43 1 (fun _ => v)
  o : OwnOps 48 (w0.heap.size + 1) wr v (castO R)
theorem Dk.keep {w0 wr w' : World} {v : Value} {R : List NOp} (h : Dk w0 wr v R) (hb : Below wr.heap.size wr w') : Dk w0 w' v R := ⟨Below.tr h.b hb, Blk.keep h.k hb, h.o.keep hb⟩
theorem quiet_below {n : FuncId} {args : Array Value} {w : World} {r : Value} (h : Calls Try.prog n args w fun e w' => e = .returned r ∧ ∃ m, w' = w.drewN m) : Calls Try.prog n args w fun e w' => e = .returned r ∧ Below w.heap.size w w' :=
  h.mono (by rintro e w'' ⟨rfl, m, rfl⟩; exact ⟨rfl, bdrewN (Below.refl _ _) m⟩)
theorem castO_append (a b : List NOp) : castO (a ++ b) = castO a ++ castO b := by simp [castO]
theorem castO_snoc2 (h : List NOp) (t q x : Nat) : castO (h ++ [(t, q, x)]) = castO h ++ [((t : Int), (q : Int), (x : Int))] := by simp [castO]
set_option maxRecDepth 100000 in
set_option maxHeartbeats 8000000 in
theorem danger1_any {w0 w : World} {b ps : Nat} {h : List NOp} {l : List Nat} {u v : Value} {R : List NOp} (s : SnB w0 b h (snW h h.length) (snR h h.length) u) (hin : Ints w0 u (castN l)) (hp : w0.cell? ⟨ps, 0, none⟩ = some (.pointer (some ⟨b, 0, none⟩)))
    (h7 : ∀ x, x ∈ l → x < 7) (hl : l.length ≤ 7) (hW : ∀ x, snW h h.length x < 128) (hF : ∀ x, snR h h.length x < 128) (hk : Dk w0 w v R) (hR : R.length ≤ 1000)
    {x y : Nat} (hx : x ∈ l) (hy : y ∈ l) (hne : x ≠ y) :
    Calls Try.prog 70 #[.int .i64 x, .int .i64 y, .pointer (some ⟨ps, 0, none⟩), .pointer (some ⟨w0.heap.size, 0, none⟩)] w fun e w' => e = .returned (.tuple #[]) ∧ ∃ v', Dk w0 w' v' (R ++ dgZ h l x y l.length) := by
  have HO := Lib.hid (fun (a c : Nat) (ha : a ∈ l) (hc : c ∈ l) (w' : World) (hb : Below w0.heap.size w0 w') => quiet_below (overlap_any (show SnB w' b h _ _ u from Blk.keep s hb) (h7 _ ha) (h7 _ hc) _ rfl))
  have HM := Lib.hid (fun (a c : Nat) (ha : a ∈ l) (hc : c ∈ l) (w' : World) (hb : Below w0.heap.size w0 w') => quiet_below (misses_any (show SnB w' b h _ _ u from Blk.keep s hb) (h7 _ ha) (h7 _ hc) (hF _) (hW _) _ rfl))
  have Hp := Lib.hid (fun (w' : World) (hb : Below w0.heap.size w0 w') => show w'.cell? ⟨ps, 0, none⟩ = some (.pointer (some ⟨b, 0, none⟩)) from Below.keep hb hp)
  obtain ⟨A1, b1, f1, c1, rfl, _, ha1, hc1⟩ := IntsN.get hin
  have Hli := Lib.hid (fun (w' : World) (hb : Below w0.heap.size w0 w') => (show SnB w' b h _ _ _ from Blk.keep s hb).li)
  have Hix := Lib.hid (run_ix (P := Try.prog) (t := 24) (a := A1) (len := l.length) (cap := c1) (b := b1) (off := f1) (s := 1) Try.underlying24 (by intro w; kernel_rfl) ha1)
  simp only [Nat.mul_one] at Hix
  have Hc := Lib.hid (fun (w' : World) (hb : Below w0.heap.size w0 w') i hi => Below.keep hb (hc1 i hi))
  have Hk := Lib.hid hk
  have Hm := Lib.hid (fun k (hk : k < l.length) => getD_mem hk)
  have Hz0 := Lib.hid (fun q => show R ++ dgZ h l x y l.length = R from by rw [dgZ_no q, List.append_nil])
  have Hzz := Lib.hid (show R ++ dgZ h l x y 0 = R from by unfold dgZ; split <;> simp)
  have Hzs := Lib.hid (fun k (hk : k < l.length) => dgZ_step (h := h) (x := x) (y := y) hk)
  have Hzl := Lib.hid (fun k => dgZ_le (h := h) (l := l) (x := x) (y := y) (k := k) hl)
  have HDg := Lib.hid (show ∀ a c, a ≠ c → (Dg h a c ↔ Ovl h a c ∧ Mis h (snW h h.length) (snR h h.length) a c) from fun a c q => by unfold Dg An; exact ⟨fun r => ⟨r.2, r.1.2⟩, fun r => ⟨⟨q, r.2⟩, r.1⟩⟩)
  have HDn := Lib.hid (show ∀ a, ¬ Dg h a a from fun a q => q.1.1 rfl)
  have Hx := Lib.hid hx
  have Hy := Lib.hid hy
  have hpw := Hp.out w hk.b
  have Hne := Lib.hid hne
  clear s hin hp h7 hW hF hk ha1 hc1 hx hy hne
  have HC1 := Lib.hid (HO.out x y Hx.out Hy.out w Hk.out.b)
  have HC2 := Lib.hid (fun w' hb => HM.out x y Hx.out Hy.out w' hb)
  by_cases e1 : Ovl h x y
  · have He1 := Lib.hid e1
    rw [decide_eq_true e1] at HC1
    clear e1
    go_enter Try.func70, Try.ntmps70
    go_wp2_with fail
    refine HC1.out.mono ?_
    rintro e w1 ⟨rfl, hb1⟩
    have Hk1 := Lib.hid (Hk.out.keep hb1)
    have hpw1 := Hp.out w1 Hk1.out.b
    clear hb1 hpw
    by_cases e2 : Mis h (snW h h.length) (snR h h.length) x y
    · rw [decide_eq_true e2] at HC2
      have HD := Lib.hid ((HDg.out x y Hne.out).2 ⟨He1.out, e2⟩)
      clear e2
      go_wp2_with fail
      refine (HC2.out _ Hk1.out.b).mono ?_
      rintro e w2 ⟨rfl, hb2⟩
      have Hk2 := Lib.hid (Hk1.out.keep hb2)
      have hpw2 := Hp.out w2 Hk2.out.b
      have hli := Hli.out w2 Hk2.out.b
      clear hb2 hpw1 HC1 HC2
      have Hst := Lib.hid (show Dk w0 w2 v (R ++ dgZ h l x y 0) from by rw [Hzz.out]; exact Hk2.out)
      clear Hk2 Hk1 Hk Hzz
      go_wp2_with fail
      go_loopw [25] (fun vi wr => ∃ (k : Nat) (v : Value), vi = .int .i64 k ∧ k ≤ l.length ∧ Dk w0 wr v (R ++ dgZ h l x y k)) (fun vi _ => l.length - (intOf vi).toNat)
      case atStart => exact ⟨0, v, rfl, Nat.zero_le _, Hst.out⟩
      case round =>
        clear Hst hpw2 hli
        obtain ⟨k, v', rfl, hk, hK⟩ := hrel
        have HK := Lib.hid hK
        clear hK
        by_cases hkl : k < l.length
        · have hixk := Hix.out k
          have hck := Hc.out wr HK.out.b k hkl
          have HS := Lib.hid (Hzs.out k hkl)
          have mz := Lib.hid (Hm.out k hkl)
          obtain ⟨z, hz⟩ : ∃ z, z = l.getD k 0 := ⟨_, rfl⟩
          rw [← hz] at hck HS mz
          clear hz
          have hpr := Hp.out wr HK.out.b
          by_cases e3 : z = y
          · have q3 : ((z : Int) != (y : Int)) = false := by rw [bne_eq_false_iff_eq]; omega
            have RR := Lib.hid (show dgZ h l x y (k + 1) = dgZ h l x y k from by rw [HS.out, if_neg]; rintro ⟨_, r⟩; rw [e3] at r; exact HDn.out _ r)
            clear e3
            go_wp2_with fail
            go_roundw
            case rel => exact ⟨k + 1, _, by go_num, by omega, by rw [RR.out]; exact HK.out⟩
            case measure => simp [intOf]; omega
          · have q3 : ((z : Int) != (y : Int)) = true := by rw [bne_iff_ne]; omega
            have HDy := Lib.hid (HDg.out y z (fun q => e3 q.symm))
            have HC3 := Lib.hid (HO.out y z Hy.out mz.out wr HK.out.b)
            have HC4 := Lib.hid (fun w' hb => HM.out y z Hy.out mz.out w' hb)
            clear e3
            go_wp2_with fail
            refine HC3.out.mono ?_
            rintro e w4 ⟨rfl, hb4⟩
            have HK4 := Lib.hid (HK.out.keep hb4)
            have hp4 := Hp.out w4 HK4.out.b
            clear hb4 hpr hck hixk
            by_cases e4 : Ovl h y z
            · have q4 : decide (Ovl h y z) = true := decide_eq_true e4
              have He4 := Lib.hid e4
              clear e4
              go_wp2_with fail
              refine (HC4.out _ HK4.out.b).mono ?_
              rintro e w5 ⟨rfl, hb5⟩
              have HK5 := Lib.hid (HK4.out.keep hb5)
              clear hb5 hp4
              by_cases e5 : Mis h (snW h h.length) (snR h h.length) y z
              · have q5 : decide (Mis h (snW h h.length) (snR h h.length) y z) = true := decide_eq_true e5
                have RR := Lib.hid (show R ++ dgZ h l x y (k + 1) = (R ++ dgZ h l x y k) ++ [(x, y, z)] from by rw [HS.out, if_pos ⟨HD.out, HDy.out.2 ⟨He4.out, e5⟩⟩, List.append_assoc])
                have hzl := Hzl.out k
                have hbx := Blk.at HK5.out.k (show 0 < 1 by omega)
                obtain ⟨va, vc, rfl⟩ := own_slice HK5.out.o
                clear e5
                go_wp2_with (at_builtin; refine append_own rfl (.tmp 44) (.tmp 49) 43 rfl elemTri rfl (World.ownsRow.alloc HK5.out.o _) [.int .i64 x, .int .i64 y, .int .i64 z] rfl rfl ?c1 ?c2 ?c3 ?c4 ?_)
                case c1 =>
                  intro j u hj
                  rw [cell_new]
                  simpa using hj
                case c2 => intro u hu; simp at hu; rcases hu with rfl | rfl | rfl <;> rfl
                case c3 => rw [castO_length, List.length_append]; omega
                case c4 => have := HK5.out.k.lt; simp; omega
                intro v2 w6 r1 r2 _
                obtain ⟨na, nc, rfl⟩ := own_slice r1
                have hbn := below_alloc w5 (.cells #[.int .i64 x, .int .i64 y, .int .i64 z] 48)
                have Hk6 := Lib.hid (show Blk w6 w0.heap.size 43 1 _ from (r2.block _ (Nat.lt_succ_self _)).trans (Blk.keep HK5.out.k hbn))
                have hbx6 := Blk.at Hk6.out (show 0 < 1 by omega)
                have hfz6 := Blk.fz Hk6.out 0
                have HKn := Lib.hid (show Dk w0 (w6.setCell ⟨w0.heap.size, 0, none⟩ (.slice na ((castO (R ++ dgZ h l x y k)).length + 1) nc)) (.slice na ((castO (R ++ dgZ h l x y k)).length + 1) nc) (R ++ dgZ h l x y (k + 1)) from
                  ⟨((Below.tr HK5.out.b hbn).trans (r2.mono (Nat.le_succ _))).setCell (Nat.le_refl _) _, (Blk.put Hk6.out 0 _).congr (fun j hj => if_pos (by omega)), by
                    rw [RR.out, castO_snoc2]
                    exact ownsRow_setCell_below (OwnOps.snoc r1) (Nat.lt_succ_self _) _⟩)
                clear r1 r2 hbn hbx
                go_wp2_with fail
                go_roundw
                case rel => exact ⟨k + 1, _, by go_num, by omega, HKn.out⟩
                case measure => simp [intOf]; omega
              · have q5 : decide (Mis h (snW h h.length) (snR h h.length) y z) = false := decide_eq_false e5
                have RR := Lib.hid (show dgZ h l x y (k + 1) = dgZ h l x y k from by rw [HS.out, if_neg]; rintro ⟨_, r⟩; exact e5 (HDy.out.1 r).2)
                clear e5
                go_wp2_with fail
                go_roundw
                case rel => exact ⟨k + 1, _, by go_num, by omega, by rw [RR.out]; exact HK5.out⟩
                case measure => simp [intOf]; omega
            · have q4 : decide (Ovl h y z) = false := decide_eq_false e4
              have RR := Lib.hid (show dgZ h l x y (k + 1) = dgZ h l x y k from by rw [HS.out, if_neg]; rintro ⟨_, r⟩; exact e4 (HDy.out.1 r).1)
              clear e4
              go_wp2_with fail
              go_roundw
              case rel => exact ⟨k + 1, _, by go_num, by omega, by rw [RR.out]; exact HK4.out⟩
              case measure => simp [intOf]; omega
        · obtain rfl : k = l.length := by omega
          go_wp2_with fail
          go_end0
          exact ⟨rfl, _, HK.out⟩
    · rw [decide_eq_false e2] at HC2
      have RR := Lib.hid (Hz0.out (fun q => e2 ((HDg.out x y Hne.out).1 q).2))
      clear e2
      go_wp2_with fail
      refine (HC2.out _ Hk1.out.b).mono ?_
      rintro e w2 ⟨rfl, hb2⟩
      have Hk2 := Lib.hid (Hk1.out.keep hb2)
      clear hb2
      go_wp2_with fail
      refine bodyPost_ret (results_none rfl _ _ _) rfl ?_
      exact ⟨rfl, _, by rw [RR.out]; exact Hk2.out⟩
  · rw [decide_eq_false e1] at HC1
    have RR := Lib.hid (Hz0.out (fun q => e1 q.2))
    clear e1
    go_enter Try.func70, Try.ntmps70
    go_wp2_with fail
    refine HC1.out.mono ?_
    rintro e w1 ⟨rfl, hb1⟩
    have Hk1 := Lib.hid (Hk.out.keep hb1)
    clear hb1
    go_wp2_with fail
    refine bodyPost_ret (results_none rfl _ _ _) rfl ?_
    exact ⟨rfl, _, by rw [RR.out]; exact Hk1.out⟩
theorem entDg (c1 c2 : Value) (x y : Int) (w : World) : (callFunc 70 #[.int .i64 x, .int .i64 y, c1, c2]).run Try.prog w = .ok (.enter 70 #[.int .i64 x, .int .i64 y, c1, c2]) w := by
  kernel_rfl
#print axioms danger1_any
set_option maxRecDepth 100000 in
set_option maxHeartbeats 4000000 in
theorem danger_bad {l : List HOp} (hn : ¬ ValidH l) (v : Value) (w : World) (hv : Ops w v l) :
    Calls Try.prog 34 #[v] w fun e w' => e = .returned (.tuple #[.slice none 0 0, .int .i64 2]) ∧ Below w.heap.size w w' := by
  have HV := Lib.hid (valid_any l v w hv)
  rw [decide_eq_false hn] at HV
  obtain ⟨a, c, rfl⟩ := ops_slice hv
  clear hv hn
  go_enter Try.func34, Try.ntmps34
  go_wp2_with fail
  refine HV.out.mono ?_
  rintro e w1 ⟨rfl, hb1⟩
  have Hb1 := Lib.hid hb1
  clear hb1
  go_wp2_with fail
  go_ret2
  exact ⟨rfl, Hb1.out⟩
theorem dgX_nil {h : List NOp} (i : Nat) : dgX h [] i = [] := by simp [dgX]
theorem dgY_nil {h : List NOp} (x j : Nat) : dgY h [] x j = [] := by simp [dgY]
theorem dgY_zero {h : List NOp} (l : List Nat) (x : Nat) : dgY h l x 0 = [] := by simp [dgY]
/-- what the pairs keep -/
def DgI (h : List NOp) (l : List Nat) (w4 : World) (i j : Nat) (w' : World) : Prop := (i < l.length ∨ j = 0) ∧ ∃ v, Dk w4 w' v (dgX h l i ++ dgY h l (l.getD i 0) j)
theorem dgI_inv {w4 : World} {b ps : Nat} {h : List NOp} {l : List Nat} {u : Value} (s : SnB w4 b h (snW h h.length) (snR h h.length) u) (hin : Ints w4 u (castN l)) (hp : w4.cell? ⟨ps, 0, none⟩ = some (.pointer (some ⟨b, 0, none⟩)))
    (h7 : ∀ x, x ∈ l → x < 7) (hl : l.length ≤ 7) (hW : ∀ x, snW h h.length x < 128) (hF : ∀ x, snR h h.length x < 128) :
    Inv 70 (.pointer (some ⟨ps, 0, none⟩)) (.pointer (some ⟨w4.heap.size, 0, none⟩)) b u l (DgI h l w4) :=
    { ent := fun x y w => entDg _ _ x y w
      step := fun i j w' hI hi hj hne => by
        obtain ⟨_, v, hk⟩ := hI
        have h1 := dgX_le (h := h) (i := i) hl
        have h2 := dgY_le (h := h) (x := l.getD i 0) (j := j) hl
        refine (danger1_any s hin hp h7 hl hW hF hk (by rw [List.length_append]; omega) (getD_mem hi) (getD_mem hj) hne).mono ?_
        rintro e w'' ⟨rfl, v', hk'⟩
        refine ⟨rfl, .inl hi, v', ?_⟩
        rw [dgY_step hj, ← List.append_assoc]; exact hk'
      skip := fun i j w' hI hi hj he => by
        obtain ⟨_, v, hk⟩ := hI
        refine ⟨.inl hi, v, ?_⟩
        rw [dgY_step hj, dgZ_no (by rw [he]; exact fun q => q.1.1 rfl), List.append_nil]; exact hk
      next := fun i w' hI => by
        obtain ⟨h1, v, hk⟩ := hI
        refine ⟨.inr rfl, v, ?_⟩
        rw [dgY_zero, List.append_nil]
        by_cases e : i < l.length
        · rw [dgX_step e]; exact hk
        · have : l = [] := List.eq_nil_of_length_eq_zero (by omega)
          subst this
          rw [dgX_nil, dgY_nil] at hk
          rw [dgX_nil]; exact hk
      list := fun i j w' hI => by
        obtain ⟨_, v, hk⟩ := hI
        exact ⟨(show SnB w' b h _ _ u from Blk.keep s hk.b).li, hin.keep hk.b⟩ }
set_option maxRecDepth 100000 in
set_option maxHeartbeats 8000000 in
theorem danger_not {h : List NOp} (hh : VH h) (hP : ¬ AllP h) (v : Value) (w : World) (hv : Ops w v (castO h)) :
    Calls Try.prog 34 #[v] w fun e w' => e = .returned (.tuple #[.slice none 0 0, .int .i64 7]) ∧ Below w.heap.size w w' := by
  have HV := Lib.hid (valid_any (castO h) v w hv)
  rw [decide_eq_true (valid_of hh)] at HV
  have HS := Lib.hid (fun (w' : World) (hb : Below w.heap.size w w') => snapshotsOf_any hh v w' (Ops.keep hv hb))
  have HW := Lib.hid (snW_lt hh h.length (Nat.le_refl _))
  have Hl := Lib.hid (comN_le h 7)
  obtain ⟨a, c, rfl⟩ := ops_slice hv
  clear hv hh
  go_enter Try.func34, Try.ntmps34
  go_wp2_with fail
  refine HV.out.mono ?_
  rintro e w1 ⟨rfl, hb1⟩
  have Hb1 := Lib.hid hb1
  have HS1 := Lib.hid (HS.out w1 hb1)
  clear hb1 HV HS
  go_wp2_with fail
  refine HS1.out.mono ?_
  rintro e w2 ⟨b, u, rfl, _, hs, hi, hb2⟩
  have HA := Lib.hid (fun w' (hb : Below w2.heap.size w2 w') => allowed_any (show SnB w' b h _ _ u from Blk.keep hs hb) (hi.keep hb) (fun x hx => comN_lt hx) Hl.out HW.out)
  have Hb2 := Lib.hid (Below.tr Hb1.out hb2)
  clear hs hi hb2 HS1
  go_wp2_with fail
  refine (HA.out _ (below_alloc _ _)).mono ?_
  rintro e w3 ⟨B, rfl, hB, hb3⟩
  have HB := Lib.hid hB
  have Hb3 := Lib.hid (Below.tr Hb2.out (Below.tr (below_alloc _ _) hb3))
  clear hB hb3 HA
  cases B with
  | true => exact absurd (HB.out.1 rfl) hP
  | false =>
    go_wp2_with fail
    go_ret2
    exact ⟨rfl, Hb3.out⟩
set_option maxRecDepth 100000 in
set_option maxHeartbeats 8000000 in
theorem danger_all {h : List NOp} (hh : VH h) (hP : AllP h) (v : Value) (w : World) (hv : Ops w v (castO h)) :
    Calls Try.prog 34 #[v] w fun e w' => ∃ v', e = .returned (.tuple #[v', .int .i64 0]) ∧ Ops w' v' (castO (dgN h)) ∧ Below w.heap.size w w' := by
  have HV := Lib.hid (valid_any (castO h) v w hv)
  rw [decide_eq_true (valid_of hh)] at HV
  have HS := Lib.hid (fun (w' : World) (hb : Below w.heap.size w w') => snapshotsOf_any hh v w' (Ops.keep hv hb))
  have HW := Lib.hid (snW_lt hh h.length (Nat.le_refl _))
  have HR := Lib.hid (snR_lt hh h.length (Nat.le_refl _))
  have Hl := Lib.hid (comN_le h 7)
  obtain ⟨a, c, rfl⟩ := ops_slice hv
  clear hv hh
  go_enter Try.func34, Try.ntmps34
  go_wp2_with fail
  refine HV.out.mono ?_
  rintro e w1 ⟨rfl, hb1⟩
  have Hb1 := Lib.hid hb1
  have HS1 := Lib.hid (HS.out w1 hb1)
  clear hb1 HV HS
  go_wp2_with fail
  refine HS1.out.mono ?_
  rintro e w2 ⟨b, u, rfl, _, hs, hi, hb2⟩
  have HA := Lib.hid (fun w' (hb : Below w2.heap.size w2 w') => allowed_any (show SnB w' b h _ _ u from Blk.keep hs hb) (hi.keep hb) (fun x hx => comN_lt hx) Hl.out HW.out)
  have Hb2 := Lib.hid (Below.tr Hb1.out hb2)
  have Hs := Lib.hid hs
  have Hi := Lib.hid hi
  clear hs hi hb2 HS1
  go_wp2_with fail
  refine (HA.out _ (below_alloc _ _)).mono ?_
  rintro e w4 ⟨B, rfl, hB, hb4⟩
  have HB := Lib.hid hB
  have Hp4 := Lib.hid (show w4.cell? ⟨w2.heap.size, 0, none⟩ = some (.pointer (some ⟨b, 0, none⟩)) from Below.keep hb4 (cell_new w2 #[.pointer (some ⟨b, 0, none⟩)] 93 0))
  have hb24 := Below.tr (below_alloc w2 (.cells #[.pointer (some ⟨b, 0, none⟩)] 93)) hb4
  have Hb4 := Lib.hid (Below.tr Hb2.out hb24)
  have HInv := Lib.hid (dgI_inv (show SnB w4 b h _ _ u from Blk.keep Hs.out hb24) (Hi.out.keep hb24) Hp4.out (fun x hx => comN_lt hx) Hl.out HW.out HR.out)
  have HP := Lib.hid (pairs_any HInv.out Hl.out (w4.alloc (.cells #[.slice none 0 0] 43)) ⟨.inr rfl, .slice none 0 0, below_alloc _ _, blk_new w4 43 1 (fun _ => .slice none 0 0), by
    rw [dgY_zero]; exact ownOps_nil _ _ _⟩)
  have hp5 : (w4.alloc (.cells #[.slice none 0 0] 43)).cell? ⟨w2.heap.size, 0, none⟩ = some (.pointer (some ⟨b, 0, none⟩)) := Below.keep (below_alloc _ _) Hp4.out
  clear hB hb4 hb24 HA HInv Hs Hi Hp4
  cases B with
  | false => exact absurd (HB.out.2 hP) (by decide)
  | true =>
    clear hP HB
    go_wp2_with fail
    refine HP.out.mono ?_
    rintro e w6 ⟨rfl, _, v6, hk6⟩
    rw [dgY_zero, List.append_nil] at hk6
    obtain ⟨va, vc, rfl⟩ := own_slice hk6.o
    have hbx := Blk.at hk6.k (show 0 < 1 by omega)
    have Hf := Lib.hid hk6.o.ops
    have Hb6 := Lib.hid (Below.tr Hb4.out hk6.b)
    clear hk6 hp5
    go_wp2_with fail
    go_ret2
    exact ⟨_, rfl, by exact Hf.out, Hb6.out⟩
#print axioms danger_all
end Go.Proofs.Ytpehbffkplmfjaa
