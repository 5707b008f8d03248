/- The reference's Term, Right, Vars, All, Valid. -/
import Derived.Test.YtfplmdieeabgpaaQx
namespace Go.Proofs.Ytfplmdieeabgpaa
open Go.RowKit
theorem termR_any (t : Int) (B : Bool) (hB : decide (-9 ≤ t ∧ t ≤ 7) = B) (w : World) :
    Calls Try.prog 79 #[.int .i64 t] w fun e w' => e = .returned (.bool B) ∧ w' = w := by
  by_cases h : -9 ≤ t
  · have R := Lib.hid (show decide (t ≤ 7) = B from by rw [← hB]; exact decide_eq_decide.2 ⟨fun x => ⟨h, x⟩, fun x => x.2⟩)
    have q : t ≥ -9 := h
    clear h hB
    go_enter Try.func79, Try.ntmps79
    go_wp2_with fail
    go_ret
    exact ⟨congrArg (fun b => Ending.returned (.bool b)) R.out, rfl⟩
  · have R := Lib.hid (show false = B from by rw [← hB]; exact (decide_eq_false (fun x => h x.1)).symm)
    have q : ¬ t ≥ -9 := h
    clear h hB
    go_enter Try.func79, Try.ntmps79
    go_wp2_with fail
    go_ret
    exact ⟨congrArg (fun b => Ending.returned (.bool b)) R.out, rfl⟩
set_option maxRecDepth 100000 in
set_option maxHeartbeats 8000000 in
theorem rightR_any (r : Int) (l : List Int) (u : Value) (w : World) (hu : Ints w u l) (B : Bool) (hB : decide (AtV r l) = B) :
    Calls Try.prog 85 #[.agg #[.int .i64 r, u]] w fun e w' => e = .returned (.bool B) ∧ Below w.heap.size w w' := by
  obtain ⟨a, b, off, cap, rfl, hle, ha, hc⟩ := Ints.get hu
  have hix := run_ix (P := Try.prog) (t := 22) (a := a) (len := l.length) (cap := cap) (b := b) (off := off) (s := 1) Try.underlying22 (by intro w; kernel_rfl) ha
  simp only [Nat.mul_one] at hix
  have Hix := Lib.hid hix
  have Hc := Lib.hid hc
  obtain ⟨w1, hw1⟩ : ∃ w1, w1 = w.alloc (.cells #[.int .i64 r, .slice a l.length cap] 80) := ⟨_, rfl⟩
  have Hb1 := Lib.hid (show Below w.heap.size w w1 from by rw [hw1]; exact below_alloc _ _)
  have g0 : w1.cell? ⟨w.heap.size, 0, none⟩ = some (.int .i64 r) := by rw [hw1]; exact cell_new w _ _ 0
  have g1 : w1.cell? ⟨w.heap.size, 1, none⟩ = some (.slice a l.length cap) := by rw [hw1]; exact cell_new w _ _ 1
  have HG := Lib.hid (And.intro g0 g1)
  have Hw1 := Lib.hid hw1
  have HF := Lib.hid (fun (q : ¬ AtV r l) => show false = B from by rw [← hB]; exact (decide_eq_false q).symm)
  have HT := Lib.hid (fun (q : AtV r l) => show true = B from by rw [← hB]; exact (decide_eq_true q).symm)
  clear hu ha hc hix hw1 hB
  obtain ⟨ob, hob⟩ : ∃ ob, ob = w.heap.size := ⟨_, rfl⟩
  rw [← hob] at g0 g1 HG
  go_enter Try.func85, Try.ntmps85
  go_upto_region 1 with fail
  rw [← Hw1.out, ← hob]
  clear Hw1 hob
  go_wp2_with fail
  clear g0 g1
  go_loopw [8] (fun vi wr => ∃ k : Nat, vi = .int .i64 k ∧ k ≤ l.length ∧ w1 = wr ∧ ∀ j, j < k → -9 ≤ l.getD j 0 ∧ l.getD j 0 ≤ 7) (fun vi _ => l.length - (intOf vi).toNat)
  case atStart => exact ⟨0, rfl, Nat.zero_le _, rfl, fun j hj => by omega⟩
  case round =>
    obtain ⟨k, rfl, hk, rfl, hno⟩ := hrel
    have Hno := Lib.hid hno
    clear hno
    by_cases hlt : k < l.length
    · have hc1 := Below.keep Hb1.out (Hc.out k hlt)
      have hixk := Hix.out k
      have e : l.getD k 0 = l[k] := by rw [List.getD_eq_getElem?_getD, List.getElem?_eq_getElem hlt]; rfl
      have HY := Lib.hid (fun (q : -9 ≤ l.getD k 0 ∧ l.getD k 0 ≤ 7) => show ∀ j, j < k + 1 → -9 ≤ l.getD j 0 ∧ l.getD j 0 ≤ 7 from fun j hj => by
        by_cases e2 : j = k
        · subst e2; exact q
        · exact Hno.out j (by omega))
      have HN := Lib.hid (fun (q : ¬ (-9 ≤ l.getD k 0 ∧ l.getD k 0 ≤ 7)) => HF.out fun h => q (h.2.2 _ (by rw [e]; exact List.getElem_mem hlt)))
      rw [← e] at hc1
      obtain ⟨t, ht⟩ : ∃ t, t = l.getD k 0 := ⟨_, rfl⟩
      rw [← ht] at hc1 HY HN
      clear ht e
      have HV := Lib.hid (fun B hB => termR_any t B hB w1)
      by_cases h1 : -9 ≤ t ∧ t ≤ 7
      · have HV1 := Lib.hid (HV.out true (decide_eq_true h1))
        have R := Lib.hid (HY.out h1)
        clear h1
        go_wp2_with fail
        refine HV1.out.mono ?_
        rintro e w2 ⟨rfl, rfl⟩
        go_wp2_with fail
        go_roundw
        case rel => exact ⟨k + 1, by go_num, by omega, (by first | rfl | trivial), R.out⟩
        case measure => simp [intOf]; omega
      · have HV1 := Lib.hid (HV.out false (decide_eq_false h1))
        have R := Lib.hid (HN.out h1)
        clear h1
        go_wp2_with fail
        refine HV1.out.mono ?_
        rintro e w2 ⟨rfl, rfl⟩
        go_wp2_with fail
        go_ret
        exact ⟨by rw [← R.out]; rfl, Hb1.out⟩
    · obtain rfl : k = l.length := by omega
      have g0 := HG.out.1
      have g1 := HG.out.2
      have Hal := Lib.hid (show ∀ t, t ∈ l → -9 ≤ t ∧ t ≤ 7 from fun t ht => by
        obtain ⟨j, hj, rfl⟩ := List.getElem_of_mem ht
        have := Hno.out j hj
        rw [List.getD_eq_getElem?_getD, List.getElem?_eq_getElem hj] at this
        exact this)
      by_cases q1 : 0 ≤ r
      · have p1 : r ≥ 0 := q1
        by_cases q2 : r ≤ 5
        · by_cases q3 : 1 ≤ l.length
          · have p3 : (l.length : Int) ≥ 1 := by omega
            by_cases q4 : l.length ≤ 3
            · have p4 : (l.length : Int) ≤ 3 := by omega
              have R := Lib.hid (HT.out ⟨⟨q1, q2⟩, ⟨q3, q4⟩, Hal.out⟩)
              clear q1 q3 q4
              go_wp2_with fail
              go_ret
              exact ⟨by rw [← R.out]; rfl, Hb1.out⟩
            · have p4 : ¬ (l.length : Int) ≤ 3 := by omega
              have R := Lib.hid (HF.out fun h => q4 h.2.1.2)
              clear q1 q3 q4
              go_wp2_with fail
              go_ret
              exact ⟨by rw [← R.out]; rfl, Hb1.out⟩
          · have p3 : ¬ (l.length : Int) ≥ 1 := by omega
            have R := Lib.hid (HF.out fun h => q3 h.2.1.1)
            clear q1 q3
            go_wp2_with fail
            go_ret
            exact ⟨by rw [← R.out]; rfl, Hb1.out⟩
        · have R := Lib.hid (HF.out fun h => q2 h.1.2)
          clear q1
          go_wp2_with fail
          go_ret
          exact ⟨by rw [← R.out]; rfl, Hb1.out⟩
      · have p1 : ¬ r ≥ 0 := q1
        have R := Lib.hid (HF.out fun h => q1 h.1.1)
        clear q1
        go_wp2_with fail
        go_ret
        exact ⟨by rw [← R.out]; rfl, Hb1.out⟩
set_option maxRecDepth 100000 in
set_option maxHeartbeats 4000000 in
theorem varsR_any (r : Int) (l : List Int) (h7 : ∀ t, t ∈ l → t ≤ 7) (u : Value) (w : World) (hu : Ints w u l) :
    Calls Try.prog 94 #[.agg #[.int .i64 r, u]] w fun e w' => e = .returned (.int .i64 (vsA l : Nat)) ∧ Below w.heap.size w w' := by
  obtain ⟨a, b, off, cap, rfl, hle, ha, hc⟩ := Ints.get hu
  have hix := run_ix (P := Try.prog) (t := 22) (a := a) (len := l.length) (cap := cap) (b := b) (off := off) (s := 1) Try.underlying22 (by intro w; kernel_rfl) ha
  simp only [Nat.mul_one] at hix
  have Hix := Lib.hid hix
  have Hc := Lib.hid hc
  obtain ⟨w1, hw1⟩ : ∃ w1, w1 = w.alloc (.cells #[.int .i64 r, .slice a l.length cap] 80) := ⟨_, rfl⟩
  have Hb1 := Lib.hid (show Below w.heap.size w w1 from by rw [hw1]; exact below_alloc _ _)
  have g1 : w1.cell? ⟨w.heap.size, 1, none⟩ = some (.slice a l.length cap) := by rw [hw1]; exact cell_new w _ _ 1
  have Hs := Lib.hid (fun k => show vsT l (k + 1) = if isV (l.getD k 0) then vsT l k ||| 2 ^ (l.getD k 0).toNat else vsT l k from rfl)
  have Hlt := Lib.hid (vsT_lt l)
  have H7 := Lib.hid (fun k (hk : k < l.length) => h7 (l.getD k 0) (by rw [List.getD_eq_getElem?_getD, List.getElem?_eq_getElem hk]; exact List.getElem_mem hk))
  have Hw1 := Lib.hid hw1
  clear hu ha hc hix hw1 h7
  go_enter Try.func94, Try.ntmps94
  go_upto_region 1 with fail
  rw [← Hw1.out]
  clear Hw1
  go_wp2_with fail
  clear g1
  go_loopw [3, 9] (fun vs vi wr => ∃ k : Nat, vs = .int .i64 (vsT l k : Nat) ∧ vi = .int .i64 k ∧ k ≤ l.length ∧ wr = w1) (fun _ vi _ => l.length - (intOf vi).toNat)
  case atStart => exact ⟨0, rfl, rfl, Nat.zero_le _, rfl⟩
  case round =>
    obtain ⟨k, rfl, rfl, hk, rfl⟩ := hrel
    by_cases hlt : k < l.length
    · have hc1 := Below.keep Hb1.out (Hc.out k hlt)
      have hixk := Hix.out k
      have HS := Lib.hid (Hs.out k)
      have hlt1 := Hlt.out k
      have ht7 := H7.out k hlt
      have e : l.getD k 0 = l[k] := by rw [List.getD_eq_getElem?_getD, List.getElem?_eq_getElem hlt]; rfl
      rw [← e] at hc1
      obtain ⟨t, ht⟩ : ∃ t, t = l.getD k 0 := ⟨_, rfl⟩
      obtain ⟨S, hS⟩ : ∃ S, S = vsT l k := ⟨_, rfl⟩
      rw [← ht, ← hS] at HS
      rw [← ht] at hc1 ht7
      rw [← hS] at hlt1 ⊢
      clear ht hS e
      by_cases h : isV t
      · have R := Lib.hid (HS.out.trans (if_pos h))
        unfold isV at h
        obtain ⟨n, rfl⟩ : ∃ n : Nat, t = n := ⟨t.toNat, by omega⟩
        rw [Int.toNat_natCast] at R
        have hn8 : n < 8 := by omega
        have hsh := qshl_one n
        have hp : 2 ^ n < 256 := Nat.lt_of_lt_of_eq (Nat.pow_lt_pow_right (a := 2) (by decide) hn8) (by decide)
        have hor := bits_or_nat S (2 ^ n) (by omega) (by omega)
        obtain ⟨p, hpn⟩ : ∃ p, p = 2 ^ n := ⟨_, rfl⟩
        rw [← hpn] at R hsh hp hor
        have hge : (n : Int) ≥ 0 := by omega
        have hn0 : (0 : Int) ≤ (n : Int) := by omega
        have hw := wrap_nat p (by omega)
        clear hpn h
        go_wp2_with fail
        go_roundw
        case rel => exact ⟨k + 1, by rw [R.out], by go_num, by omega, (by first | rfl | trivial)⟩
        case measure => simp [intOf]; omega
      · have R := Lib.hid (HS.out.trans (if_neg h))
        have hge : ¬ t ≥ 0 := fun q => h ⟨q, by omega⟩
        clear h
        go_wp2_with fail
        go_roundw
        case rel => exact ⟨k + 1, by rw [R.out], by go_num, by omega, (by first | rfl | trivial)⟩
        case measure => simp [intOf]; omega
    · obtain rfl : k = l.length := by omega
      go_wp2_with fail
      go_ret
      exact ⟨rfl, Hb1.out⟩
set_option maxRecDepth 100000 in
set_option maxHeartbeats 8000000 in
theorem allR_any (l : List HAt) (h7 : ∀ i, i < l.length → ∀ t, t ∈ aA l i → t ≤ 7) (h u : Value) (w : World) (hu : Atoms w u l) :
    Calls Try.prog 58 #[.agg #[h, u]] w fun e w' => e = .returned (.int .i64 (vsQ l : Nat)) ∧ Below w.heap.size w w' := by
  obtain ⟨a, b, off, cap, vs, rfl, hle, ha, hcap, hc⟩ := Atoms.get hu
  have hix := run_ix (P := Try.prog) (t := 23) (a := a) (len := l.length) (cap := cap) (b := b) (off := off) (s := 2) Try.underlying23 (by intro w; kernel_rfl) ha
  have Hix := Lib.hid hix
  have Hc := Lib.hid hc
  obtain ⟨w1, hw1⟩ : ∃ w1, w1 = w.alloc (.cells #[h, .slice a l.length cap] 25) := ⟨_, rfl⟩
  have Hb1 := Lib.hid (show Below w.heap.size w w1 from by rw [hw1]; exact below_alloc _ _)
  have g1 : w1.cell? ⟨w.heap.size, 1, none⟩ = some (.slice a l.length cap) := by rw [hw1]; exact cell_new w _ _ 1
  have Hs := Lib.hid (fun k => show vsB l (k + 1) = vsB l k ||| vsA (aA l k) from rfl)
  have Hlt := Lib.hid (vsB_lt l)
  have HA := Lib.hid (fun k => vsA_lt (aA l k))
  have H7 := Lib.hid h7
  clear h7
  have Hw1 := Lib.hid hw1
  clear hu ha hc hix hw1 hcap
  go_enter Try.func58, Try.ntmps58
  go_upto_region 1 with fail
  rw [← Hw1.out]
  clear Hw1
  go_wp2_with fail
  clear g1
  go_loopw [3, 9] (fun vs vi wr => ∃ k : Nat, vs = .int .i64 (vsB l k : Nat) ∧ vi = .int .i64 k ∧ k ≤ l.length ∧ Below w.heap.size w wr) (fun _ vi _ => l.length - (intOf vi).toNat)
  case atStart => exact ⟨0, rfl, rfl, Nat.zero_le _, Hb1.out⟩
  case round =>
    clear Hb1
    obtain ⟨k, rfl, rfl, hk, hb⟩ := hrel
    have Hb := Lib.hid hb
    clear hb
    by_cases hlt : k < l.length
    · have hc1 := Below.keep Hb.out (Hc.out k hlt).1
      have hc2 := Below.keep Hb.out (Hc.out k hlt).2.1
      have hi := Ints.keep (Hc.out k hlt).2.2 Hb.out
      have hixk := Hix.out k
      have R := Lib.hid (Hs.out k)
      have hlt1 := Hlt.out k
      have hlt2 := HA.out k
      have h7k := Lib.hid (H7.out k hlt)
      obtain ⟨ua, uc, hu⟩ := ints_slice hi
      rw [hu] at hc2 hi
      clear hu
      obtain ⟨r, hr⟩ : ∃ t, t = aR l k := ⟨_, rfl⟩
      obtain ⟨A, hA⟩ : ∃ t, t = aA l k := ⟨_, rfl⟩
      obtain ⟨S, hS⟩ : ∃ S, S = vsB l k := ⟨_, rfl⟩
      rw [← hA, ← hS] at R
      rw [← hr] at hc1
      rw [← hA] at hc2 hi hlt2 h7k
      rw [← hS] at hlt1 ⊢
      clear hr hA hS
      have hcap := Ints.cap hi
      have hml := hi.2.1
      obtain ⟨w2, hw2⟩ : ∃ w2, w2 = wr.alloc (.cells #[.int .i64 r, .slice ua A.length uc] 80) := ⟨_, rfl⟩
      have hb2 : Below wr.heap.size wr w2 := by rw [hw2]; exact below_alloc _ _
      have g0 : w2.cell? ⟨wr.heap.size, 0, none⟩ = some (.int .i64 r) := by rw [hw2]; exact cell_new wr _ _ 0
      have g1 : w2.cell? ⟨wr.heap.size, 1, none⟩ = some (.slice ua A.length uc) := by rw [hw2]; exact cell_new wr _ _ 1
      have HV := Lib.hid (varsR_any r A h7k.out (.slice ua A.length uc) w2 (hi.keep hb2))
      have Hb2 := Lib.hid (Below.tr Hb.out hb2)
      have HG := Lib.hid (And.intro g0 g1)
      obtain ⟨V, hV⟩ : ∃ V, V = vsA A := ⟨_, rfl⟩
      rw [← hV] at HV R hlt2
      have hor := bits_or_nat S V (by omega) (by omega)
      have Hw2 := Lib.hid hw2
      clear hi hb2 hV hw2 g0 g1
      go_upto_region 5 with fail
      rw [← Hw2.out]
      clear Hw2 hc1 hc2 hixk
      have g0 := HG.out.1
      have g1 := HG.out.2
      go_wp2_with fail
      refine HV.out.mono ?_
      rintro e w3 ⟨rfl, hb3⟩
      have Hb3 := Lib.hid (Below.tr Hb2.out hb3)
      clear hb3 g0 g1
      go_wp2_with fail
      go_roundw
      case rel => exact ⟨k + 1, by rw [R.out], by go_num, by omega, Hb3.out⟩
      case measure => simp [intOf]; omega
    · obtain rfl : k = l.length := by omega
      go_wp2_with fail
      go_ret
      exact ⟨rfl, Hb.out⟩
set_option maxRecDepth 100000 in
set_option maxHeartbeats 8000000 in
theorem validQR_any (q : HQ) (v : Value) (w : World) (hq : Qr w v q) (B : Bool) (hB : decide (QrV q) = B) :
    Calls Try.prog 35 #[v] w fun e w' => e = .returned (.bool B) ∧ Below w.heap.size w w' := by
  obtain ⟨h0, b0, rfl, hh, hb⟩ := hq
  have HVr := Lib.hid (fun h7 w' (hw : Below w.heap.size w w') => allR_any q.2 h7 h0 b0 w' (hb.keep hw))
  obtain ⟨a, b, off, cap, vs, rfl, hle, ha, hcap, hc⟩ := Atoms.get hb
  obtain ⟨a2, b2, off2, cap2, rfl, hle2, ha2, hc2⟩ := Ints.get hh
  have Hix := Lib.hid (run_ix (P := Try.prog) (t := 23) (a := a) (len := q.2.length) (cap := cap) (b := b) (off := off) (s := 2) Try.underlying23 (by intro w; kernel_rfl) ha)
  have Hix2 := Lib.hid (run_ix (P := Try.prog) (t := 22) (a := a2) (len := q.1.length) (cap := cap2) (b := b2) (off := off2) (s := 1) Try.underlying22 (by intro w; kernel_rfl) ha2)
  simp only [Nat.mul_one] at Hix2
  have Hc := Lib.hid hc
  have Hc2 := Lib.hid hc2
  obtain ⟨w1, hw1⟩ : ∃ w1, w1 = w.alloc (.cells #[.slice a2 q.1.length cap2, .slice a q.2.length cap] 25) := ⟨_, rfl⟩
  have Hb1 := Lib.hid (show Below w.heap.size w w1 from by rw [hw1]; exact below_alloc _ _)
  have g0 : w1.cell? ⟨w.heap.size, 0, none⟩ = some (.slice a2 q.1.length cap2) := by rw [hw1]; exact cell_new w _ _ 0
  have g1 : w1.cell? ⟨w.heap.size, 1, none⟩ = some (.slice a q.2.length cap) := by rw [hw1]; exact cell_new w _ _ 1
  have HG := Lib.hid (And.intro g0 g1)
  have Hw1 := Lib.hid hw1
  have HF := Lib.hid (fun (r : ¬ QrV q) => show false = B from by rw [← hB]; exact (decide_eq_false r).symm)
  have HT := Lib.hid (fun (r : QrV q) => show true = B from by rw [← hB]; exact (decide_eq_true r).symm)
  have Hvl := Lib.hid (show vsQ q.2 < 256 from vsB_lt _ _)
  clear hh hb ha hc hcap ha2 hc2 hw1 hB
  obtain ⟨hd, bd⟩ := q
  obtain ⟨ob, hob⟩ : ∃ ob, ob = w.heap.size := ⟨_, rfl⟩
  rw [← hob] at g0 g1 HG
  go_enter Try.func35, Try.ntmps35
  go_upto_region 1 with fail
  rw [← Hw1.out, ← hob]
  clear Hw1 hob
  simp only at *
  by_cases q1 : (bd.length : Int) < 1
  · have R := Lib.hid (HF.out fun h => by have := h.1.1; simp only at this; omega)
    go_wp2_with fail
    go_ret
    exact ⟨by rw [← R.out]; rfl, Hb1.out⟩
  · by_cases q2 : (bd.length : Int) > 5
    · have R := Lib.hid (HF.out fun h => by have := h.1.2.1; simp only at this; omega)
      go_wp2_with fail
      go_ret
      exact ⟨by rw [← R.out]; rfl, Hb1.out⟩
    · by_cases q3 : (hd.length : Int) > 4
      · have R := Lib.hid (HF.out fun h => by have := h.1.2.2; simp only at this; omega)
        go_wp2_with fail
        go_ret
        exact ⟨by rw [← R.out]; rfl, Hb1.out⟩
      · have Hh := Lib.hid (show 1 ≤ bd.length ∧ bd.length ≤ 5 ∧ hd.length ≤ 4 from by omega)
        go_wp2_with fail
        clear g0 g1 q1 q2 q3
        go_loopw [26] (fun vi wr => ∃ k : Nat, vi = .int .i64 k ∧ k ≤ bd.length ∧ Below w1.heap.size w1 wr ∧ ∀ j, j < k → AtV (aR bd j) (aA bd j)) (fun vi _ => bd.length - (intOf vi).toNat)
        case atStart => exact ⟨0, rfl, Nat.zero_le _, Below.refl _ _, fun j hj => by omega⟩
        case round =>
          obtain ⟨k, rfl, hk, hb, hno⟩ := hrel
          have Hno := Lib.hid hno
          have Hb := Lib.hid hb
          clear hno hb
          have Hbw := Lib.hid (Below.tr Hb1.out Hb.out)
          by_cases hlt : k < bd.length
          · have hc1 := Below.keep Hbw.out (Hc.out k hlt).1
            have hc2 := Below.keep Hbw.out (Hc.out k hlt).2.1
            have hi := Ints.keep (Hc.out k hlt).2.2 Hbw.out
            have hixk := Hix.out k
            obtain ⟨ua, uc, hu⟩ := ints_slice hi
            rw [hu] at hc2 hi
            clear hu
            have HY := Lib.hid (fun (r : AtV (aR bd k) (aA bd k)) => show ∀ j, j < k + 1 → AtV (aR bd j) (aA bd j) from fun j hj => by
              by_cases e2 : j = k
              · subst e2; exact r
              · exact Hno.out j (by omega))
            have HN := Lib.hid (fun (r : ¬ AtV (aR bd k) (aA bd k)) => HF.out fun h => r (h.2.1 k hlt))
            obtain ⟨r, hr⟩ : ∃ t, t = aR bd k := ⟨_, rfl⟩
            obtain ⟨A, hA⟩ : ∃ t, t = aA bd k := ⟨_, rfl⟩
            rw [← hr] at hc1 HY HN
            rw [← hA] at hc2 hi HY HN
            clear hr hA
            have hcap := Ints.cap hi
            have hml := hi.2.1
            obtain ⟨w2, hw2⟩ : ∃ w2, w2 = wr.alloc (.cells #[.int .i64 r, .slice ua A.length uc] 80) := ⟨_, rfl⟩
            have hb2 : Below wr.heap.size wr w2 := by rw [hw2]; exact below_alloc _ _
            have g0 : w2.cell? ⟨wr.heap.size, 0, none⟩ = some (.int .i64 r) := by rw [hw2]; exact cell_new wr _ _ 0
            have g1 : w2.cell? ⟨wr.heap.size, 1, none⟩ = some (.slice ua A.length uc) := by rw [hw2]; exact cell_new wr _ _ 1
            have HV := Lib.hid (fun B hB => rightR_any r A (.slice ua A.length uc) w2 (hi.keep hb2) B hB)
            have Hb2 := Lib.hid (Below.tr Hb.out hb2)
            have HG2 := Lib.hid (And.intro g0 g1)
            have Hw2 := Lib.hid hw2
            clear hi hb2 hw2 g0 g1
            go_upto_region 6 with fail
            rw [← Hw2.out]
            clear Hw2 hc1 hc2 hixk
            have g0 := HG2.out.1
            have g1 := HG2.out.2
            by_cases e : AtV r A
            · have HV1 := Lib.hid (HV.out true (decide_eq_true e))
              have R := Lib.hid (HY.out e)
              clear e
              go_wp2_with fail
              refine HV1.out.mono ?_
              rintro e w3 ⟨rfl, hb3⟩
              have Hb3 := Lib.hid (Below.tr Hb2.out hb3)
              clear hb3 g0 g1
              go_wp2_with fail
              go_roundw
              case rel => exact ⟨k + 1, by go_num, by omega, Hb3.out, R.out⟩
              case measure => simp [intOf]; omega
            · have HV1 := Lib.hid (HV.out false (decide_eq_false e))
              have R := Lib.hid (HN.out e)
              clear e
              go_wp2_with fail
              refine HV1.out.mono ?_
              rintro e w3 ⟨rfl, hb3⟩
              have Hb3 := Lib.hid (Below.tr Hb1.out (Below.tr Hb2.out hb3))
              clear hb3 g0 g1
              go_wp2_with fail
              go_ret
              exact ⟨by rw [← R.out]; rfl, Hb3.out⟩
          · obtain rfl : k = bd.length := by omega
            have Hall := Lib.hid Hno.out
            clear Hno
            have g0 := Below.keep Hb.out HG.out.1
            have g1 := Below.keep Hb.out HG.out.2
            go_wp2_with fail
            clear g0 g1
            obtain ⟨wo, hwo⟩ : ∃ wo : World, wo = wr := ⟨_, rfl⟩
            clear hwo
            go_loopw [37] (fun vi wr => ∃ k : Nat, vi = .int .i64 k ∧ k ≤ hd.length ∧ Below w1.heap.size w1 wr ∧ ∀ j, j < k → isV (hd.getD j 0) ∧ (vsQ bd).testBit (hd.getD j 0).toNat = true) (fun vi _ => hd.length - (intOf vi).toNat)
            case atStart => exact ⟨0, rfl, Nat.zero_le _, Hb.out, fun j hj => by omega⟩
            case round =>
              clear Hb Hbw
              obtain ⟨k, rfl, hk, hb, hno⟩ := hrel
              have Hno := Lib.hid hno
              have Hb := Lib.hid hb
              clear hno hb
              have Hbw := Lib.hid (Below.tr Hb1.out Hb.out)
              by_cases hlt : k < hd.length
              · have hc1 := Below.keep Hbw.out (Hc2.out k hlt)
                have hixk := Hix2.out k
                have g0 := Below.keep Hb.out HG.out.1
                have g1 := Below.keep Hb.out HG.out.2
                have e : hd.getD k 0 = hd[k] := by rw [List.getD_eq_getElem?_getD, List.getElem?_eq_getElem hlt]; rfl
                have HY := Lib.hid (fun (r : isV (hd.getD k 0) ∧ (vsQ bd).testBit (hd.getD k 0).toNat = true) => show ∀ j, j < k + 1 → isV (hd.getD j 0) ∧ (vsQ bd).testBit (hd.getD j 0).toNat = true from fun j hj => by
                  by_cases e2 : j = k
                  · subst e2; exact r
                  · exact Hno.out j (by omega))
                have HN := Lib.hid (fun (r : ¬ (isV (hd.getD k 0) ∧ (vsQ bd).testBit (hd.getD k 0).toNat = true)) => HF.out fun h => r (h.2.2 _ (by rw [e]; exact List.getElem_mem hlt)))
                rw [← e] at hc1
                obtain ⟨t, ht⟩ : ∃ t, t = hd.getD k 0 := ⟨_, rfl⟩
                rw [← ht] at hc1 HY HN
                clear ht e
                have HVq := Lib.hid (HVr.out (fun i hi t ht => ((Hall.out i hi).2.2 t ht).2) wr Hbw.out)
                obtain ⟨V, hV⟩ : ∃ V, V = vsQ bd := ⟨_, rfl⟩
                rw [← hV] at HVq HY HN Hvl
                have HVe := Lib.hid hV
                clear hV
                by_cases h1 : isV t
                · have hvl := Hvl.out
                  obtain ⟨n, rfl⟩ : ∃ n : Nat, t = n := ⟨t.toNat, by unfold isV at h1; omega⟩
                  rw [Int.toNat_natCast] at HY HN
                  have hn8 : n < 8 := by unfold isV at h1; omega
                  have hn0 : (0 : Int) ≤ (n : Int) := by omega
                  have hn64 : (n : Int) < 64 := by omega
                  have hn7 : ¬ (n : Int) > 7 := by omega
                  have hn00 : ¬ (n : Int) < 0 := by omega
                  have t1 := qshr_bit V n (by omega)
                  obtain ⟨P, hP, p1, p2, p3⟩ := qpow_name n (by omega)
                  rw [p1] at t1
                  clear hP
                  by_cases h2 : V.testBit n = true
                  · rw [if_pos h2] at t1
                    have R := Lib.hid (HY.out ⟨h1, h2⟩)
                    clear h1 h2
                    go_wp2_with fail
                    refine HVq.out.mono ?_
                    rintro e w3 ⟨rfl, hb3⟩
                    have Hb3 := Lib.hid (Below.tr Hb.out hb3)
                    clear hb3 g0 g1 hc1
                    go_wp2_with fail
                    go_roundw
                    case rel => exact ⟨k + 1, by go_num, by omega, Hb3.out, by rw [← HVe.out]; exact R.out⟩
                    case measure => simp [intOf]; omega
                  · rw [if_neg h2] at t1
                    have R := Lib.hid (HN.out (fun r => h2 r.2))
                    clear h1 h2
                    go_wp2_with fail
                    refine HVq.out.mono ?_
                    rintro e w3 ⟨rfl, hb3⟩
                    have Hb3 := Lib.hid (Below.tr Hb1.out (Below.tr Hb.out hb3))
                    clear hb3 g0 g1 hc1
                    go_wp2_with fail
                    go_ret
                    exact ⟨by rw [← R.out]; rfl, Hb3.out⟩
                · have R := Lib.hid (HN.out (fun r => h1 r.1))
                  by_cases p1 : t < 0
                  · clear h1
                    go_wp2_with fail
                    go_ret
                    exact ⟨by rw [← R.out]; rfl, Hbw.out⟩
                  · have p2 : t > 7 := by unfold isV at h1; omega
                    clear h1
                    go_wp2_with fail
                    go_ret
                    exact ⟨by rw [← R.out]; rfl, Hbw.out⟩
              · obtain rfl : k = hd.length := by omega
                have R := Lib.hid (HT.out ⟨Hh.out, Hall.out, fun t ht => by
                  obtain ⟨j, hj, rfl⟩ := List.getElem_of_mem ht
                  have := Hno.out j hj
                  rw [List.getD_eq_getElem?_getD, List.getElem?_eq_getElem hj] at this
                  exact this⟩)
                go_wp2_with fail
                go_ret
                exact ⟨by rw [← R.out]; rfl, Hbw.out⟩
#print axioms validQR_any
#print axioms rightR_any
#print axioms allR_any
end Go.Proofs.Ytfplmdieeabgpaa
