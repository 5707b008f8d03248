/- Contracts of the reference's Ground, fits, Vars. -/
import Derived.Test.YthndplkjhbmfmaaRvc
import Derived.Test.YthndplkjhbmfmaaRkt
namespace Go.Proofs.Ythndplkjhbmfmaa
open Go.RowKit
set_option maxRecDepth 100000 in
set_option maxHeartbeats 4000000 in
theorem groundR_any (r : Int) (l : List Int) (u : Value) (w : World) (hu : Ints w u l) (B : Bool) (hB : B = true ↔ FcR (r, l)) :
    Calls Try.prog 35 #[.agg #[.int .i64 r, u]] w fun e w' => e = .returned (.bool B) ∧ Below w.heap.size w w' := by
  obtain ⟨a, b, off, cap, rfl, hle, ha, hc⟩ := Ints.get hu
  obtain ⟨n, hn⟩ : ∃ x, x = l.length := ⟨_, rfl⟩
  have Hn := Lib.hid hn
  have Hc := Lib.hid (show ∀ i, i < l.length → w.cell? ⟨b, off + i, none⟩ = some (.int .i64 (l.getD i 0)) from fun i hi => by rw [hc i hi, List.getD_eq_getElem?_getD, List.getElem?_eq_getElem hi]; rfl)
  have HM := Lib.hid (fun i (hi : i < l.length) => show l.getD i 0 ∈ l from by rw [List.getD_eq_getElem?_getD, List.getElem?_eq_getElem hi]; exact List.getElem_mem hi)
  rw [← hn] at hle ha ⊢
  have Hix := Lib.hid (run_ix (P := Try.prog) (t := 23) (a := a) (len := n) (cap := cap) (b := b) (off := off) (s := 1) Try.underlying23 (by intro w; kernel_rfl) ha)
  simp only [Nat.mul_one] at Hix
  have HT := Lib.hid (fun h : FcR (r, l) => hB.2 h)
  have HF := Lib.hid (fun h : ¬ FcR (r, l) => show B = false from by
    cases B
    · rfl
    · exact absurd (hB.1 rfl) h)
  obtain ⟨w1, hw1⟩ : ∃ x, x = w.alloc (.cells #[.int .i64 r, .slice a n cap] 50) := ⟨_, rfl⟩
  obtain ⟨bx, hbx⟩ : ∃ x, x = w.heap.size := ⟨_, rfl⟩
  have Hb1 := Lib.hid (show Below w.heap.size w w1 from by rw [hw1]; exact below_alloc _ _)
  have HX := Lib.hid (show w1.heap[bx]? = some (.cells #[.int .i64 r, .slice a n cap] 50 (0, 0)) from by rw [hw1, hbx]; exact heap_alloc_new _ _)
  have Hw1 := Lib.hid hw1
  have Hbx := Lib.hid hbx
  have g1 := aCell HX.out 1 rfl
  clear hu ha hc hn hw1 hbx hB
  go_enter Try.func35, Try.ntmps35
  go_upto_region 1 with fail
  rw [← Hw1.out, ← Hbx.out]
  clear Hw1
  go_wp2_with fail
  clear g1
  go_loopw [8] (fun vi wr => ∃ k : Nat, vi = .int .i64 k ∧ k ≤ n ∧ wr = w1 ∧ ∀ x, x ∈ l.take k → 1 ≤ x ∧ x ≤ 6) (fun vi _ => n - (intOf vi).toNat)
  case atStart => exact ⟨0, rfl, Nat.zero_le _, rfl, fun x hx => by rw [List.take_zero] at hx; cases hx⟩
  case round =>
    obtain ⟨k, rfl, hk, hwr, hq⟩ := hrel
    obtain rfl : w1 = wr := hwr.symm
    have HQ := Lib.hid hq
    clear hq
    by_cases hlt : k < n
    · have hlt2 : k < l.length := by rw [← Hn.out]; exact hlt
      have hck := Below.keep Hb1.out (Hc.out k hlt2)
      have hixk := Hix.out k
      have hm := HM.out k hlt2
      have HT1 := Lib.hid (show l.take (k + 1) = l.take k ++ [l.getD k 0] from by rw [List.take_succ_eq_append_getElem hlt2, List.getD_eq_getElem?_getD, List.getElem?_eq_getElem hlt2]; rfl)
      obtain ⟨x, hx⟩ : ∃ x, x = l.getD k 0 := ⟨_, rfl⟩
      rw [← hx] at hck hm HT1
      have Hm := Lib.hid hm
      clear hx hlt2 hm
      by_cases c1 : 1 ≤ x
      · by_cases c2 : x ≤ 6
        · have HQ2 := Lib.hid (show ∀ x, x ∈ l.take (k + 1) → 1 ≤ x ∧ x ≤ 6 from fun y hy => by
            rw [HT1.out] at hy
            rcases List.mem_append.1 hy with hy | hy
            · exact HQ.out y hy
            · rw [List.mem_singleton] at hy; subst hy; exact ⟨c1, c2⟩)
          go_wp2_with fail
          go_roundw
          case rel => exact ⟨k + 1, by go_num, by omega, (by first | rfl | trivial), HQ2.out⟩
          case measure => simp [intOf]; omega
        · have HE := Lib.hid (HF.out fun h => by have := h.2.2 x Hm.out; omega)
          go_wp2_with fail
          go_ret
          exact ⟨by rw [HE.out]; rfl, Hb1.out⟩
      · have HE := Lib.hid (HF.out fun h => by have := h.2.2 x Hm.out; omega)
        go_wp2_with fail
        go_ret
        exact ⟨by rw [HE.out]; rfl, Hb1.out⟩
    · obtain rfl : n = k := by omega
      have g0 := aCell HX.out 0 rfl
      have g1 := aCell HX.out 1 rfl
      have HQ2 := Lib.hid (show ∀ x, x ∈ l → 1 ≤ x ∧ x ≤ 6 from fun x hx => HQ.out x (by rw [Hn.out, List.take_length]; exact hx))
      by_cases c1 : 0 ≤ r
      · by_cases c2 : r ≤ 5
        · by_cases c3 : (1 : Int) ≤ (n : Int)
          · by_cases c4 : (n : Int) ≤ 2
            · have HE := Lib.hid (HT.out ⟨⟨c1, c2⟩, ⟨by show 1 ≤ l.length; rw [← Hn.out]; omega, by show l.length ≤ 2; rw [← Hn.out]; omega⟩, HQ2.out⟩)
              go_wp2_with fail
              go_ret
              exact ⟨by rw [HE.out]; first | rfl | (simp; omega), Hb1.out⟩
            · have HE := Lib.hid (HF.out fun h => by have h1 : l.length ≤ 2 := h.2.1.2; rw [← Hn.out] at h1; omega)
              go_wp2_with fail
              go_ret
              exact ⟨by rw [HE.out]; first | rfl | (simp; omega), Hb1.out⟩
          · have HE := Lib.hid (HF.out fun h => by have h1 : 1 ≤ l.length := h.2.1.1; rw [← Hn.out] at h1; omega)
            go_wp2_with fail
            go_ret
            exact ⟨by rw [HE.out]; first | rfl | (simp; omega), Hb1.out⟩
        · have HE := Lib.hid (HF.out fun h => by have h1 : r ≤ 5 := h.1.2; omega)
          go_wp2_with fail
          go_ret
          exact ⟨by rw [HE.out]; first | rfl | (simp; omega), Hb1.out⟩
      · have HE := Lib.hid (HF.out fun h => by have h1 : 0 ≤ r := h.1.1; omega)
        go_wp2_with fail
        go_ret
        exact ⟨by rw [HE.out]; first | rfl | (simp; omega), Hb1.out⟩
set_option maxRecDepth 100000 in
set_option maxHeartbeats 4000000 in
theorem fitsR_any (r : Int) (l : List Int) (u : Value) (w : World) (hu : Ints w u l) (B : Bool) (hB : B = true ↔ AtR (r, l)) :
    Calls Try.prog 66 #[.agg #[.int .i64 r, u]] w fun e w' => e = .returned (.bool B) ∧ Below w.heap.size w w' := by
  obtain ⟨a, b, off, cap, rfl, hle, ha, hc⟩ := Ints.get hu
  obtain ⟨n, hn⟩ : ∃ x, x = l.length := ⟨_, rfl⟩
  have Hn := Lib.hid hn
  have Hc := Lib.hid (show ∀ i, i < l.length → w.cell? ⟨b, off + i, none⟩ = some (.int .i64 (l.getD i 0)) from fun i hi => by rw [hc i hi, List.getD_eq_getElem?_getD, List.getElem?_eq_getElem hi]; rfl)
  have HM := Lib.hid (fun i (hi : i < l.length) => show l.getD i 0 ∈ l from by rw [List.getD_eq_getElem?_getD, List.getElem?_eq_getElem hi]; exact List.getElem_mem hi)
  rw [← hn] at hle ha ⊢
  have Hix := Lib.hid (run_ix (P := Try.prog) (t := 23) (a := a) (len := n) (cap := cap) (b := b) (off := off) (s := 1) Try.underlying23 (by intro w; kernel_rfl) ha)
  simp only [Nat.mul_one] at Hix
  have HT := Lib.hid (fun h : AtR (r, l) => hB.2 h)
  have HF := Lib.hid (fun h : ¬ AtR (r, l) => show B = false from by
    cases B
    · rfl
    · exact absurd (hB.1 rfl) h)
  obtain ⟨w1, hw1⟩ : ∃ x, x = w.alloc (.cells #[.int .i64 r, .slice a n cap] 83) := ⟨_, rfl⟩
  obtain ⟨bx, hbx⟩ : ∃ x, x = w.heap.size := ⟨_, rfl⟩
  have Hb1 := Lib.hid (show Below w.heap.size w w1 from by rw [hw1]; exact below_alloc _ _)
  have HX := Lib.hid (show w1.heap[bx]? = some (.cells #[.int .i64 r, .slice a n cap] 83 (0, 0)) from by rw [hw1, hbx]; exact heap_alloc_new _ _)
  have Hw1 := Lib.hid hw1
  have Hbx := Lib.hid hbx
  have g1 := aCell HX.out 1 rfl
  clear hu ha hc hn hw1 hbx hB
  go_enter Try.func66, Try.ntmps66
  go_upto_region 1 with fail
  rw [← Hw1.out, ← Hbx.out]
  clear Hw1
  go_wp2_with fail
  clear g1
  go_loopw [8] (fun vi wr => ∃ k : Nat, vi = .int .i64 k ∧ k ≤ n ∧ wr = w1 ∧ ∀ x, x ∈ l.take k → -6 ≤ x ∧ x ≤ 7) (fun vi _ => n - (intOf vi).toNat)
  case atStart => exact ⟨0, rfl, Nat.zero_le _, rfl, fun x hx => by rw [List.take_zero] at hx; cases hx⟩
  case round =>
    obtain ⟨k, rfl, hk, hwr, hq⟩ := hrel
    obtain rfl : w1 = wr := hwr.symm
    have HQ := Lib.hid hq
    clear hq
    by_cases hlt : k < n
    · have hlt2 : k < l.length := by rw [← Hn.out]; exact hlt
      have hck := Below.keep Hb1.out (Hc.out k hlt2)
      have hixk := Hix.out k
      have hm := HM.out k hlt2
      have HT1 := Lib.hid (show l.take (k + 1) = l.take k ++ [l.getD k 0] from by rw [List.take_succ_eq_append_getElem hlt2, List.getD_eq_getElem?_getD, List.getElem?_eq_getElem hlt2]; rfl)
      obtain ⟨x, hx⟩ : ∃ x, x = l.getD k 0 := ⟨_, rfl⟩
      rw [← hx] at hck hm HT1
      have Hm := Lib.hid hm
      clear hx hlt2 hm
      by_cases c1 : -6 ≤ x
      · by_cases c2 : x ≤ 7
        · have HQ2 := Lib.hid (show ∀ x, x ∈ l.take (k + 1) → -6 ≤ x ∧ x ≤ 7 from fun y hy => by
            rw [HT1.out] at hy
            rcases List.mem_append.1 hy with hy | hy
            · exact HQ.out y hy
            · rw [List.mem_singleton] at hy; subst hy; exact ⟨c1, c2⟩)
          go_wp2_with fail
          go_roundw
          case rel => exact ⟨k + 1, by go_num, by omega, (by first | rfl | trivial), HQ2.out⟩
          case measure => simp [intOf]; omega
        · have HE := Lib.hid (HF.out fun h => by have := h.2.2 x Hm.out; omega)
          go_wp2_with fail
          go_ret
          exact ⟨by rw [HE.out]; rfl, Hb1.out⟩
      · have HE := Lib.hid (HF.out fun h => by have := h.2.2 x Hm.out; omega)
        go_wp2_with fail
        go_ret
        exact ⟨by rw [HE.out]; rfl, Hb1.out⟩
    · obtain rfl : n = k := by omega
      have g0 := aCell HX.out 0 rfl
      have g1 := aCell HX.out 1 rfl
      have HQ2 := Lib.hid (show ∀ x, x ∈ l → -6 ≤ x ∧ x ≤ 7 from fun x hx => HQ.out x (by rw [Hn.out, List.take_length]; exact hx))
      by_cases c1 : 0 ≤ r
      · by_cases c2 : r ≤ 5
        · by_cases c3 : (1 : Int) ≤ (n : Int)
          · by_cases c4 : (n : Int) ≤ 2
            · have HE := Lib.hid (HT.out ⟨⟨c1, c2⟩, ⟨by show 1 ≤ l.length; rw [← Hn.out]; omega, by show l.length ≤ 2; rw [← Hn.out]; omega⟩, HQ2.out⟩)
              go_wp2_with fail
              go_ret
              exact ⟨by rw [HE.out]; first | rfl | (simp; omega), Hb1.out⟩
            · have HE := Lib.hid (HF.out fun h => by have h1 : l.length ≤ 2 := h.2.1.2; rw [← Hn.out] at h1; omega)
              go_wp2_with fail
              go_ret
              exact ⟨by rw [HE.out]; first | rfl | (simp; omega), Hb1.out⟩
          · have HE := Lib.hid (HF.out fun h => by have h1 : 1 ≤ l.length := h.2.1.1; rw [← Hn.out] at h1; omega)
            go_wp2_with fail
            go_ret
            exact ⟨by rw [HE.out]; first | rfl | (simp; omega), Hb1.out⟩
        · have HE := Lib.hid (HF.out fun h => by have h1 : r ≤ 5 := h.1.2; omega)
          go_wp2_with fail
          go_ret
          exact ⟨by rw [HE.out]; first | rfl | (simp; omega), Hb1.out⟩
      · have HE := Lib.hid (HF.out fun h => by have h1 : 0 ≤ r := h.1.1; omega)
        go_wp2_with fail
        go_ret
        exact ⟨by rw [HE.out]; first | rfl | (simp; omega), Hb1.out⟩
set_option maxHeartbeats 4000000 in
theorem varsR_any (r : Int) (l : List Int) (hl : ∀ t, t ∈ l → t ≤ 7) (u : Value) (w : World) (hu : Ints w u l) :
    Calls Try.prog 67 #[.agg #[.int .i64 r, u]] w fun e w' => e = .returned (.int .i64 (vsA l : Nat)) ∧ Below w.heap.size w w' := by
  obtain ⟨a, b, off, cap, rfl, hle, ha, hc⟩ := Ints.get hu
  have hix := run_ix (P := Try.prog) (t := 23) (a := a) (len := l.length) (cap := cap) (b := b) (off := off) (s := 1) Try.underlying23 (by intro w; kernel_rfl) ha
  simp only [Nat.mul_one] at hix
  have Hix := Lib.hid hix
  have Hc := Lib.hid hc
  have Hl7 := Lib.hid hl
  obtain ⟨w1, hw1⟩ : ∃ w1, w1 = w.alloc (.cells #[.int .i64 r, .slice a l.length cap] 83) := ⟨_, rfl⟩
  have Hb1 := Lib.hid (show Below w.heap.size w w1 from by rw [hw1]; exact below_alloc _ _)
  have g1 : w1.cell? ⟨w.heap.size, 1, none⟩ = some (.slice a l.length cap) := by rw [hw1]; exact cell_new w _ _ 1
  have Hs := Lib.hid (fun k => show vsT l (k + 1) = if isV (l.getD k 0) then vsT l k ||| 2 ^ (l.getD k 0).toNat else vsT l k from rfl)
  have Hlt := Lib.hid (vsT_lt l)
  have Hw1 := Lib.hid hw1
  clear hu ha hc hix hw1 hl
  go_enter Try.func67, Try.ntmps67
  go_upto_region 1 with fail
  rw [← Hw1.out]
  clear Hw1
  go_wp2_with fail
  clear g1
  go_loopw [3, 9] (fun vs vi wr => ∃ k : Nat, vs = .int .i64 (vsT l k : Nat) ∧ vi = .int .i64 k ∧ k ≤ l.length ∧ wr = w1) (fun _ vi _ => l.length - (intOf vi).toNat)
  case atStart => exact ⟨0, rfl, rfl, Nat.zero_le _, rfl⟩
  case round =>
    obtain ⟨k, rfl, rfl, hk, rfl⟩ := hrel
    by_cases hlt : k < l.length
    · have hc1 := Below.keep Hb1.out (Hc.out k hlt)
      have hixk := Hix.out k
      have HS := Lib.hid (Hs.out k)
      have hlt1 := Hlt.out k
      have e : l.getD k 0 = l[k] := by rw [List.getD_eq_getElem?_getD, List.getElem?_eq_getElem hlt]; rfl
      have h7 := Hl7.out _ (List.getElem_mem hlt)
      rw [← e] at hc1 h7
      obtain ⟨t, ht⟩ : ∃ t, t = l.getD k 0 := ⟨_, rfl⟩
      obtain ⟨S, hS⟩ : ∃ S, S = vsT l k := ⟨_, rfl⟩
      rw [← ht, ← hS] at HS
      rw [← ht] at hc1 h7
      rw [← hS] at hlt1 ⊢
      clear ht hS e
      by_cases h : 0 ≤ t
      · have R := Lib.hid (HS.out.trans (if_pos ⟨h, by omega⟩))
        obtain ⟨n, rfl⟩ : ∃ n : Nat, t = n := ⟨t.toNat, by omega⟩
        rw [Int.toNat_natCast] at R
        have hn8 : n < 8 := by omega
        have hsh := qshl_one n
        have hp : 2 ^ n < 256 := Nat.lt_of_lt_of_eq (Nat.pow_lt_pow_right (a := 2) (by decide) hn8) (by decide)
        have hor := bits_or_nat S (2 ^ n) (by omega) (by omega)
        obtain ⟨p, hpn⟩ : ∃ p, p = 2 ^ n := ⟨_, rfl⟩
        rw [← hpn] at R hsh hp hor
        have hn0 : (0 : Int) ≤ (n : Int) := by omega
        have hw := wrap_nat p (by omega)
        clear hpn h h7
        go_wp2_with fail
        go_roundw
        case rel => exact ⟨k + 1, by rw [R.out], by go_num, by omega, (by first | rfl | trivial)⟩
        case measure => simp [intOf]; omega
      · have R := Lib.hid (HS.out.trans (if_neg fun q => h q.1))
        go_wp2_with fail
        go_roundw
        case rel => exact ⟨k + 1, by rw [R.out], by go_num, by omega, (by first | rfl | trivial)⟩
        case measure => simp [intOf]; omega
    · obtain rfl : k = l.length := by omega
      go_wp2_with fail
      go_ret
      exact ⟨rfl, Hb1.out⟩
#print axioms varsR_any
#print axioms fitsR_any
end Go.Proofs.Ythndplkjhbmfmaa
