/- Contracts of the reference's Ground, fits, Vars. Contract of the reference's Valid. -/
import Derived.Test.YthndplkjhbmfmaaRvc
import Derived.Test.YthndplkjhbmfmaaRkt
namespace Go.Proofs.Ythndplkjhbmfmaa
open Go.RowKit
set_option maxRecDepth 100000 in
set_option maxHeartbeats 4000000 in
theorem groundR_any (r : Int) (l : List Int) (u : Value) (w : World) (hu : Ints w u l) (B : Bool) (hB : B = true ↔ FcR (r, l)) :
    Calls Try.prog 35 #[.agg #[.int .i64 r, u]] w fun e w' => e = .returned (.bool B) ∧ Below w.heap.size w w' := by
  obtain ⟨a, b, off, cap, rfl, hle, ha, hc⟩ := Ints.get hu
  obtain ⟨n, hn⟩ : ∃ x, x = l.length := ⟨_, rfl⟩
  have Hn := Lib.hid hn
  have Hc := Lib.hid (show ∀ i, i < l.length → w.cell? ⟨b, off + i, none⟩ = some (.int .i64 (l.getD i 0)) from fun i hi => by rw [hc i hi, List.getD_eq_getElem?_getD, List.getElem?_eq_getElem hi]; rfl)
  have HM := Lib.hid (fun i (hi : i < l.length) => show l.getD i 0 ∈ l from by rw [List.getD_eq_getElem?_getD, List.getElem?_eq_getElem hi]; exact List.getElem_mem hi)
  rw [← hn] at hle ha ⊢
  have Hix := Lib.hid (run_ix (P := Try.prog) (t := 23) (a := a) (len := n) (cap := cap) (b := b) (off := off) (s := 1) Try.underlying23 (by intro w; kernel_rfl) ha)
  simp only [Nat.mul_one] at Hix
  have HT := Lib.hid (fun h : FcR (r, l) => hB.2 h)
  have HF := Lib.hid (fun h : ¬ FcR (r, l) => show B = false from by
    cases B
    · rfl
    · exact absurd (hB.1 rfl) h)
  obtain ⟨w1, hw1⟩ : ∃ x, x = w.alloc (.cells #[.int .i64 r, .slice a n cap] 50) := ⟨_, rfl⟩
  obtain ⟨bx, hbx⟩ : ∃ x, x = w.heap.size := ⟨_, rfl⟩
  have Hb1 := Lib.hid (show Below w.heap.size w w1 from by rw [hw1]; exact below_alloc _ _)
  have HX := Lib.hid (show w1.heap[bx]? = some (.cells #[.int .i64 r, .slice a n cap] 50 (0, 0)) from by rw [hw1, hbx]; exact heap_alloc_new _ _)
  have Hw1 := Lib.hid hw1
  have Hbx := Lib.hid hbx
  have g1 := aCell HX.out 1 rfl
  clear hu ha hc hn hw1 hbx hB
  go_enter Try.func35, Try.ntmps35
  go_upto_region 1 with fail
  rw [← Hw1.out, ← Hbx.out]
  clear Hw1
  go_wp2_with fail
  clear g1
  go_loopw [8] (fun vi wr => ∃ k : Nat, vi = .int .i64 k ∧ k ≤ n ∧ wr = w1 ∧ ∀ x, x ∈ l.take k → 1 ≤ x ∧ x ≤ 6) (fun vi _ => n - (intOf vi).toNat)
  case atStart => exact ⟨0, rfl, Nat.zero_le _, rfl, fun x hx => by rw [List.take_zero] at hx; cases hx⟩
  case round =>
    obtain ⟨k, rfl, hk, hwr, hq⟩ := hrel
    obtain rfl : w1 = wr := hwr.symm
    have HQ := Lib.hid hq
    clear hq
    by_cases hlt : k < n
    · have hlt2 : k < l.length := by rw [← Hn.out]; exact hlt
      have hck := Below.keep Hb1.out (Hc.out k hlt2)
      have hixk := Hix.out k
      have hm := HM.out k hlt2
      have HT1 := Lib.hid (show l.take (k + 1) = l.take k ++ [l.getD k 0] from by rw [List.take_succ_eq_append_getElem hlt2, List.getD_eq_getElem?_getD, List.getElem?_eq_getElem hlt2]; rfl)
      obtain ⟨x, hx⟩ : ∃ x, x = l.getD k 0 := ⟨_, rfl⟩
      rw [← hx] at hck hm HT1
      have Hm := Lib.hid hm
      clear hx hlt2 hm
      by_cases c1 : 1 ≤ x
      · by_cases c2 : x ≤ 6
        · have HQ2 := Lib.hid (show ∀ x, x ∈ l.take (k + 1) → 1 ≤ x ∧ x ≤ 6 from fun y hy => by
            rw [HT1.out] at hy
            rcases List.mem_append.1 hy with hy | hy
            · exact HQ.out y hy
            · rw [List.mem_singleton] at hy; subst hy; exact ⟨c1, c2⟩)
          go_wp2_with fail
          go_roundw
          case rel => exact ⟨k + 1, by go_num, by omega, (by first | rfl | trivial), HQ2.out⟩
          case measure => simp [intOf]; omega
        · have HE := Lib.hid (HF.out fun h => by have := h.2.2 x Hm.out; omega)
          go_wp2_with fail
          go_ret
          exact ⟨by rw [HE.out]; rfl, Hb1.out⟩
      · have HE := Lib.hid (HF.out fun h => by have := h.2.2 x Hm.out; omega)
        go_wp2_with fail
        go_ret
        exact ⟨by rw [HE.out]; rfl, Hb1.out⟩
    · obtain rfl : n = k := by omega
      have g0 := aCell HX.out 0 rfl
      have g1 := aCell HX.out 1 rfl
      have HQ2 := Lib.hid (show ∀ x, x ∈ l → 1 ≤ x ∧ x ≤ 6 from fun x hx => HQ.out x (by rw [Hn.out, List.take_length]; exact hx))
      by_cases c1 : 0 ≤ r
      · by_cases c2 : r ≤ 5
        · by_cases c3 : (1 : Int) ≤ (n : Int)
          · by_cases c4 : (n : Int) ≤ 2
            · have HE := Lib.hid (HT.out ⟨⟨c1, c2⟩, ⟨by show 1 ≤ l.length; rw [← Hn.out]; omega, by show l.length ≤ 2; rw [← Hn.out]; omega⟩, HQ2.out⟩)
              go_wp2_with fail
              go_ret
              exact ⟨by rw [HE.out]; first | rfl | (simp; omega), Hb1.out⟩
            · have HE := Lib.hid (HF.out fun h => by have h1 : l.length ≤ 2 := h.2.1.2; rw [← Hn.out] at h1; omega)
              go_wp2_with fail
              go_ret
              exact ⟨by rw [HE.out]; first | rfl | (simp; omega), Hb1.out⟩
          · have HE := Lib.hid (HF.out fun h => by have h1 : 1 ≤ l.length := h.2.1.1; rw [← Hn.out] at h1; omega)
            go_wp2_with fail
            go_ret
            exact ⟨by rw [HE.out]; first | rfl | (simp; omega), Hb1.out⟩
        · have HE := Lib.hid (HF.out fun h => by have h1 : r ≤ 5 := h.1.2; omega)
          go_wp2_with fail
          go_ret
          exact ⟨by rw [HE.out]; first | rfl | (simp; omega), Hb1.out⟩
      · have HE := Lib.hid (HF.out fun h => by have h1 : 0 ≤ r := h.1.1; omega)
        go_wp2_with fail
        go_ret
        exact ⟨by rw [HE.out]; first | rfl | (simp; omega), Hb1.out⟩
set_option maxRecDepth 100000 in
set_option maxHeartbeats 4000000 in
theorem fitsR_any (r : Int) (l : List Int) (u : Value) (w : World) (hu : Ints w u l) (B : Bool) (hB : B = true ↔ AtR (r, l)) :
    Calls Try.prog 66 #[.agg #[.int .i64 r, u]] w fun e w' => e = .returned (.bool B) ∧ Below w.heap.size w w' := by
  obtain ⟨a, b, off, cap, rfl, hle, ha, hc⟩ := Ints.get hu
  obtain ⟨n, hn⟩ : ∃ x, x = l.length := ⟨_, rfl⟩
  have Hn := Lib.hid hn
  have Hc := Lib.hid (show ∀ i, i < l.length → w.cell? ⟨b, off + i, none⟩ = some (.int .i64 (l.getD i 0)) from fun i hi => by rw [hc i hi, List.getD_eq_getElem?_getD, List.getElem?_eq_getElem hi]; rfl)
  have HM := Lib.hid (fun i (hi : i < l.length) => show l.getD i 0 ∈ l from by rw [List.getD_eq_getElem?_getD, List.getElem?_eq_getElem hi]; exact List.getElem_mem hi)
  rw [← hn] at hle ha ⊢
  have Hix := Lib.hid (run_ix (P := Try.prog) (t := 23) (a := a) (len := n) (cap := cap) (b := b) (off := off) (s := 1) Try.underlying23 (by intro w; kernel_rfl) ha)
  simp only [Nat.mul_one] at Hix
  have HT := Lib.hid (fun h : AtR (r, l) => hB.2 h)
  have HF := Lib.hid (fun h : ¬ AtR (r, l) => show B = false from by
    cases B
    · rfl
    · exact absurd (hB.1 rfl) h)
  obtain ⟨w1, hw1⟩ : ∃ x, x = w.alloc (.cells #[.int .i64 r, .slice a n cap] 83) := ⟨_, rfl⟩
  obtain ⟨bx, hbx⟩ : ∃ x, x = w.heap.size := ⟨_, rfl⟩
  have Hb1 := Lib.hid (show Below w.heap.size w w1 from by rw [hw1]; exact below_alloc _ _)
  have HX := Lib.hid (show w1.heap[bx]? = some (.cells #[.int .i64 r, .slice a n cap] 83 (0, 0)) from by rw [hw1, hbx]; exact heap_alloc_new _ _)
  have Hw1 := Lib.hid hw1
  have Hbx := Lib.hid hbx
  have g1 := aCell HX.out 1 rfl
  clear hu ha hc hn hw1 hbx hB
  go_enter Try.func66, Try.ntmps66
  go_upto_region 1 with fail
  rw [← Hw1.out, ← Hbx.out]
  clear Hw1
  go_wp2_with fail
  clear g1
  go_loopw [8] (fun vi wr => ∃ k : Nat, vi = .int .i64 k ∧ k ≤ n ∧ wr = w1 ∧ ∀ x, x ∈ l.take k → -6 ≤ x ∧ x ≤ 7) (fun vi _ => n - (intOf vi).toNat)
  case atStart => exact ⟨0, rfl, Nat.zero_le _, rfl, fun x hx => by rw [List.take_zero] at hx; cases hx⟩
  case round =>
    obtain ⟨k, rfl, hk, hwr, hq⟩ := hrel
    obtain rfl : w1 = wr := hwr.symm
    have HQ := Lib.hid hq
    clear hq
    by_cases hlt : k < n
    · have hlt2 : k < l.length := by rw [← Hn.out]; exact hlt
      have hck := Below.keep Hb1.out (Hc.out k hlt2)
      have hixk := Hix.out k
      have hm := HM.out k hlt2
      have HT1 := Lib.hid (show l.take (k + 1) = l.take k ++ [l.getD k 0] from by rw [List.take_succ_eq_append_getElem hlt2, List.getD_eq_getElem?_getD, List.getElem?_eq_getElem hlt2]; rfl)
      obtain ⟨x, hx⟩ : ∃ x, x = l.getD k 0 := ⟨_, rfl⟩
      rw [← hx] at hck hm HT1
      have Hm := Lib.hid hm
      clear hx hlt2 hm
      by_cases c1 : -6 ≤ x
      · by_cases c2 : x ≤ 7
        · have HQ2 := Lib.hid (show ∀ x, x ∈ l.take (k + 1) → -6 ≤ x ∧ x ≤ 7 from fun y hy => by
            rw [HT1.out] at hy
            rcases List.mem_append.1 hy with hy | hy
            · exact HQ.out y hy
            · rw [List.mem_singleton] at hy; subst hy; exact ⟨c1, c2⟩)
          go_wp2_with fail
          go_roundw
          case rel => exact ⟨k + 1, by go_num, by omega, (by first | rfl | trivial), HQ2.out⟩
          case measure => simp [intOf]; omega
        · have HE := Lib.hid (HF.out fun h => by have := h.2.2 x Hm.out; omega)
          go_wp2_with fail
          go_ret
          exact ⟨by rw [HE.out]; rfl, Hb1.out⟩
      · have HE := Lib.hid (HF.out fun h => by have := h.2.2 x Hm.out; omega)
        go_wp2_with fail
        go_ret
        exact ⟨by rw [HE.out]; rfl, Hb1.out⟩
    · obtain rfl : n = k := by omega
      have g0 := aCell HX.out 0 rfl
      have g1 := aCell HX.out 1 rfl
      have HQ2 := Lib.hid (show ∀ x, x ∈ l → -6 ≤ x ∧ x ≤ 7 from fun x hx => HQ.out x (by rw [Hn.out, List.take_length]; exact hx))
      by_cases c1 : 0 ≤ r
      · by_cases c2 : r ≤ 5
        · by_cases c3 : (1 : Int) ≤ (n : Int)
          · by_cases c4 : (n : Int) ≤ 2
            · have HE := Lib.hid (HT.out ⟨⟨c1, c2⟩, ⟨by show 1 ≤ l.length; rw [← Hn.out]; omega, by show l.length ≤ 2; rw [← Hn.out]; omega⟩, HQ2.out⟩)
              go_wp2_with fail
              go_ret
              exact ⟨by rw [HE.out]; first | rfl | (simp; omega), Hb1.out⟩
            · have HE := Lib.hid (HF.out fun h => by have h1 : l.length ≤ 2 := h.2.1.2; rw [← Hn.out] at h1; omega)
              go_wp2_with fail
              go_ret
              exact ⟨by rw [HE.out]; first | rfl | (simp; omega), Hb1.out⟩
          · have HE := Lib.hid (HF.out fun h => by have h1 : 1 ≤ l.length := h.2.1.1; rw [← Hn.out] at h1; omega)
            go_wp2_with fail
            go_ret
            exact ⟨by rw [HE.out]; first | rfl | (simp; omega), Hb1.out⟩
        · have HE := Lib.hid (HF.out fun h => by have h1 : r ≤ 5 := h.1.2; omega)
          go_wp2_with fail
          go_ret
          exact ⟨by rw [HE.out]; first | rfl | (simp; omega), Hb1.out⟩
      · have HE := Lib.hid (HF.out fun h => by have h1 : 0 ≤ r := h.1.1; omega)
        go_wp2_with fail
        go_ret
        exact ⟨by rw [HE.out]; first | rfl | (simp; omega), Hb1.out⟩
set_option maxHeartbeats 4000000 in
theorem varsR_any (r : Int) (l : List Int) (hl : ∀ t, t ∈ l → t ≤ 7) (u : Value) (w : World) (hu : Ints w u l) :
    Calls Try.prog 67 #[.agg #[.int .i64 r, u]] w fun e w' => e = .returned (.int .i64 (vsA l : Nat)) ∧ Below w.heap.size w w' := by
  obtain ⟨a, b, off, cap, rfl, hle, ha, hc⟩ := Ints.get hu
  have hix := run_ix (P := Try.prog) (t := 23) (a := a) (len := l.length) (cap := cap) (b := b) (off := off) (s := 1) Try.underlying23 (by intro w; kernel_rfl) ha
  simp only [Nat.mul_one] at hix
  have Hix := Lib.hid hix
  have Hc := Lib.hid hc
  have Hl7 := Lib.hid hl
  obtain ⟨w1, hw1⟩ : ∃ w1, w1 = w.alloc (.cells #[.int .i64 r, .slice a l.length cap] 83) := ⟨_, rfl⟩
  have Hb1 := Lib.hid (show Below w.heap.size w w1 from by rw [hw1]; exact below_alloc _ _)
  have g1 : w1.cell? ⟨w.heap.size, 1, none⟩ = some (.slice a l.length cap) := by rw [hw1]; exact cell_new w _ _ 1
  have Hs := Lib.hid (fun k => show vsT l (k + 1) = if isV (l.getD k 0) then vsT l k ||| 2 ^ (l.getD k 0).toNat else vsT l k from rfl)
  have Hlt := Lib.hid (vsT_lt l)
  have Hw1 := Lib.hid hw1
  clear hu ha hc hix hw1 hl
  go_enter Try.func67, Try.ntmps67
  go_upto_region 1 with fail
  rw [← Hw1.out]
  clear Hw1
  go_wp2_with fail
  clear g1
  go_loopw [3, 9] (fun vs vi wr => ∃ k : Nat, vs = .int .i64 (vsT l k : Nat) ∧ vi = .int .i64 k ∧ k ≤ l.length ∧ wr = w1) (fun _ vi _ => l.length - (intOf vi).toNat)
  case atStart => exact ⟨0, rfl, rfl, Nat.zero_le _, rfl⟩
  case round =>
    obtain ⟨k, rfl, rfl, hk, rfl⟩ := hrel
    by_cases hlt : k < l.length
    · have hc1 := Below.keep Hb1.out (Hc.out k hlt)
      have hixk := Hix.out k
      have HS := Lib.hid (Hs.out k)
      have hlt1 := Hlt.out k
      have e : l.getD k 0 = l[k] := by rw [List.getD_eq_getElem?_getD, List.getElem?_eq_getElem hlt]; rfl
      have h7 := Hl7.out _ (List.getElem_mem hlt)
      rw [← e] at hc1 h7
      obtain ⟨t, ht⟩ : ∃ t, t = l.getD k 0 := ⟨_, rfl⟩
      obtain ⟨S, hS⟩ : ∃ S, S = vsT l k := ⟨_, rfl⟩
      rw [← ht, ← hS] at HS
      rw [← ht] at hc1 h7
      rw [← hS] at hlt1 ⊢
      clear ht hS e
      by_cases h : 0 ≤ t
      · have R := Lib.hid (HS.out.trans (if_pos ⟨h, by omega⟩))
        obtain ⟨n, rfl⟩ : ∃ n : Nat, t = n := ⟨t.toNat, by omega⟩
        rw [Int.toNat_natCast] at R
        have hn8 : n < 8 := by omega
        have hsh := qshl_one n
        have hp : 2 ^ n < 256 := Nat.lt_of_lt_of_eq (Nat.pow_lt_pow_right (a := 2) (by decide) hn8) (by decide)
        have hor := bits_or_nat S (2 ^ n) (by omega) (by omega)
        obtain ⟨p, hpn⟩ : ∃ p, p = 2 ^ n := ⟨_, rfl⟩
        rw [← hpn] at R hsh hp hor
        have hn0 : (0 : Int) ≤ (n : Int) := by omega
        have hw := wrap_nat p (by omega)
        clear hpn h h7
        go_wp2_with fail
        go_roundw
        case rel => exact ⟨k + 1, by rw [R.out], by go_num, by omega, (by first | rfl | trivial)⟩
        case measure => simp [intOf]; omega
      · have R := Lib.hid (HS.out.trans (if_neg fun q => h q.1))
        go_wp2_with fail
        go_roundw
        case rel => exact ⟨k + 1, by rw [R.out], by go_num, by omega, (by first | rfl | trivial)⟩
        case measure => simp [intOf]; omega
    · obtain rfl : k = l.length := by omega
      go_wp2_with fail
      go_ret
      exact ⟨rfl, Hb1.out⟩
#print axioms varsR_any
#print axioms fitsR_any
theorem infoPair : (Try.prog.info? 120).map (fun i => (i.zero, i.size, i.bytes)) = some (some (.agg #[.int .i64 0, .int .i64 0]), 2, 16) := by kernel_rfl
theorem elemPairs : Elem Try.prog 119 120 2 16 := elem_of Try.underlying119 infoPair rfl (by omega) (by omega)
def cellP (O : List (Int × Nat)) : List Value := O.flatMap fun o => [.int .i64 o.1, .int .i64 (o.2 : Int)]
theorem cellP_snoc (O : List (Int × Nat)) (o : Int × Nat) : cellP (O ++ [o]) = cellP O ++ [.int .i64 o.1, .int .i64 (o.2 : Int)] := by simp [cellP]
theorem cellP_at : ∀ {O : List (Int × Nat)} {i : Nat} (_ : i < O.length), (cellP O)[i * 2]? = some (.int .i64 (O.getD i (0, 0)).1) ∧ (cellP O)[i * 2 + 1]? = some (.int .i64 ((O.getD i (0, 0)).2 : Int))
  | o :: O, 0, _ => ⟨rfl, rfl⟩
  | o :: O, i + 1, h => by
    have := cellP_at (O := O) (i := i) (by simpa using h)
    have e : cellP (o :: O) = .int .i64 o.1 :: .int .i64 (o.2 : Int) :: cellP O := rfl
    rw [e, show (i + 1) * 2 = (i * 2 + 1) + 1 from by omega]
    simpa using this
/-- a row of uses of the call's own -/
def OwnP (B : Nat) (w : World) (v : Value) (O : List (Int × Nat)) : Prop := w.ownsRow B 120 2 v O.length (cellP O)
theorem ownP_nil (B : Nat) (w : World) : OwnP B w (.slice none 0 0) [] := World.ownsRow_nil _ _ _ _
theorem OwnP.keep {B : Nat} {w w' : World} {v : Value} {O : List (Int × Nat)} (h : OwnP B w v O) (hb : Below w.heap.size w w') : OwnP B w' v O := owns_keep h hb
theorem OwnP.snoc {B : Nat} {w' : World} {v' : Value} {O : List (Int × Nat)} {x : Int} {n : Nat} (h : w'.ownsRow B 120 2 v' (O.length + 1) (cellP O ++ [.int .i64 x, .int .i64 (n : Int)])) : OwnP B w' v' (O ++ [(x, n)]) := by
  unfold OwnP
  rw [cellP_snoc, List.length_append]; exact h
theorem OwnP.get {B : Nat} {w : World} {v : Value} {O : List (Int × Nat)} (h : OwnP B w v O) : ∃ (a : Option Addr) (b off cap : Nat), v = .slice a O.length cap ∧ (0 < O.length → a = some ⟨b, off, none⟩) ∧ ∀ i, i < O.length → w.cell? ⟨b, off + i * 2, none⟩ = some (.int .i64 (O.getD i (0, 0)).1) ∧ w.cell? ⟨b, off + i * 2 + 1, none⟩ = some (.int .i64 ((O.getD i (0, 0)).2 : Int)) := by
  obtain ⟨hl, _, a, b, off, cap, h4, h5, h6⟩ := owns_rd h
  refine ⟨a, b, off, cap, h4, h5.1, fun i hi => ?_⟩
  obtain ⟨e1, e2⟩ := cellP_at hi
  have g1 := h6 (i * 2) (by omega)
  have g2 := h6 (i * 2 + 1) (by omega)
  rw [List.getElem?_eq_getElem (by omega)] at e1 e2
  rw [Option.some.inj e1] at g1
  rw [Option.some.inj e2] at g2
  exact ⟨g1, by rw [Nat.add_assoc]; exact g2⟩
theorem bo_sub (r : RRule) {i : Nat} (h : (boS r r.2.length).testBit i = true) : (alS r r.2.length).testBit i = true := by
  obtain ⟨h1, b, h2, _, h4⟩ := (boS_bit r i _ (Nat.le_refl _)).1 h
  exact (alS_bit r i _ (Nat.le_refl _)).2 ⟨h1, .inr ⟨b, h2, h4⟩⟩
theorem safe_eq (r : RRule) : alS r r.2.length = boS r r.2.length ↔ SafeR r := by
  rw [← safe_iff, ndiff_eq_zero]
  constructor
  · intro h i hi; rw [← h]; exact hi
  · intro h
    refine Nat.eq_of_testBit_eq fun i => ?_
    cases ha : (alS r r.2.length).testBit i with
    | true => exact (h i ha).symm
    | false =>
      cases hb : (boS r r.2.length).testBit i with
      | true => rw [bo_sub r hb] at ha; cases ha
      | false => rfl
def useB (b : RLit) : Int × Nat := (b.2.1, b.2.2.length)
theorem useL_take {l : List RRule} {k : Nat} (hk : k < l.length) : UseL (l.take (k + 1)) = UseL (l.take k) ++ UseR (rR l k) := by
  unfold UseL
  rw [List.take_succ_eq_append_getElem hk, List.flatMap_append, rR_get hk]; simp
theorem useL_len {l : List RRule} (h3 : ∀ r, r ∈ l → r.2.length ≤ 3) : (UseL l).length ≤ l.length * 4 := by
  induction l with
  | nil => simp [UseL]
  | cons r l ih =>
    have := ih fun q hq => h3 q (List.mem_cons_of_mem _ hq)
    have h4 := h3 r (by simp)
    unfold UseL at this ⊢
    rw [List.flatMap_cons, List.length_append, List.length_cons]
    have : (UseR r).length = r.2.length + 1 := by simp [UseR]
    omega
/-- the uses, in the reference's order -/
def UseV (l : List RRule) (fs : List RAt) : List (Int × Nat) := UseF fs ++ UseL l
theorem con_swap {l : List RRule} {fs : List RAt} : Consist (UseV l fs) ↔ Consist (UseL l ++ UseF fs) := by
  unfold Consist UseV
  simp only [List.mem_append]
  exact ⟨fun h o ho p hp => h o ho.symm p hp.symm, fun h o ho p hp => h o ho.symm p hp.symm⟩
set_option maxRecDepth 100000 in
set_option maxHeartbeats 16000000 in
theorem ValidR_any (l : List RRule) (fs : List RAt) (v u : Value) (w : World) (hv : Rules w v l) (hu : Atoms w u fs) (B : Bool) (hB : B = true ↔ ValR l fs) :
    Calls Try.prog 21 #[v, u] w fun e w' => e = .returned (.bool B) ∧ Below w.heap.size w w' := by
  obtain ⟨a, b, off, cap, rfl, hle, hia, _, hcs⟩ := Rules.get hv
  obtain ⟨a2, b2, off2, cap2, vs2, rfl, hle2, hia2, _, hcs2⟩ := Atoms.get hu
  obtain ⟨n, hn⟩ : ∃ x, x = l.length := ⟨_, rfl⟩
  obtain ⟨m, hm⟩ : ∃ x, x = fs.length := ⟨_, rfl⟩
  have Hn := Lib.hid hn
  have Hm := Lib.hid hm
  rw [← hn] at hle hia hcs ⊢
  rw [← hm] at hle2 hia2 hcs2 ⊢
  have Hix := Lib.hid (run_ix (P := Try.prog) (t := 22) (a := a) (len := n) (cap := cap) (b := b) (off := off) (s := 3) Try.underlying22 (by intro w; kernel_rfl) hia)
  have Hix2 := Lib.hid (run_ix (P := Try.prog) (t := 39) (a := a2) (len := m) (cap := cap2) (b := b2) (off := off2) (s := 2) Try.underlying39 (by intro w; kernel_rfl) hia2)
  have Hc := Lib.hid hcs
  have Hc2 := Lib.hid hcs2
  have HT := Lib.hid (fun h : ValR l fs => hB.2 h)
  have HF := Lib.hid (fun h : ¬ ValR l fs => show B = false from by
    cases B
    · rfl
    · exact absurd (hB.1 rfl) h)
  clear hv hu hia hia2 hcs hcs2 hn hm hB
  go_enter Try.func21, Try.ntmps21
  by_cases h10 : (n : Int) ≤ 10
  · by_cases h20 : (m : Int) ≤ 20
    · go_wp2_with fail
      go_loopw [5, 28] (fun vo vi wr => ∃ (k : Nat) (oa : Option Addr) (on oc : Nat), vo = .slice oa on oc ∧ vi = .int .i64 k ∧ k ≤ m ∧ Below w.heap.size w wr ∧ OwnP w.heap.size wr (.slice oa on oc) (UseF (fs.take k)) ∧ ∀ f, f ∈ fs.take k → FcR f) (fun _ vi _ => m - (intOf vi).toNat)
      case atStart => exact ⟨0, none, 0, 0, rfl, rfl, Nat.zero_le _, Below.refl _ _, ownP_nil _ _, fun f hf => by rw [List.take_zero] at hf; cases hf⟩
      case round =>
        generalize wr = wx at *
        obtain ⟨k, oa, on, oc, rfl, rfl, hk, hb, ho, hq⟩ := hrel
        have HB := Lib.hid hb
        have HO := Lib.hid ho
        have HQ := Lib.hid hq
        clear hb ho hq
        by_cases hlt : k < m
        · obtain ⟨q0, q1, q2⟩ := Hc2.out k hlt
          have q0 := Below.keep HB.out q0
          have q1 := Below.keep HB.out q1
          have q2 := Ints.keep q2 HB.out
          have hixk := Hix2.out k
          have hlt2 : k < fs.length := by rw [← Hm.out]; exact hlt
          have HTk := Lib.hid (show fs.take (k + 1) = fs.take k ++ [fs.getD k (0, [])] from take_get hlt2)
          have HMf := Lib.hid (show fs.getD k (0, []) ∈ fs from getA_mem hlt2)
          have HOl := Lib.hid (show (UseF (fs.take k)).length + 1 ≤ 100000000000 from by simp [UseF]; omega)
          unfold aR at q0
          unfold aA at q2
          obtain ⟨⟨r, A⟩, hf⟩ : ∃ x, x = fs.getD k (0, []) := ⟨_, rfl⟩
          rw [← hf] at q0 q2 HTk HMf
          simp only at q0 q2
          obtain ⟨xa, xc, hxs⟩ := ints_slice q2
          rw [hxs] at q1 q2
          obtain ⟨xn, hxn⟩ : ∃ x, x = A.length := ⟨_, rfl⟩
          have Hxn := Lib.hid hxn
          rw [← hxn] at q1 q2
          obtain ⟨w3, hw3⟩ : ∃ x, x = wx.alloc (.cells #[.int .i64 r, .slice xa xn xc] 50) := ⟨_, rfl⟩
          have hb3 : Below wx.heap.size wx w3 := by rw [hw3]; exact below_alloc _ _
          obtain ⟨bx, hbx⟩ : ∃ x, x = wx.heap.size := ⟨_, rfl⟩
          have HX := Lib.hid (show w3.heap[bx]? = some (.cells #[.int .i64 r, .slice xa xn xc] 50 (0, 0)) from by rw [hw3, hbx]; exact heap_alloc_new _ _)
          have Hq2 := Lib.hid (q2.keep hb3)
          have HO3 := Lib.hid (HO.out.keep hb3)
          have HB3 := Lib.hid (Below.tr HB.out hb3)
          have Hw3 := Lib.hid hw3
          have Hbx := Lib.hid hbx
          clear hf hxs hxn hw3 hb3 hbx hlt2 q2
          go_upto_region 7 with fail
          rw [← Hw3.out, ← Hbx.out]
          clear Hw3 q0 q1 hixk
          have g0 := aCell HX.out 0 rfl
          have g1 := aCell HX.out 1 rfl
          by_cases hfc : FcR (r, A)
          · have HC := Lib.hid (groundR_any r A (.slice xa xn xc) w3 Hq2.out true ⟨fun _ => hfc, fun _ => rfl⟩)
            have HFc := Lib.hid hfc
            clear hfc
            go_wp2_with fail
            refine HC.out.mono ?_
            clear HC
            rintro e w4 ⟨rfl, hb4⟩
            have HX4 := Lib.hid (blk_keep2 HX.out hb4)
            have HO4 := Lib.hid (HO3.out.keep hb4)
            have HB4 := Lib.hid (Below.tr HB3.out hb4)
            clear hb4 g0 g1
            have g0 := aCell HX4.out 0 rfl
            have g1 := aCell HX4.out 1 rfl
            obtain ⟨w8, hw8⟩ : ∃ x, x = w4.alloc (.cells #[.int .i64 r, .int .i64 (xn : Int)] 120) := ⟨_, rfl⟩
            have hb8 : Below w4.heap.size w4 w8 := by rw [hw8]; exact below_alloc _ _
            obtain ⟨bk, hbk⟩ : ∃ x, x = w4.heap.size := ⟨_, rfl⟩
            have HK := Lib.hid (show w8.heap[bk]? = some (.cells #[.int .i64 r, .int .i64 (xn : Int)] 120 (0, 0)) from by rw [hw8, hbk]; exact heap_alloc_new _ _)
            have HO8 := Lib.hid (HO4.out.keep hb8)
            have HB8 := Lib.hid (Below.tr HB4.out hb8)
            have HB48 := Lib.hid hb8
            have Hw8 := Lib.hid hw8
            have Hbk := Lib.hid hbk
            have hl2 := HOl.out
            clear hw8 hb8 hbk
            go_wp2_with (first | (at_builtin; rw [← Hw8.out, ← Hbk.out]; refine append_own rfl (.tmp 35) (.tmp 42) 119 rfl elemPairs rfl HO8.out (m := 1) [.int .i64 r, .int .i64 (xn : Int)] rfl rfl (fun k y hk => aCell HK.out k (by simpa using hk)) (by intro u hu; simp at hu; rcases hu with rfl | rfl <;> rfl) hl2 HB8.out.size ?_; intro v9 w9 h91 h92 h93; obtain ⟨pa, pn, pk, rfl⟩ := row_slice h91; have HO9 := Lib.hid (OwnP.snoc h91); have HB9 := Lib.hid (HB8.out.trans h92); have H93 := Lib.hid h93; clear h91 h92 h93))
            have HO5 := Lib.hid (show OwnP w.heap.size w9 (.slice pa pn pk) (UseF (fs.take (k + 1))) from by
              have := HO9.out
              rw [HTk.out]
              unfold UseF at this ⊢
              rw [List.map_append]
              rw [Hxn.out] at this
              exact this)
            have HQ5 := Lib.hid (show ∀ f, f ∈ fs.take (k + 1) → FcR f from fun f hf => by
              rw [HTk.out] at hf
              rcases List.mem_append.1 hf with hf | hf
              · exact HQ.out f hf
              · rw [List.mem_singleton] at hf; subst hf; exact HFc.out)
            clear g0 g1 H93
            go_wp2_with fail
            go_roundw
            case rel => exact ⟨k + 1, pa, pn, pk, rfl, by go_num, by omega, HB9.out, HO5.out, HQ5.out⟩
            case measure => simp [intOf]; omega
          · have HC := Lib.hid (groundR_any r A (.slice xa xn xc) w3 Hq2.out false ⟨fun h => (by cases h), fun h => absurd h hfc⟩)
            have HE := Lib.hid (HF.out fun h => hfc (h.fcs _ HMf.out))
            clear hfc
            go_wp2_with fail
            refine HC.out.mono ?_
            clear HC
            rintro e w4 ⟨rfl, hb4⟩
            have HB4 := Lib.hid (Below.tr HB3.out hb4)
            clear hb4 g0 g1
            go_wp2_with fail
            go_ret
            exact ⟨by rw [HE.out]; rfl, HB4.out⟩
        · obtain rfl : m = k := by omega
          have HQf := Lib.hid (show ∀ f, f ∈ fs → FcR f from fun f hf => HQ.out f (by rw [Hm.out, List.take_length]; exact hf))
          have HOf := Lib.hid (show OwnP w.heap.size wx (.slice oa on oc) (UseF fs ++ UseL (l.take 0)) from by
            have := HO.out
            rw [Hm.out, List.take_length] at this
            rw [List.take_zero]
            show OwnP _ _ _ (UseF fs ++ [])
            rw [List.append_nil]; exact this)
          have HQF0 := Lib.hid HQf.out
          have hfl : (UseF fs).length = m := by simp [UseF, Hm.out]
          have Hfl := Lib.hid hfl
          clear HO HQ hfl
          go_wp2_with fail
          go_loopw [5, 47] (fun vo vi wr => ∃ (k : Nat) (oa : Option Addr) (on oc : Nat), vo = .slice oa on oc ∧ vi = .int .i64 k ∧ k ≤ n ∧ Below w.heap.size w wr ∧ OwnP w.heap.size wr (.slice oa on oc) (UseF fs ++ UseL (l.take k)) ∧ ∀ r, r ∈ l.take k → (AtR r.1 ∧ ∀ b, b ∈ r.2 → AtR b.2) ∧ r.2.length ≤ 3 ∧ SafeR r) (fun _ vi _ => n - (intOf vi).toNat)
          case atStart => exact ⟨0, oa, on, oc, rfl, rfl, Nat.zero_le _, HB.out, HOf.out, fun r hr => by rw [List.take_zero] at hr; cases hr⟩
          case round =>
            clear HOf HB
            generalize wr = wx at *
            obtain ⟨k, oa, on, oc, rfl, rfl, hk, hb, ho, hq⟩ := hrel
            have HB := Lib.hid hb
            have HO := Lib.hid ho
            have HQ := Lib.hid hq
            clear hb ho hq
            by_cases hlt : k < n
            · obtain ⟨ua, uc, va, vc, hc0, hc1, hc2, hui, hvi⟩ := Hc.out k hlt
              have hc0 := Below.keep HB.out hc0
              have hc1 := Below.keep HB.out hc1
              have hc2 := Below.keep HB.out hc2
              have hixk := Hix.out k
              have hlt2 : k < l.length := by rw [← Hn.out]; exact hlt
              have HMr := Lib.hid (show rR l k ∈ l from by rw [rR_get hlt2]; exact List.getElem_mem hlt2)
              have HTk := Lib.hid (show l.take (k + 1) = l.take k ++ [rR l k] from by rw [List.take_succ_eq_append_getElem hlt2, rR_get hlt2])
              have HUk := Lib.hid (useL_take hlt2)
              have Hsz := Lib.hid (show (UseL (l.take k)).length ≤ 40 from by
                have h1 := useL_len (l := l.take k) fun r hr => (HQ.out r hr).2.1
                have h2 : (l.take k).length ≤ 10 := by rw [List.length_take]; omega
                omega)
              have HOl := Lib.hid (show (UseF fs ++ UseL (l.take k)).length + 1 ≤ 100000000000 from by
                rw [List.length_append, Hfl.out]
                have := Hsz.out
                omega)
              obtain ⟨⟨⟨hr, A⟩, bd⟩, hrr⟩ : ∃ x, x = rR l k := ⟨_, rfl⟩
              rw [← hrr] at hc0 hc1 hc2 hui hvi HMr HTk HUk
              simp only at hc0 hc1 hc2 hui hvi
              obtain ⟨un, hun⟩ : ∃ x, x = A.length := ⟨_, rfl⟩
              obtain ⟨bn, hbn⟩ : ∃ x, x = bd.length := ⟨_, rfl⟩
              have Hun := Lib.hid hun
              have Hbn := Lib.hid hbn
              rw [← hun] at hc1 hui
              rw [← hbn] at hc2 hvi
              obtain ⟨w3, hw3⟩ : ∃ x, x = wx.alloc (.cells #[.int .i64 hr, .slice ua un uc, .slice va bn vc] 86) := ⟨_, rfl⟩
              have hb3 : Below wx.heap.size wx w3 := by rw [hw3]; exact below_alloc _ _
              obtain ⟨b9, hb9⟩ : ∃ x, x = wx.heap.size := ⟨_, rfl⟩
              have HX := Lib.hid (show w3.heap[b9]? = some (.cells #[.int .i64 hr, .slice ua un uc, .slice va bn vc] 86 (0, 0)) from by rw [hw3, hb9]; exact heap_alloc_new _ _)
              have Hui := Lib.hid hui
              have Hvi := Lib.hid hvi
              have HO3 := Lib.hid (HO.out.keep hb3)
              have HB3 := Lib.hid (Below.tr HB.out hb3)
              have Hw3 := Lib.hid hw3
              have Hb9 := Lib.hid hb9
              clear hrr hun hbn hui hvi hw3 hb3 hb9 hlt2
              go_upto_region 14 with fail
              rw [← Hw3.out, ← Hb9.out]
              clear Hw3 hc0 hc1 hc2 hixk
              have g0 := aCell HX.out 0 rfl
              have g1 := aCell HX.out 1 rfl
              have g2 := aCell HX.out 2 rfl
              by_cases hat : AtR (hr, A)
              · have HC := Lib.hid (fitsR_any hr A (.slice ua un uc) w3 (Hui.out.keep HB3.out) true ⟨fun _ => hat, fun _ => rfl⟩)
                have HAt := Lib.hid hat
                clear hat
                by_cases h3 : (bn : Int) ≤ 3
                · go_wp2_with fail
                  refine HC.out.mono ?_
                  clear HC
                  rintro e w4 ⟨rfl, hb4⟩
                  have HX4 := Lib.hid (blk_keep2 HX.out hb4)
                  have HO4 := Lib.hid (HO3.out.keep hb4)
                  have HB4 := Lib.hid (Below.tr HB3.out hb4)
                  clear hb4 g0 g1 g2
                  have g0 := aCell HX4.out 0 rfl
                  have g1 := aCell HX4.out 1 rfl
                  have g2 := aCell HX4.out 2 rfl
                  obtain ⟨w8, hw8⟩ : ∃ x, x = w4.alloc (.cells #[.int .i64 hr, .int .i64 (un : Int)] 120) := ⟨_, rfl⟩
                  have hb8 : Below w4.heap.size w4 w8 := by rw [hw8]; exact below_alloc _ _
                  obtain ⟨bk, hbk⟩ : ∃ x, x = w4.heap.size := ⟨_, rfl⟩
                  have HK := Lib.hid (show w8.heap[bk]? = some (.cells #[.int .i64 hr, .int .i64 (un : Int)] 120 (0, 0)) from by rw [hw8, hbk]; exact heap_alloc_new _ _)
                  have HO8 := Lib.hid (HO4.out.keep hb8)
                  have HB8 := Lib.hid (Below.tr HB4.out hb8)
                  have HB48 := Lib.hid hb8
                  have Hw8 := Lib.hid hw8
                  have Hbk := Lib.hid hbk
                  have hl2 := HOl.out
                  clear hw8 hb8 hbk
                  go_upto_region 17 with (first | (at_builtin; rw [← Hw8.out, ← Hbk.out]; refine append_own rfl (.tmp 61) (.tmp 70) 119 rfl elemPairs rfl HO8.out (m := 1) [.int .i64 hr, .int .i64 (un : Int)] rfl rfl (fun k y hk => aCell HK.out k (by simpa using hk)) (by intro u hu; simp at hu; rcases hu with rfl | rfl <;> rfl) hl2 HB8.out.size ?_; intro v9 w9 h91 h92 h93; obtain ⟨pa, pn, pk, rfl⟩ := row_slice h91; have HO9 := Lib.hid (OwnP.snoc h91); have HB9 := Lib.hid (HB8.out.trans h92); have H93 := Lib.hid h93; clear h91 h92 h93))
                  have HX9 := Lib.hid (block_grown HO8.out H93.out (blk_keep2 HX4.out HB48.out) (by decide))
                  have hv7 : ∀ t, t ∈ A → t ≤ 7 := fun t ht => (HAt.out.2.2 t ht).2
                  have HC := Lib.hid (varsR_any hr A hv7 (.slice ua un uc) w9 (Hui.out.keep HB9.out))
                  have HO5 := Lib.hid (show OwnP w.heap.size w9 (.slice pa pn pk) (UseF fs ++ UseL (l.take k) ++ [(hr, A.length)]) from by have := HO9.out; rw [Hun.out] at this; exact this)
                  have HAl := Lib.hid (fun k => show alS ((hr, A), bd) (k + 1) = alS ((hr, A), bd) k ||| vsA (lL bd k).2.2 from rfl)
                  have HBo := Lib.hid (fun k => show boS ((hr, A), bd) (k + 1) = if (lL bd k).1 = true then boS ((hr, A), bd) k else boS ((hr, A), bd) k ||| vsA (lL bd k).2.2 from rfl)
                  have HAlt := Lib.hid (alS_lt ((hr, A), bd))
                  have HBlt := Lib.hid (boS_lt ((hr, A), bd))
                  have H0 := Lib.hid (show alS ((hr, A), bd) 0 = vsA A from rfl)
                  have H00 := Lib.hid (show boS ((hr, A), bd) 0 = 0 from rfl)
                  clear g0 g1 g2 hv7
                  have g0 := aCell HX9.out 0 rfl
                  have g1 := aCell HX9.out 1 rfl
                  go_wp2_with fail
                  refine HC.out.mono ?_
                  clear HC
                  rintro e w5 ⟨rfl, hb5⟩
                  have HX5 := Lib.hid (blk_keep2 HX9.out hb5)
                  have HO6 := Lib.hid (HO5.out.keep hb5)
                  have HB5 := Lib.hid (Below.tr HB9.out hb5)
                  rw [← H0.out]
                  clear hb5 g0 g1
                  have g2 := aCell HX5.out 2 rfl
                  obtain ⟨a6, b6, off6, cap6, he6, hvl, hia6, _, hcs6⟩ := Lits.get Hvi.out
                  rw [← Hbn.out] at he6 hvl hia6 hcs6
                  injection he6 with e1 e2 e3
                  subst e1 e3
                  have Hix6 := Lib.hid (run_ix (P := Try.prog) (t := 84) (a := va) (len := bn) (cap := vc) (b := b6) (off := off6) (s := 3) Try.underlying84 (by intro w; kernel_rfl) hia6)
                  have Hc6 := Lib.hid hcs6
                  clear hia6 hcs6 e2
                  go_wp2_with fail
                  clear g2
                  go_loopw [5, 10, 11, 78] (fun vo va vb vi wr => ∃ (j : Nat) (oa : Option Addr) (on oc : Nat), vo = .slice oa on oc ∧ va = .int .i64 (alS ((hr, A), bd) j : Nat) ∧ vb = .int .i64 (boS ((hr, A), bd) j : Nat) ∧ vi = .int .i64 j ∧ j ≤ bn ∧ Below w.heap.size w wr ∧ OwnP w.heap.size wr (.slice oa on oc) (UseF fs ++ UseL (l.take k) ++ [(hr, A.length)] ++ (bd.take j).map useB) ∧ ∀ b, b ∈ bd.take j → AtR b.2) (fun _ _ _ vi _ => bn - (intOf vi).toNat)
                  case atStart => exact ⟨0, pa, pn, pk, rfl, rfl, by rw [H00.out]; rfl, rfl, Nat.zero_le _, HB5.out, by rw [List.take_zero]; show OwnP _ _ _ (_ ++ []); rw [List.append_nil]; exact HO6.out, fun b hb => by rw [List.take_zero] at hb; cases hb⟩
                  case round =>
                    clear HX HX4 HX9 HX5 HO3 HO4 HO5 HO6 HO8 HO9 HB3 HB4 HB5 HB8 HB9 HB48 H93 HO HB HOl
                    generalize wr = wy at *
                    obtain ⟨j, oa, on, oc, rfl, rfl, rfl, rfl, hj, hb, ho, hq⟩ := hrel
                    have HB := Lib.hid hb
                    have HO := Lib.hid ho
                    have HQ3 := Lib.hid hq
                    clear hb ho hq
                    by_cases hjl : j < bn
                    · obtain ⟨xa, xc, hd0, hd1, hd2, hxi⟩ := Hc6.out j hjl
                      have hd0 := Below.keep HB.out hd0
                      have hd1 := Below.keep HB.out hd1
                      have hd2 := Below.keep HB.out hd2
                      have hixj := Hix6.out j
                      have hj2 : j < bd.length := by rw [← Hbn.out]; exact hjl
                      have HTj := Lib.hid (show bd.take (j + 1) = bd.take j ++ [lL bd j] from by rw [List.take_succ_eq_append_getElem hj2, lL_get hj2])
                      have HMb := Lib.hid (show lL bd j ∈ bd from by rw [lL_get hj2]; exact List.getElem_mem hj2)
                      have HA := Lib.hid (HAl.out j)
                      have HBk := Lib.hid (HBo.out j)
                      have HOl := Lib.hid (show (UseF fs ++ UseL (l.take k) ++ [(hr, A.length)] ++ (bd.take j).map useB).length + 1 ≤ 100000000000 from by
                        simp only [List.length_append, List.length_map, List.length_take, List.length_singleton]
                        rw [Hfl.out]
                        have := Hsz.out
                        omega)
                      obtain ⟨⟨N, s, X⟩, hx⟩ : ∃ x, x = lL bd j := ⟨_, rfl⟩
                      rw [← hx] at hd0 hd1 hd2 hxi HTj HMb HA HBk
                      simp only at hd0 hd1 hd2 hxi HA HBk
                      obtain ⟨xn, hxn⟩ : ∃ x, x = X.length := ⟨_, rfl⟩
                      have Hxn := Lib.hid hxn
                      rw [← hxn] at hd2 hxi
                      have lA := HAlt.out j
                      have lB := HBlt.out j
                      have lX := vsA_lt X
                      obtain ⟨SA, hSA⟩ : ∃ x, x = alS ((hr, A), bd) j := ⟨_, rfl⟩
                      obtain ⟨SB, hSB⟩ : ∃ x, x = boS ((hr, A), bd) j := ⟨_, rfl⟩
                      obtain ⟨SX, hSX⟩ : ∃ x, x = vsA X := ⟨_, rfl⟩
                      rw [← hSA, ← hSX] at HA
                      rw [← hSB, ← hSX] at HBk
                      rw [← hSA, ← hSB]
                      rw [← hSA] at lA
                      rw [← hSB] at lB
                      rw [← hSX] at lX
                      have hor := bits_or_nat SA SX (by omega) (by omega)
                      have hor2 := bits_or_nat SB SX (by omega) (by omega)
                      obtain ⟨OA, hOA⟩ : ∃ x, x = SA ||| SX := ⟨_, rfl⟩
                      obtain ⟨OB, hOB⟩ : ∃ x, x = SB ||| SX := ⟨_, rfl⟩
                      rw [← hOA] at hor HA
                      rw [← hOB] at hor2 HBk
                      have HV := Lib.hid (fun (h7 : ∀ t, t ∈ X → t ≤ 7) (w : World) (h : Ints w (.slice xa xn xc) X) => varsR_any s X h7 _ w h)
                      rw [← hSX] at HV
                      obtain ⟨w3, hw3⟩ : ∃ x, x = wy.alloc (.cells #[.bool N, .int .i64 s, .slice xa xn xc] 88) := ⟨_, rfl⟩
                      have hb3 : Below wy.heap.size wy w3 := by rw [hw3]; exact below_alloc _ _
                      obtain ⟨b8, hb8⟩ : ∃ x, x = wy.heap.size := ⟨_, rfl⟩
                      have H8 := Lib.hid (show w3.heap[b8]? = some (.cells #[.bool N, .int .i64 s, .slice xa xn xc] 88 (0, 0)) from by rw [hw3, hb8]; exact heap_alloc_new _ _)
                      have Hxi := Lib.hid hxi
                      have HO3 := Lib.hid (HO.out.keep hb3)
                      have HB3 := Lib.hid (Below.tr HB.out hb3)
                      have Hw3 := Lib.hid hw3
                      have Hb8 := Lib.hid hb8
                      clear hx hxn hxi hw3 hb3 hb8 hj2 hSA hSB hSX hOA hOB
                      go_upto_region 21 with fail
                      rw [← Hw3.out, ← Hb8.out]
                      clear Hw3 hd0 hd1 hd2 hixj
                      have g0 := aCell H8.out 0 rfl
                      have g1 := aCell H8.out 1 rfl
                      have g2 := aCell H8.out 2 rfl
                      by_cases hat : AtR (s, X)
                      · have HC := Lib.hid (fitsR_any s X (.slice xa xn xc) w3 (Hxi.out.keep HB3.out) true ⟨fun _ => hat, fun _ => rfl⟩)
                        have HAx := Lib.hid hat
                        clear hat
                        go_wp2_with fail
                        refine HC.out.mono ?_
                        clear HC
                        rintro e w4 ⟨rfl, hb4⟩
                        have H84 := Lib.hid (blk_keep2 H8.out hb4)
                        have HO4 := Lib.hid (HO3.out.keep hb4)
                        have HB4 := Lib.hid (Below.tr HB3.out hb4)
                        clear hb4 g0 g1 g2
                        have g0 := aCell H84.out 0 rfl
                        have g1 := aCell H84.out 1 rfl
                        have g2 := aCell H84.out 2 rfl
                        obtain ⟨w8, hw8⟩ : ∃ x, x = w4.alloc (.cells #[.int .i64 s, .int .i64 (xn : Int)] 120) := ⟨_, rfl⟩
                        have hb8 : Below w4.heap.size w4 w8 := by rw [hw8]; exact below_alloc _ _
                        obtain ⟨bk, hbk⟩ : ∃ x, x = w4.heap.size := ⟨_, rfl⟩
                        have HK := Lib.hid (show w8.heap[bk]? = some (.cells #[.int .i64 s, .int .i64 (xn : Int)] 120 (0, 0)) from by rw [hw8, hbk]; exact heap_alloc_new _ _)
                        have HO8 := Lib.hid (HO4.out.keep hb8)
                        have HB8 := Lib.hid (Below.tr HB4.out hb8)
                        have HB48 := Lib.hid hb8
                        have Hw8 := Lib.hid hw8
                        have Hbk := Lib.hid hbk
                        have hl2 := HOl.out
                        clear hw8 hb8 hbk
                        go_upto_region 24 with (first | (at_builtin; rw [← Hw8.out, ← Hbk.out]; refine append_own rfl (.tmp 86) (.tmp 95) 119 rfl elemPairs rfl HO8.out (m := 1) [.int .i64 s, .int .i64 (xn : Int)] rfl rfl (fun k y hk => aCell HK.out k (by simpa using hk)) (by intro u hu; simp at hu; rcases hu with rfl | rfl <;> rfl) hl2 HB8.out.size ?_; intro v9 w9 h91 h92 h93; obtain ⟨pa, pn, pk, rfl⟩ := row_slice h91; have HO9 := Lib.hid (OwnP.snoc h91); have HB9 := Lib.hid (HB8.out.trans h92); have H93 := Lib.hid h93; clear h91 h92 h93))
                        have H89 := Lib.hid (block_grown HO8.out H93.out (blk_keep2 H84.out HB48.out) (by decide))
                        have HO5 := Lib.hid (show OwnP w.heap.size w9 (.slice pa pn pk) (UseF fs ++ UseL (l.take k) ++ [(hr, A.length)] ++ (bd.take (j + 1)).map useB) from by
                          have := HO9.out
                          rw [HTj.out, List.map_append, ← List.append_assoc]
                          rw [Hxn.out] at this
                          exact this)
                        have HQ5 := Lib.hid (show ∀ b, b ∈ bd.take (j + 1) → AtR b.2 from fun b hb => by
                          rw [HTj.out] at hb
                          rcases List.mem_append.1 hb with hb | hb
                          · exact HQ3.out b hb
                          · rw [List.mem_singleton] at hb; subst hb; exact HAx.out)
                        have HV2 := Lib.hid (HV.out fun t ht => (HAx.out.2.2 t ht).2)
                        have HC := Lib.hid (HV2.out w9 (Hxi.out.keep HB9.out))
                        clear g0 g1 g2
                        have g0 := aCell H89.out 0 rfl
                        have g1 := aCell H89.out 1 rfl
                        have g2 := aCell H89.out 2 rfl
                        go_wp2_with fail
                        refine HC.out.mono ?_
                        clear HC
                        rintro e w5 ⟨rfl, hb5⟩
                        have H85 := Lib.hid (blk_keep2 H89.out hb5)
                        have HO6 := Lib.hid (HO5.out.keep hb5)
                        have HB5 := Lib.hid (Below.tr HB9.out hb5)
                        clear hb5 g0 g1 g2
                        have g0 := aCell H85.out 0 rfl
                        have g1 := aCell H85.out 1 rfl
                        have g2 := aCell H85.out 2 rfl
                        cases N
                        · have R := Lib.hid (HBk.out.trans (if_neg (by simp)))
                          have HC := Lib.hid (HV2.out w5 (Hxi.out.keep HB5.out))
                          go_wp2_with fail
                          refine HC.out.mono ?_
                          clear HC
                          rintro e w6 ⟨rfl, hb6⟩
                          have HO7 := Lib.hid (HO6.out.keep hb6)
                          have HB6 := Lib.hid (Below.tr HB5.out hb6)
                          clear hb6 g0 g1 g2
                          go_wp2_with fail
                          go_roundw
                          case rel => exact ⟨j + 1, pa, pn, pk, rfl, by rw [HA.out], by rw [R.out], by go_num, by omega, HB6.out, HO7.out, HQ5.out⟩
                          case measure => simp [intOf]; omega
                        · have R := Lib.hid (HBk.out.trans (if_pos rfl))
                          go_wp2_with fail
                          go_roundw
                          case rel => exact ⟨j + 1, pa, pn, pk, rfl, by rw [HA.out], by rw [R.out], by go_num, by omega, HB5.out, HO6.out, HQ5.out⟩
                          case measure => simp [intOf]; omega
                      · have HC := Lib.hid (fitsR_any s X (.slice xa xn xc) w3 (Hxi.out.keep HB3.out) false ⟨fun h => (by cases h), fun h => absurd h hat⟩)
                        have HE := Lib.hid (HF.out fun h => hat ((h.ats _ HMr.out).2 _ HMb.out))
                        clear hat
                        go_wp2_with fail
                        refine HC.out.mono ?_
                        clear HC
                        rintro e w4 ⟨rfl, hb4⟩
                        have HB4 := Lib.hid (Below.tr HB3.out hb4)
                        clear hb4 g0 g1 g2
                        go_wp2_with fail
                        go_ret
                        exact ⟨by rw [HE.out]; rfl, HB4.out⟩
                    · obtain rfl : bn = j := by omega
                      have lA := HAlt.out bn
                      have lB := HBlt.out bn
                      have HSe := Lib.hid (show alS ((hr, A), bd) bn = boS ((hr, A), bd) bn ↔ SafeR ((hr, A), bd) from by rw [Hbn.out]; exact safe_eq ((hr, A), bd))
                      have HQ9 := Lib.hid (show SafeR ((hr, A), bd) → ∀ r, r ∈ l.take (k + 1) → (AtR r.1 ∧ ∀ b, b ∈ r.2 → AtR b.2) ∧ r.2.length ≤ 3 ∧ SafeR r from fun hs r hr2 => by
                        rw [HTk.out] at hr2
                        rcases List.mem_append.1 hr2 with hr2 | hr2
                        · exact HQ.out r hr2
                        · rw [List.mem_singleton] at hr2
                          subst hr2
                          exact ⟨⟨HAt.out, fun b hb => HQ3.out b (by rw [Hbn.out, List.take_length]; exact hb)⟩, by show bd.length ≤ 3; rw [← Hbn.out]; omega, hs⟩)
                      have HO9 := Lib.hid (show OwnP w.heap.size wy (.slice oa on oc) (UseF fs ++ UseL (l.take (k + 1))) from by
                        have := HO.out
                        rw [Hbn.out, List.take_length] at this
                        rw [HUk.out]
                        have e : UseF fs ++ UseL (l.take k) ++ [(hr, A.length)] ++ bd.map useB = UseF fs ++ (UseL (l.take k) ++ UseR ((hr, A), bd)) := by
                          simp [UseR, useB]
                        rw [← e]; exact this)
                      obtain ⟨SA, hSA⟩ : ∃ x, x = alS ((hr, A), bd) bn := ⟨_, rfl⟩
                      obtain ⟨SB, hSB⟩ : ∃ x, x = boS ((hr, A), bd) bn := ⟨_, rfl⟩
                      rw [← hSA, ← hSB] at HSe
                      rw [← hSA, ← hSB]
                      clear hSA hSB lA lB
                      by_cases hs : SA = SB
                      · have hs2 : ((SA : Int) != (SB : Int)) = false := by rw [hs]; simp
                        have HQa := Lib.hid (HQ9.out (HSe.out.1 hs))
                        go_wp2_with fail
                        go_roundw
                        case rel => exact ⟨k + 1, oa, on, oc, rfl, by go_num, by omega, HB.out, HO9.out, HQa.out⟩
                        case measure => simp [intOf]; omega
                      · have hs2 : ((SA : Int) != (SB : Int)) = true := by rw [bne_iff_ne]; omega
                        have HE := Lib.hid (HF.out fun h => hs (HSe.out.2 (h.safe _ HMr.out)))
                        go_wp2_with fail
                        go_ret
                        exact ⟨by rw [HE.out]; rfl, HB.out⟩
                · have HE := Lib.hid (HF.out fun h => by have h1 : bd.length ≤ 3 := h.b3 _ HMr.out; rw [← Hbn.out] at h1; omega)
                  go_wp2_with fail
                  refine HC.out.mono ?_
                  clear HC
                  rintro e w4 ⟨rfl, hb4⟩
                  have HX4 := Lib.hid (blk_keep2 HX.out hb4)
                  have HB4 := Lib.hid (Below.tr HB3.out hb4)
                  clear hb4 g0 g1 g2
                  have g2 := aCell HX4.out 2 rfl
                  go_wp2_with fail
                  go_ret
                  exact ⟨by rw [HE.out]; rfl, HB4.out⟩
              · have HC := Lib.hid (fitsR_any hr A (.slice ua un uc) w3 (Hui.out.keep HB3.out) false ⟨fun h => (by cases h), fun h => absurd h hat⟩)
                have HE := Lib.hid (HF.out fun h => hat (h.ats _ HMr.out).1)
                clear hat
                go_wp2_with fail
                refine HC.out.mono ?_
                clear HC
                rintro e w4 ⟨rfl, hb4⟩
                have HB4 := Lib.hid (Below.tr HB3.out hb4)
                clear hb4 g0 g1 g2
                go_wp2_with fail
                go_ret
                exact ⟨by rw [HE.out]; rfl, HB4.out⟩
            · obtain rfl : n = k := by omega
              have HQf := Lib.hid (show (∀ r, r ∈ l → (AtR r.1 ∧ ∀ b, b ∈ r.2 → AtR b.2) ∧ r.2.length ≤ 3 ∧ SafeR r) from fun r hr => HQ.out r (by rw [Hn.out, List.take_length]; exact hr))
              have HVc := Lib.hid (show Consist (UseV l fs) → ValR l fs from fun h => ⟨by rw [← Hn.out]; omega, by rw [← Hm.out]; omega, fun r hr => (HQf.out r hr).1, fun r hr => (HQf.out r hr).2.1, fun r hr => (HQf.out r hr).2.2, HQF0.out, con_swap.1 h⟩)
              have HOv := Lib.hid (show OwnP w.heap.size wx (.slice oa on oc) (UseV l fs) from by
                have := HO.out
                rw [Hn.out, List.take_length] at this
                exact this)
              have Hsz := Lib.hid (show (UseV l fs).length ≤ 100 from by
                have h1 := useL_len fun r hr => (HQf.out r hr).2.1
                unfold UseV
                rw [List.length_append, Hfl.out]
                rw [← Hn.out] at h1
                omega)
              obtain ⟨O, hO⟩ : ∃ O, O = UseV l fs := ⟨_, rfl⟩
              rw [← hO] at HVc HOv Hsz
              have HOe := Lib.hid hO
              clear HO HQ hO
              obtain ⟨oa', ob, ooff, ocap, hoe, hoi, hoc⟩ := OwnP.get HOv.out
              injection hoe with e1 e2 e3
              subst e1 e3
              obtain ⟨q, hq⟩ : ∃ q, q = O.length := ⟨_, rfl⟩
              have Hq := Lib.hid hq
              rw [← hq] at e2 hoi hoc Hsz
              subst e2
              have HixO := Lib.hid (run_ix (P := Try.prog) (t := 119) (a := oa) (len := on) (cap := oc) (b := ob) (off := ooff) (s := 2) Try.underlying119 (by intro w; kernel_rfl) hoi)
              have HcO := Lib.hid hoc
              have hq100 := Hsz.out
              clear hoi hoc hq
              go_wp2_with fail
              go_loopw [117] (fun vi wr => ∃ i : Nat, vi = .int .i64 i ∧ i ≤ on ∧ Below wx.heap.size wx wr ∧ ∀ o, o ∈ O.take i → ∀ p, p ∈ O → o.1 = p.1 → o.2 = p.2) (fun vi _ => on - (intOf vi).toNat)
              case atStart => exact ⟨0, rfl, Nat.zero_le _, Below.refl _ _, fun o ho => by rw [List.take_zero] at ho; cases ho⟩
              case round =>
                generalize wr = wy at *
                obtain ⟨i, rfl, hi, hb, hq⟩ := hrel
                have HBy := Lib.hid hb
                have HQy := Lib.hid hq
                clear hb hq
                by_cases hlt : i < on
                · obtain ⟨c0, c1⟩ := HcO.out i hlt
                  have c0 := Below.keep HBy.out c0
                  have c1 := Below.keep HBy.out c1
                  have hixi := HixO.out i
                  have hi2 : i < O.length := by rw [← Hq.out]; exact hlt
                  have HTi := Lib.hid (show O.take (i + 1) = O.take i ++ [O.getD i (0, 0)] from by rw [List.take_succ_eq_append_getElem hi2, List.getD_eq_getElem?_getD, List.getElem?_eq_getElem hi2]; rfl)
                  have HMi := Lib.hid (show O.getD i (0, 0) ∈ O from by rw [List.getD_eq_getElem?_getD, List.getElem?_eq_getElem hi2]; exact List.getElem_mem hi2)
                  obtain ⟨⟨x1, x2⟩, hx⟩ : ∃ x, x = O.getD i (0, 0) := ⟨_, rfl⟩
                  rw [← hx] at c0 c1 HTi HMi
                  simp only at c0 c1
                  obtain ⟨w3, hw3⟩ : ∃ x, x = wy.alloc (.cells #[.int .i64 x1, .int .i64 (x2 : Int)] 120) := ⟨_, rfl⟩
                  have hb3 : Below wy.heap.size wy w3 := by rw [hw3]; exact below_alloc _ _
                  obtain ⟨b15, hb15⟩ : ∃ x, x = wy.heap.size := ⟨_, rfl⟩
                  have HX := Lib.hid (show w3.heap[b15]? = some (.cells #[.int .i64 x1, .int .i64 (x2 : Int)] 120 (0, 0)) from by rw [hw3, hb15]; exact heap_alloc_new _ _)
                  have HB3 := Lib.hid (Below.tr HBy.out hb3)
                  have Hw3 := Lib.hid hw3
                  have Hb15 := Lib.hid hb15
                  clear hx hw3 hb3 hb15 hi2
                  go_upto_region 34 with fail
                  rw [← Hw3.out, ← Hb15.out]
                  clear Hw3 c0 c1 hixi
                  go_wp2_with fail
                  go_loopw [123] (fun vi wr => ∃ j : Nat, vi = .int .i64 j ∧ j ≤ on ∧ Below w3.heap.size w3 wr ∧ ∀ p, p ∈ O.take j → x1 = p.1 → x2 = p.2) (fun vi _ => on - (intOf vi).toNat)
                  case atStart => exact ⟨0, rfl, Nat.zero_le _, Below.refl _ _, fun o ho => by rw [List.take_zero] at ho; cases ho⟩
                  case round =>
                    generalize wr = wz at *
                    obtain ⟨j, rfl, hj, hb, hq⟩ := hrel
                    have HBz := Lib.hid hb
                    have HQz := Lib.hid hq
                    clear hb hq
                    by_cases hjl : j < on
                    · obtain ⟨c0, c1⟩ := HcO.out j hjl
                      have hbw : Below wx.heap.size wx wz := Below.tr HB3.out HBz.out
                      have c0 := Below.keep hbw c0
                      have c1 := Below.keep hbw c1
                      have hixj := HixO.out j
                      have hj2 : j < O.length := by rw [← Hq.out]; exact hjl
                      have HTj := Lib.hid (show O.take (j + 1) = O.take j ++ [O.getD j (0, 0)] from by rw [List.take_succ_eq_append_getElem hj2, List.getD_eq_getElem?_getD, List.getElem?_eq_getElem hj2]; rfl)
                      have HMj := Lib.hid (show O.getD j (0, 0) ∈ O from by rw [List.getD_eq_getElem?_getD, List.getElem?_eq_getElem hj2]; exact List.getElem_mem hj2)
                      obtain ⟨⟨y1, y2⟩, hy⟩ : ∃ x, x = O.getD j (0, 0) := ⟨_, rfl⟩
                      rw [← hy] at c0 c1 HTj HMj
                      simp only at c0 c1
                      obtain ⟨w7, hw7⟩ : ∃ x, x = wz.alloc (.cells #[.int .i64 y1, .int .i64 (y2 : Int)] 120) := ⟨_, rfl⟩
                      have hb7 : Below wz.heap.size wz w7 := by rw [hw7]; exact below_alloc _ _
                      obtain ⟨b17, hb17⟩ : ∃ x, x = wz.heap.size := ⟨_, rfl⟩
                      have HY := Lib.hid (show w7.heap[b17]? = some (.cells #[.int .i64 y1, .int .i64 (y2 : Int)] 120 (0, 0)) from by rw [hw7, hb17]; exact heap_alloc_new _ _)
                      have HX7 := Lib.hid (blk_keep2 (blk_keep2 HX.out HBz.out) hb7)
                      have HB7 := Lib.hid (Below.tr HBz.out hb7)
                      have Hw7 := Lib.hid hw7
                      have Hb17 := Lib.hid hb17
                      clear hy hw7 hb7 hb17 hj2 hbw
                      go_upto_region 37 with fail
                      rw [← Hw7.out, ← Hb17.out]
                      clear Hw7 c0 c1 hixj
                      have g0 := aCell HX7.out 0 rfl
                      have g1 := aCell HX7.out 1 rfl
                      have k0 := aCell HY.out 0 rfl
                      have k1 := aCell HY.out 1 rfl
                      have HNx := Lib.hid (fun (h : x1 = y1 → x2 = y2) => show ∀ p, p ∈ O.take (j + 1) → x1 = p.1 → x2 = p.2 from fun p hp => by
                        rw [HTj.out] at hp
                        rcases List.mem_append.1 hp with hp | hp
                        · exact HQz.out p hp
                        · rw [List.mem_singleton] at hp; subst hp; exact h)
                      by_cases e1 : x1 = y1
                      · by_cases e2 : x2 = y2
                        · have HN9 := Lib.hid (HNx.out fun _ => e2)
                          have q1 : (x1 == y1) = true := by rw [e1]; simp
                          have q2 : ((x2 : Int) != (y2 : Int)) = false := by rw [e2]; simp
                          clear e1 e2
                          go_wp2_with fail
                          go_roundw
                          case rel => exact ⟨j + 1, by go_num, by omega, HB7.out, HN9.out⟩
                          case measure => simp [intOf]; omega
                        · have HE := Lib.hid (HF.out fun h => e2 ((con_swap.2 h.con) (x1, x2) (by rw [← HOe.out]; exact HMi.out) (y1, y2) (by rw [← HOe.out]; exact HMj.out) e1))
                          have q1 : (x1 == y1) = true := by rw [e1]; simp
                          have q2 : ((x2 : Int) != (y2 : Int)) = true := by rw [bne_iff_ne]; omega
                          have HBe := Lib.hid (show Below w.heap.size w w7 from Below.tr (Below.tr HB.out HB3.out) HB7.out)
                          clear e1 e2
                          go_wp2_with fail
                          go_ret
                          exact ⟨by rw [HE.out]; rfl, HBe.out⟩
                      · have HN9 := Lib.hid (HNx.out fun h => absurd h e1)
                        have q1 : (x1 == y1) = false := by rw [beq_eq_false_iff_ne]; exact e1
                        clear e1
                        go_wp2_with fail
                        go_roundw
                        case rel => exact ⟨j + 1, by go_num, by omega, HB7.out, HN9.out⟩
                        case measure => simp [intOf]; omega
                    · obtain rfl : on = j := by omega
                      have HN9 := Lib.hid (show ∀ o, o ∈ O.take (i + 1) → ∀ p, p ∈ O → o.1 = p.1 → o.2 = p.2 from fun o ho p hp => by
                        rw [HTi.out] at ho
                        rcases List.mem_append.1 ho with ho | ho
                        · exact HQy.out o ho p hp
                        · rw [List.mem_singleton] at ho
                          subst ho
                          exact HQz.out p (by rw [Hq.out, List.take_length]; exact hp))
                      have HBe := Lib.hid (Below.tr HB3.out HBz.out)
                      go_wp2_with fail
                      go_roundw
                      case rel => exact ⟨i + 1, by go_num, by omega, HBe.out, HN9.out⟩
                      case measure => simp [intOf]; omega
                · obtain rfl : on = i := by omega
                  have HE := Lib.hid (HT.out (HVc.out (by
                    exact fun o ho p hp => HQy.out o (by rw [Hq.out, List.take_length]; exact ho) p hp)))
                  have HBe := Lib.hid (Below.tr HB.out HBy.out)
                  go_wp2_with fail
                  go_ret
                  exact ⟨by rw [HE.out]; rfl, HBe.out⟩
    · have HE := Lib.hid (HF.out fun h => by have := h.f20; rw [← Hm.out] at this; omega)
      go_wp2_with fail
      go_ret
      exact ⟨by rw [HE.out]; rfl, Below.refl _ _⟩
  · have HE := Lib.hid (HF.out fun h => by have := h.l10; rw [← Hn.out] at this; omega)
    go_wp2_with fail
    go_ret
    exact ⟨by rw [HE.out]; rfl, Below.refl _ _⟩
#print axioms ValidR_any
end Go.Proofs.Ythndplkjhbmfmaa
