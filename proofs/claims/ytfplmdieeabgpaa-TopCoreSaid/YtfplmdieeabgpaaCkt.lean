/- Contracts of climbs, isTree, connected and CheckTree. -/
import Derived.Test.YtfplmdieeabgpaaJtr
import Derived.Test.YtfplmdieeabgpaaHeld
import Derived.Test.YtfplmdieeabgpaaLbx
namespace Go.Proofs.Ytfplmdieeabgpaa
open Go.RowKit
/-- how many there are below k -/
def cnt (P : Nat → Prop) [DecidablePred P] : Nat → Nat
  | 0 => 0
  | k + 1 => cnt P k + if P k then 1 else 0
theorem cnt_0 {P : Nat → Prop} [DecidablePred P] : ∀ k, cnt P k = 0 ↔ ∀ i, i < k → ¬ P i
  | 0 => ⟨fun _ i h => by omega, fun _ => rfl⟩
  | k + 1 => by
    rw [cnt]
    have := cnt_0 (P := P) k
    by_cases c : P k
    · rw [if_pos c]; exact ⟨fun h => by omega, fun h => absurd c (h k (by omega))⟩
    · rw [if_neg c, Nat.add_zero, this]
      refine ⟨fun h i hi => ?_, fun h i hi => h i (by omega)⟩
      by_cases e : i = k
      · rw [e]; exact c
      · exact h i (by omega)
theorem cnt_1 {P : Nat → Prop} [DecidablePred P] : ∀ k, cnt P k ≤ 1 ↔ ∀ i j, i < k → j < k → P i → P j → i = j
  | 0 => ⟨fun _ i j h => by omega, fun _ => by simp [cnt]⟩
  | k + 1 => by
    rw [cnt]
    have h0 := cnt_0 (P := P) k
    have h1 := cnt_1 (P := P) k
    by_cases c : P k
    · rw [if_pos c]
      constructor
      · intro h i j hi hj hPi hPj
        have z := h0.1 (by omega)
        by_cases e : i = k
        · by_cases f : j = k
          · rw [e, f]
          · exact absurd hPj (z j (by omega))
        · exact absurd hPi (z i (by omega))
      · intro h
        have : cnt P k = 0 := h0.2 fun i hi hP => by have := h i k (by omega) (by omega) hP c; omega
        omega
    · rw [if_neg c, Nat.add_zero, h1]
      refine ⟨fun h i j hi hj hPi hPj => ?_, fun h i j hi hj => h i j (by omega) (by omega)⟩
      by_cases e : i = k
      · rw [e] at hPi; exact absurd hPi c
      · by_cases f : j = k
        · rw [f] at hPj; exact absurd hPj c
        · exact h i j (by omega) (by omega) hPi hPj
theorem cnt_le {P : Nat → Prop} [DecidablePred P] : ∀ k, cnt P k ≤ k
  | 0 => Nat.le_refl _
  | k + 1 => by rw [cnt]; have := cnt_le (P := P) k; split <;> omega
theorem cnt_one {P : Nat → Prop} [DecidablePred P] (k : Nat) : cnt P k = 1 ↔ (∃ r, r < k ∧ P r) ∧ ∀ i j, i < k → j < k → P i → P j → i = j := by
  rw [← cnt_1 (P := P) k]
  have h0 := cnt_0 (P := P) k
  constructor
  · intro h
    refine ⟨Classical.byContradiction fun hn => ?_, by omega⟩
    have := h0.2 fun i hi hP => hn ⟨i, hi, hP⟩
    omega
  · rintro ⟨⟨r, hr, hP⟩, h⟩
    have : cnt P k ≠ 0 := fun c => h0.1 c r hr hP
    omega
instance (V : Nat → Nat → Prop) [∀ i v, Decidable (V i v)] (par : List Int) (v : Nat) : DecidablePred fun i => V i v ∧ ¬ (0 ≤ pa par i ∧ V (pa par i).toNat v) := fun _ => inferInstance
instance (l : List HAt) (i v : Nat) : Decidable (Vq l i v) := inferInstanceAs (Decidable (_ = _))
/-- parents without cycles, with one root -/
def IsT (par : List Int) (n : Nat) : Prop := (∀ i, i < n → -1 ≤ pa par i ∧ pa par i < n) ∧ (∀ i, i < n → Climb par n i) ∧ cnt (fun i => pa par i = -1) n = 1
def topP (l : List HAt) (par : List Int) (v i : Nat) : Prop := Vq l i v ∧ ¬ (0 ≤ pa par i ∧ Vq l (pa par i).toNat v)
instance (l : List HAt) (par : List Int) (v : Nat) : DecidablePred (topP l par v) := fun _ => inferInstanceAs (Decidable (_ ∧ ¬ _))
theorem isTree_iff {l : List HAt} {n : Nat} {par : List Int} (hl : par.length = n) : IsTree (Vq l) n par ↔ IsT par n ∧ ∀ v, v < 8 → cnt (topP l par v) n ≤ 1 := by
  constructor
  · intro T
    refine ⟨⟨T.rng, T.up, (cnt_one n).2 ?_⟩, fun v hv => (cnt_1 n).2 fun i j hi hj h1 h2 => T.conn v hv i j ⟨hi, h1⟩ ⟨hj, h2⟩⟩
    obtain ⟨r, h1, h2, h3⟩ := T.root
    exact ⟨⟨r, h1, h2⟩, fun i j hi hj hPi hPj => by rw [h3 i hi hPi, h3 j hj hPj]⟩
  · rintro ⟨⟨h1, h2, h3⟩, h4⟩
    obtain ⟨⟨r, r1, r2⟩, r3⟩ := (cnt_one n).1 h3
    exact ⟨hl, h1, ⟨r, r1, r2, fun i hi hp => r3 i r hi r1 hp r2⟩, h2, fun v hv i j hi hj => (cnt_1 n).1 (h4 v hv) i j hi.1 hj.1 hi.2 hj.2⟩
set_option maxRecDepth 100000 in
set_option maxHeartbeats 4000000 in
theorem climbs_any (par : List Int) (hr : ∀ i, i < par.length → -1 ≤ pa par i ∧ pa par i < par.length) (i : Nat) (hi : i < par.length) (u : Value) (w : World) (hu : Ints w u par) (B : Bool) (hB : B = true ↔ Climb par par.length i) :
    Calls Try.prog 120 #[u, .int .i64 i] w fun e w' => e = .returned (.bool B) ∧ w = w' := by
  obtain ⟨a, b, off, cap, rfl, hle, hia, hc⟩ := Ints.get hu
  obtain ⟨n, hn2⟩ : ∃ x, x = par.length := ⟨_, rfl⟩
  have Hc := Lib.hid (show ∀ i, i < n → w.cell? ⟨b, off + i, none⟩ = some (.int .i64 (pa par i)) from fun i hi => by rw [hc i (by omega)]; unfold pa; rw [List.getD_eq_getElem?_getD, List.getElem?_eq_getElem]; rfl)
  rw [← hn2] at hia hr hi hB hle ⊢
  have Hix := Lib.hid (run_ix (P := Try.prog) (t := 22) (a := a) (len := n) (cap := cap) (b := b) (off := off) (s := 1) Try.underlying22 (by intro w; kernel_rfl) hia)
  simp only [Nat.mul_one] at Hix
  have Hr := Lib.hid hr
  have HB := Lib.hid hB
  clear hu hn2 hia hc hr hB
  go_enter Try.func120, Try.ntmps120
  go_wp2_with fail
  go_loopw [1, 7] (fun x vi wr => ∃ k j : Nat, x = .int .i64 j ∧ vi = .int .i64 k ∧ k ≤ n ∧ j < n ∧ wr = w ∧ (B = true ↔ Climb par (n - k) j)) (fun _ vi _ => n - (intOf vi).toNat)
  case atStart => exact ⟨0, i, rfl, rfl, Nat.zero_le _, hi, rfl, HB.out⟩
  case round =>
    obtain ⟨k, j, rfl, rfl, hk, hj, hwr, hbk⟩ := hrel
    obtain rfl : w = wr := hwr.symm
    have Hbk := Lib.hid hbk
    clear hbk
    by_cases hlt : k < n
    · have hcj := Hc.out j hj
      have hixj := Hix.out j
      have h12 := Hr.out j hj
      have Hst := Lib.hid (show Climb par (n - k) j ↔ pa par j = -1 ∨ (0 ≤ pa par j ∧ Climb par (n - (k + 1)) (pa par j).toNat) from by rw [show n - k = (n - (k + 1)) + 1 by omega]; exact Iff.rfl)
      obtain ⟨p, hp⟩ : ∃ p, p = pa par j := ⟨_, rfl⟩
      rw [← hp] at hcj h12 Hst
      clear hp
      by_cases h : p = -1
      · have HR := Lib.hid (show B = true from Hbk.out.2 (Hst.out.2 (.inl h)))
        have hq : (p == -1) = true := by rw [h]; rfl
        subst h
        go_wp2_with fail
        go_ret
        exact ⟨by rw [HR.out]; rfl, rfl⟩
      · have hq : (p == -1) = false := by rw [beq_eq_false_iff_ne]; exact h
        obtain ⟨m, rfl⟩ : ∃ m : Nat, p = m := ⟨p.toNat, by omega⟩
        have HR := Lib.hid (show B = true ↔ Climb par (n - (k + 1)) m from by
          rw [Hbk.out, Hst.out, Int.toNat_natCast]
          exact ⟨fun h1 => by
            rcases h1 with h1 | h1
            · exact absurd h1 h
            · exact h1.2, fun h1 => .inr ⟨by omega, h1⟩⟩)
        clear h
        go_wp2_with fail
        go_roundw
        case rel => exact ⟨k + 1, m, rfl, by go_num, by omega, by omega, by first | rfl | trivial, HR.out⟩
        case measure => simp [intOf]; omega
    · obtain rfl : n = k := by omega
      have HR := Lib.hid (show B = false from by
        cases c : B with
        | false => rfl
        | true => have := Hbk.out.1 c; rw [Nat.sub_self] at this; exact this.elim)
      go_wp2_with fail
      go_ret
      exact ⟨by rw [HR.out]; rfl, rfl⟩
set_option maxRecDepth 100000 in
set_option maxHeartbeats 8000000 in
theorem isTree_any (par : List Int) (h1000 : par.length ≤ 1000) (u : Value) (w : World) (hu : Ints w u par) (B : Bool) (hB : B = true ↔ IsT par par.length) :
    Calls Try.prog 92 #[u] w fun e w' => e = .returned (.bool B) ∧ w = w' := by
  have Hu := Lib.hid hu
  obtain ⟨a, b, off, cap, rfl, hle, hia, hc⟩ := Ints.get hu
  obtain ⟨n, hn2⟩ : ∃ x, x = par.length := ⟨_, rfl⟩
  have Hc := Lib.hid (show ∀ i, i < n → w.cell? ⟨b, off + i, none⟩ = some (.int .i64 (pa par i)) from fun i hi => by rw [hc i (by omega)]; unfold pa; rw [List.getD_eq_getElem?_getD, List.getElem?_eq_getElem]; rfl)
  rw [← hn2] at hia hle h1000 Hu hB ⊢
  have Hix := Lib.hid (run_ix (P := Try.prog) (t := 22) (a := a) (len := n) (cap := cap) (b := b) (off := off) (s := 1) Try.underlying22 (by intro w; kernel_rfl) hia)
  simp only [Nat.mul_one] at Hix
  have Hn := Lib.hid hn2
  have HNo := Lib.hid (fun (h : ¬ IsT par n) => show B = false from by
    cases c : B with
    | false => rfl
    | true => exact absurd (hB.1 c) h)
  have HYes := Lib.hid (fun (h : IsT par n) => show B = true from hB.2 h)
  clear hu hn2 hia hc hB
  go_enter Try.func92, Try.ntmps92
  go_wp2_with fail
  go_loopw [3, 9] (fun x vi wr => ∃ k R : Nat, x = .int .i64 R ∧ vi = .int .i64 k ∧ k ≤ n ∧ wr = w ∧ R ≤ k ∧ R = cnt (fun i => pa par i = -1) k ∧ ∀ i, i < k → -1 ≤ pa par i ∧ pa par i < n) (fun _ vi _ => n - (intOf vi).toNat)
  case atStart => exact ⟨0, 0, rfl, rfl, Nat.zero_le _, rfl, Nat.le_refl _, rfl, fun i h => by omega⟩
  case round =>
    obtain ⟨k, R, rfl, rfl, hk, hwr, hRk, hR, hin⟩ := hrel
    obtain rfl : w = wr := hwr.symm
    have HR := Lib.hid hR
    have Hin := Lib.hid hin
    clear hR hin
    by_cases hlt : k < n
    · have hck := Hc.out k hlt
      have hixk := Hix.out k
      have HS := Lib.hid (show cnt (fun i => pa par i = -1) (k + 1) = cnt (fun i => pa par i = -1) k + if pa par k = -1 then 1 else 0 from rfl)
      have HN := Lib.hid (fun (h : -1 ≤ pa par k ∧ pa par k < n) => show ∀ i, i < k + 1 → -1 ≤ pa par i ∧ pa par i < n from fun i hi => by
        by_cases e : i = k
        · rw [e]; exact h
        · exact Hin.out i (by omega))
      have HF := Lib.hid (fun (h : ¬ (-1 ≤ pa par k ∧ pa par k < n)) => HNo.out fun t => h (t.1 k hlt))
      rw [← HR.out] at HS
      obtain ⟨p, hp⟩ : ∃ p, p = pa par k := ⟨_, rfl⟩
      rw [← hp] at hck HS HN HF
      clear hp
      by_cases h1 : p < -1
      · have HF := Lib.hid (HF.out (by omega))
        go_wp2_with fail
        go_ret
        exact ⟨by rw [HF.out]; rfl, rfl⟩
      · by_cases h2 : p ≥ (n : Int)
        · have HF := Lib.hid (HF.out (by omega))
          go_wp2_with fail
          go_ret
          exact ⟨by rw [HF.out]; rfl, rfl⟩
        · have HN2 := Lib.hid (HN.out (by omega))
          by_cases h : p = -1
          · have HS := Lib.hid (HS.out.trans (by rw [if_pos h]))
            have hq : (p == -1) = true := by rw [h]; rfl
            subst h
            go_wp2_with fail
            go_roundw
            case rel => exact ⟨k + 1, R + 1, by go_num, by go_num, by omega, by first | rfl | trivial, by omega, HS.out.symm, HN2.out⟩
            case measure => simp [intOf]; omega
          · have HS := Lib.hid (HS.out.trans (by rw [if_neg h]))
            have hq : (p == -1) = false := by rw [beq_eq_false_iff_ne]; exact h
            go_wp2_with fail
            go_roundw
            case rel => exact ⟨k + 1, R, rfl, by go_num, by omega, by first | rfl | trivial, by omega, HS.out.symm, HN2.out⟩
            case measure => simp [intOf]; omega
    · obtain rfl : n = k := by omega
      have Hrng := Lib.hid Hin.out
      go_wp2_with fail
      go_loopw [28] (fun vi wr => ∃ k : Nat, vi = .int .i64 k ∧ k ≤ n ∧ wr = w ∧ ∀ i, i < k → Climb par n i) (fun vi _ => n - (intOf vi).toNat)
      case atStart => exact ⟨0, rfl, Nat.zero_le _, rfl, fun i h => by omega⟩
      case round =>
        obtain ⟨k, rfl, hk, hwr, hin⟩ := hrel
        obtain rfl : w = wr := hwr.symm
        have Hcl := Lib.hid hin
        clear hin
        by_cases hlt : k < n
        · by_cases h : Climb par n k
          · have HN := Lib.hid (show ∀ i, i < k + 1 → Climb par n i from fun i hi => by
              by_cases e : i = k
              · rw [e]; exact h
              · exact Hcl.out i (by omega))
            have HCm := Lib.hid (show Calls Try.prog 120 #[.slice a n cap, .int .i64 k] w fun e w' => e = .returned (.bool true) ∧ w = w' from climbs_any par (by rw [← Hn.out]; exact Hrng.out) k (by rw [← Hn.out]; exact hlt) _ w Hu.out true ⟨fun _ => by rw [← Hn.out]; exact h, fun _ => rfl⟩)
            clear h
            go_wp2_with fail
            refine HCm.out.mono ?_
            rintro e w5 ⟨rfl, rfl⟩
            go_wp2_with fail
            go_roundw
            case rel => exact ⟨k + 1, by go_num, by omega, by first | rfl | trivial, HN.out⟩
            case measure => simp [intOf]; omega
          · have HF := Lib.hid (HNo.out fun t => h (t.2.1 k hlt))
            have HCm := Lib.hid (show Calls Try.prog 120 #[.slice a n cap, .int .i64 k] w fun e w' => e = .returned (.bool false) ∧ w = w' from climbs_any par (by rw [← Hn.out]; exact Hrng.out) k (by rw [← Hn.out]; exact hlt) _ w Hu.out false ⟨fun h => (by cases h), fun h2 => absurd (by rw [Hn.out]; exact h2) h⟩)
            clear h
            go_wp2_with fail
            refine HCm.out.mono ?_
            rintro e w5 ⟨rfl, rfl⟩
            go_wp2_with fail
            go_ret
            exact ⟨by rw [HF.out]; rfl, rfl⟩
        · obtain rfl : n = k := by omega
          by_cases h : R = 1
          · have HT := Lib.hid (HYes.out ⟨Hrng.out, Hcl.out, by rw [← HR.out]; exact h⟩)
            subst h
            go_wp2_with fail
            go_ret
            exact ⟨by rw [HT.out]; rfl, rfl⟩
          · have HF := Lib.hid (HNo.out fun t => h (HR.out.trans t.2.2))
            have hq : ((R : Int) == 1) = false := by rw [beq_eq_false_iff_ne]; omega
            go_wp2_with fail
            go_ret
            exact ⟨by rw [HF.out]; rfl, rfl⟩
/-- the two boxes that the closure has -/
structure Bc (w : World) (bq bv : Nat) (h0 b0 : Value) (v : Int) : Prop where
  q : w.heap[bq]? = some (.cells #[h0, b0] 33 (0, 0))
  v : w.heap[bv]? = some (.cells #[.int .i64 v] 3 (0, 0))
theorem Bc.keep {w w' : World} {bq bv : Nat} {h0 b0 : Value} {v : Int} (h : Bc w bq bv h0 b0 v) (hb : Below w.heap.size w w') : Bc w' bq bv h0 b0 v := ⟨blk_keep2 h.q hb, blk_keep2 h.v hb⟩
set_option maxRecDepth 100000 in
set_option maxHeartbeats 8000000 in
theorem conn1_any (l : List HAt) (i : Int) (hi : -1 ≤ i ∧ i < l.length) (v : Nat) (hv8 : v < 8) (h0 b0 : Value) (bq bv : Nat) (w : World) (hb : Atoms w b0 l) (hB : Bc w bq bv h0 b0 v) (C : Bool) (hC : decide (0 ≤ i ∧ Vq l i.toNat v) = C) :
    Calls Try.prog 121 #[.int .i64 i, .pointer (some ⟨bq, 0, none⟩), .pointer (some ⟨bv, 0, none⟩)] w fun e w' => e = .returned (.bool C) ∧ Below w.heap.size w w' := by
  obtain ⟨a, b, off, cap, vs, rfl, hle, hia, _, hcl⟩ := Atoms.get hb
  obtain ⟨n, hn2⟩ : ∃ x, x = l.length := ⟨_, rfl⟩
  have Hn := Lib.hid hn2
  rw [← hn2] at hia hcl hle hB hi
  have Hix := Lib.hid (run_ix (P := Try.prog) (t := 31) (a := a) (len := n) (cap := cap) (b := b) (off := off) (s := 2) Try.underlying31 (by intro w; kernel_rfl) hia)
  have Hc := Lib.hid hcl
  have HB := Lib.hid hB
  have HC := Lib.hid hC
  clear hb hn2 hia hcl hB hC
  by_cases h : 0 ≤ i
  · obtain ⟨k, rfl⟩ : ∃ k : Nat, i = k := ⟨i.toNat, by omega⟩
    have hkn : k < n := by omega
    have hc1 := (Hc.out k hkn).1
    have hc2 := (Hc.out k hkn).2.1
    have hi2 := (Hc.out k hkn).2.2
    have hixk := Hix.out k
    have HV := Lib.hid (show C = (vsA (aA l k)).testBit v from by
      rw [← HC.out, Int.toNat_natCast]
      unfold Vq
      simp [show (0 : Int) ≤ (k : Int) from by omega])
    obtain ⟨ua, uc, hua⟩ := ints_slice hi2
    rw [hua] at hc2 hi2
    clear hua
    obtain ⟨r, hr⟩ : ∃ t, t = aR l k := ⟨_, rfl⟩
    obtain ⟨A, hA⟩ : ∃ t, t = aA l k := ⟨_, rfl⟩
    rw [← hr] at hc1
    rw [← hA] at hc2 hi2 HV
    clear hr hA
    obtain ⟨un, hun⟩ : ∃ x, x = A.length := ⟨_, rfl⟩
    rw [← hun] at hc2 hi2
    clear hun
    have Hi := Lib.hid hi2
    have HS0 := Lib.hid (show Bc w.drew bq bv h0 (.slice a n cap) v ∧ w.drew.cell? ⟨b, off + k * 2, none⟩ = some (.int .i64 r) ∧ w.drew.cell? ⟨b, off + k * 2 + 1, none⟩ = some (.slice ua un uc) from ⟨⟨HB.out.q, HB.out.v⟩, hc1, hc2⟩)
    have HW0 := Lib.hid (show Below w.heap.size w w.drew from (Below.refl _ _).drew)
    have hv0 : (0 : Int) ≤ (v : Int) := by omega
    have hv64 : (v : Int) < 64 := by omega
    clear hi2 hc1 hc2 h hi
    go_enter Try.func121, Try.ntmps121
    go_upto_region 1 with fail
    try simp only [Act.put]
    go_cut [4] (fun o1 wc => o1 = .bool C ∧ Below w.heap.size w wc)
    case first =>
      refine wp_region_held (S := fun w' => Bc w' bq bv h0 (.slice a n cap) v ∧ w'.cell? ⟨b, off + k * 2, none⟩ = some (.int .i64 r) ∧ w'.cell? ⟨b, off + k * 2 + 1, none⟩ = some (.slice ua un uc)) wideK ?_
      change wpAnyH _ _ _ _ _ _ _ _ (World.drew _)
      generalize w.drew = wd0 at *
      refine wpAnyH_take (i := 0) (v := ?_) rfl (by kernel_rfl) (by kernel_rfl) (by kernel_rfl) (fun _ _ _ h => h) (Or.inl ⟨by rfl, ?_⟩) HS0.out ?_
      rotate_left
      focus (intro w hS; clear hS; first | (go_simp; done) | (go_simp; with_reducible rfl))
      simp only [Act.put, List.getElem_toArray, List.getElem_cons_zero, List.setIfInBounds_toArray, List.set_cons_zero, List.set_cons_succ]
      refine wpAnyH_take (i := 1) (v := ?_) rfl (by kernel_rfl) (by kernel_rfl) (by kernel_rfl) (fun _ _ _ h => h) (Or.inl ⟨by rfl, ?_⟩) HS0.out ?_
      rotate_left
      focus (intro w hS; clear hS; first | (go_simp; done) | (go_simp; with_reducible rfl))
      simp only [Act.put, List.getElem_toArray, List.getElem_cons_zero, List.getElem_cons_succ, List.setIfInBounds_toArray, List.set_cons_zero, List.set_cons_succ]
      refine wpAnyH_take (i := 2) (v := ?_) rfl (by kernel_rfl) (by kernel_rfl) (by kernel_rfl) (fun _ _ _ h => h) (Or.inl ⟨by rfl, ?_⟩) HS0.out ?_
      rotate_left
      focus (intro w hS; clear hS; first | (go_simp; done) | (go_simp; with_reducible rfl))
      simp only [Act.put, List.getElem_toArray, List.getElem_cons_zero, List.getElem_cons_succ, List.setIfInBounds_toArray, List.set_cons_zero, List.set_cons_succ]
      refine wpAnyH_take (i := 3) (v := ?_) rfl (by kernel_rfl) (by kernel_rfl) (by kernel_rfl) (fun _ _ _ h => h) (Or.inl ⟨by rfl, ?_⟩) HS0.out ?_
      rotate_left
      focus (intro w hS; clear hS; first | (go_simp; done) | (go_simp; with_reducible rfl))
      simp only [Act.put, List.getElem_toArray, List.getElem_cons_zero, List.getElem_cons_succ, List.setIfInBounds_toArray, List.set_cons_zero, List.set_cons_succ]
      refine wpAnyH_take (i := 4) (v := ?_) rfl (by kernel_rfl) (by kernel_rfl) (by kernel_rfl) (fun _ _ _ h => h) (Or.inl ⟨by rfl, ?_⟩) HS0.out ?_
      rotate_left
      focus (intro w hS; have s0 := aCell hS.1.q 0 rfl; have s1 := aCell hS.1.q 1 rfl; clear hS; first | (go_simp; done) | (go_simp; with_reducible rfl))
      simp only [Act.put, List.getElem_toArray, List.getElem_cons_zero, List.getElem_cons_succ, List.setIfInBounds_toArray, List.set_cons_zero, List.set_cons_succ]
      refine wpAnyH_take (i := 5) (v := ?_) rfl (by kernel_rfl) (by kernel_rfl) (by kernel_rfl) (fun _ _ _ h => h) (Or.inl ⟨by rfl, ?_⟩) HS0.out ?_
      rotate_left
      focus (intro w hS; clear hS; first | (go_simp; done) | (go_simp; with_reducible rfl))
      simp only [Act.put, List.getElem_toArray, List.getElem_cons_zero, List.getElem_cons_succ, List.setIfInBounds_toArray, List.set_cons_zero, List.set_cons_succ]
      refine wpAnyH_take (i := 6) (v := ?_) rfl (by kernel_rfl) (by kernel_rfl) (by kernel_rfl) (fun _ _ _ h => h) (Or.inl ⟨by rfl, ?_⟩) HS0.out ?_
      rotate_left
      focus (intro w hS; clear hS; first | (go_simp; done) | (go_simp; with_reducible rfl))
      simp only [Act.put, List.getElem_toArray, List.getElem_cons_zero, List.getElem_cons_succ, List.setIfInBounds_toArray, List.set_cons_zero, List.set_cons_succ]
      refine wpAnyH_take (i := 7) (v := ?_) rfl (by kernel_rfl) (by kernel_rfl) (by kernel_rfl) (fun _ _ _ h => h) (Or.inl ⟨by rfl, ?_⟩) HS0.out ?_
      rotate_left
      focus (intro w hS; have s0 := hS.2.1; have s1 := hS.2.2; clear hS; first | (go_simp; done) | (go_simp; with_reducible rfl))
      simp only [Act.put, List.getElem_toArray, List.getElem_cons_zero, List.getElem_cons_succ, List.setIfInBounds_toArray, List.set_cons_zero, List.set_cons_succ]
      refine wpAnyH_take (i := 9) (v := ?_) rfl (by kernel_rfl) (by kernel_rfl) (by kernel_rfl) (fun _ _ _ h => h) (Or.inl ⟨by rfl, ?_⟩) HS0.out ?_
      rotate_left
      focus (intro w hS; have s0 := aCell hS.1.v 0 rfl; clear hS; first | (go_simp; done) | (go_simp; with_reducible rfl))
      simp only [Act.put, List.getElem_toArray, List.getElem_cons_zero, List.getElem_cons_succ, List.setIfInBounds_toArray, List.set_cons_zero, List.set_cons_succ]
      refine wpAnyH_ready (rs := [8]) (by kernel_rfl) (by simp) ?_
      refine RdyH.cons rfl (fun K2 hK => ?_) RdyH.nil
      go_simp
      go_at_call 112
      refine (atomVars_any r A _ _ (Hi.out.keep HW0.out)).mono ?_
      rintro e wd1 ⟨rfl, hb⟩
      have HS1 := Lib.hid (And.intro (HS0.out.1.keep hb) (And.intro (Below.keep hb HS0.out.2.1) (Below.keep hb HS0.out.2.2)))
      have HW1 := Lib.hid (Below.tr HW0.out hb)
      clear hb
      obtain ⟨V, hV⟩ : ∃ V, V = vsA A := ⟨_, rfl⟩
      have HV256 : V < 256 := by rw [hV]; exact vsA_lt A
      rw [← hV] at HV ⊢
      clear hV
      have t1 := qshr_bit V v (by omega)
      obtain ⟨P, hP, p1, p2, p3⟩ := qpow_name v (by omega)
      rw [p1] at t1
      clear hP
      go_simp
      refine hK _ _ HS1.out ?_
      clear hK K2
      cases hbt : V.testBit v
      · rw [hbt, if_neg (by simp)] at t1
        rw [hbt] at HV
        refine wpAnyH_take (i := 10) (v := ?_) rfl (by kernel_rfl) (by kernel_rfl) (by kernel_rfl) (fun _ _ _ h => h) (Or.inl ⟨by rfl, ?_⟩) HS1.out ?_
        rotate_left
        focus (intro w hS; clear hS; first | (go_simp; done) | (go_simp; with_reducible rfl))
        simp only [Act.put, List.getElem_toArray, List.getElem_cons_zero, List.getElem_cons_succ, List.setIfInBounds_toArray, List.set_cons_zero, List.set_cons_succ]
        refine wpAnyH_take (i := 11) (v := ?_) rfl (by kernel_rfl) (by kernel_rfl) (by kernel_rfl) (fun _ _ _ h => h) (Or.inl ⟨by rfl, ?_⟩) HS1.out ?_
        rotate_left
        focus (intro w hS; clear hS; first | (go_simp; done) | (go_simp; with_reducible rfl))
        simp only [Act.put, List.getElem_toArray, List.getElem_cons_zero, List.getElem_cons_succ, List.setIfInBounds_toArray, List.set_cons_zero, List.set_cons_succ]
        refine wpAnyH_take (i := 12) (v := ?_) rfl (by kernel_rfl) (by kernel_rfl) (by kernel_rfl) (fun _ _ _ h => h) (Or.inl ⟨by rfl, ?_⟩) HS1.out ?_
        rotate_left
        focus (intro w hS; clear hS; first | (go_simp; done) | (go_simp; with_reducible rfl))
        simp only [Act.put, List.getElem_toArray, List.getElem_cons_zero, List.getElem_cons_succ, List.setIfInBounds_toArray, List.set_cons_zero, List.set_cons_succ]
        refine wpAnyH_take (i := 13) (v := ?_) rfl (by kernel_rfl) (by kernel_rfl) (by kernel_rfl) (fun _ _ _ h => h) (Or.inl ⟨by rfl, ?_⟩) HS1.out ?_
        rotate_left
        focus (intro w hS; clear hS; first | (go_simp; done) | (go_simp; with_reducible rfl))
        simp only [Act.put, List.getElem_toArray, List.getElem_cons_zero, List.getElem_cons_succ, List.setIfInBounds_toArray, List.set_cons_zero, List.set_cons_succ]
        refine wpAnyH_take (i := 14) (v := ?_) rfl (by kernel_rfl) (by kernel_rfl) (by kernel_rfl) (fun _ _ _ h => h) (Or.inl ⟨by rfl, ?_⟩) HS1.out ?_
        rotate_left
        focus (intro w hS; clear hS; first | (go_simp; done) | (go_simp; with_reducible rfl))
        simp only [Act.put, List.getElem_toArray, List.getElem_cons_zero, List.getElem_cons_succ, List.setIfInBounds_toArray, List.set_cons_zero, List.set_cons_succ]
        refine wpAnyH_done (by kernel_rfl) ?_ _
        go_wp2_with fail
        go_meet
        exact ⟨by rw [HV.out], HW1.out⟩
      · rw [hbt, if_pos rfl] at t1
        rw [hbt] at HV
        refine wpAnyH_take (i := 10) (v := ?_) rfl (by kernel_rfl) (by kernel_rfl) (by kernel_rfl) (fun _ _ _ h => h) (Or.inl ⟨by rfl, ?_⟩) HS1.out ?_
        rotate_left
        focus (intro w hS; clear hS; first | (go_simp; done) | (go_simp; with_reducible rfl))
        simp only [Act.put, List.getElem_toArray, List.getElem_cons_zero, List.getElem_cons_succ, List.setIfInBounds_toArray, List.set_cons_zero, List.set_cons_succ]
        refine wpAnyH_take (i := 11) (v := ?_) rfl (by kernel_rfl) (by kernel_rfl) (by kernel_rfl) (fun _ _ _ h => h) (Or.inl ⟨by rfl, ?_⟩) HS1.out ?_
        rotate_left
        focus (intro w hS; clear hS; first | (go_simp; done) | (go_simp; with_reducible rfl))
        simp only [Act.put, List.getElem_toArray, List.getElem_cons_zero, List.getElem_cons_succ, List.setIfInBounds_toArray, List.set_cons_zero, List.set_cons_succ]
        refine wpAnyH_take (i := 12) (v := ?_) rfl (by kernel_rfl) (by kernel_rfl) (by kernel_rfl) (fun _ _ _ h => h) (Or.inl ⟨by rfl, ?_⟩) HS1.out ?_
        rotate_left
        focus (intro w hS; clear hS; first | (go_simp; done) | (go_simp; with_reducible rfl))
        simp only [Act.put, List.getElem_toArray, List.getElem_cons_zero, List.getElem_cons_succ, List.setIfInBounds_toArray, List.set_cons_zero, List.set_cons_succ]
        refine wpAnyH_take (i := 13) (v := ?_) rfl (by kernel_rfl) (by kernel_rfl) (by kernel_rfl) (fun _ _ _ h => h) (Or.inl ⟨by rfl, ?_⟩) HS1.out ?_
        rotate_left
        focus (intro w hS; clear hS; first | (go_simp; done) | (go_simp; with_reducible rfl))
        simp only [Act.put, List.getElem_toArray, List.getElem_cons_zero, List.getElem_cons_succ, List.setIfInBounds_toArray, List.set_cons_zero, List.set_cons_succ]
        refine wpAnyH_take (i := 14) (v := ?_) rfl (by kernel_rfl) (by kernel_rfl) (by kernel_rfl) (fun _ _ _ h => h) (Or.inl ⟨by rfl, ?_⟩) HS1.out ?_
        rotate_left
        focus (intro w hS; clear hS; first | (go_simp; done) | (go_simp; with_reducible rfl))
        simp only [Act.put, List.getElem_toArray, List.getElem_cons_zero, List.getElem_cons_succ, List.setIfInBounds_toArray, List.set_cons_zero, List.set_cons_succ]
        refine wpAnyH_done (by kernel_rfl) ?_ _
        go_wp2_with fail
        go_meet
        exact ⟨by rw [HV.out], HW1.out⟩
    case rest =>
      obtain ⟨rfl, hb⟩ := hcut
      have HW := Lib.hid hb
      clear hb
      go_wp2_with fail
      go_ret
      exact ⟨rfl, HW.out⟩
  · have HF := Lib.hid (show C = false from by rw [← HC.out]; exact decide_eq_false fun k => h k.1)
    obtain rfl : i = -1 := by omega
    clear h hi
    go_enter Try.func121, Try.ntmps121
    go_upto_region 1 with fail
    go_quiet (fail)
    go_wp2_with fail
    go_ret
    exact ⟨by rw [HF.out]; rfl, drB _⟩
set_option maxRecDepth 100000 in
set_option maxHeartbeats 8000000 in
theorem connected_any (l : List HAt) (h5 : l.length ≤ 5) (par : List Int) (hl : par.length = l.length) (hr : ∀ i, i < par.length → -1 ≤ pa par i ∧ pa par i < par.length) (v : Nat) (hv8 : v < 8) (h0 b0 u : Value) (w : World) (hb : Atoms w b0 l) (hu : Ints w u par) :
    Calls Try.prog 93 #[.agg #[h0, b0], u, .int .i64 v] w fun e w' => e = .returned (.bool (decide (cnt (topP l par v) l.length ≤ 1))) ∧ Below w.heap.size w w' := by
  have Hb := Lib.hid hb
  obtain ⟨ba, bc, rfl⟩ := atoms_slice hb
  obtain ⟨a, b, off, cap, rfl, hle, hia, hc⟩ := Ints.get hu
  obtain ⟨n, hn2⟩ : ∃ x, x = l.length := ⟨_, rfl⟩
  have Hc := Lib.hid (show ∀ i, i < n → w.cell? ⟨b, off + i, none⟩ = some (.int .i64 (pa par i)) from fun i hi => by rw [hc i (by omega)]; unfold pa; rw [List.getD_eq_getElem?_getD, List.getElem?_eq_getElem]; rfl)
  rw [hl, ← hn2] at hia hr ⊢
  rw [← hn2] at Hb h5
  have Hr := Lib.hid hr
  have Hn := Lib.hid hn2
  have Hix := Lib.hid (run_ix (P := Try.prog) (t := 22) (a := a) (len := n) (cap := cap) (b := b) (off := off) (s := 1) Try.underlying22 (by intro w; kernel_rfl) hia)
  simp only [Nat.mul_one] at Hix
  obtain ⟨w1, hw1⟩ : ∃ x, x = w.alloc (.cells #[h0, .slice ba n bc] 33) := ⟨_, rfl⟩
  obtain ⟨w2, hw2⟩ : ∃ x, x = w1.alloc (.cells #[.int .i64 v] 3) := ⟨_, rfl⟩
  have k1 : Below w.heap.size w w1 := by rw [hw1]; exact below_alloc _ _
  have k2 : Below w1.heap.size w1 w2 := by rw [hw2]; exact below_alloc _ _
  obtain ⟨bq, hbq⟩ : ∃ x, x = w.heap.size := ⟨_, rfl⟩
  obtain ⟨bv, hbv⟩ : ∃ x, x = bq + 1 := ⟨_, rfl⟩
  have z : w1.heap.size = bv := by rw [hbv, hbq, hw1]; simp
  have HB := Lib.hid (show Bc w2 bq bv h0 (.slice ba n bc) v from ⟨blk_keep2 (by rw [hbq, hw1]; exact heap_alloc_new _ _) k2, by rw [← z, hw2]; exact heap_alloc_new _ _⟩)
  have Hk := Lib.hid (Below.tr k1 k2)
  have Hw1 := Lib.hid hw1
  have Hw2 := Lib.hid hw2
  have Hbq := Lib.hid hbq
  have Hbv := Lib.hid hbv
  clear hb hu hia hc hn2 hr hw1 hw2 k1 k2 hbq hbv z hl hle
  go_enter Try.func93, Try.ntmps93
  go_upto_region 1 with fail
  rw [← Hw1.out, ← Hw2.out, ← Hbq.out, ← Hbv.out]
  clear Hw1 Hw2 Hbq Hbv
  have g1 := aCell HB.out.q 1 rfl
  go_wp2_with fail
  clear g1
  go_loopw [8, 14] (fun x vi wr => ∃ k R : Nat, x = .int .i64 R ∧ vi = .int .i64 k ∧ k ≤ n ∧ Below w2.heap.size w2 wr ∧ R ≤ k ∧ R = cnt (topP l par v) k) (fun _ vi _ => n - (intOf vi).toNat)
  case atStart => exact ⟨0, 0, rfl, rfl, Nat.zero_le _, Below.refl _ _, Nat.le_refl _, rfl⟩
  case round =>
    generalize wr = wx at *
    obtain ⟨k, R, rfl, rfl, hk, hb, hRk, hR⟩ := hrel
    have HR := Lib.hid hR
    have Hbx := Lib.hid hb
    clear hR hb
    by_cases hlt : k < n
    · have hck := Below.keep (Below.tr Hk.out Hbx.out) (Hc.out k hlt)
      have hixk := Hix.out k
      have hrk := Hr.out k hlt
      have HS := Lib.hid (show cnt (topP l par v) (k + 1) = cnt (topP l par v) k + if topP l par v k then 1 else 0 from rfl)
      rw [← HR.out] at HS
      have HTp := Lib.hid (show topP l par v k ↔ Vq l k v ∧ ¬ (0 ≤ pa par k ∧ Vq l (pa par k).toNat v) from Iff.rfl)
      obtain ⟨p, hp⟩ : ∃ p, p = pa par k := ⟨_, rfl⟩
      rw [← hp] at hck hrk HTp
      clear hp
      by_cases h1 : Vq l k v
      · have HC1 := Lib.hid (conn1_any l (k : Int) ⟨by omega, by rw [← Hn.out]; omega⟩ v hv8 h0 _ bq bv wx (Hb.out.keep (Below.tr Hk.out Hbx.out)) (HB.out.keep Hbx.out) true (decide_eq_true ⟨by omega, by rw [Int.toNat_natCast]; exact h1⟩))
        by_cases h2 : 0 ≤ p ∧ Vq l p.toNat v
        · have HS := Lib.hid (HS.out.trans (by rw [if_neg (fun t => (HTp.out.1 t).2 h2)]))
          clear h1
          go_wp2_with fail
          refine HC1.out.mono ?_
          rintro e w5 ⟨rfl, hb⟩
          have Hb5 := Lib.hid (Below.tr Hbx.out hb)
          have hck := Below.keep hb hck
          clear hb
          have HC2 := Lib.hid (conn1_any l p ⟨hrk.1, by rw [← Hn.out]; exact hrk.2⟩ v hv8 h0 _ bq bv w5 (Hb.out.keep (Below.tr Hk.out Hb5.out)) (HB.out.keep Hb5.out) true (decide_eq_true h2))
          clear h2
          go_wp2_with fail
          refine HC2.out.mono ?_
          rintro e w6 ⟨rfl, hb⟩
          have Hb6 := Lib.hid (Below.tr Hb5.out hb)
          clear hb
          go_wp2_with fail
          go_roundw
          case rel => exact ⟨k + 1, R, rfl, by go_num, by omega, Hb6.out, by omega, HS.out.symm⟩
          case measure => simp [intOf]; omega
        · have HS := Lib.hid (HS.out.trans (by rw [if_pos (HTp.out.2 ⟨h1, h2⟩)]))
          clear h1
          go_wp2_with fail
          refine HC1.out.mono ?_
          rintro e w5 ⟨rfl, hb⟩
          have Hb5 := Lib.hid (Below.tr Hbx.out hb)
          have hck := Below.keep hb hck
          clear hb
          have HC2 := Lib.hid (conn1_any l p ⟨hrk.1, by rw [← Hn.out]; exact hrk.2⟩ v hv8 h0 _ bq bv w5 (Hb.out.keep (Below.tr Hk.out Hb5.out)) (HB.out.keep Hb5.out) false (decide_eq_false h2))
          clear h2
          go_wp2_with fail
          refine HC2.out.mono ?_
          rintro e w6 ⟨rfl, hb⟩
          have Hb6 := Lib.hid (Below.tr Hb5.out hb)
          clear hb
          go_wp2_with fail
          go_roundw
          case rel => exact ⟨k + 1, R + 1, by go_num, by go_num, by omega, Hb6.out, by omega, HS.out.symm⟩
          case measure => simp [intOf]; omega
      · have HC1 := Lib.hid (conn1_any l (k : Int) ⟨by omega, by rw [← Hn.out]; omega⟩ v hv8 h0 _ bq bv wx (Hb.out.keep (Below.tr Hk.out Hbx.out)) (HB.out.keep Hbx.out) false (decide_eq_false fun h => h1 (by have := h.2; rwa [Int.toNat_natCast] at this)))
        have HS := Lib.hid (HS.out.trans (by rw [if_neg (fun t => h1 (HTp.out.1 t).1)]))
        clear h1
        go_wp2_with fail
        refine HC1.out.mono ?_
        rintro e w5 ⟨rfl, hb⟩
        have Hb5 := Lib.hid (Below.tr Hbx.out hb)
        clear hb
        go_wp2_with fail
        go_roundw
        case rel => exact ⟨k + 1, R, rfl, by go_num, by omega, Hb5.out, by omega, HS.out.symm⟩
        case measure => simp [intOf]; omega
    · obtain rfl : n = k := by omega
      have HE := Lib.hid (Below.tr Hk.out Hbx.out)
      by_cases h : R ≤ 1
      · have h2 : (R : Int) ≤ 1 := by omega
        have HD := Lib.hid (decide_eq_true h)
        go_wp2_with fail
        go_ret
        exact ⟨by rw [← HR.out, HD.out]; rfl, HE.out⟩
      · have h2 : ¬ (R : Int) ≤ 1 := by omega
        have HD := Lib.hid (decide_eq_false h)
        go_wp2_with fail
        go_ret
        exact ⟨by rw [← HR.out, HD.out]; rfl, HE.out⟩
def CkC (q : HQ) (par : List Int) (B : Bool) (c : Int) : Prop := (¬ QrV q ∧ B = false ∧ c = 2) ∨ (QrV q ∧ c = 0 ∧ (B = true ↔ IsTree (Vq q.2) q.2.length par))
set_option maxRecDepth 100000 in
set_option maxHeartbeats 8000000 in
theorem checkTree_any {q : HQ} (par : List Int) (v u : Value) (w : World) (hq : Qr w v q) (hu : Ints w u par) :
    Calls Try.prog 42 #[v, u] w fun e w' => ∃ B c, e = .returned (.tuple #[.bool B, .int .i64 c]) ∧ CkC q par B c ∧ Below w.heap.size w w' := by
  obtain ⟨h0, b0, rfl, hh, hb⟩ := hq
  have Hq := Lib.hid (show Qr w (.agg #[h0, b0]) q from ⟨_, _, rfl, hh, hb⟩)
  have Hu := Lib.hid hu
  have Hb := Lib.hid hb
  obtain ⟨ha, hc, rfl⟩ := ints_slice hh
  obtain ⟨ba, bc, rfl⟩ := atoms_slice hb
  obtain ⟨ua, uc, rfl⟩ := ints_slice hu
  obtain ⟨n0, hn0⟩ : ∃ x, x = q.1.length := ⟨_, rfl⟩
  obtain ⟨n1, hn1⟩ : ∃ x, x = q.2.length := ⟨_, rfl⟩
  obtain ⟨m, hm⟩ : ∃ x, x = par.length := ⟨_, rfl⟩
  rw [← hn0, ← hn1] at Hq
  rw [← hn1] at Hb
  rw [← hm] at Hu
  rw [← hn0, ← hn1, ← hm]
  have Hn1 := Lib.hid hn1
  have Hm := Lib.hid hm
  obtain ⟨w1, hw1⟩ : ∃ x, x = w.alloc (.cells #[.slice ha n0 hc, .slice ba n1 bc] 33) := ⟨_, rfl⟩
  obtain ⟨bq, hbq⟩ : ∃ x, x = w.heap.size := ⟨_, rfl⟩
  have HB := Lib.hid (show Below w.heap.size w w1 from by rw [hw1]; exact below_alloc _ _)
  have HQ := Lib.hid (show w1.heap[bq]? = some (.cells #[.slice ha n0 hc, .slice ba n1 bc] 33 (0, 0)) from by rw [hbq, hw1]; exact heap_alloc_new _ _)
  have Hw1 := Lib.hid hw1
  have Hbq := Lib.hid hbq
  clear hh hb hu hw1 hbq hn0 hn1 hm
  go_enter Try.func42, Try.ntmps42
  go_upto_region 1 with fail
  rw [← Hw1.out, ← Hbq.out]
  clear Hw1 Hbq
  have g0 := aCell HQ.out 0 rfl
  have g1 := aCell HQ.out 1 rfl
  by_cases hv : QrV q
  · have HV := Lib.hid (qryValid_any q _ w1 (Hq.out.keep HB.out) true (decide_eq_true hv))
    have Hv := Lib.hid hv
    have HNo := Lib.hid (fun (h : ¬ IsTree (Vq q.2) q.2.length par) => show CkC q par false 0 from .inr ⟨hv, rfl, ⟨fun k => (by cases k), fun k => absurd k h⟩⟩)
    have h5 : n1 ≤ 5 := by rw [Hn1.out]; exact hv.1.2.1
    clear hv
    go_wp2_with fail
    refine HV.out.mono ?_
    rintro e w2 ⟨rfl, hb⟩
    have HB2 := Lib.hid (Below.tr HB.out hb)
    have HQ2 := Lib.hid (blk_keep2 HQ.out hb)
    clear hb g0 g1
    have g0 := aCell HQ2.out 0 rfl
    have g1 := aCell HQ2.out 1 rfl
    by_cases hlen : m = n1
    · subst hlen
      have hne : ((m : Int) != m) = false := by simp
      by_cases ht : IsT par m
      · have HT := Lib.hid (show Calls Try.prog 92 #[.slice ua m uc] w2 fun e w' => e = .returned (.bool true) ∧ w2 = w' from isTree_any par (by rw [← Hm.out]; omega) _ w2 (Hu.out.keep HB2.out) true ⟨fun _ => by rw [← Hm.out]; exact ht, fun _ => rfl⟩)
        have Ht := Lib.hid ht
        have Hl := Lib.hid (show par.length = q.2.length from Hm.out.symm.trans Hn1.out)
        clear ht
        go_wp2_with fail
        refine HT.out.mono ?_
        rintro e w3 ⟨rfl, rfl⟩
        go_wp2_with fail
        clear g0 g1 hne
        go_loopw [21] (fun vi wr => ∃ k : Nat, vi = .int .i64 k ∧ k ≤ 8 ∧ Below w2.heap.size w2 wr ∧ ∀ v, v < k → cnt (topP q.2 par v) q.2.length ≤ 1) (fun vi _ => 8 - (intOf vi).toNat)
        case atStart => exact ⟨0, rfl, by omega, Below.refl _ _, fun v h => by omega⟩
        case round =>
          generalize wr = wx at *
          obtain ⟨k, rfl, hk, hb, hin⟩ := hrel
          have Hb2 := Lib.hid hb
          have Hin := Lib.hid hin
          clear hb hin
          by_cases hlt : k < 8
          · have HQ3 := Lib.hid (blk_keep2 HQ2.out Hb2.out)
            have g0 := aCell HQ3.out 0 rfl
            have g1 := aCell HQ3.out 1 rfl
            have HCo := Lib.hid (connected_any q.2 (by rw [← Hn1.out]; exact h5) par Hl.out (by rw [Hl.out, ← Hn1.out]; exact Ht.out.1) k hlt (.slice ha n0 hc) _ _ wx (Hb.out.keep (Below.tr HB2.out Hb2.out)) (Hu.out.keep (Below.tr HB2.out Hb2.out)))
            by_cases hc1 : cnt (topP q.2 par k) q.2.length ≤ 1
            · have HN := Lib.hid (show ∀ v, v < k + 1 → cnt (topP q.2 par v) q.2.length ≤ 1 from fun v hv => by
                by_cases e : v = k
                · rw [e]; exact hc1
                · exact Hin.out v (by omega))
              rw [decide_eq_true hc1] at HCo
              clear hc1
              go_wp2_with fail
              refine HCo.out.mono ?_
              rintro e w5 ⟨rfl, hb⟩
              have Hb5 := Lib.hid (Below.tr Hb2.out hb)
              clear hb g0 g1
              go_wp2_with fail
              go_roundw
              case rel => exact ⟨k + 1, by go_num, by omega, Hb5.out, HN.out⟩
              case measure => simp [intOf]; omega
            · have HF := Lib.hid (HNo.out fun h => hc1 (((isTree_iff Hl.out).1 h).2 k hlt))
              rw [decide_eq_false hc1] at HCo
              clear hc1
              go_wp2_with fail
              refine HCo.out.mono ?_
              rintro e w5 ⟨rfl, hb⟩
              have Hb5 := Lib.hid (Below.tr HB2.out (Below.tr Hb2.out hb))
              clear hb g0 g1
              go_wp2_with fail
              go_ret2
              exact ⟨_, _, rfl, HF.out, Hb5.out⟩
          · obtain rfl : k = 8 := by omega
            have HT := Lib.hid (show CkC q par true 0 from .inr ⟨Hv.out, rfl, ⟨fun _ => (isTree_iff Hl.out).2 ⟨by rw [← Hn1.out]; exact Ht.out, Hin.out⟩, fun _ => rfl⟩⟩)
            go_wp2_with fail
            go_ret2
            exact ⟨_, _, rfl, HT.out, Below.tr HB2.out Hb2.out⟩
      · have HT := Lib.hid (show Calls Try.prog 92 #[.slice ua m uc] w2 fun e w' => e = .returned (.bool false) ∧ w2 = w' from isTree_any par (by rw [← Hm.out]; omega) _ w2 (Hu.out.keep HB2.out) false ⟨fun h => (by cases h), fun h => absurd (by rw [Hm.out]; exact h) ht⟩)
        have HF := Lib.hid (HNo.out fun h => ht (by have := ((isTree_iff (Hm.out.symm.trans Hn1.out)).1 h).1; rwa [← Hn1.out] at this))
        clear ht
        go_wp2_with fail
        refine HT.out.mono ?_
        rintro e w3 ⟨rfl, rfl⟩
        go_wp2_with fail
        go_ret2
        exact ⟨_, _, rfl, HF.out, HB2.out⟩
    · have hne : ((m : Int) != n1) = true := by rw [bne_iff_ne]; omega
      have HF := Lib.hid (HNo.out fun h => hlen (Hm.out.trans (h.len.trans Hn1.out.symm)))
      clear hlen
      go_wp2_with fail
      go_ret2
      exact ⟨_, _, rfl, HF.out, HB2.out⟩
  · have HV := Lib.hid (qryValid_any q _ w1 (Hq.out.keep HB.out) false (decide_eq_false hv))
    have Hv := Lib.hid hv
    clear hv
    go_wp2_with fail
    refine HV.out.mono ?_
    rintro e w2 ⟨rfl, hb⟩
    have HB2 := Lib.hid (Below.tr HB.out hb)
    clear hb g0 g1
    go_wp2_with fail
    go_ret2
    exact ⟨false, 2, rfl, .inl ⟨Hv.out, rfl, rfl⟩, HB2.out⟩
#print axioms checkTree_any
#print axioms isTree_any
#print axioms conn1_any
#print axioms connected_any
end Go.Proofs.Ytfplmdieeabgpaa
