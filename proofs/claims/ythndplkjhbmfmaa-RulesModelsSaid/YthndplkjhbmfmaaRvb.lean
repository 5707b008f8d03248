/- Contracts of safe and valid. -/
import Derived.Test.YthndplkjhbmfmaaRva
import Derived.Test.YthndplkjhbmfmaaRvv
namespace Go.Proofs.Ythndplkjhbmfmaa
open Go.RowKit
/-- every variable of a rule occurs in a Lit without Not -/
def SafeR (r : RRule) : Prop := ∀ t, 0 ≤ t → t < 8 → VarR r t → ∃ b, b ∈ r.2 ∧ b.1 = false ∧ t ∈ b.2.2
def alS (r : RRule) : Nat → Nat
  | 0 => vsA r.1.2
  | k + 1 => alS r k ||| vsA (lL r.2 k).2.2
def boS (r : RRule) : Nat → Nat
  | 0 => 0
  | k + 1 => if (lL r.2 k).1 = true then boS r k else boS r k ||| vsA (lL r.2 k).2.2
theorem vsA_lt (l : List Int) : vsA l < 256 := vsT_lt l l.length
theorem vsA_bit {l : List Int} {i : Nat} : (vsA l).testBit i = true ↔ i < 8 ∧ (i : Int) ∈ l := by
  have := vsT_bit l i l.length (Nat.le_refl _)
  rwa [List.take_length] at this
theorem or256 {a b : Nat} (ha : a < 256) (hb : b < 256) : a ||| b < 256 := Nat.or_lt_two_pow (n := 8) ha hb
theorem alS_lt (r : RRule) : ∀ k, alS r k < 256
  | 0 => vsA_lt _
  | k + 1 => or256 (alS_lt r k) (vsA_lt _)
theorem boS_lt (r : RRule) : ∀ k, boS r k < 256
  | 0 => by show 0 < 256; omega
  | k + 1 => by
    unfold boS
    split
    · exact boS_lt r k
    · exact or256 (boS_lt r k) (vsA_lt _)
theorem lL_get {l : List RLit} {i : Nat} (h : i < l.length) : lL l i = l[i] := by unfold lL; rw [List.getD_eq_getElem?_getD, List.getElem?_eq_getElem h]; rfl
theorem rR_get {l : List RRule} {i : Nat} (h : i < l.length) : rR l i = l[i] := by unfold rR; rw [List.getD_eq_getElem?_getD, List.getElem?_eq_getElem h]; rfl
theorem alS_bit (r : RRule) (i : Nat) : ∀ k, k ≤ r.2.length → ((alS r k).testBit i = true ↔ i < 8 ∧ ((i : Int) ∈ r.1.2 ∨ ∃ b, b ∈ r.2.take k ∧ (i : Int) ∈ b.2.2))
  | 0, _ => by
    rw [alS, vsA_bit]
    simp
  | k + 1, hk => by
    rw [alS, Nat.testBit_or, Bool.or_eq_true, alS_bit r i k (by omega), vsA_bit, lL_get (by omega), List.take_succ_eq_append_getElem (by omega)]
    constructor
    · rintro (⟨h1, h2 | ⟨b, hb, h2⟩⟩ | ⟨h1, h2⟩)
      · exact ⟨h1, .inl h2⟩
      · exact ⟨h1, .inr ⟨b, List.mem_append.2 (.inl hb), h2⟩⟩
      · exact ⟨h1, .inr ⟨_, List.mem_append.2 (.inr (List.mem_singleton.2 rfl)), h2⟩⟩
    · rintro ⟨h1, h2 | ⟨b, hb, h2⟩⟩
      · exact .inl ⟨h1, .inl h2⟩
      · rcases List.mem_append.1 hb with hb | hb
        · exact .inl ⟨h1, .inr ⟨b, hb, h2⟩⟩
        · rw [List.mem_singleton.1 hb] at h2; exact .inr ⟨h1, h2⟩
theorem boS_bit (r : RRule) (i : Nat) : ∀ k, k ≤ r.2.length → ((boS r k).testBit i = true ↔ i < 8 ∧ ∃ b, b ∈ r.2.take k ∧ b.1 = false ∧ (i : Int) ∈ b.2.2)
  | 0, _ => by simp [boS]
  | k + 1, hk => by
    have ih := boS_bit r i k (by omega)
    rw [boS, List.take_succ_eq_append_getElem (by omega), lL_get (by omega)]
    split
    · rename_i h
      rw [ih]
      constructor
      · rintro ⟨h1, b, hb, h2⟩
        exact ⟨h1, b, List.mem_append.2 (.inl hb), h2⟩
      · rintro ⟨h1, b, hb, h2, h3⟩
        rcases List.mem_append.1 hb with hb | hb
        · exact ⟨h1, b, hb, h2, h3⟩
        · rw [List.mem_singleton.1 hb, h] at h2; cases h2
    · rename_i h
      have h : (r.2[k]).1 = false := by revert h; cases (r.2[k]).1 <;> simp
      rw [Nat.testBit_or, Bool.or_eq_true, ih, vsA_bit]
      constructor
      · rintro (⟨h1, b, hb, h2⟩ | ⟨h1, h2⟩)
        · exact ⟨h1, b, List.mem_append.2 (.inl hb), h2⟩
        · exact ⟨h1, _, List.mem_append.2 (.inr (List.mem_singleton.2 rfl)), h, h2⟩
      · rintro ⟨h1, b, hb, h2, h3⟩
        rcases List.mem_append.1 hb with hb | hb
        · exact .inl ⟨h1, b, hb, h2, h3⟩
        · rw [List.mem_singleton.1 hb] at h3; exact .inr ⟨h1, h3⟩
theorem safe_iff (r : RRule) : ndiff (alS r r.2.length) (boS r r.2.length) = 0 ↔ SafeR r := by
  rw [ndiff_eq_zero]
  constructor
  · intro h t t0 t8 hv
    obtain ⟨i, rfl⟩ : ∃ i : Nat, t = i := ⟨t.toNat, by omega⟩
    have := h i ((alS_bit r i _ (Nat.le_refl _)).2 ⟨by omega, by rw [List.take_length]; exact hv⟩)
    have := (boS_bit r i _ (Nat.le_refl _)).1 this
    rw [List.take_length] at this
    exact this.2
  · intro h i hi
    have := (alS_bit r i _ (Nat.le_refl _)).1 hi
    rw [List.take_length] at this
    have k := h i (by omega) (by omega) this.2
    exact (boS_bit r i _ (Nat.le_refl _)).2 ⟨this.1, by rw [List.take_length]; exact k⟩
set_option maxRecDepth 100000 in
set_option maxHeartbeats 4000000 in
theorem safe_any (r : RRule) (u v : Value) (w : World) (hu : Ints w u r.1.2) (hv : Lits w v r.2) (B : Bool) (hB : B = true ↔ SafeR r) :
    Calls Try.prog 116 #[.agg #[.int .i64 r.1.1, u, v]] w fun e w' => e = .returned (.bool B) ∧ Below w.heap.size w w' := by
  obtain ⟨a, b, off, cap, rfl, hle, hia, _, hcs⟩ := Lits.get hv
  obtain ⟨ua, uc, rfl⟩ := ints_slice hu
  obtain ⟨n, hn⟩ : ∃ x, x = r.2.length := ⟨_, rfl⟩
  obtain ⟨un, hun⟩ : ∃ x, x = r.1.2.length := ⟨_, rfl⟩
  rw [← hn] at hle hia hcs ⊢
  rw [← hun] at hu ⊢
  have Hix := Lib.hid (run_ix (P := Try.prog) (t := 96) (a := a) (len := n) (cap := cap) (b := b) (off := off) (s := 3) Try.underlying96 (by intro w; kernel_rfl) hia)
  have Hc := Lib.hid hcs
  have HAl := Lib.hid (fun k => show alS r (k + 1) = alS r k ||| vsA (lL r.2 k).2.2 from rfl)
  have HBo := Lib.hid (fun k => show boS r (k + 1) = if (lL r.2 k).1 = true then boS r k else boS r k ||| vsA (lL r.2 k).2.2 from rfl)
  have HAlt := Lib.hid (alS_lt r)
  have HBlt := Lib.hid (boS_lt r)
  have HS := Lib.hid (show ndiff (alS r n) (boS r n) = 0 ↔ B = true from by rw [hn]; exact (safe_iff r).trans hB.symm)
  have H0 := Lib.hid (show alS r 0 = vsA r.1.2 from rfl)
  have H00 := Lib.hid (show boS r 0 = 0 from rfl)
  obtain ⟨w1, hw1⟩ : ∃ x, x = w.alloc (.cells #[.int .i64 r.1.1, .slice ua un uc, .slice a n cap] 98) := ⟨_, rfl⟩
  have hb1 : Below w.heap.size w w1 := by rw [hw1]; exact below_alloc _ _
  obtain ⟨bx, hbx⟩ : ∃ x, x = w.heap.size := ⟨_, rfl⟩
  have HG := Lib.hid (show w1.heap[bx]? = some (.cells #[.int .i64 r.1.1, .slice ua un uc, .slice a n cap] 98 (0, 0)) from by rw [hw1, hbx]; exact heap_alloc_new _ _)
  have HV := Lib.hid (atomVars_any r.1.1 r.1.2 _ w1 (hu.keep hb1))
  have Hb1 := Lib.hid hb1
  have Hw1 := Lib.hid hw1
  have Hbx := Lib.hid hbx
  have g0 := aCell HG.out 0 rfl
  have g1 := aCell HG.out 1 rfl
  clear hv hu hia hcs hn hun hw1 hb1 hbx hB
  go_enter Try.func116, Try.ntmps116
  go_upto_region 1 with fail
  rw [← Hw1.out, ← Hbx.out]
  clear Hw1
  go_wp2_with fail
  refine HV.out.mono ?_
  rintro e w2 ⟨rfl, hb⟩
  have Hb2 := Lib.hid (Below.tr Hb1.out hb)
  have HG2 := Lib.hid (blk_keep2 HG.out hb)
  rw [← H0.out]
  clear hb g0 g1 HV HG Hb1 H0
  have g2 := aCell HG2.out 2 rfl
  go_wp2_with fail
  clear g2
  go_loopw [3, 4, 13] (fun va vb vi wr => ∃ k : Nat, va = .int .i64 (alS r k : Nat) ∧ vb = .int .i64 (boS r k : Nat) ∧ vi = .int .i64 k ∧ k ≤ n ∧ Below w.heap.size w wr) (fun _ _ vi _ => n - (intOf vi).toNat)
  case atStart => exact ⟨0, rfl, by rw [H00.out]; rfl, rfl, Nat.zero_le _, Hb2.out⟩
  case round =>
    generalize wr = wx at *
    obtain ⟨k, rfl, rfl, rfl, hk, hb⟩ := hrel
    have Hb := Lib.hid hb
    clear hb
    by_cases hlt : k < n
    · obtain ⟨xa, xc, hc0, hc1, hc2, hxi⟩ := Hc.out k hlt
      have hc0 := Below.keep Hb.out hc0
      have hc1 := Below.keep Hb.out hc1
      have hc2 := Below.keep Hb.out hc2
      have Hxi := Lib.hid (Ints.keep hxi Hb.out)
      have hixk := Hix.out k
      have HA := Lib.hid (HAl.out k)
      have HBk := Lib.hid (HBo.out k)
      obtain ⟨⟨N, s, X⟩, hx⟩ : ∃ x, x = lL r.2 k := ⟨_, rfl⟩
      rw [← hx] at hc0 hc1 hc2 Hxi HA HBk
      simp only at hc0 hc1 hc2 Hxi HA HBk
      obtain ⟨xn, hxn⟩ : ∃ x, x = X.length := ⟨_, rfl⟩
      rw [← hxn] at hc2 Hxi
      have lA := HAlt.out k
      have lB := HBlt.out k
      have lX := vsA_lt X
      obtain ⟨SA, hSA⟩ : ∃ x, x = alS r k := ⟨_, rfl⟩
      obtain ⟨SB, hSB⟩ : ∃ x, x = boS r k := ⟨_, rfl⟩
      obtain ⟨SX, hSX⟩ : ∃ x, x = vsA X := ⟨_, rfl⟩
      rw [← hSA, ← hSX] at HA
      rw [← hSB, ← hSX] at HBk
      rw [← hSA, ← hSB]
      rw [← hSA] at lA
      rw [← hSB] at lB
      rw [← hSX] at lX
      obtain ⟨w3, hw3⟩ : ∃ x, x = wx.alloc (.cells #[.bool N, .int .i64 s, .slice xa xn xc] 100) := ⟨_, rfl⟩
      have hb3 : Below wx.heap.size wx w3 := by rw [hw3]; exact below_alloc _ _
      obtain ⟨bl, hbl⟩ : ∃ x, x = wx.heap.size := ⟨_, rfl⟩
      have HL := Lib.hid (show w3.heap[bl]? = some (.cells #[.bool N, .int .i64 s, .slice xa xn xc] 100 (0, 0)) from by rw [hw3, hbl]; exact heap_alloc_new _ _)
      have Hxi3 := Lib.hid (Hxi.out.keep hb3)
      have Hb3 := Lib.hid (Below.tr Hb.out hb3)
      have hor := bits_or_nat SA SX (by omega) (by omega)
      have hor2 := bits_or_nat SB SX (by omega) (by omega)
      obtain ⟨OA, hOA⟩ : ∃ x, x = SA ||| SX := ⟨_, rfl⟩
      obtain ⟨OB, hOB⟩ : ∃ x, x = SB ||| SX := ⟨_, rfl⟩
      rw [← hOA] at hor HA
      rw [← hOB] at hor2 HBk
      have HV := Lib.hid (fun (w : World) (h : Ints w (.slice xa xn xc) X) => atomVars_any s X _ w h)
      rw [← hSX] at HV
      have Hw3 := Lib.hid hw3
      have Hbl := Lib.hid hbl
      clear hx hxn hxi hSA hSB hSX hw3 hb3 hbl hOA hOB
      go_upto_region 5 with fail
      rw [← Hw3.out, ← Hbl.out]
      clear Hw3 hc0 hc1 hc2 hixk
      have HV1 := Lib.hid (HV.out w3 Hxi3.out)
      have g0 := aCell HL.out 0 rfl
      have g1 := aCell HL.out 1 rfl
      have g2 := aCell HL.out 2 rfl
      go_wp2_with fail
      refine HV1.out.mono ?_
      rintro e w4 ⟨rfl, hb⟩
      have HL4 := Lib.hid (blk_keep2 HL.out hb)
      have Hxi4 := Lib.hid (Hxi3.out.keep hb)
      have Hb4 := Lib.hid (Below.tr Hb3.out hb)
      clear hb g0 g1 g2 HV1
      have g0 := aCell HL4.out 0 rfl
      have g1 := aCell HL4.out 1 rfl
      have g2 := aCell HL4.out 2 rfl
      cases N
      · have R := Lib.hid (HBk.out.trans (if_neg (by simp)))
        have HV2 := Lib.hid (HV.out w4 Hxi4.out)
        go_wp2_with fail
        refine HV2.out.mono ?_
        rintro e w5 ⟨rfl, hb⟩
        have Hb5 := Lib.hid (Below.tr Hb4.out hb)
        clear hb g0 g1 g2
        go_wp2_with fail
        go_roundw
        case rel => exact ⟨k + 1, by rw [HA.out], by rw [R.out], by go_num, by omega, Hb5.out⟩
        case measure => simp [intOf]; omega
      · have R := Lib.hid (HBk.out.trans (if_pos rfl))
        go_wp2_with fail
        go_roundw
        case rel => exact ⟨k + 1, by rw [HA.out], by rw [R.out], by go_num, by omega, Hb4.out⟩
        case measure => simp [intOf]; omega
    · obtain rfl : k = n := by omega
      have lA := HAlt.out k
      have lB := HBlt.out k
      obtain ⟨SA, hSA⟩ : ∃ x, x = alS r k := ⟨_, rfl⟩
      obtain ⟨SB, hSB⟩ : ∃ x, x = boS r k := ⟨_, rfl⟩
      rw [← hSA] at lA
      rw [← hSB] at lB
      rw [← hSA, ← hSB] at HS
      rw [← hSA, ← hSB]
      have hn := bits_andNot_nat SA SB (by omega) (by omega)
      obtain ⟨D, hD⟩ : ∃ x, x = ndiff SA SB := ⟨_, rfl⟩
      rw [← hD] at HS hn
      have R := Lib.hid (show ((D : Int) == 0) = B from by
        have := HS.out
        cases B
        · rw [beq_eq_false_iff_ne]; intro h; have := this.1 (by omega); cases this
        · rw [beq_iff_eq]; have := this.2 rfl; omega)
      clear hSA hSB hD lA lB
      have r := R.out
      go_wp2_with fail
      go_ret
      exact ⟨rfl, Hb.out⟩
#print axioms safe_any
end Go.Proofs.Ythndplkjhbmfmaa
