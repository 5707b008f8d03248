/- Contracts of (Atom).valid, (Query).variables, (Query).valid. -/
import Derived.Test.YtfplmdieeabgpaaQv
namespace Go.Proofs.Ytfplmdieeabgpaa
open Go.RowKit
/-- a right atom -/
def AtV (r : Int) (l : List Int) : Prop := (0 ≤ r ∧ r ≤ 5) ∧ (1 ≤ l.length ∧ l.length ≤ 3) ∧ ∀ t, t ∈ l → -9 ≤ t ∧ t ≤ 7
instance (r : Int) (l : List Int) : Decidable (AtV r l) := inferInstanceAs (Decidable (_ ∧ _ ∧ _))
set_option maxRecDepth 100000 in
set_option maxHeartbeats 8000000 in
theorem atomValid_any (r : Int) (l : List Int) (u : Value) (w : World) (hu : Ints w u l) (B : Bool) (hB : decide (AtV r l) = B) :
    Calls Try.prog 116 #[.agg #[.int .i64 r, u]] w fun e w' => e = .returned (.bool B) ∧ Below w.heap.size w w' := by
  obtain ⟨a, b, off, cap, rfl, hle, ha, hc⟩ := Ints.get hu
  have hix := run_ix (P := Try.prog) (t := 22) (a := a) (len := l.length) (cap := cap) (b := b) (off := off) (s := 1) Try.underlying22 (by intro w; kernel_rfl) ha
  simp only [Nat.mul_one] at hix
  have Hix := Lib.hid hix
  have Hc := Lib.hid hc
  obtain ⟨w1, hw1⟩ : ∃ w1, w1 = w.alloc (.cells #[.int .i64 r, .slice a l.length cap] 88) := ⟨_, rfl⟩
  have Hb1 := Lib.hid (show Below w.heap.size w w1 from by rw [hw1]; exact below_alloc _ _)
  have g0 : w1.cell? ⟨w.heap.size, 0, none⟩ = some (.int .i64 r) := by rw [hw1]; exact cell_new w _ _ 0
  have g1 : w1.cell? ⟨w.heap.size, 1, none⟩ = some (.slice a l.length cap) := by rw [hw1]; exact cell_new w _ _ 1
  have Hw1 := Lib.hid hw1
  have HF := Lib.hid (fun (q : ¬ AtV r l) => show false = B from by rw [← hB]; exact (decide_eq_false q).symm)
  have HT := Lib.hid (fun (q : AtV r l) => show true = B from by rw [← hB]; exact (decide_eq_true q).symm)
  clear hu ha hc hix hw1 hB
  go_enter Try.func116, Try.ntmps116
  go_upto_region 1 with fail
  rw [← Hw1.out]
  clear Hw1
  by_cases q1 : r < 0
  · have R := Lib.hid (HF.out fun h => by have := h.1.1; omega)
    go_wp2_with fail
    go_ret
    exact ⟨by rw [← R.out]; rfl, Hb1.out⟩
  · by_cases q2 : r > 5
    · have R := Lib.hid (HF.out fun h => by have := h.1.2; omega)
      go_wp2_with fail
      go_ret
      exact ⟨by rw [← R.out]; rfl, Hb1.out⟩
    · by_cases q3 : (l.length : Int) < 1
      · have R := Lib.hid (HF.out fun h => by have := h.2.1.1; omega)
        go_wp2_with fail
        go_ret
        exact ⟨by rw [← R.out]; rfl, Hb1.out⟩
      · by_cases q4 : (l.length : Int) > 3
        · have R := Lib.hid (HF.out fun h => by have := h.2.1.2; omega)
          go_wp2_with fail
          go_ret
          exact ⟨by rw [← R.out]; rfl, Hb1.out⟩
        · have Hh := Lib.hid (show (0 ≤ r ∧ r ≤ 5) ∧ (1 ≤ l.length ∧ l.length ≤ 3) from by omega)
          go_wp2_with fail
          clear g0 g1 q1 q2 q3 q4
          go_loopw [28] (fun vi wr => ∃ k : Nat, vi = .int .i64 k ∧ k ≤ l.length ∧ w1 = wr ∧ ∀ j, j < k → -9 ≤ l.getD j 0 ∧ l.getD j 0 ≤ 7) (fun vi _ => l.length - (intOf vi).toNat)
          case atStart => exact ⟨0, rfl, Nat.zero_le _, rfl, fun j hj => by omega⟩
          case round =>
            obtain ⟨k, rfl, hk, rfl, hno⟩ := hrel
            have Hno := Lib.hid hno
            clear hno
            by_cases hlt : k < l.length
            · have hc1 := Below.keep Hb1.out (Hc.out k hlt)
              have hixk := Hix.out k
              have e : l.getD k 0 = l[k] := by rw [List.getD_eq_getElem?_getD, List.getElem?_eq_getElem hlt]; rfl
              have HY := Lib.hid (fun (q : -9 ≤ l.getD k 0 ∧ l.getD k 0 ≤ 7) => show ∀ j, j < k + 1 → -9 ≤ l.getD j 0 ∧ l.getD j 0 ≤ 7 from fun j hj => by
                by_cases e2 : j = k
                · subst e2; exact q
                · exact Hno.out j (by omega))
              have HN := Lib.hid (fun (q : ¬ (-9 ≤ l.getD k 0 ∧ l.getD k 0 ≤ 7)) => HF.out fun h => q (h.2.2 _ (by rw [e]; exact List.getElem_mem hlt)))
              rw [← e] at hc1
              obtain ⟨t, ht⟩ : ∃ t, t = l.getD k 0 := ⟨_, rfl⟩
              rw [← ht] at hc1 HY HN
              clear ht e
              have HV := Lib.hid (fun B hB => isVar_any t B hB w1)
              have HK := Lib.hid (fun B hB => isConst_any t B hB w1)
              by_cases h1 : 0 ≤ t ∧ t < 8
              · have HV1 := Lib.hid (HV.out true (decide_eq_true h1))
                have R := Lib.hid (HY.out (by omega))
                clear h1
                go_wp2_with fail
                refine HV1.out.mono ?_
                rintro e w2 ⟨rfl, rfl⟩
                go_wp2_with fail
                go_roundw
                case rel => exact ⟨k + 1, by go_num, by omega, (by first | rfl | trivial), R.out⟩
                case measure => simp [intOf]; omega
              · have HV1 := Lib.hid (HV.out false (decide_eq_false h1))
                by_cases h2 : t < 0 ∧ -9 ≤ t
                · have HK1 := Lib.hid (HK.out true (decide_eq_true h2))
                  have R := Lib.hid (HY.out (by omega))
                  clear h1 h2
                  go_wp2_with fail
                  refine HV1.out.mono ?_
                  rintro e w2 ⟨rfl, rfl⟩
                  go_wp2_with fail
                  refine HK1.out.mono ?_
                  rintro e w2 ⟨rfl, rfl⟩
                  go_wp2_with fail
                  go_roundw
                  case rel => exact ⟨k + 1, by go_num, by omega, (by first | rfl | trivial), R.out⟩
                  case measure => simp [intOf]; omega
                · have HK1 := Lib.hid (HK.out false (decide_eq_false h2))
                  have R := Lib.hid (HN.out (by omega))
                  clear h1 h2
                  go_wp2_with fail
                  refine HV1.out.mono ?_
                  rintro e w2 ⟨rfl, rfl⟩
                  go_wp2_with fail
                  refine HK1.out.mono ?_
                  rintro e w2 ⟨rfl, rfl⟩
                  go_wp2_with fail
                  go_ret
                  exact ⟨by rw [← R.out]; rfl, Hb1.out⟩
            · obtain rfl : k = l.length := by omega
              have R := Lib.hid (HT.out ⟨Hh.out.1, Hh.out.2, fun t ht => by
                obtain ⟨j, hj, rfl⟩ := List.getElem_of_mem ht
                have := Hno.out j hj
                rw [List.getD_eq_getElem?_getD, List.getElem?_eq_getElem hj] at this
                exact this⟩)
              go_wp2_with fail
              go_ret
              exact ⟨by rw [← R.out]; rfl, Hb1.out⟩
/-- the variables of the first k atoms -/
def vsB (l : List HAt) : Nat → Nat
  | 0 => 0
  | k + 1 => vsB l k ||| vsA (aA l k)
theorem vsA_lt (l : List Int) : vsA l < 256 := vsT_lt l _
theorem vsB_lt (l : List HAt) : ∀ k, vsB l k < 256
  | 0 => by rw [vsB]; omega
  | k + 1 => by rw [vsB]; exact Nat.or_lt_two_pow (n := 8) (vsB_lt l k) (vsA_lt _)
def vsQ (l : List HAt) : Nat := vsB l l.length
set_option maxRecDepth 100000 in
set_option maxHeartbeats 8000000 in
theorem qryVars_any (l : List HAt) (h u : Value) (w : World) (hu : Atoms w u l) :
    Calls Try.prog 77 #[.agg #[h, u]] w fun e w' => e = .returned (.int .i64 (vsQ l : Nat)) ∧ Below w.heap.size w w' := by
  obtain ⟨a, b, off, cap, vs, rfl, hle, ha, hcap, hc⟩ := Atoms.get hu
  have hix := run_ix (P := Try.prog) (t := 31) (a := a) (len := l.length) (cap := cap) (b := b) (off := off) (s := 2) Try.underlying31 (by intro w; kernel_rfl) ha
  have Hix := Lib.hid hix
  have Hc := Lib.hid hc
  obtain ⟨w1, hw1⟩ : ∃ w1, w1 = w.alloc (.cells #[h, .slice a l.length cap] 33) := ⟨_, rfl⟩
  have Hb1 := Lib.hid (show Below w.heap.size w w1 from by rw [hw1]; exact below_alloc _ _)
  have g1 : w1.cell? ⟨w.heap.size, 1, none⟩ = some (.slice a l.length cap) := by rw [hw1]; exact cell_new w _ _ 1
  have Hs := Lib.hid (fun k => show vsB l (k + 1) = vsB l k ||| vsA (aA l k) from rfl)
  have Hlt := Lib.hid (vsB_lt l)
  have HA := Lib.hid (fun k => vsA_lt (aA l k))
  have Hw1 := Lib.hid hw1
  clear hu ha hc hix hw1 hcap
  go_enter Try.func77, Try.ntmps77
  go_upto_region 1 with fail
  rw [← Hw1.out]
  clear Hw1
  go_wp2_with fail
  clear g1
  go_loopw [3, 9] (fun vs vi wr => ∃ k : Nat, vs = .int .i64 (vsB l k : Nat) ∧ vi = .int .i64 k ∧ k ≤ l.length ∧ Below w.heap.size w wr) (fun _ vi _ => l.length - (intOf vi).toNat)
  case atStart => exact ⟨0, rfl, rfl, Nat.zero_le _, Hb1.out⟩
  case round =>
    clear Hb1
    obtain ⟨k, rfl, rfl, hk, hb⟩ := hrel
    have Hb := Lib.hid hb
    clear hb
    by_cases hlt : k < l.length
    · have hc1 := Below.keep Hb.out (Hc.out k hlt).1
      have hc2 := Below.keep Hb.out (Hc.out k hlt).2.1
      have hi := Ints.keep (Hc.out k hlt).2.2 Hb.out
      have hixk := Hix.out k
      have R := Lib.hid (Hs.out k)
      have hlt1 := Hlt.out k
      have hlt2 := HA.out k
      obtain ⟨ua, uc, hu⟩ := ints_slice hi
      rw [hu] at hc2 hi
      clear hu
      obtain ⟨r, hr⟩ : ∃ t, t = aR l k := ⟨_, rfl⟩
      obtain ⟨A, hA⟩ : ∃ t, t = aA l k := ⟨_, rfl⟩
      obtain ⟨S, hS⟩ : ∃ S, S = vsB l k := ⟨_, rfl⟩
      rw [← hA, ← hS] at R
      rw [← hr] at hc1
      rw [← hA] at hc2 hi hlt2
      rw [← hS] at hlt1 ⊢
      clear hr hA hS
      have hcap := Ints.cap hi
      have hml := hi.2.1
      obtain ⟨w2, hw2⟩ : ∃ w2, w2 = wr.alloc (.cells #[.int .i64 r, .slice ua A.length uc] 88) := ⟨_, rfl⟩
      have hb2 : Below wr.heap.size wr w2 := by rw [hw2]; exact below_alloc _ _
      have g0 : w2.cell? ⟨wr.heap.size, 0, none⟩ = some (.int .i64 r) := by rw [hw2]; exact cell_new wr _ _ 0
      have g1 : w2.cell? ⟨wr.heap.size, 1, none⟩ = some (.slice ua A.length uc) := by rw [hw2]; exact cell_new wr _ _ 1
      have HV := Lib.hid (atomVars_any r A (.slice ua A.length uc) w2 (hi.keep hb2))
      have Hb2 := Lib.hid (Below.tr Hb.out hb2)
      have HG := Lib.hid (And.intro g0 g1)
      obtain ⟨V, hV⟩ : ∃ V, V = vsA A := ⟨_, rfl⟩
      rw [← hV] at HV R hlt2
      have hor := bits_or_nat S V (by omega) (by omega)
      have Hw2 := Lib.hid hw2
      clear hi hb2 hV hw2 g0 g1
      go_upto_region 5 with fail
      rw [← Hw2.out]
      clear Hw2 hc1 hc2 hixk
      have g0 := HG.out.1
      have g1 := HG.out.2
      go_wp2_with fail
      refine HV.out.mono ?_
      rintro e w3 ⟨rfl, hb3⟩
      have Hb3 := Lib.hid (Below.tr Hb2.out hb3)
      clear hb3 g0 g1
      go_wp2_with fail
      go_roundw
      case rel => exact ⟨k + 1, by rw [R.out], by go_num, by omega, Hb3.out⟩
      case measure => simp [intOf]; omega
    · obtain rfl : k = l.length := by omega
      go_wp2_with fail
      go_ret
      exact ⟨rfl, Hb.out⟩
/-- a valid query -/
def QrV (q : HQ) : Prop := (1 ≤ q.2.length ∧ q.2.length ≤ 5 ∧ q.1.length ≤ 4) ∧ (∀ i, i < q.2.length → AtV (aR q.2 i) (aA q.2 i)) ∧ ∀ v, v ∈ q.1 → isV v ∧ (vsQ q.2).testBit v.toNat = true
instance (q : HQ) : Decidable (QrV q) := inferInstanceAs (Decidable (_ ∧ _ ∧ _))
#print axioms qryVars_any
#print axioms atomValid_any
end Go.Proofs.Ytfplmdieeabgpaa
