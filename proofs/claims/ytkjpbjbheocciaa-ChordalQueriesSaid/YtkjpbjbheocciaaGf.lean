/- Contracts of Order, CheckOrder, awake. -/
import Derived.Test.YtkjpbjbheocciaaGe
import Derived.Test.YtkjpbjbheocciaaEq
namespace Go.Proofs.Ytkjpbjbheocciaa
open Go.RowKit

theorem valid_b {l : List Int} {b : Bool} (h : decide (GrI l) = b) (v : Value) (w : World) (hv : Ints w v l) :
    Calls Try.prog 67 #[v] w fun e w' => e = .returned (.bool b) ∧ w = w' := by
  subst h; exact valid_any l v w hv
theorem validR_b {l : List Int} {b : Bool} (h : decide (GrI l) = b) (v : Value) (w : World) (hv : Ints w v l) :
    Calls Try.prog 21 #[v] w fun e w' => e = .returned (.bool b) ∧ w = w' := by
  subst h; exact validR_any l v w hv
theorem orderE_bad {l : List Int} (h : ¬ GrI l) (v : Value) (w : World) (hv : Ints w v l) :
    Calls Try.prog 17 #[v] w fun e w' => e = .returned (.tuple #[.slice none 0 0, .int .i64 2]) ∧ w = w' := by
  have H := Lib.hid (valid_b (decide_eq_false h) v w hv)
  clear h hv
  go_enter Try.func17, Try.ntmps17
  go_wp2_with fail
  refine H.out.mono ?_
  rintro e w1 ⟨rfl, rfl⟩
  go_wp2_with fail
  go_ret2
  exact ⟨rfl, rfl⟩
def OrderE (g : List Nat) (w : World) (e : Ending) (w' : World) : Prop := ∃ v', e = .returned (.tuple #[v', .int .i64 (if Chordal g then 0 else 7)]) ∧ Ints w' v' (if Chordal g then castN (order g) else []) ∧ Below w.heap.size w w'
theorem orderE_any {g : List Nat} (hg : Gr g) (v : Value) (w : World) (hv : Ints w v (castN g)) :
    Calls Try.prog 17 #[v] w (OrderE g w) := by
  have H := Lib.hid (valid_b (decide_eq_true (grI_of hg)) v w hv)
  have H2 := Lib.hid (order_any hg v w hv)
  obtain ⟨a, c, rfl⟩ := ints_slice hv
  clear hv
  go_enter Try.func17, Try.ntmps17
  go_wp2_with fail
  refine H.out.mono ?_
  rintro e w1 ⟨rfl, rfl⟩
  go_wp2_with fail
  refine H2.out.mono ?_
  rintro e w1 ⟨v1, rfl, hi, hb⟩
  clear H H2
  by_cases hC : Chordal g
  · rw [decide_eq_true hC]
    rw [if_pos hC] at hi
    obtain ⟨a1, c1, rfl⟩ := ints_slice hi
    have Hi := Lib.hid hi
    have HC := Lib.hid hC
    clear hi hC
    go_wp2_with fail
    go_ret2
    exact ⟨_, by rw [if_pos HC.out]; rfl, by rw [if_pos HC.out]; exact Hi.out, hb⟩
  · rw [decide_eq_false hC]
    have HC := Lib.hid hC
    clear hi hC
    go_wp2_with fail
    go_ret2
    exact ⟨_, by rw [if_neg HC.out]; rfl, by rw [if_neg HC.out]; exact ints_nil _, hb⟩

theorem checkOrder_bad {l : List Int} (h : ¬ GrI l) (v u : Value) (w : World) (hv : Ints w v l) :
    Calls Try.prog 19 #[v, u] w fun e w' => e = .returned (.tuple #[.bool false, .int .i64 2]) ∧ w = w' := by
  have H := Lib.hid (valid_b (decide_eq_false h) v w hv)
  clear h hv
  go_enter Try.func19, Try.ntmps19
  go_wp2_with fail
  refine H.out.mono ?_
  rintro e w1 ⟨rfl, rfl⟩
  go_wp2_with fail
  go_ret2
  exact ⟨rfl, rfl⟩
theorem checkOrder_len {g : List Nat} (hg : Gr g) {l : List Int} (hl : l.length ≠ g.length) (v u : Value) (w : World) (hv : Ints w v (castN g)) (hu : Ints w u l) :
    Calls Try.prog 19 #[v, u] w fun e w' => e = .returned (.tuple #[.bool false, .int .i64 0]) ∧ w = w' := by
  have H := Lib.hid (valid_b (decide_eq_true (grI_of hg)) v w hv)
  obtain ⟨a, c, rfl⟩ := ints_slice hv
  obtain ⟨a', c', rfl⟩ := ints_slice hu
  have hm : l.length ≤ maxLen := hu.2.1
  have hm2 := hg.le
  unfold maxLen at hm
  have q : ((l.length : Int) != ((castN g).length : Int)) = true := by rw [castN_length, bne_iff_ne]; omega
  have hm3 : (castN g).length ≤ 12 := by rw [castN_length]; exact hm2
  clear hv hu hl
  go_enter Try.func19, Try.ntmps19
  go_wp2_with fail
  refine H.out.mono ?_
  rintro e w1 ⟨rfl, rfl⟩
  go_wp2_with fail
  go_ret2
  exact ⟨rfl, rfl⟩
theorem elims_no {g : List Nat} {l : List Int} {s k : Nat} (h : Elims g s (l.take (k + 1)) = false) : Elims g s l = false := by
  cases e : Elims g s l with
  | false => rfl
  | true => rw [elims_take (k + 1) e] at h; exact h
theorem take_gI {l : List Int} {k : Nat} (h : k < l.length) : l.take (k + 1) = l.take k ++ [gI l k] := by
  rw [List.take_succ_eq_append_getElem h, gI_get h]

set_option maxRecDepth 100000 in
set_option maxHeartbeats 4000000 in
theorem checkOrder_good {g : List Nat} (hg : Gr g) {l : List Int} (hl : l.length = g.length) (v u : Value) (w : World) (hv : Ints w v (castN g)) (hu : Ints w u l) :
    Calls Try.prog 19 #[v, u] w fun e w' => e = .returned (.tuple #[.bool (Elims g (2 ^ g.length - 1) l), .int .i64 0]) ∧ w = w' := by
  have H := Lib.hid (valid_b (decide_eq_true (grI_of hg)) v w hv)
  obtain ⟨a, b, off, cap, rfl, hle, ha, hc⟩ := Ints.graph hv
  obtain ⟨a', b', off', cap', rfl, hle', ha', hc'⟩ := Ints.get hu
  have hix := run_ix (P := Try.prog) (t := 27) (a := a) (len := g.length) (cap := cap) (b := b) (off := off) (s := 1) Try.underlying27 (by intro w; kernel_rfl) ha
  have hix' := run_ix (P := Try.prog) (t := 22) (a := a') (len := l.length) (cap := cap') (b := b') (off := off') (s := 1) Try.underlying22 (by intro w; kernel_rfl) ha'
  simp only [Nat.mul_one] at hix hix'
  have Hc := Lib.hid hc
  have Hc' := Lib.hid (show ∀ i, i < l.length → w.cell? ⟨b', off' + i, none⟩ = some (.int .i64 (gI l i)) from fun i hi => by rw [hc' i hi, gI_get hi])
  have Hv := Lib.hid hv
  have HG := Lib.hid hg
  have hn12 := hg.le
  obtain ⟨F, hF, f1, f2, f3⟩ := pow_name g.length hn12
  have HF := Lib.hid hF
  have q : ((l.length : Int) != (g.length : Int)) = false := by rw [hl]; simp
  have hln : l.length ≤ g.length := by omega
  obtain ⟨E, hE⟩ : ∃ E, E = Elims g (2 ^ g.length - 1) l := ⟨_, rfl⟩
  rw [← hE]
  have HE := Lib.hid hE
  clear ha hv hc hg hF ha' hu hc' hl hE
  go_enter Try.func19, Try.ntmps19
  go_wp2_with fail
  refine H.out.mono ?_
  rintro e w1 ⟨rfl, rfl⟩
  clear H
  go_wp2_with fail
  refine (all_g _ _ _ F (by omega) HF.out _).mono ?_
  rintro e w' ⟨rfl, rfl⟩
  go_wp2_with fail
  go_loopw [6, 21] (fun s i wr => ∃ k L : Nat, i = .int .i64 k ∧ s = .int .i64 L ∧ k ≤ l.length ∧ wr = w ∧ L = leftOf (2 ^ g.length - 1) (l.take k) ∧ Elims g (2 ^ g.length - 1) (l.take k) = true) (fun _ i _ => l.length - (intOf i).toNat)
  case atStart => exact ⟨0, F - 1, rfl, rfl, Nat.zero_le _, rfl, by rw [HF.out]; rfl, rfl⟩
  case round =>
    obtain ⟨k, L, rfl, rfl, hk, hwr, hL, hin⟩ := hrel
    subst hwr
    have Hin := Lib.hid hin
    have hL2 : L < 4096 := by rw [hL]; exact lt63 (leftOf_lt (by have := Nat.two_pow_pos g.length; omega)) hn12
    have HL := Lib.hid hL
    clear hin hL
    by_cases hlt : k < l.length
    · have hc1 := Hc'.out k hlt
      have hixk := hix' k
      obtain ⟨x, hx⟩ : ∃ x, x = gI l k := ⟨_, rfl⟩
      rw [← hx] at hc1
      have HS := Lib.hid (show Elims g (2 ^ g.length - 1) (l.take (k + 1)) = (decide (0 ≤ x ∧ x < g.length) && Simp g L x.toNat) by rw [take_gI hlt, elims_step, Hin.out, ← HL.out, ← hx]; rfl)
      have HD := Lib.hid (show leftOf (2 ^ g.length - 1) (l.take (k + 1)) = ndiff L (2 ^ x.toNat) by rw [take_gI hlt, leftOf_step, ← HL.out, ← hx])
      clear hx
      by_cases hn : 0 ≤ x ∧ x < (g.length : Int)
      · obtain ⟨hx0, hxn⟩ := hn
        obtain ⟨m, rfl⟩ := Int.eq_ofNat_of_zero_le hx0
        have hmn : m < g.length := by omega
        have HN := Lib.hid (decide_eq_true (show 0 ≤ (m : Int) ∧ (m : Int) < (g.length : Int) from ⟨hx0, hxn⟩))
        have hc2 := Hc.out m hmn
        have hixm := hix m
        have hnb := lt63 (HG.out.lt m hmn) hn12
        obtain ⟨P, hP, p1, p2, p3⟩ := pow_name m (by omega)
        obtain ⟨z, hz⟩ : ∃ z, z = nb g m := ⟨_, rfl⟩
        rw [← hz] at hc2 hnb
        have hand := bits_and_nat z L (by omega) (by omega)
        have hand2 : z &&& L ≤ L := Nat.and_le_right
        cases hbit : L.testBit m with
        | false =>
          have R := Lib.hid (show E = false by rw [HE.out]; exact elims_no (k := k) (by rw [HS.out, Int.toNat_natCast]; unfold Simp; rw [hbit]; simp))
          have Hbit := Lib.hid hbit
          clear hbit hP hz
          go_wp2_with fail
          refine (isNode_b _ _ _ _ true HN.out _).mono ?_
          rintro e w' ⟨rfl, rfl⟩
          go_wp2_with fail
          refine (has_b L m false Hbit.out (by omega) (by omega) _).mono ?_
          rintro e w' ⟨rfl, rfl⟩
          go_wp2_with fail
          go_ret2
          exact ⟨by rw [R.out]; rfl, rfl⟩
        | true =>
          have Hbit := Lib.hid hbit
          by_cases hcl : Cliq g (z &&& L)
          · have R := Lib.hid (show Elims g (2 ^ g.length - 1) (l.take (k + 1)) = true by rw [HS.out, HN.out, Int.toNat_natCast]; unfold Simp; rw [hbit, ← hz, decide_eq_true hcl]; rfl)
            have hdn := bits_andNot_nat L P (by omega) (by omega)
            have RD := Lib.hid (show ndiff L P = leftOf (2 ^ g.length - 1) (l.take (k + 1)) by rw [HD.out, Int.toNat_natCast, hP])
            have Hcl := Lib.hid (decide_eq_true hcl)
            clear hbit hP hz hcl
            go_wp2_with fail
            refine (isNode_b _ _ _ _ true HN.out _).mono ?_
            rintro e w' ⟨rfl, rfl⟩
            go_wp2_with fail
            refine (has_b L m true Hbit.out (by omega) (by omega) _).mono ?_
            rintro e w' ⟨rfl, rfl⟩
            go_wp2_with fail
            refine (isClique_b HG.out (z &&& L) true Hcl.out (by omega) _ _ Hv.out).mono ?_
            rintro e w' ⟨rfl, rfl⟩
            go_wp2_with fail
            go_roundw
            case rel => exact ⟨k + 1, ndiff L P, by go_num, rfl, by omega, trivial, RD.out, R.out⟩
            case measure => simp [intOf]; omega
          · have R := Lib.hid (show E = false by rw [HE.out]; exact elims_no (k := k) (by rw [HS.out, Int.toNat_natCast]; unfold Simp; rw [← hz, decide_eq_false hcl]; simp))
            have Hcl := Lib.hid (decide_eq_false hcl)
            clear hbit hP hz hcl
            go_wp2_with fail
            refine (isNode_b _ _ _ _ true HN.out _).mono ?_
            rintro e w' ⟨rfl, rfl⟩
            go_wp2_with fail
            refine (has_b L m true Hbit.out (by omega) (by omega) _).mono ?_
            rintro e w' ⟨rfl, rfl⟩
            go_wp2_with fail
            refine (isClique_b HG.out (z &&& L) false Hcl.out (by omega) _ _ Hv.out).mono ?_
            rintro e w' ⟨rfl, rfl⟩
            go_wp2_with fail
            go_ret2
            exact ⟨by rw [R.out]; rfl, rfl⟩
      · have R := Lib.hid (show E = false by rw [HE.out]; exact elims_no (k := k) (by rw [HS.out, decide_eq_false hn]; rfl))
        have HN := Lib.hid (decide_eq_false hn)
        clear hn
        go_wp2_with fail
        refine (isNode_b _ _ _ _ false HN.out _).mono ?_
        rintro e w' ⟨rfl, rfl⟩
        go_wp2_with fail
        go_ret2
        exact ⟨by rw [R.out]; rfl, rfl⟩
    · obtain rfl : k = l.length := by omega
      have R := Lib.hid (show E = true by rw [HE.out]; have := Hin.out; rwa [List.take_length] at this)
      go_wp2_with fail
      go_ret2
      exact ⟨by rw [R.out]; rfl, rfl⟩
/-- what CheckOrder says of a graph -/
theorem checkOrder_any {g : List Nat} (hg : Gr g) (l : List Int) (v u : Value) (w : World) (hv : Ints w v (castN g)) (hu : Ints w u l) :
    Calls Try.prog 19 #[v, u] w fun e w' => e = .returned (.tuple #[.bool (decide (IsOrder g l)), .int .i64 0]) ∧ w = w' := by
  by_cases hl : l.length = g.length
  · refine (checkOrder_good hg hl v u w hv hu).mono fun e w' h => ?_
    have : decide (IsOrder g l) = Elims g (2 ^ g.length - 1) l := by
      by_cases h : Elims g (2 ^ g.length - 1) l = true
      · rw [h]; exact decide_eq_true ⟨hl, h⟩
      · rw [decide_eq_false fun hh => h hh.2]; exact (Bool.eq_false_iff.2 h).symm
    rw [this]; exact h
  · refine (checkOrder_len hg hl v u w hv hu).mono fun e w' h => ?_
    rw [decide_eq_false fun h => hl h.1]; exact h

theorem gr252 : Gr [2, 5, 2] := by
  refine ⟨by decide, by decide, by decide, by decide, ?_⟩
  have : ∀ i, i < [2, 5, 2].length → ∀ j, j < [2, 5, 2].length → (nb [2, 5, 2] i).testBit j = true → (nb [2, 5, 2] j).testBit i = true := by decide
  exact fun i j hi hj h => this i hi j hj h
theorem chordal252 : Chordal [2, 5, 2] := by decide +kernel
theorem order252 : order [2, 5, 2] = [0, 1, 2] := by decide +kernel
set_option maxRecDepth 100000 in
theorem awake_any (w : World) : Calls Try.prog 22 #[] w fun e w' => e = .returned (.bool true) ∧ Below w.heap.size w w' := by
  have H := Lib.hid (fun w (h : Ints w _ (castN [2, 5, 2])) => orderE_any gr252 (.slice (some ⟨w.heap.size - 1, 0, none⟩) 3 3) w h)
  go_enter Try.func22, Try.ntmps22
  go_wp2_with fail
  refine (orderE_any gr252 _ _ (by exact rd_new w #[.int .i64 2, .int .i64 5, .int .i64 2] 3 1 3 rfl (by unfold maxLen; omega))).mono ?_
  rintro e w1 ⟨v1, rfl, hi, hb⟩
  rw [if_pos chordal252] at hi ⊢
  obtain ⟨a1, c1, rfl⟩ := ints_slice hi
  have Hi := Lib.hid hi
  have Hb := Lib.hid (Below.tr (below_alloc _ _) hb)
  clear hi hb H
  go_wp2_with fail
  refine (equal_yes (show castN (order [2, 5, 2]) = [0, 1, 2] by rw [order252]; rfl) _ _ _ (Ints.keep Hi.out (below_alloc _ _)) (by exact rd_new w1 #[.int .i64 0, .int .i64 1, .int .i64 2] 3 1 3 rfl (by unfold maxLen; omega))).mono ?_
  rintro e w2 ⟨rfl, hb2⟩
  have Hb2 := Lib.hid (Below.tr Hb.out (Below.tr (below_alloc _ _) hb2))
  clear hb2
  go_wp2_with fail
  go_ret
  exact ⟨rfl, Hb2.out⟩
#print axioms awake_any
end Go.Proofs.Ytkjpbjbheocciaa
