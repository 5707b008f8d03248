/- Contracts of same (slices.EqualFunc with slices.Equal) and of the reference's Refute. -/
import Derived.Test.YtnidalbfmicoiaaWalkS
import Derived.Test.YtnidalbfmicoiaaWalkY
namespace Go.Proofs.Ytnidalbfmicoiaa
open Go.RowKit

theorem equalFunc_any (x y : List (List Int)) (v u : Value) (w : World) (hv : Rows w v x) (hu : Rows w u y) :
    Calls Try.prog 74 #[v, u, .func (.func 41) #[] #[]] w fun e w' => e = .returned (.bool (decide (x = y))) ∧ Below w.heap.size w w' := by
  obtain ⟨a, b, off, cap, vs, rfl, hle, ha, hvs, hc, hr⟩ := Rows.get hv
  obtain ⟨a', b', off', cap', vs', rfl, hle', ha', hvs', hc', hr'⟩ := Rows.get hu
  have hix := run_ix (P := Try.prog) (t := 34) (a := a) (len := x.length) (cap := cap) (b := b) (off := off) (s := 1) Try.underlying34 (by intro w; kernel_rfl) ha
  have hix' := run_ix (P := Try.prog) (t := 34) (a := a') (len := y.length) (cap := cap') (b := b') (off := off') (s := 1) Try.underlying34 (by intro w; kernel_rfl) ha'
  simp only [Nat.mul_one] at hix hix'
  have Hvs := Lib.hid hvs
  have Hvs' := Lib.hid hvs'
  clear ha ha' hv hu hvs hvs'
  by_cases hxy : x.length = y.length
  · rw [← hxy] at hix' hle' ⊢
    have Hxy := Lib.hid hxy
    clear hxy
    have Hc := Lib.hid hc
    have Hc' := Lib.hid hc'
    have Hr := Lib.hid hr
    have Hr' := Lib.hid hr'
    clear hc hc' hr hr'
    go_enter Try.func74, Try.ntmps74
    go_wp2
    go_loopw [17] (fun i wr => ∃ k : Nat, i = .int .i64 k ∧ k ≤ x.length ∧ Below w.heap.size w wr ∧ (∀ j (h : j < x.length) (h' : j < y.length), j < k → x[j] = y[j])) (fun i _ => x.length - (intOf i).toNat)
    case atStart => exact ⟨0, rfl, Nat.zero_le _, Below.refl _ _, fun i _ _ h => by omega⟩
    case round =>
      obtain ⟨k, rfl, hk, hb, hin⟩ := hrel
      have Hin := Lib.hid hin
      have Hb := Lib.hid hb
      clear hin hb
      by_cases hlt : k < x.length
      · have hlt' : k < y.length := by have := Hxy.out; omega
        have g1 : k < vs.length := by have := Hvs.out; omega
        have g2 : k < vs'.length := by have := Hvs'.out; omega
        have hc1 := Below.keep Hb.out (Hc.out k g1)
        have hc2 := Below.keep Hb.out (Hc'.out k g2)
        have hr1 := (Hr.out k hlt g1).keep Hb.out
        have hr2 := (Hr'.out k hlt' g2).keep Hb.out
        have H := Lib.hid (equal_any _ _ _ _ _ hr1 hr2)
        clear hr1 hr2
        by_cases he : x[k] = y[k]
        · have R : ∀ j (h : j < x.length) (h' : j < y.length), j < k + 1 → x[j] = y[j] := fun j h h' hj => by
            by_cases e : j = k
            · subst e; exact he
            · exact Hin.out j h h' (by omega)
          have R := Lib.hid R
          rw [decide_eq_true he] at H
          go_wp2_with fail
          refine H.out.mono ?_
          rintro e w1 ⟨rfl, hb1⟩
          have Hb1 := Lib.hid (Below.tr Hb.out hb1)
          clear hb1
          go_wp2
          go_roundw
          case rel => exact ⟨k + 1, by go_num, by omega, Hb1.out, R.out⟩
          case measure => simp [intOf]; omega
        · have R : decide (x = y) = false := decide_ne fun h => he (by subst h; rfl)
          have R := Lib.hid R
          rw [decide_ne he] at H
          go_wp2_with fail
          refine H.out.mono ?_
          rintro e w1 ⟨rfl, hb1⟩
          have Hb1 := Lib.hid (Below.tr Hb.out hb1)
          clear hb1
          go_wp2
          go_ret
          exact ⟨congrArg (fun b => Ending.returned (.bool b)) R.out.symm, Hb1.out⟩
      · obtain rfl : k = x.length := by omega
        have R : decide (x = y) = true := decide_eq_true (List.ext_getElem Hxy.out fun j h h' => Hin.out j h h' h)
        go_wp2
        go_ret
        exact ⟨congrArg (fun b => Ending.returned (.bool b)) R.symm, Hb.out⟩
  · have R : decide (x = y) = false := decide_ne fun h => hxy (by rw [h])
    have R := Lib.hid R
    clear hc hc' hr hr'
    go_enter Try.func74, Try.ntmps74
    go_wp2
    go_ret
    exact ⟨congrArg (fun b => Ending.returned (.bool b)) R.out.symm, Below.refl _ _⟩
theorem same_any (x y : List (List Int)) (v u : Value) (w : World) (hv : Rows w v x) (hu : Rows w u y) :
    Calls Try.prog 32 #[v, u] w fun e w' => e = .returned (.bool (decide (x = y))) ∧ Below w.heap.size w w' := by
  have H := Lib.hid (equalFunc_any x y v u w hv hu)
  clear hv hu
  go_enter Try.func32, Try.ntmps32
  go_wp2_with fail
  refine H.out.mono ?_
  rintro e w1 ⟨rfl, hb1⟩
  go_wp2
  go_ret
  exact ⟨rfl, hb1⟩

set_option maxRecDepth 100000 in
theorem refuteR_any {m s t : Nat} {l : List DepN} (h : Okl m l) (hs : s < 2 ^ m) (v : Value) (w : World) (hv : Deps w v (castD l)) :
    Calls Try.prog 33 #[.int .i64 m, v, .agg #[.int .i64 s, .int .i64 t]] w fun e w' => ∃ v', e = .returned v' ∧ Rows w' v' [List.replicate m 0, outRow (cl l s) 1 m] ∧ Below w.heap.size w w' := by
  have hp := h.pow
  have h8 := h.h8
  have Hv := Lib.hid hv
  have Hs := Lib.hid (show s < 256 by omega)
  have Hl := Lib.hid h.lt
  have hq := cl_lt l s
  have b0 := below_alloc w (.cells #[.int .i64 (s : Int), .int .i64 (t : Int)] 24)
  have c0 := cell_new w #[.int .i64 (s : Int), .int .i64 (t : Int)] 24 0
  have C0 := Lib.hid c0
  have B0 := Lib.hid b0
  obtain ⟨a, b, off, cap, hva, -⟩ := Deps.get hv
  subst hva
  obtain ⟨i0, hi, hz0, hz1, hz2⟩ := info_parts info3
  have Hi := Lib.hid hi
  have Hz0 := Lib.hid hz0
  have Hz1 := Lib.hid hz1
  have hby : i0.bytes * m ≤ 281474976710656 := by rw [hz2]; omega
  have Hby := Lib.hid hby
  clear hi hz0 hz1 hz2 hby hv hs hp c0 h b0
  go_enter Try.func33, Try.ntmps33
  obtain ⟨w0, hw0⟩ : ∃ w0, w0 = w.alloc (.cells #[.int .i64 (s : Int), .int .i64 (t : Int)] 24) := ⟨_, rfl⟩
  rw [← hw0] at C0 B0
  go_wp2_with (rw [← hw0]; clear hw0; refine wpList_make_full _ rfl (.tmp 9) (.tmp 9) 56 rfl w0.heap.size 3 i0 (.int .i64 0) 1 Try.underlying56 Hi.out Hz0.out Hz1.out .i64 .i64 _ _ m rfl rfl rfl rfl Hby.out (by unfold maxLen; omega) (Nat.le_refl _) ?_; intro w1 hown hg)
  have hrow : OutRow w1 w0.heap.size w0.heap.size m (cl l s) 1 0 := by
    unfold OutRow
    rw [outTo_zero]
    have e : (madeCells (Value.int IntKind.i64 0).cells (m * 1)).toList = List.replicate m (Value.int .i64 0) := by rw [Nat.mul_one]; exact toList_madeCells_one _ _
    rw [e] at hown
    rw [List.map_replicate]
    exact hown
  have hb1 : Below w0.heap.size w0 w1 := (Below.refl _ _).grown hg (Nat.le_refl _) (fun k hk => by cases hk)
  have Hrow := Lib.hid hrow
  have Hb1 := Lib.hid hb1
  clear hrow hb1 hown hg
  go_wp2_with fail
  go_loopw [12] (fun i wr => ∃ k : Nat, i = .int .i64 k ∧ k ≤ m ∧ Below w0.heap.size w0 wr ∧ OutRow wr w0.heap.size w0.heap.size m (cl l s) 1 k) (fun i _ => m - (intOf i).toNat)
  case atStart => exact ⟨0, rfl, Nat.zero_le _, Hb1.out, Hrow.out⟩
  case round =>
    obtain ⟨k, rfl, hk, hb, hown⟩ := hrel
    have Hb := Lib.hid hb
    have Hown := Lib.hid hown
    have c0 := Below.keep hb C0.out
    clear hb hown
    by_cases hlt : k < m
    · have t1 := shr_bit (cl l s) k hq
      go_wp2_with fail
      refine (closureR_any l Hl.out s Hs.out _ _ (Deps.keep Hv.out (Below.tr B0.out Hb.out))).mono ?_
      rintro e w2 ⟨rfl, hb2⟩
      have Hb2 := Lib.hid (Below.tr Hb.out hb2)
      have Hown2 := Lib.hid (show OutRow w2 w0.heap.size w0.heap.size m (cl l s) 1 k from owns_keep Hown.out hb2)
      clear hb2
      have hfz := World.ownsRow.frozenAt Hown2.out k
      have hcell := World.ownsRow.cellAt Hown2.out k (by omega)
      rw [List.getElem?_map, List.getElem?_eq_getElem (by simp [outTo]; omega), Option.map_some] at hcell
      cases hbit : (cl l s).testBit k with
      | true =>
        have HR := Lib.hid (show OutRow w2 w0.heap.size w0.heap.size m (cl l s) 1 (k + 1) by unfold OutRow; rw [outTo_skip 1 m hbit]; exact Hown2.out)
        rw [hbit] at t1
        simp only [if_true] at t1
        go_wp2
        go_roundw
        case rel => exact ⟨k + 1, by go_num, by omega, Hb2.out, HR.out⟩
        case measure => simp [intOf]; omega
      | false =>
        have hst := (World.ownsRow.stored Hown2.out k (.int .i64 1))
        have HR := Lib.hid (show OutRow (w2.setCell ⟨w0.heap.size, k, none⟩ (.int .i64 1)) w0.heap.size w0.heap.size m (cl l s) 1 (k + 1) by unfold OutRow; rw [outTo_set 1 m hbit, List.map_set]; exact hst.1)
        rw [hbit] at t1
        clear hst
        simp only [Bool.false_eq_true, if_false] at t1
        go_wp2
        go_roundw
        case rel => exact ⟨k + 1, by go_num, by omega, Hb2.out.setCell (Nat.le_refl _) _, HR.out⟩
        case measure => simp [intOf]; omega
    · obtain rfl : k = m := by omega
      have hwz := Hb.out.size
      go_wp2_with (refine wpList_make_full _ rfl (.tmp 27) (.tmp 27) 56 rfl wr.heap.size 3 i0 (.int .i64 0) 1 Try.underlying56 Hi.out Hz0.out Hz1.out .i64 .i64 _ _ k rfl rfl rfl rfl Hby.out (by unfold maxLen; omega) (Nat.le_refl _) ?_; intro w3 hown3 hg3)
      have hz : OwnInts wr.heap.size w3 (.slice (some ⟨wr.heap.size, 0, none⟩) k k) (List.replicate k 0) := by
        have e : (madeCells (Value.int IntKind.i64 0).cells (k * 1)).toList = (List.replicate k (0 : Int)).map (Value.int .i64) := by rw [Nat.mul_one]; exact zeros_list k
        rw [e] at hown3
        unfold OwnInts
        simpa using hown3
      have hb3 : Below wr.heap.size wr w3 := (Below.refl _ _).grown hg3 (Nat.le_refl _) (fun k hk => by cases hk)
      have Hz := Lib.hid hz.ints
      have Hb3 := Lib.hid hb3
      have hown' := Hown.out
      unfold OutRow at hown'
      rw [outTo_full] at hown'
      have HO := Lib.hid (Ints.keep (outRow_ints hown' rfl) hb3)
      clear hown3 hg3 hz hb3 hown'
      go_wp2_with fail
      go_ret
      exact ⟨_, rfl, rows_two _ _ _ _ _ Hz.out HO.out _ (by simp), Below.tr B0.out (Below.tr Hb.out (Below.tr Hb3.out (below_alloc _ _)))⟩
end Go.Proofs.Ytnidalbfmicoiaa
