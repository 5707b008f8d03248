/- HistoryExchanged: for every input the law returns true. -/
import Derived.Test.YtpehbffkplmfjaaSwp
import Derived.Test.YtpehbffkplmfjaaOrd
import Derived.Test.YtpehbffkplmfjaaAw
import Derived.Test.YtpehbffkplmfjaaEq
import Derived.Test.YtpehbffkplmfjaaFrame
import Derived.Test.YtpehbffkplmfjaaRows
namespace Go.Proofs.Ytpehbffkplmfjaa
open Go.RowKit

theorem valid_take (l : List HOp) : ValidH (l.take 43) ↔ ValidH l := by
  by_cases h : l.length ≤ 43
  · rw [List.take_of_length_le h]
  · constructor
    · intro hv; have := hv.1; rw [List.length_take] at this; omega
    · intro hv; have := hv.1; omega
theorem mod_nat (x : Int) (F : Nat) (h : 1 ≤ F) : ∃ t : Nat, (IntKind.u64.wrap x).tmod F = t ∧ t < F := by
  have h1 : 0 ≤ IntKind.u64.wrap x := by
    unfold IntKind.wrap
    exact Int.emod_nonneg _ (by decide)
  rw [Int.tmod_eq_emod_of_nonneg h1]
  have h2 := Int.emod_nonneg (IntKind.u64.wrap x) (show (F : Int) ≠ 0 by omega)
  have h3 := Int.emod_lt_of_pos (IntKind.u64.wrap x) (show (0 : Int) < F by omega)
  exact ⟨(IntKind.u64.wrap x % F).toNat, by omega, by omega⟩
set_option maxRecDepth 100000 in
set_option maxHeartbeats 8000000 in
theorem exch_bad {l : List HOp} (hn : ¬ ValidH l) (x : Int) (v : Value) (w : World) (hv : Ops w v l) :
    Calls Try.prog 15 #[v, .int .i64 x] w fun e w' => e = .returned (.bool true) ∧ Below w.heap.size w w' := by
  have HO := Lib.hid (fun w' (hb : Below w.heap.size w w') => of_any l v w' (Ops.keep hv hb))
  have hn2 : ¬ ValidH (l.take 43) := fun h => hn ((valid_take l).1 h)
  generalize l.take 43 = m at *
  have HD := Lib.hid (fun v' w' (hv' : Ops w' v' m) => order_bad hn2 v' w' hv')
  have HC := Lib.hid (fun v' w' (hv' : Ops w' v' m) => cycle_bad hn2 v' w' hv')
  have HW := Lib.hid (fun v' w' (hv' : Ops w' v' m) => view_bad hn2 v' w' hv')
  obtain ⟨a, c, rfl⟩ := ops_slice hv
  clear hv hn hn2
  go_enter Try.func15, Try.ntmps15
  go_wp2_with fail
  refine (HO.out _ (Below.refl _ _)).mono ?_
  rintro e w1 ⟨v1, rfl, ho1, hb1⟩
  obtain ⟨a1, c1, rfl⟩ := own_slice ho1
  have Hb1 := Lib.hid (hb1)
  have o1_1 := Lib.hid (ho1.ops)
  clear hb1
  clear ho1
  go_wp2_with fail
  refine (HD.out _ _ o1_1.out).mono ?_
  rintro e w2 ⟨rfl, hb2⟩
  have Hb2 := Lib.hid (Below.tr Hb1.out hb2)
  clear hb2
  go_wp2_with fail
  refine (HO.out _ Hb2.out).mono ?_
  rintro e w3 ⟨v3, rfl, ho3, hb3⟩
  obtain ⟨a3, c3, rfl⟩ := own_slice ho3
  have Hb3 := Lib.hid (Below.tr Hb2.out hb3)
  have o3_3 := Lib.hid (ho3.ops)
  clear hb3
  clear ho3
  go_wp2_with fail
  refine (HC.out _ _ o3_3.out).mono ?_
  rintro e w4 ⟨rfl, hb4⟩
  have Hb4 := Lib.hid (Below.tr Hb3.out hb4)
  clear hb4
  go_wp2_with fail
  refine (HO.out _ Hb4.out).mono ?_
  rintro e w5 ⟨v5, rfl, ho5, hb5⟩
  obtain ⟨a5, c5, rfl⟩ := own_slice ho5
  have Hb5 := Lib.hid (Below.tr Hb4.out hb5)
  have o5_5 := Lib.hid (ho5.ops)
  clear hb5
  clear ho5
  go_wp2_with fail
  refine (HW.out _ _ o5_5.out).mono ?_
  rintro e w6 ⟨rfl, hb6⟩
  have Hb6 := Lib.hid (Below.tr Hb5.out hb6)
  clear hb6
  go_wp2_with fail
  refine (awake_any _).mono ?_
  rintro e w7 ⟨rfl, hb7⟩
  have Hb7 := Lib.hid (Below.tr Hb6.out hb7)
  clear hb7
  go_wp2_with fail
  go_ret
  exact ⟨rfl, Hb7.out⟩
set_option maxRecDepth 100000 in
set_option maxHeartbeats 16000000 in
theorem exch_good {h : List NOp} (hh : VH h) (x : Int) (v : Value) (w : World) (hv : Ops w v (castO h)) :
    Calls Try.prog 15 #[v, .int .i64 x] w fun e w' => e = .returned (.bool true) ∧ Below w.heap.size w w' := by
  have htk : (castO h).take 43 = castO h := List.take_of_length_le (by rw [castO_length]; have := hh.le; omega)
  have HO := Lib.hid (fun w' (hb : Below w.heap.size w w') => of_any (castO h) v w' (Ops.keep hv hb))
  rw [htk] at HO
  have HD := Lib.hid (fun g (hg : VH g) v' w' (hv' : Ops w' v' (castO g)) => order_any hg v' w' hv')
  have HC := Lib.hid (fun g (hg : VH g) v' w' (hv' : Ops w' v' (castO g)) => cycleP_any hg v' w' hv')
  have HW := Lib.hid (fun g (hg : VH g) v' w' (hv' : Ops w' v' (castO g)) => view_any hg v' w' hv')
  have hh40 := hh.le
  have HH := Lib.hid hh
  obtain ⟨a, c, rfl⟩ := ops_slice hv
  rw [castO_length] at hv HO ⊢
  have Hv := Lib.hid hv
  obtain ⟨E1, hE1⟩ : ∃ E1 : Int, E1 = if (ordN h).isSome then (0 : Int) else 8 := ⟨_, rfl⟩
  obtain ⟨E2, hE2⟩ : ∃ E2 : Int, E2 = if (cycN h).isSome then (0 : Int) else 5 := ⟨_, rfl⟩
  obtain ⟨E3, hE3⟩ : ∃ E3 : Int, E3 = if (vwN h).isSome then (0 : Int) else 5 := ⟨_, rfl⟩
  obtain ⟨x1, hx1⟩ : ∃ x1, x1 = castN ((ordN h).getD []) := ⟨_, rfl⟩
  obtain ⟨x2, hx2⟩ : ∃ x2, x2 = castN ((cycN h).getD []) := ⟨_, rfl⟩
  obtain ⟨x3, hx3⟩ : ∃ x3, x3 = castN ((vwN h).getD []) := ⟨_, rfl⟩
  have hE12 : (E1 == 2) = false := by
    rw [hE1, beq_eq_false_iff_ne]; split <;> omega
  have HD1 := Lib.hid (fun v' w' hv' => HD.out h hh v' w' hv')
  have HC1 := Lib.hid (fun v' w' hv' => HC.out h hh v' w' hv')
  have HW1 := Lib.hid (fun v' w' hv' => HW.out h hh v' w' hv')
  rw [← hE1, ← hx1] at HD1
  rw [← hE2, ← hx2] at HC1
  rw [← hE3, ← hx3] at HW1
  have HD2 := Lib.hid (fun g i (e : Ex h g i) v' w' hv' => show Calls Try.prog 24 #[v'] w' fun e w'' => ∃ u, e = .returned (.tuple #[u, .int .i64 E1]) ∧ Ints w'' u x1 ∧ Below w'.heap.size w' w'' from by
    have := HD.out g e.vg v' w' hv'
    rwa [e.ordN, ← hE1, ← hx1] at this)
  have HC2 := Lib.hid (fun g i (e : Ex h g i) v' w' hv' => show Calls Try.prog 25 #[v'] w' fun e w'' => ∃ u, e = .returned (.tuple #[u, .int .i64 E2]) ∧ Ints w'' u x2 ∧ Below w'.heap.size w' w'' from by
    have := HC.out g e.vg v' w' hv'
    rwa [e.cycN, ← hE2, ← hx2] at this)
  have HW2 := Lib.hid (fun g i (e : Ex h g i) v' w' hv' => show Calls Try.prog 28 #[v'] w' fun e w'' => ∃ u, e = .returned (.tuple #[u, .int .i64 E3]) ∧ Ints w'' u x3 ∧ Below w'.heap.size w' w'' from by
    have := HW.out g e.vg v' w' hv'
    rwa [e.vwN, ← hE3, ← hx3] at this)
  clear hv hh htk hE1 hE2 hE3 hx1 hx2 hx3 HD HC HW
  by_cases hn : h.length < 2
  · go_enter Try.func15, Try.ntmps15
    go_wp2_with fail
    refine (HO.out _ (Below.refl _ _)).mono ?_
    rintro e w1 ⟨v1, rfl, ho1, hb1⟩
    obtain ⟨a1, c1, rfl⟩ := own_slice ho1
    have Hb1 := Lib.hid (hb1)
    have o1_1 := Lib.hid (ho1.ops)
    clear hb1
    clear ho1
    go_wp2_with fail
    refine (HD1.out _ _ o1_1.out).mono ?_
    rintro e w2 ⟨v2, rfl, hi2, hb2⟩
    obtain ⟨a2, c2, rfl⟩ := ints_slice hi2
    have Hb2 := Lib.hid (Below.tr Hb1.out hb2)
    have i2_2 := Lib.hid (hi2)
    clear hb2
    clear hi2
    go_wp2_with fail
    refine (HO.out _ Hb2.out).mono ?_
    rintro e w3 ⟨v3, rfl, ho3, hb3⟩
    obtain ⟨a3, c3, rfl⟩ := own_slice ho3
    have Hb3 := Lib.hid (Below.tr Hb2.out hb3)
    have i2_3 := Lib.hid (Ints.keep i2_2.out hb3)
    have o3_3 := Lib.hid (ho3.ops)
    clear hb3 i2_2
    clear ho3
    go_wp2_with fail
    refine (HC1.out _ _ o3_3.out).mono ?_
    rintro e w4 ⟨v4, rfl, hi4, hb4⟩
    obtain ⟨a4, c4, rfl⟩ := ints_slice hi4
    have Hb4 := Lib.hid (Below.tr Hb3.out hb4)
    have i2_4 := Lib.hid (Ints.keep i2_3.out hb4)
    have i4_4 := Lib.hid (hi4)
    clear hb4 i2_3
    clear hi4
    go_wp2_with fail
    refine (HO.out _ Hb4.out).mono ?_
    rintro e w5 ⟨v5, rfl, ho5, hb5⟩
    obtain ⟨a5, c5, rfl⟩ := own_slice ho5
    have Hb5 := Lib.hid (Below.tr Hb4.out hb5)
    have i2_5 := Lib.hid (Ints.keep i2_4.out hb5)
    have i4_5 := Lib.hid (Ints.keep i4_4.out hb5)
    have o5_5 := Lib.hid (ho5.ops)
    clear hb5 i2_4 i4_4
    clear ho5
    go_wp2_with fail
    refine (HW1.out _ _ o5_5.out).mono ?_
    rintro e w6 ⟨v6, rfl, hi6, hb6⟩
    obtain ⟨a6, c6, rfl⟩ := ints_slice hi6
    have Hb6 := Lib.hid (Below.tr Hb5.out hb6)
    have i2_6 := Lib.hid (Ints.keep i2_5.out hb6)
    have i4_6 := Lib.hid (Ints.keep i4_5.out hb6)
    have i6_6 := Lib.hid (hi6)
    clear hb6 i2_5 i4_5
    clear hi6
    go_wp2_with fail
    refine (awake_any _).mono ?_
    rintro e w7 ⟨rfl, hb7⟩
    have Hb7 := Lib.hid (Below.tr Hb6.out hb7)
    have i2_7 := Lib.hid (Ints.keep i2_6.out hb7)
    have i4_7 := Lib.hid (Ints.keep i4_6.out hb7)
    have i6_7 := Lib.hid (Ints.keep i6_6.out hb7)
    clear hb7 i2_6 i4_6 i6_6
    go_wp2_with fail
    go_ret
    exact ⟨rfl, Hb7.out⟩
  · obtain ⟨m, hm⟩ : ∃ m, m = h.length - 1 := ⟨_, rfl⟩
    have hw1 : IntKind.i64.wrap ((h.length : Int) - 1) = (m : Int) := by rw [IntWalk.i64_in _ ⟨by omega, by omega⟩]; omega
    have hw1' : (h.length : Int) - 1 = (m : Int) := by omega
    have hw2 : IntKind.u64.wrap (m : Int) = (m : Int) := by
      unfold IntKind.wrap
      exact Int.emod_eq_of_lt (by omega) (by show (m : Int) < 18446744073709551616; omega)
    obtain ⟨i, hi, him⟩ := mod_nat x m (by omega)
    have hw3 : IntKind.i64.wrap (i : Int) = (i : Int) := by rw [IntWalk.i64_in _ ⟨by omega, by omega⟩]
    have hm0 : ((m : Int) == 0) = false := by rw [beq_eq_false_iff_ne]; omega
    have Hi := Lib.hid (show i + 1 < h.length from by omega)
    clear hm
    go_enter Try.func15, Try.ntmps15
    go_wp2_with fail
    refine (HO.out _ (Below.refl _ _)).mono ?_
    rintro e w1 ⟨v1, rfl, ho1, hb1⟩
    obtain ⟨a1, c1, rfl⟩ := own_slice ho1
    have Hb1 := Lib.hid (hb1)
    have o1_1 := Lib.hid (ho1.ops)
    clear hb1
    clear ho1
    go_wp2_with fail
    refine (HD1.out _ _ o1_1.out).mono ?_
    rintro e w2 ⟨v2, rfl, hi2, hb2⟩
    obtain ⟨a2, c2, rfl⟩ := ints_slice hi2
    have Hb2 := Lib.hid (Below.tr Hb1.out hb2)
    have i2_2 := Lib.hid (hi2)
    clear hb2
    clear hi2
    go_wp2_with fail
    refine (HO.out _ Hb2.out).mono ?_
    rintro e w3 ⟨v3, rfl, ho3, hb3⟩
    obtain ⟨a3, c3, rfl⟩ := own_slice ho3
    have Hb3 := Lib.hid (Below.tr Hb2.out hb3)
    have i2_3 := Lib.hid (Ints.keep i2_2.out hb3)
    have o3_3 := Lib.hid (ho3.ops)
    clear hb3 i2_2
    clear ho3
    go_wp2_with fail
    refine (HC1.out _ _ o3_3.out).mono ?_
    rintro e w4 ⟨v4, rfl, hi4, hb4⟩
    obtain ⟨a4, c4, rfl⟩ := ints_slice hi4
    have Hb4 := Lib.hid (Below.tr Hb3.out hb4)
    have i2_4 := Lib.hid (Ints.keep i2_3.out hb4)
    have i4_4 := Lib.hid (hi4)
    clear hb4 i2_3
    clear hi4
    go_wp2_with fail
    refine (HO.out _ Hb4.out).mono ?_
    rintro e w5 ⟨v5, rfl, ho5, hb5⟩
    obtain ⟨a5, c5, rfl⟩ := own_slice ho5
    have Hb5 := Lib.hid (Below.tr Hb4.out hb5)
    have i2_5 := Lib.hid (Ints.keep i2_4.out hb5)
    have i4_5 := Lib.hid (Ints.keep i4_4.out hb5)
    have o5_5 := Lib.hid (ho5.ops)
    clear hb5 i2_4 i4_4
    clear ho5
    go_wp2_with fail
    refine (HW1.out _ _ o5_5.out).mono ?_
    rintro e w6 ⟨v6, rfl, hi6, hb6⟩
    obtain ⟨a6, c6, rfl⟩ := ints_slice hi6
    have Hb6 := Lib.hid (Below.tr Hb5.out hb6)
    have i2_6 := Lib.hid (Ints.keep i2_5.out hb6)
    have i4_6 := Lib.hid (Ints.keep i4_5.out hb6)
    have i6_6 := Lib.hid (hi6)
    clear hb6 i2_5 i4_5
    clear hi6
    obtain ⟨a3', b3, off3, cap3, hv3, hle3, ha3, hcap3, hc3⟩ := Ops.nat Hv.out
    injection hv3 with e1 _ e3
    subst e1 e3
    have hixo := run_ix (P := Try.prog) (t := 23) (a := a) (len := h.length) (cap := c) (b := b3) (off := off3) (s := 3) Try.underlying23 (by intro w; kernel_rfl) ha3
    have Hc3 := Lib.hid hc3
    have Hixo := Lib.hid hixo
    clear hc3 hixo ha3 hle3 hcap3
    go_upto_region 7 with fail
    have hc1 := Below.keep Hb6.out (Hc3.out i (by have := Hi.out; omega)).1
    have hc2 := Below.keep Hb6.out (Hc3.out i (by have := Hi.out; omega)).2.1
    have hc3 := Below.keep Hb6.out (Hc3.out i (by have := Hi.out; omega)).2.2
    have hd1 := Below.keep Hb6.out (Hc3.out (i + 1) Hi.out).1
    have hd2 := Below.keep Hb6.out (Hc3.out (i + 1) Hi.out).2.1
    have hd3 := Below.keep Hb6.out (Hc3.out (i + 1) Hi.out).2.2
    have hix1 := Hixo.out i
    have hix2 := Hixo.out (i + 1)
    have hil := Hi.out
    have hii : IntKind.i64.wrap ((i : Int) + 1) = ((i + 1 : Nat) : Int) := by rw [IntWalk.i64_in _ ⟨by omega, by omega⟩]; omega
    obtain ⟨j, hj⟩ : ∃ j, j = i + 1 := ⟨_, rfl⟩
    rw [← hj] at hd1 hd2 hd3 hix2 hii hil
    obtain ⟨t, ht⟩ : ∃ t, t = tT h i := ⟨_, rfl⟩
    obtain ⟨q, hq⟩ : ∃ q, q = tK h i := ⟨_, rfl⟩
    obtain ⟨y, hy⟩ : ∃ y, y = tI h i := ⟨_, rfl⟩
    obtain ⟨t2, ht2⟩ : ∃ t, t = tT h j := ⟨_, rfl⟩
    obtain ⟨q2, hq2⟩ : ∃ q, q = tK h j := ⟨_, rfl⟩
    obtain ⟨y2, hy2⟩ : ∃ y, y = tI h j := ⟨_, rfl⟩
    rw [← ht] at hc1
    rw [← hq] at hc2
    rw [← hy] at hc3
    rw [← ht2] at hd1
    rw [← hq2] at hd2
    rw [← hy2] at hd3
    have Hd := Lib.hid (And.intro ht (And.intro hq (And.intro hy (And.intro ht2 (And.intro hq2 hy2)))))
    have Hj := Lib.hid hj
    have hilt : i < h.length := by omega
    clear ht hq hy ht2 hq2 hy2 hj
    have hbl : b3 < w6.heap.size := cell_lt hc1
    have hbn0 : b3 ≠ w6.heap.size := by omega
    have hbn1 : b3 ≠ w6.heap.size + 1 := by omega
    have hbA := below_alloc w6 (.cells #[.int .i64 0, .int .i64 0, .int .i64 0] 55)
    have hbB := Below.tr hbA (below_alloc (w6.alloc (.cells #[.int .i64 0, .int .i64 0, .int .i64 0] 55)) (.cells #[.int .i64 0, .int .i64 0, .int .i64 0] 55))
    have fA1 := Below.keep hbA hc1
    have fA2 := Below.keep hbA hc2
    have fA3 := Below.keep hbA hc3
    have gA1 := Below.keep hbA hd1
    have gA2 := Below.keep hbA hd2
    have gA3 := Below.keep hbA hd3
    have fB1 := Below.keep hbB hc1
    have fB2 := Below.keep hbB hc2
    have fB3 := Below.keep hbB hc3
    have gB1 := Below.keep hbB hd1
    have gB2 := Below.keep hbB hd2
    have gB3 := Below.keep hbB hd3
    have HbB := Lib.hid hbB
    clear hbA hbB
    go_cut [11, 12] from 54 to 62 (fun o11 o12 wx => ∃ b1 b2, (o11 = .pointer (some ⟨b1, 0, none⟩) ∧ o12 = .pointer (some ⟨b2, 0, none⟩)) ∧ (wx.cell? ⟨b1, 0, none⟩ = some (.int .i64 t) ∧ wx.cell? ⟨b1, 1, none⟩ = some (.int .i64 q) ∧ wx.cell? ⟨b1, 2, none⟩ = some (.int .i64 y)) ∧ (wx.cell? ⟨b2, 0, none⟩ = some (.int .i64 t2) ∧ wx.cell? ⟨b2, 1, none⟩ = some (.int .i64 q2) ∧ wx.cell? ⟨b2, 2, none⟩ = some (.int .i64 y2)) ∧ Below w6.heap.size w6 wx)
    case first =>
      go_region
      · go_wp2_with fail
        go_meet
        refine ⟨_, _, ⟨rfl, rfl⟩, ⟨(two_new w6 _ _ _ 0).1.trans rfl, (two_new w6 _ _ _ 1).1.trans rfl, (two_new w6 _ _ _ 2).1.trans rfl⟩, ⟨(two_new w6 _ _ _ 0).2.trans rfl, (two_new w6 _ _ _ 1).2.trans rfl, (two_new w6 _ _ _ 2).2.trans rfl⟩, (Below.tr (below_alloc _ _) (below_alloc _ _)).drew⟩
      · go_wp2_with fail
        go_meet
        refine ⟨_, _, ⟨rfl, rfl⟩, ⟨(two_new w6 _ _ _ 0).2.trans rfl, (two_new w6 _ _ _ 1).2.trans rfl, (two_new w6 _ _ _ 2).2.trans rfl⟩, ⟨(two_new w6 _ _ _ 0).1.trans rfl, (two_new w6 _ _ _ 1).1.trans rfl, (two_new w6 _ _ _ 2).1.trans rfl⟩, (Below.tr (below_alloc _ _) (below_alloc _ _)).drew⟩
    case rest =>
      obtain ⟨b1, b2, ⟨rfl, rfl⟩, ⟨hx0, hx1, hx2⟩, ⟨hy0, hy1, hy2⟩, hbc⟩ := hcut
      have Hbc := Lib.hid (Below.tr Hb6.out hbc)
      have I2 := Lib.hid (Ints.keep i2_6.out hbc)
      have I4 := Lib.hid (Ints.keep i4_6.out hbc)
      have I6 := Lib.hid (Ints.keep i6_6.out hbc)
      clear fA1 fA2 fA3 gA1 gA2 gA3 fB1 fB2 fB3 gB1 gB2 gB3 HbB hbl hbn0 hbn1 hc1 hc2 hc3 hd1 hd2 hd3 hix1 hix2 hbc
      obtain ⟨X, hX⟩ : ∃ X, X = decide (t = t2 ∨ 1 < q ∨ 1 < q2 ∨ (y = y2 ∧ 0 < q + q2)) := ⟨_, rfl⟩
      have HX := Lib.hid hX
      have hq3 : q ≤ 3 := by rw [Hd.out.2.1]; exact HH.out.k3 i hilt
      have hq23 : q2 ≤ 3 := by rw [Hd.out.2.2.2.2.1]; exact HH.out.k3 j (by rw [Hj.out]; exact Hi.out)
      have hwq : IntKind.i64.wrap ((q : Int) + (q2 : Int)) = (q : Int) + (q2 : Int) := by rw [IntWalk.i64_in _ ⟨by omega, by omega⟩]
      clear hX
      go_upto_region 8 with fail
      go_cut [92] from 63 to 92 (fun o wx => o = .bool X ∧ wx = wc)
      case first =>
        by_cases c1 : t = t2
        · have R := Lib.hid (show X = true by rw [HX.out]; exact decide_eq_true (.inl c1))
          have r1 : ((t : Int) == (t2 : Int)) = true := by rw [beq_iff_eq]; omega
          clear c1
          go_wp2_with fail
          go_meet
          exact ⟨by rw [R.out], rfl⟩
        · have r1 : ((t : Int) == (t2 : Int)) = false := by rw [beq_eq_false_iff_ne]; omega
          by_cases c2 : 1 < q
          · have R := Lib.hid (show X = true by rw [HX.out]; exact decide_eq_true (.inr (.inl c2)))
            have r2 : (1 : Int) < (q : Int) := by omega
            clear c1 c2
            go_wp2_with fail
            go_meet
            exact ⟨by rw [R.out], rfl⟩
          · have r2 : ¬ (1 : Int) < (q : Int) := by omega
            by_cases c3 : 1 < q2
            · have R := Lib.hid (show X = true by rw [HX.out]; exact decide_eq_true (.inr (.inr (.inl c3))))
              have r3 : (1 : Int) < (q2 : Int) := by omega
              clear c1 c2 c3
              go_wp2_with fail
              go_meet
              exact ⟨by rw [R.out], rfl⟩
            · have r3 : ¬ (1 : Int) < (q2 : Int) := by omega
              by_cases c4 : y = y2
              · have r4 : ((y : Int) == (y2 : Int)) = true := by rw [beq_iff_eq]; omega
                by_cases c5 : 0 < q + q2
                · have R := Lib.hid (show X = true by rw [HX.out]; exact decide_eq_true (.inr (.inr (.inr ⟨c4, c5⟩))))
                  have r5 : (0 : Int) < (q : Int) + (q2 : Int) := by omega
                  clear c1 c2 c3 c4 c5
                  go_wp2_with fail
                  go_meet
                  exact ⟨by rw [R.out], rfl⟩
                · have R := Lib.hid (show X = false by rw [HX.out]; exact decide_eq_false (by omega))
                  have r5 : ¬ (0 : Int) < (q : Int) + (q2 : Int) := by omega
                  clear c1 c2 c3 c4 c5
                  go_wp2_with fail
                  go_meet
                  exact ⟨by rw [R.out], rfl⟩
              · have R := Lib.hid (show X = false by rw [HX.out]; exact decide_eq_false (by omega))
                have r4 : ((y : Int) == (y2 : Int)) = false := by rw [beq_eq_false_iff_ne]; omega
                clear c1 c2 c3 c4
                go_wp2_with fail
                go_meet
                exact ⟨by rw [R.out], rfl⟩
      case rest =>
        obtain ⟨rfl, rfl⟩ := hcut
        clear hx0 hx1 hx2 hy0 hy1 hy2
        cases X with
        | true =>
          go_wp2_with fail
          refine (awake_any _).mono ?_
          rintro e w8 ⟨rfl, hb8⟩
          have Hb8 := Lib.hid (Below.tr Hbc.out hb8)
          clear hb8
          go_wp2_with fail
          go_ret
          exact ⟨rfl, Hb8.out⟩
        | false =>
          have Hnx := Lib.hid (of_decide_eq_false HX.out.symm)
          go_wp2_with fail
          refine (HO.out _ Hbc.out).mono ?_
          rintro e w8 ⟨v8, rfl, ho8, hb8⟩
          have I2b := Lib.hid (Ints.keep I2.out hb8)
          have I4b := Lib.hid (Ints.keep I4.out hb8)
          have I6b := Lib.hid (Ints.keep I6.out hb8)
          have Ho8 := Lib.hid ho8
          have Hb8 := Lib.hid (Below.tr Hbc.out hb8)
          have Hw8 := Lib.hid hb8
          have Hwc := Lib.hid Hbc.out.size
          obtain ⟨a9, b9, off9, cap9, rfl, _, ha9, hcap9, hc9⟩ := Ops.nat ho8.ops
          have hb9 : wc.heap.size ≤ b9 := by
            have e := ha9 (by omega)
            subst e
            exact (own_lt ho8 rfl).1
          have hfz : ∀ k, w8.frozen? ⟨b9, k, none⟩ = false := by
            have e := ha9 (by omega)
            subst e
            rcases ho8.2 with ⟨q, _⟩ | ⟨gv, cap', cur, q, _, hh, _⟩
            · cases q
            · injection q with q _ _
              injection q with q
              injection q with q _
              subst q
              exact fun k => frozen_of_row _ _ _ _ _ hh
          have hix9 := run_ix (P := Try.prog) (t := 29) (a := a9) (len := h.length) (cap := cap9) (b := b9) (off := off9) (s := 3) Try.underlying29 (by intro w; kernel_rfl) ha9
          clear ho8 hb8
          have hixi := hix9 i
          have hixj := hix9 j
          obtain ⟨ci1, ci2, ci3⟩ := hc9 i hilt
          obtain ⟨cj1, cj2, cj3⟩ := hc9 j hil
          rw [← Hd.out.1] at ci1
          rw [← Hd.out.2.1] at ci2
          rw [← Hd.out.2.2.1] at ci3
          rw [← Hd.out.2.2.2.1] at cj1
          rw [← Hd.out.2.2.2.2.1] at cj2
          rw [← Hd.out.2.2.2.2.2] at cj3
          have Hc9 := Lib.hid hc9
          have Ha9 := Lib.hid ha9
          have Hcap9 := Lib.hid hcap9
          clear hix9 hc9 ha9 hcap9
          have z1 := hfz (off9 + i * 3)
          have z2 := hfz (off9 + i * 3 + 1)
          have z3 := hfz (off9 + i * 3 + 2)
          have z4 := hfz (off9 + j * 3)
          have z5 := hfz (off9 + j * 3 + 1)
          have z6 := hfz (off9 + j * 3 + 2)
          have hij : ¬ i = j := by have := Hj.out; omega
          have hji : ¬ j = i := fun e => hij e.symm
          clear hfz
          go_upto_region 11 with fail
          go_region
          have HS := Lib.hid (show Ops (((((((w8.setCell ⟨b9, off9 + i * 3, none⟩ (.int .i64 t2)).setCell ⟨b9, off9 + i * 3 + 1, none⟩ (.int .i64 q2)).setCell ⟨b9, off9 + i * 3 + 2, none⟩ (.int .i64 y2)).setCell ⟨b9, off9 + j * 3, none⟩ (.int .i64 t)).setCell ⟨b9, off9 + j * 3 + 1, none⟩ (.int .i64 q)).setCell ⟨b9, off9 + j * 3 + 2, none⟩ (.int .i64 y)).drew) (.slice a9 h.length cap9) (castO (exN h i)) from ops_drew (swap_ops hh40 Hj.out Ha9.out Hcap9.out Hc9.out Hd.out.1 Hd.out.2.1 Hd.out.2.2.1 Hd.out.2.2.2.1 Hd.out.2.2.2.2.1 Hd.out.2.2.2.2.2 (fun p => swap_key ⟨⟨_, ci1⟩, ⟨_, ci2⟩, ⟨_, ci3⟩⟩ ⟨⟨_, cj1⟩, ⟨_, cj2⟩, ⟨_, cj3⟩⟩ p)))
          have hbS : Below wc.heap.size wc (((((((w8.setCell ⟨b9, off9 + i * 3, none⟩ (.int .i64 t2)).setCell ⟨b9, off9 + i * 3 + 1, none⟩ (.int .i64 q2)).setCell ⟨b9, off9 + i * 3 + 2, none⟩ (.int .i64 y2)).setCell ⟨b9, off9 + j * 3, none⟩ (.int .i64 t)).setCell ⟨b9, off9 + j * 3 + 1, none⟩ (.int .i64 q)).setCell ⟨b9, off9 + j * 3 + 2, none⟩ (.int .i64 y)).drew) := (Below.put (Below.put (Below.put (Below.put (Below.put (Below.put Hw8.out hb9 _) hb9 _) hb9 _) hb9 _) hb9 _) hb9 _).drew
          have Hb20 := Lib.hid (Below.tr Hbc.out hbS)
          have J2 := Lib.hid (Ints.keep I2.out hbS)
          have J4 := Lib.hid (Ints.keep I4.out hbS)
          have J6 := Lib.hid (Ints.keep I6.out hbS)
          have hex : Ex h (exN h i) i := exN_ex HH.out Hi.out (fun e => Hnx.out (.inl (by rw [Hd.out.1, Hd.out.2.2.2.1, Hj.out]; exact e))) (by rw [← Hd.out.2.1]; have := Hnx.out; omega) (by rw [← Hj.out, ← Hd.out.2.2.2.2.1]; have := Hnx.out; omega) (fun e => Hnx.out (.inr (.inr (.inr (by rw [Hd.out.2.2.1, Hd.out.2.2.2.2.2, Hd.out.2.1, Hd.out.2.2.2.2.1, Hj.out]; exact e)))))
          have HX1 := Lib.hid (fun v' w' hv' => HD2.out (exN h i) i hex v' w' hv')
          have HX2 := Lib.hid (fun v' w' hv' => HC2.out (exN h i) i hex v' w' hv')
          have HX3 := Lib.hid (fun v' w' hv' => HW2.out (exN h i) i hex v' w' hv')
          clear hbS hex ci1 ci2 ci3 cj1 cj2 cj3 z1 z2 z3 z4 z5 z6 hixi hixj I2b I4b I6b
          generalize ((((((w8.setCell ⟨b9, off9 + i * 3, none⟩ (.int .i64 t2)).setCell ⟨b9, off9 + i * 3 + 1, none⟩ (.int .i64 q2)).setCell ⟨b9, off9 + i * 3 + 2, none⟩ (.int .i64 y2)).setCell ⟨b9, off9 + j * 3, none⟩ (.int .i64 t)).setCell ⟨b9, off9 + j * 3 + 1, none⟩ (.int .i64 q)).setCell ⟨b9, off9 + j * 3 + 2, none⟩ (.int .i64 y)).drew = w20 at *
          go_wp2_with fail
          refine (HX1.out _ _ HS.out).mono ?_
          rintro e w21 ⟨v22, rfl, hi22, hb21⟩
          obtain ⟨a22, c22, rfl⟩ := ints_slice hi22
          have Hb21 := Lib.hid (Below.tr Hb20.out hb21)
          have i2_21 := Lib.hid (Ints.keep J2.out hb21)
          have i4_21 := Lib.hid (Ints.keep J4.out hb21)
          have i6_21 := Lib.hid (Ints.keep J6.out hb21)
          have s_21 := Lib.hid (Ops.keep HS.out hb21)
          have i22_21 := Lib.hid (hi22)
          clear hb21 J2 J4 J6 HS
          clear hi22
          go_wp2_with fail
          refine (HX2.out _ _ s_21.out).mono ?_
          rintro e w22 ⟨v24, rfl, hi24, hb22⟩
          obtain ⟨a24, c24, rfl⟩ := ints_slice hi24
          have Hb22 := Lib.hid (Below.tr Hb21.out hb22)
          have i2_22 := Lib.hid (Ints.keep i2_21.out hb22)
          have i4_22 := Lib.hid (Ints.keep i4_21.out hb22)
          have i6_22 := Lib.hid (Ints.keep i6_21.out hb22)
          have s_22 := Lib.hid (Ops.keep s_21.out hb22)
          have i22_22 := Lib.hid (Ints.keep i22_21.out hb22)
          have i24_22 := Lib.hid (hi24)
          clear hb22 i2_21 i4_21 i6_21 s_21 i22_21
          clear hi24
          go_wp2_with fail
          refine (HX3.out _ _ s_22.out).mono ?_
          rintro e w23 ⟨v26, rfl, hi26, hb23⟩
          obtain ⟨a26, c26, rfl⟩ := ints_slice hi26
          have Hb23 := Lib.hid (Below.tr Hb22.out hb23)
          have i2_23 := Lib.hid (Ints.keep i2_22.out hb23)
          have i4_23 := Lib.hid (Ints.keep i4_22.out hb23)
          have i6_23 := Lib.hid (Ints.keep i6_22.out hb23)
          have i22_23 := Lib.hid (Ints.keep i22_22.out hb23)
          have i24_23 := Lib.hid (Ints.keep i24_22.out hb23)
          have i26_23 := Lib.hid (hi26)
          clear hb23 i2_22 i4_22 i6_22 i22_22 i24_22
          clear hi26
          go_wp2_with fail
          refine (equal_yes rfl _ _ _ i2_23.out i22_23.out).mono ?_
          rintro e w24 ⟨rfl, hb24⟩
          have Hb24 := Lib.hid (Below.tr Hb23.out hb24)
          have i4_24 := Lib.hid (Ints.keep i4_23.out hb24)
          have i6_24 := Lib.hid (Ints.keep i6_23.out hb24)
          have i24_24 := Lib.hid (Ints.keep i24_23.out hb24)
          have i26_24 := Lib.hid (Ints.keep i26_23.out hb24)
          clear hb24 i4_23 i6_23 i24_23 i26_23
          go_wp2_with fail
          refine (equal_yes rfl _ _ _ i4_24.out i24_24.out).mono ?_
          rintro e w25 ⟨rfl, hb25⟩
          have Hb25 := Lib.hid (Below.tr Hb24.out hb25)
          have i6_25 := Lib.hid (Ints.keep i6_24.out hb25)
          have i26_25 := Lib.hid (Ints.keep i26_24.out hb25)
          clear hb25 i6_24 i26_24
          go_wp2_with fail
          refine (equal_yes rfl _ _ _ i6_25.out i26_25.out).mono ?_
          rintro e w26 ⟨rfl, hb26⟩
          have Hb26 := Lib.hid (Below.tr Hb25.out hb26)
          clear hb26
          go_wp2_with fail
          refine (awake_any _).mono ?_
          rintro e w27 ⟨rfl, hb27⟩
          have Hb27 := Lib.hid (Below.tr Hb26.out hb27)
          clear hb27
          go_wp2_with fail
          go_ret
          exact ⟨rfl, Hb27.out⟩
#print axioms exch_good
theorem exch_any (l : List HOp) (x : Int) (v : Value) (w : World) (hv : Ops w v l) :
    Calls Try.prog 15 #[v, .int .i64 x] w fun e w' => e = .returned (.bool true) ∧ Below w.heap.size w w' := by
  by_cases h : ValidH l
  · obtain ⟨g, hg, rfl⟩ := validH_nat h
    exact exch_good hg x v w hv
  · exact exch_bad h x v w hv

namespace historyExchanged
open Go.ChangeShapes Go.WideShapes Go.ChangeAt
set_option maxRecDepth 100000 in
theorem lifted (os : Os) (started : os.Started) (H : Type) (enc : TypeId × Value → H) :
    ReturnsInHanded {} Try.checked os 15 .any (Rows.historyExchangedSpec.pre6 enc Try.prog Try.f15 Rows.historyExchangedRow.domain false) (Rows.historyExchangedSpec.post enc Try.prog Try.f15 false true false false) := by
  refine returnsInHanded_of_change (C := Try.checked) Try.own started (by kernel_rfl) Try.func15
    (ChangeSpec.witness6 (enc := enc) (C := Try.checked) false ⟨#[], #[.slice none 0 0, .int .i64 0], []⟩ 8 (by kernel_rfl) (by kernel_rfl) (by kernel_rfl) (by kernel_rfl)) ?_
  intro W base args ds gs before hval0 hW _ _
  have hval : ∀ (j : Nat) t v, Try.f15.params[j]? = some t → args[j]? = some v → Value.okWide Try.prog W .any base t v := hval0
  clear hval0
  obtain rfl : gs = [] := by obtain ⟨p, q, _, hV, _⟩ := hW; exact (trodVars_none hV).1
  have hW' := hW
  obtain ⟨p, q, hA0, hV, rfl, hfz, hnd⟩ := hW
  have hA : DataW.TrodAll enc Try.prog W 0 (fun _ => true) true Try.f15.params.toList args.toList ds p := hA0
  rw [Try.params15] at hA hval
  obtain ⟨v0, vs0, d0, ds0, p0, q0, hv0, hd0, hp0, h0, r0⟩ := trodAll_cons hA
  obtain ⟨v1, vs1, d1, ds1, p1, q1, hv1, hd1, hp1, h1, r1⟩ := trodAll_cons r0
  obtain ⟨hvn, hdn, hpn⟩ := trodAll_nil r1
  have ha : args = #[v0, v1] := by cases args; simp_all
  have hdd : ds = [d0, d1] := by simp_all
  rw [ha] at hval
  obtain ⟨a0, k0⟩ := ops_of_trod Try.underlying23 Try.underlying55 ⟨rfl, rfl⟩ ⟨rfl, rfl⟩ ⟨rfl, rfl⟩ Try.underlying3 cellsInt cellsOpR (okWide_slice Try.underlying23 (hval 0 23 v0 rfl rfl)) h0
  obtain ⟨a1, e1, -, -, wf1⟩ := open_int Try.underlying3 (hval 1 3 v1 rfl rfl) h1
  have hw : Calls Try.prog 15 args W (fun e W' => e = .returned (.bool true) ∧ Below W.heap.size W W') := by
    rw [ha, e1]; exact exch_any a0 a1 v0 W k0
  exact hw.mono fun e W' ⟨he, hb⟩ => ⟨_, he, law_post Try.laidOut hW' rfl rfl Try.underlying4 (by rw [hdd]; rfl)
    (by kernel_rfl) hb⟩

theorem holds : Rows.HistoryExchangedSaid :=
  OpenClaim.holds_of_wide 15 Try.f15 rfl rfl rfl rfl rfl rfl rfl ⟨rfl, rfl, rfl, rfl, rfl⟩ rfl rfl rfl rfl rfl (by kernel_rfl) Try.func15 (by kernel_rfl)
    (of_decide_eq_true (by kernel_rfl)) (by unfold Func.isWrapper; first | (rw [if_pos (by decide +kernel)]; kernel_rfl) | (rw [if_neg (by decide +kernel)]; exact ⟨rfl, rfl⟩))
    (fun os started H enc _ => lifted os started H enc)
#print axioms holds
end historyExchanged
end Go.Proofs.Ytpehbffkplmfjaa
