/- HistoryOne: for every input the law returns true. -/
import Derived.Test.YtpehbffkplmfjaaLex
import Derived.Test.YtpehbffkplmfjaaOrd
import Derived.Test.YtpehbffkplmfjaaViw
import Derived.Test.YtpehbffkplmfjaaAw
import Derived.Test.YtpehbffkplmfjaaEq
import Derived.Test.YtpehbffkplmfjaaFrame
import Derived.Test.YtpehbffkplmfjaaRows
namespace Go.Proofs.Ytpehbffkplmfjaa
open Go.RowKit

theorem valid_take (l : List HOp) : ValidH (l.take 43) ↔ ValidH l := by
  by_cases h : l.length ≤ 43
  · rw [List.take_of_length_le h]
  · constructor
    · intro hv; have := hv.1; rw [List.length_take] at this; omega
    · intro hv; have := hv.1; omega
set_option maxRecDepth 100000 in
set_option maxHeartbeats 8000000 in
theorem one_bad {l : List HOp} (hn : ¬ ValidH l) (v : Value) (w : World) (hv : Ops w v l) :
    Calls Try.prog 9 #[v] w fun e w' => e = .returned (.bool true) ∧ Below w.heap.size w w' := by
  have HO := Lib.hid (fun w' (hb : Below w.heap.size w w') => of_any l v w' (Ops.keep hv hb))
  have hn2 : ¬ ValidH (l.take 43) := fun h => hn ((valid_take l).1 h)
  generalize l.take 43 = m at *
  have HD := Lib.hid (fun v' w' (hv' : Ops w' v' m) => order_bad hn2 v' w' hv')
  have HC := Lib.hid (fun v' w' (hv' : Ops w' v' m) => cycle_bad hn2 v' w' hv')
  have HW := Lib.hid (fun v' w' (hv' : Ops w' v' m) => view_bad hn2 v' w' hv')
  obtain ⟨a, c, rfl⟩ := ops_slice hv
  clear hv hn hn2
  go_enter Try.func9, Try.ntmps9
  go_wp2_with fail
  refine (HO.out _ (Below.refl _ _)).mono ?_
  rintro e w1 ⟨v1, rfl, ho1, hb1⟩
  obtain ⟨a1, c1, rfl⟩ := own_slice ho1
  have Hb1 := Lib.hid (hb1)
  have o1_1 := Lib.hid (ho1.ops)
  clear hb1
  clear ho1
  go_wp2_with fail
  refine (HD.out _ _ o1_1.out).mono ?_
  rintro e w2 ⟨rfl, hb2⟩
  have Hb2 := Lib.hid (Below.tr Hb1.out hb2)
  clear hb2
  go_wp2_with fail
  refine (HO.out _ Hb2.out).mono ?_
  rintro e w3 ⟨v3, rfl, ho3, hb3⟩
  obtain ⟨a3, c3, rfl⟩ := own_slice ho3
  have Hb3 := Lib.hid (Below.tr Hb2.out hb3)
  have o3_3 := Lib.hid (ho3.ops)
  clear hb3
  clear ho3
  go_wp2_with fail
  refine (HC.out _ _ o3_3.out).mono ?_
  rintro e w4 ⟨rfl, hb4⟩
  have Hb4 := Lib.hid (Below.tr Hb3.out hb4)
  clear hb4
  go_wp2_with fail
  refine (HO.out _ Hb4.out).mono ?_
  rintro e w5 ⟨v5, rfl, ho5, hb5⟩
  obtain ⟨a5, c5, rfl⟩ := own_slice ho5
  have Hb5 := Lib.hid (Below.tr Hb4.out hb5)
  have o5_5 := Lib.hid (ho5.ops)
  clear hb5
  clear ho5
  go_wp2_with fail
  refine (HW.out _ _ o5_5.out).mono ?_
  rintro e w6 ⟨rfl, hb6⟩
  have Hb6 := Lib.hid (Below.tr Hb5.out hb6)
  clear hb6
  go_wp2_with fail
  refine (awake_any _).mono ?_
  rintro e w7 ⟨rfl, hb7⟩
  have Hb7 := Lib.hid (Below.tr Hb6.out hb7)
  clear hb7
  go_wp2_with fail
  go_ret
  exact ⟨rfl, Hb7.out⟩
set_option maxRecDepth 100000 in
set_option maxHeartbeats 8000000 in
theorem one_order {h : List NOp} (hh : VH h) {a : List Nat} (ha : ordN h = some a) (v : Value) (w : World) (hv : Ops w v (castO h)) :
    Calls Try.prog 9 #[v] w fun e w' => e = .returned (.bool true) ∧ Below w.heap.size w w' := by
  have hcn : cycN h = none := (ord_xor_cyc h).1 (by rw [ha]; rfl)
  obtain ⟨b, hvb, hle⟩ := view_le hh ha
  have htk : (castO h).take 43 = castO h := List.take_of_length_le (by rw [castO_length]; have := hh.le; omega)
  have HO := Lib.hid (fun w' (hb : Below w.heap.size w w') => of_any (castO h) v w' (Ops.keep hv hb))
  rw [htk] at HO
  obtain ⟨a', c, rfl⟩ := ops_slice hv
  have HD1 := Lib.hid (fun v' w' (hv' : Ops w' v' (castO h)) => show Calls Try.prog 24 #[v'] w' fun e w'' => ∃ u, e = .returned (.tuple #[u, .int .i64 0]) ∧ Ints w'' u (castN a) ∧ Below w'.heap.size w' w'' from by
    have := order_any hh v' w' hv'
    rw [ha] at this
    exact this)
  have HC1 := Lib.hid (fun v' w' (hv' : Ops w' v' (castO h)) => show Calls Try.prog 25 #[v'] w' fun e w'' => ∃ u, e = .returned (.tuple #[u, .int .i64 5]) ∧ Ints w'' u [] ∧ Below w'.heap.size w' w'' from by
    have := cycleP_any hh v' w' hv'
    rw [hcn] at this
    exact this)
  have HW1 := Lib.hid (fun v' w' (hv' : Ops w' v' (castO h)) => show Calls Try.prog 28 #[v'] w' fun e w'' => ∃ u, e = .returned (.tuple #[u, .int .i64 0]) ∧ Ints w'' u (castN b) ∧ Below w'.heap.size w' w'' from by
    have := view_any hh v' w' hv'
    rw [hvb] at this
    exact this)
  obtain ⟨x1, hx1⟩ : ∃ x1, x1 = castN a := ⟨_, rfl⟩
  obtain ⟨x3, hx3⟩ : ∃ x3, x3 = castN b := ⟨_, rfl⟩
  rw [← hx1] at HD1 hle
  rw [← hx3] at HW1 hle
  have HL := Lib.hid hle
  clear hv hh htk ha hcn hvb hle hx1 hx3
  go_enter Try.func9, Try.ntmps9
  go_wp2_with fail
  refine (HO.out _ (Below.refl _ _)).mono ?_
  rintro e w1 ⟨v1, rfl, ho1, hb1⟩
  obtain ⟨a1, c1, rfl⟩ := own_slice ho1
  have Hb1 := Lib.hid (hb1)
  have o1_1 := Lib.hid (ho1.ops)
  clear hb1
  clear ho1
  go_wp2_with fail
  refine (HD1.out _ _ o1_1.out).mono ?_
  rintro e w2 ⟨v2, rfl, hi2, hb2⟩
  obtain ⟨a2, c2, rfl⟩ := ints_slice hi2
  have Hb2 := Lib.hid (Below.tr Hb1.out hb2)
  have i2_2 := Lib.hid (hi2)
  clear hb2
  clear hi2
  go_wp2_with fail
  refine (HO.out _ Hb2.out).mono ?_
  rintro e w3 ⟨v3, rfl, ho3, hb3⟩
  obtain ⟨a3, c3, rfl⟩ := own_slice ho3
  have Hb3 := Lib.hid (Below.tr Hb2.out hb3)
  have i2_3 := Lib.hid (Ints.keep i2_2.out hb3)
  have o3_3 := Lib.hid (ho3.ops)
  clear hb3 i2_2
  clear ho3
  go_wp2_with fail
  refine (HC1.out _ _ o3_3.out).mono ?_
  rintro e w4 ⟨v4, rfl, hi4, hb4⟩
  obtain ⟨a4, c4, rfl⟩ := ints_slice hi4
  have Hb4 := Lib.hid (Below.tr Hb3.out hb4)
  have i2_4 := Lib.hid (Ints.keep i2_3.out hb4)
  have i4_4 := Lib.hid (hi4)
  clear hb4 i2_3
  clear hi4
  go_wp2_with fail
  refine (HO.out _ Hb4.out).mono ?_
  rintro e w5 ⟨v5, rfl, ho5, hb5⟩
  obtain ⟨a5, c5, rfl⟩ := own_slice ho5
  have Hb5 := Lib.hid (Below.tr Hb4.out hb5)
  have i2_5 := Lib.hid (Ints.keep i2_4.out hb5)
  have i4_5 := Lib.hid (Ints.keep i4_4.out hb5)
  have o5_5 := Lib.hid (ho5.ops)
  clear hb5 i2_4 i4_4
  clear ho5
  go_wp2_with fail
  refine (HW1.out _ _ o5_5.out).mono ?_
  rintro e w6 ⟨v6, rfl, hi6, hb6⟩
  obtain ⟨a6, c6, rfl⟩ := ints_slice hi6
  have Hb6 := Lib.hid (Below.tr Hb5.out hb6)
  have i2_6 := Lib.hid (Ints.keep i2_5.out hb6)
  have i4_6 := Lib.hid (Ints.keep i4_5.out hb6)
  have i6_6 := Lib.hid (hi6)
  clear hb6 i2_5 i4_5
  clear hi6
  go_wp2_with fail
  refine (compare_any _ _ _ _ _ i6_6.out i2_6.out).mono ?_
  rintro e w7 ⟨z, rfl, hz, rfl⟩
  have hz0 : z ≤ 0 := hz.2 HL.out
  clear hz
  go_wp2_with fail
  refine (awake_any _).mono ?_
  rintro e w7 ⟨rfl, hb7⟩
  have Hb7 := Lib.hid (Below.tr Hb6.out hb7)
  clear hb7
  go_wp2_with fail
  go_ret
  exact ⟨rfl, Hb7.out⟩
set_option maxRecDepth 100000 in
set_option maxHeartbeats 16000000 in
theorem one_cycle {h : List NOp} (hh : VH h) (ha : ordN h = none) (v : Value) (w : World) (hv : Ops w v (castO h)) :
    Calls Try.prog 9 #[v] w fun e w' => e = .returned (.bool true) ∧ Below w.heap.size w w' := by
  have hcn : cycN h ≠ none := fun e => by have := (ord_xor_cyc h).2 e; rw [ha] at this; cases this
  obtain ⟨b, hcb⟩ := Option.ne_none_iff_exists'.1 hcn
  have hcy := cycN_some' hcb
  have htk : (castO h).take 43 = castO h := List.take_of_length_le (by rw [castO_length]; have := hh.le; omega)
  have HO := Lib.hid (fun w' (hb : Below w.heap.size w w') => of_any (castO h) v w' (Ops.keep hv hb))
  rw [htk] at HO
  obtain ⟨a', c, rfl⟩ := ops_slice hv
  have HD1 := Lib.hid (fun v' w' (hv' : Ops w' v' (castO h)) => show Calls Try.prog 24 #[v'] w' fun e w'' => ∃ u, e = .returned (.tuple #[u, .int .i64 8]) ∧ Ints w'' u [] ∧ Below w'.heap.size w' w'' from by
    have := order_any hh v' w' hv'
    rw [ha] at this
    exact this)
  have HC1 := Lib.hid (fun v' w' (hv' : Ops w' v' (castO h)) => show Calls Try.prog 25 #[v'] w' fun e w'' => ∃ u, e = .returned (.tuple #[u, .int .i64 0]) ∧ Ints w'' u (castN b) ∧ Below w'.heap.size w' w'' from by
    have := cycleP_any hh v' w' hv'
    rw [hcb] at this
    exact this)
  obtain ⟨E3, hE3⟩ : ∃ E3 : Int, E3 = if (vwN h).isSome then (0 : Int) else 5 := ⟨_, rfl⟩
  have hE : E3 = 0 ∨ E3 = 5 := by rw [hE3]; split <;> omega
  have HW1 := Lib.hid (fun v' w' (hv' : Ops w' v' (castO h)) => show Calls Try.prog 28 #[v'] w' fun e w'' => ∃ u, e = .returned (.tuple #[u, .int .i64 E3]) ∧ Ints w'' u (castN ((vwN h).getD [])) ∧ Below w'.heap.size w' w'' from by
    have := view_any hh v' w' hv'
    rw [← hE3] at this
    exact this)
  obtain ⟨x3, hx3⟩ : ∃ x3, x3 = castN ((vwN h).getD []) := ⟨_, rfl⟩
  rw [← hx3] at HW1
  have hh40 := hh.le
  have HH := Lib.hid hh
  obtain ⟨n, hn⟩ : ∃ n, n = b.length := ⟨_, rfl⟩
  have hn2 : 2 ≤ n := by rw [hn]; exact hcy.two
  have hn7 : n ≤ 7 := by rw [hn]; exact Nat.le_trans (hcy.nd.length_le_of_subset (l₂ := comN h 7) hcy.mem) (comN_le h 7)
  have Hm := Lib.hid (fun i (hi : i < n) => hcy.mem _ (getD_mem (by omega) : b.getD i 0 ∈ b))
  have He := Lib.hid (fun i (hi : i < n) => show bitE (ed h h.length) (b.getD i 0) (b.getD ((i + 1) % n) 0) = true from by rw [hn]; exact hcy.edge i (by omega))
  have Hn := Lib.hid hn
  have hL : ¬ (n : Int) < 2 := by omega
  have hLd : decide ((n : Int) < 2) = false := decide_eq_false hL
  clear hv hh htk ha hcn hcb hcy hE3 hx3 hn
  go_enter Try.func9, Try.ntmps9
  go_wp2_with fail
  refine (HO.out _ (Below.refl _ _)).mono ?_
  rintro e w1 ⟨v1, rfl, ho1, hb1⟩
  obtain ⟨a1, c1, rfl⟩ := own_slice ho1
  have Hb1 := Lib.hid (hb1)
  have o1_1 := Lib.hid (ho1.ops)
  clear hb1
  clear ho1
  go_wp2_with fail
  refine (HD1.out _ _ o1_1.out).mono ?_
  rintro e w2 ⟨v2, rfl, hi2, hb2⟩
  obtain ⟨a2, c2, rfl⟩ := ints_slice hi2
  have Hb2 := Lib.hid (Below.tr Hb1.out hb2)
  have i2_2 := Lib.hid (hi2)
  clear hb2
  clear hi2
  go_wp2_with fail
  refine (HO.out _ Hb2.out).mono ?_
  rintro e w3 ⟨v3, rfl, ho3, hb3⟩
  obtain ⟨a3, c3, rfl⟩ := own_slice ho3
  have Hb3 := Lib.hid (Below.tr Hb2.out hb3)
  have i2_3 := Lib.hid (Ints.keep i2_2.out hb3)
  have o3_3 := Lib.hid (ho3.ops)
  clear hb3 i2_2
  clear ho3
  go_wp2_with fail
  refine (HC1.out _ _ o3_3.out).mono ?_
  rintro e w4 ⟨v4, rfl, hi4, hb4⟩
  obtain ⟨a4, c4, rfl⟩ := ints_slice hi4
  rw [castN_length, ← Hn.out]
  have Hb4 := Lib.hid (Below.tr Hb3.out hb4)
  have i2_4 := Lib.hid (Ints.keep i2_3.out hb4)
  have i4_4 := Lib.hid (hi4)
  clear hb4 i2_3
  clear hi4
  go_wp2_with fail
  refine (HO.out _ Hb4.out).mono ?_
  rintro e w5 ⟨v5, rfl, ho5, hb5⟩
  obtain ⟨a5, c5, rfl⟩ := own_slice ho5
  have Hb5 := Lib.hid (Below.tr Hb4.out hb5)
  have i2_5 := Lib.hid (Ints.keep i2_4.out hb5)
  have i4_5 := Lib.hid (Ints.keep i4_4.out hb5)
  have o5_5 := Lib.hid (ho5.ops)
  clear hb5 i2_4 i4_4
  clear ho5
  go_wp2_with fail
  refine (HW1.out _ _ o5_5.out).mono ?_
  rintro e w6 ⟨v6, rfl, hi6, hb6⟩
  obtain ⟨a6, c6, rfl⟩ := ints_slice hi6
  have Hb6 := Lib.hid (Below.tr Hb5.out hb6)
  have i2_6 := Lib.hid (Ints.keep i2_5.out hb6)
  have i4_6 := Lib.hid (Ints.keep i4_5.out hb6)
  have i6_6 := Lib.hid (hi6)
  clear hb6 i2_5 i4_5
  clear hi6
  go_upto_region 8 with fail
  go_cut [81] from 63 to 81 (fun o wx => o = .bool false ∧ wx = w6)
  case first =>
    rcases hE with rfl | rfl
    · go_wp2_with fail
      go_meet
      exact ⟨by first | rfl | rw [hLd], rfl⟩
    · go_wp2_with fail
      go_meet
      exact ⟨by first | rfl | rw [hLd], rfl⟩
  case rest =>
    obtain ⟨rfl, rfl⟩ := hcut
    obtain ⟨a9, b9, off9, cap9, hv9, _, ha9, hc9⟩ := IntsN.get i4_6.out
    rw [← Hn.out] at hv9 ha9 hc9
    injection hv9 with e1 _ e3
    subst e1 e3
    have hix9 := run_ix (P := Try.prog) (t := 24) (a := a4) (len := n) (cap := c4) (b := b9) (off := off9) (s := 1) Try.underlying24 (by intro w; kernel_rfl) ha9
    simp only [Nat.mul_one] at hix9
    have Hix9 := Lib.hid hix9
    have Hc9 := Lib.hid hc9
    clear hix9 hc9 ha9 hE
    go_wp2_with fail
    go_loopw [84] (fun vk wr => ∃ k : Nat, vk = .int .i64 k ∧ k ≤ n ∧ Below wc.heap.size wc wr) (fun vk _ => n - (intOf vk).toNat)
    case atStart => exact ⟨0, rfl, Nat.zero_le _, Below.refl _ _⟩
    case round =>
      obtain ⟨k, rfl, hk, hb⟩ := hrel
      obtain ⟨wA, hwA⟩ : ∃ wA : World, wA = wr := ⟨_, rfl⟩
      subst hwA
      have Hbk := Lib.hid hb
      clear hb
      by_cases hlt : k < n
      · have hml : (k + 1) % n < n := Nat.mod_lt _ (by omega)
        have hck := Below.keep Hbk.out (Hc9.out k hlt)
        have hcm := Below.keep Hbk.out (Hc9.out _ hml)
        have hixk := Hix9.out k
        have hixm := Hix9.out ((k + 1) % n)
        have Hx := Lib.hid (Hm.out k hlt)
        have Hy := Lib.hid (Hm.out _ hml)
        have Hxy := Lib.hid (He.out k hlt)
        obtain ⟨x, hx⟩ : ∃ x, x = b.getD k 0 := ⟨_, rfl⟩
        obtain ⟨y, hy⟩ : ∃ y, y = b.getD ((k + 1) % n) 0 := ⟨_, rfl⟩
        rw [← hx] at hck Hx Hxy
        rw [← hy] at hcm Hy Hxy
        have hrem : ((k : Int) + 1).tmod (n : Int) = (((k + 1) % n : Nat) : Int) := by
          rw [Int.tmod_eq_emod_of_nonneg (by omega)]
          exact (Int.natCast_emod (k + 1) n).symm
        have hwi : IntKind.i64.wrap ((k : Int) + 1) = (k : Int) + 1 := by rw [IntWalk.i64_in _ ⟨by omega, by omega⟩]
        obtain ⟨m, hm⟩ : ∃ m, m = (k + 1) % n := ⟨_, rfl⟩
        rw [← hm] at hml hcm hixm hrem
        have hwm : IntKind.i64.wrap (m : Int) = (m : Int) := by rw [IntWalk.i64_in _ ⟨by omega, by omega⟩]
        have hn0 : ((n : Int) == 0) = false := by rw [beq_eq_false_iff_ne]; omega
        have Hts := Lib.hid (twN_step h x y)
        have Htl := Lib.hid (twN_le h x y)
        have Hto := Lib.hid (fun d (hd : ordN (twN h x y h.length) = some d) => tw_order HH.out Hx.out Hy.out Hxy.out hd)
        have Htv := Lib.hid (twN_vh HH.out x y)
        clear hx hy hm
        go_wp2_with fail
        refine (HO.out _ (Below.tr Hb6.out Hbk.out)).mono ?_
        rintro e w8 ⟨v8, rfl, ho8, hb8⟩
        obtain ⟨a8, b8, off8, cap8, rfl, _, ha8, _, hc8⟩ := Ops.nat ho8.ops
        have hix8 := run_ix (P := Try.prog) (t := 29) (a := a8) (len := h.length) (cap := cap8) (b := b8) (off := off8) (s := 3) Try.underlying29 (by intro w; kernel_rfl) ha8
        have Hc8 := Lib.hid hc8
        have Hix8 := Lib.hid hix8
        have Hb8 := Lib.hid (Below.tr Hbk.out hb8)
        clear ho8 hb8 hc8 hix8 ha8 hck hcm hixk hixm
        go_wp2_with fail
        obtain ⟨wo, hwo⟩ : ∃ wo : World, wo = w8 := ⟨_, rfl⟩
        clear hwo
        go_loopw [12, 100] (fun o vj wr => ∃ j : Nat, vj = .int .i64 j ∧ j ≤ h.length ∧ Below w8.heap.size w8 wr ∧ OwnOps 58 w8.heap.size wr o (castO (twN h x y j))) (fun _ vj _ => h.length - (intOf vj).toNat)
        case atStart => exact ⟨0, rfl, Nat.zero_le _, Below.refl _ _, ownOps_nil _ _ _⟩
        case round =>
          obtain ⟨j, rfl, hj, hb, hown⟩ := hrel
          obtain ⟨wD, hwD⟩ : ∃ wD : World, wD = wr := ⟨_, rfl⟩
          subst hwD
          have Hb := Lib.hid hb
          have Hown := Lib.hid hown
          clear hb hown
          by_cases hjl : j < h.length
          · have hd1 := Below.keep Hb.out (Hc8.out j hjl).1
            have hd2 := Below.keep Hb.out (Hc8.out j hjl).2.1
            have hd3 := Below.keep Hb.out (Hc8.out j hjl).2.2
            have hixj := Hix8.out j
            have HS1 := Lib.hid (Hts.out j)
            have HL1 := Lib.hid (Htl.out j)
            obtain ⟨s, hs⟩ : ∃ s, s = tT h j := ⟨_, rfl⟩
            obtain ⟨q, hq⟩ : ∃ r, r = tK h j := ⟨_, rfl⟩
            obtain ⟨z, hz⟩ : ∃ x, x = tI h j := ⟨_, rfl⟩
            rw [← hs] at hd1 HS1
            rw [← hq] at hd2 HS1
            rw [← hz] at hd3 HS1
            clear hs hq hz
            have hbn := below_alloc wD (.cells #[.int .i64 s, .int .i64 q, .int .i64 z] 58)
            have Hb1 := Lib.hid (Below.tr Hb.out hbn)
            have Hown1 := Lib.hid (Hown.out.keep hbn)
            have g0 : (wD.alloc (.cells #[.int .i64 s, .int .i64 q, .int .i64 z] 58)).cell? ⟨wD.heap.size, 0, none⟩ = some (.int .i64 s) := cell_new wD _ _ 0
            have g1 : (wD.alloc (.cells #[.int .i64 s, .int .i64 q, .int .i64 z] 58)).cell? ⟨wD.heap.size, 1, none⟩ = some (.int .i64 q) := cell_new wD _ _ 1
            have g2 : (wD.alloc (.cells #[.int .i64 s, .int .i64 q, .int .i64 z] 58)).cell? ⟨wD.heap.size, 2, none⟩ = some (.int .i64 z) := cell_new wD _ _ 2
            clear hbn
            obtain ⟨X, hX⟩ : ∃ X, X = decide (s = x ∨ s = y) := ⟨_, rfl⟩
            have HX := Lib.hid hX
            clear hX
            go_upto_region 18 with fail
            go_cut [113] from 104 to 113 (fun o wx => o = .bool X ∧ wx = wD.alloc (.cells #[.int .i64 s, .int .i64 q, .int .i64 z] 58))
            case first =>
              by_cases e1 : s = x
              · have R := Lib.hid (show X = true by rw [HX.out]; exact decide_eq_true (.inl e1))
                have r1 : ((s : Int) == (x : Int)) = true := by rw [beq_iff_eq]; omega
                clear e1
                go_wp2_with fail
                go_meet
                exact ⟨by rw [R.out], rfl⟩
              · have r1 : ((s : Int) == (x : Int)) = false := by rw [beq_eq_false_iff_ne]; omega
                by_cases e2 : s = y
                · have R := Lib.hid (show X = true by rw [HX.out]; exact decide_eq_true (.inr e2))
                  have r2 : ((s : Int) == (y : Int)) = true := by rw [beq_iff_eq]; omega
                  clear e1 e2
                  go_wp2_with fail
                  go_meet
                  exact ⟨by rw [R.out], rfl⟩
                · have R := Lib.hid (show X = false by rw [HX.out]; exact decide_eq_false (by omega))
                  have r2 : ((s : Int) == (y : Int)) = false := by rw [beq_eq_false_iff_ne]; omega
                  clear e1 e2
                  go_wp2_with fail
                  go_meet
                  exact ⟨by rw [R.out], rfl⟩
            case rest =>
              obtain ⟨rfl, hwD2⟩ := hcut
              subst hwD2
              cases X with
              | true =>
                have R := Lib.hid (HS1.out.trans (if_pos (of_decide_eq_true HX.out.symm)))
                go_wp2_with (at_builtin; refine append_own rfl (.tmp 114) (.tmp 116) 29 rfl elemOps rfl (World.ownsRow.alloc Hown1.out _) [.int .i64 s, .int .i64 q, .int .i64 z] rfl rfl ?c1 ?c2 ?c3 ?c4 ?_)
                any_goals (first | (case c2 => exact ⟨rfl, rfl, rfl⟩) | (case c2 => (intro u hu; simp at hu; rcases hu with rfl | rfl | rfl <;> rfl)) | (case c1 => (intro j u hj; go_simp)))
                case c3 => have := HL1.out; rw [castO_length]; omega
                case c4 => have := Hb1.out.size; simp at this; simp; omega
                intro v2 w2 r1 r2 _
                have HO2 := Lib.hid (show OwnOps 58 w8.heap.size w2 v2 (castO (twN h x y (j + 1))) from by
                  rw [R.out]
                  unfold castO
                  rw [List.map_append]
                  exact OwnOps.snoc r1)
                have HB2 := Lib.hid (show Below w8.heap.size w8 w2 from (Below.tr Hb1.out (below_alloc _ _)).trans r2)
                clear r1 r2
                go_wp2_with fail
                go_roundw
                case rel => exact ⟨j + 1, by go_num, by omega, HB2.out, HO2.out⟩
                case measure => simp [intOf]; omega
              | false =>
                have R := Lib.hid (HS1.out.trans (if_neg (of_decide_eq_false HX.out.symm)))
                go_wp2_with fail
                go_roundw
                case rel => exact ⟨j + 1, by go_num, by omega, Hb1.out, by rw [R.out]; exact Hown1.out⟩
                case measure => simp [intOf]; omega
          · obtain rfl : j = h.length := by omega
            have HOt := Lib.hid (order_any Htv.out _ wD Hown.out.ops)
            have Hbt := Lib.hid (Below.tr Hb8.out Hb.out)
            cases hd : ordN (twN h x y h.length) with
            | none =>
              rw [hd] at HOt
              go_wp2_with fail
              refine HOt.out.mono ?_
              rintro e w9 ⟨v9, rfl, _, hb9⟩
              have Hb9 := Lib.hid (Below.tr Hbt.out hb9)
              clear hb9 hd
              go_wp2_with fail
              go_roundw
              case rel => exact ⟨k + 1, by go_num, by omega, Hb9.out⟩
              case measure => simp [intOf]; omega
            | some d =>
              rw [hd] at HOt
              obtain rfl := Hto.out d hd
              go_wp2_with fail
              refine HOt.out.mono ?_
              rintro e w9 ⟨v9, rfl, hi9, hb9⟩
              have HI9 := Lib.hid (Ints.keep (show Ints w9 v9 (castN [x, y]) from hi9) (below_alloc w9 (.cells #[.int .i64 x, .int .i64 y] 3)))
              have HI2 := Lib.hid (show Ints (w9.alloc (.cells #[.int .i64 x, .int .i64 y] 3)) (.slice (some ⟨w9.heap.size, 0, none⟩) 2 2) (castN [x, y]) from ⟨rfl, by simp [castN, maxLen], some ⟨w9.heap.size, 0, none⟩, w9.heap.size, 0, 2, rfl, ⟨fun _ => rfl, by simp [castN]⟩, fun j hj => by
                have hj : j < 2 := by simpa [castN] using hj
                rw [Nat.zero_add, cell_new]
                match j, hj with
                | 0, _ => rfl
                | 1, _ => rfl⟩)
              have Hb9 := Lib.hid (Below.tr Hbt.out (Below.tr hb9 (below_alloc w9 (.cells #[.int .i64 x, .int .i64 y] 3))))
              clear hb9 hi9 hd
              go_wp2_with fail
              refine (equal_yes rfl _ _ _ HI9.out HI2.out).mono ?_
              rintro e w10 ⟨rfl, hb10⟩
              have Hb10 := Lib.hid (Below.tr Hb9.out hb10)
              clear hb10
              go_wp2_with fail
              go_roundw
              case rel => exact ⟨k + 1, by go_num, by omega, Hb10.out⟩
              case measure => simp [intOf]; omega
      · obtain rfl : k = n := by omega
        go_wp2_with fail
        refine (awake_any _).mono ?_
        rintro e w9 ⟨rfl, hb9⟩
        have Hb9 := Lib.hid (Below.tr (Below.tr Hb6.out Hbk.out) hb9)
        clear hb9
        go_wp2_with fail
        go_ret
        exact ⟨rfl, Hb9.out⟩
#print axioms one_cycle
theorem one_any (l : List HOp) (v : Value) (w : World) (hv : Ops w v l) :
    Calls Try.prog 9 #[v] w fun e w' => e = .returned (.bool true) ∧ Below w.heap.size w w' := by
  by_cases h : ValidH l
  · obtain ⟨g, hg, rfl⟩ := validH_nat h
    cases ho : ordN g with
    | some a => exact one_order hg ho v w hv
    | none => exact one_cycle hg ho v w hv
  · exact one_bad h v w hv

namespace historyOne
open Go.ChangeShapes Go.WideShapes Go.ChangeAt
set_option maxRecDepth 100000 in
theorem lifted (os : Os) (started : os.Started) (H : Type) (enc : TypeId × Value → H) :
    ReturnsInHanded {} Try.checked os 9 .any (Rows.historyOneSpec.pre6 enc Try.prog Try.f9 Rows.historyOneRow.domain false) (Rows.historyOneSpec.post enc Try.prog Try.f9 false true false false) := by
  refine returnsInHanded_of_change (C := Try.checked) Try.own started (by kernel_rfl) Try.func9
    (ChangeSpec.witness6 (enc := enc) (C := Try.checked) false ⟨#[], #[.slice none 0 0], []⟩ 8 (by kernel_rfl) (by kernel_rfl) (by kernel_rfl) (by kernel_rfl)) ?_
  intro W base args ds gs before hval0 hW _ _
  have hval : ∀ (j : Nat) t v, Try.f9.params[j]? = some t → args[j]? = some v → Value.okWide Try.prog W .any base t v := hval0
  clear hval0
  obtain rfl : gs = [] := by obtain ⟨p, q, _, hV, _⟩ := hW; exact (trodVars_none hV).1
  have hW' := hW
  obtain ⟨p, q, hA0, hV, rfl, hfz, hnd⟩ := hW
  have hA : DataW.TrodAll enc Try.prog W 0 (fun _ => true) true Try.f9.params.toList args.toList ds p := hA0
  rw [Try.params9] at hA hval
  obtain ⟨v0, vs0, d0, ds0, p0, q0, hv0, hd0, hp0, h0, r0⟩ := trodAll_cons hA
  obtain ⟨hvn, hdn, hpn⟩ := trodAll_nil r0
  have ha : args = #[v0] := by cases args; simp_all
  have hdd : ds = [d0] := by simp_all
  rw [ha] at hval
  obtain ⟨a0, k0⟩ := ops_of_trod Try.underlying23 Try.underlying55 ⟨rfl, rfl⟩ ⟨rfl, rfl⟩ ⟨rfl, rfl⟩ Try.underlying3 cellsInt cellsOpR (okWide_slice Try.underlying23 (hval 0 23 v0 rfl rfl)) h0
  have hw : Calls Try.prog 9 args W (fun e W' => e = .returned (.bool true) ∧ Below W.heap.size W W') := by
    rw [ha]; exact one_any a0 v0 W k0
  exact hw.mono fun e W' ⟨he, hb⟩ => ⟨_, he, law_post Try.laidOut hW' rfl rfl Try.underlying4 (by rw [hdd]; rfl)
    (by kernel_rfl) hb⟩

theorem holds : Rows.HistoryOneSaid :=
  OpenClaim.holds_of_wide 9 Try.f9 rfl rfl rfl rfl rfl rfl rfl ⟨rfl, rfl, rfl, rfl, rfl⟩ rfl rfl rfl rfl rfl (by kernel_rfl) Try.func9 (by kernel_rfl)
    (of_decide_eq_true (by kernel_rfl)) (by unfold Func.isWrapper; first | (rw [if_pos (by decide +kernel)]; kernel_rfl) | (rw [if_neg (by decide +kernel)]; exact ⟨rfl, rfl⟩))
    (fun os started H enc _ => lifted os started H enc)
#print axioms holds
end historyOne
end Go.Proofs.Ytpehbffkplmfjaa
