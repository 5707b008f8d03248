/- The reference's SnapshotOrder and Danger. -/
import Derived.Test.YtpehbffkplmfjaaSnz
import Derived.Test.YtpehbffkplmfjaaSnw
namespace Go.Proofs.Ytpehbffkplmfjaa
open Go.RowKit
set_option maxRecDepth 100000 in
set_option maxHeartbeats 8000000 in
theorem snOrderR_not {h : List NOp} (hh : VH h) (hP : ¬ AllP h) (v : Value) (w : World) (hv : Ops w v (castO h)) :
    Calls Try.prog 35 #[v] w fun e w' => e = .returned (.tuple #[.slice none 0 0, .int .i64 7]) ∧ Below w.heap.size w w' := by
  have HA := Lib.hid (allowedR_any hh v w hv)
  obtain ⟨a, c, rfl⟩ := ops_slice hv
  clear hv hh
  go_enter Try.func35, Try.ntmps35
  go_wp2_with fail
  refine HA.out.mono ?_
  rintro e w1 ⟨B, rfl, hB, hb1⟩
  have Hb1 := Lib.hid hb1
  clear hb1
  cases B with
  | true => exact absurd (hB.1 rfl) hP
  | false =>
    clear hB hP
    go_wp2_with fail
    go_ret2
    exact ⟨rfl, Hb1.out⟩
set_option maxRecDepth 100000 in
set_option maxHeartbeats 8000000 in
theorem snOrderR_all {h : List NOp} (hh : VH h) (hP : AllP h) (v : Value) (w : World) (hv : Ops w v (castO h)) :
    Calls Try.prog 35 #[v] w fun e w' => ∃ v', e = .returned (.tuple #[v', .int .i64 (if (snOrd h).isSome then 0 else 5)]) ∧ Ints w' v' (castN ((snOrd h).getD [])) ∧ Below w.heap.size w w' := by
  have HA := Lib.hid (allowedR_any hh v w hv)
  have HC := Lib.hid (fun (w' : World) (hb : Below w.heap.size w w') => committedR_any hh v w' (Ops.keep hv hb))
  have HK := Lib.hid (fun (w' : World) (hb : Below w.heap.size w w') => all_any hh v w' (Ops.keep hv hb))
  have HF := Lib.hid (fun (v : Value) (w : World) (hv : Ints w v (castN (comN h 7))) => first_any (E := fun a b => (snEd h a).testBit b) (fun x hx => (mem_comS.1 hx).1) (comN_le h 7) v w hv)
  rw [← snOrd_fst h] at HF
  obtain ⟨a, c, rfl⟩ := ops_slice hv
  clear hv hh
  obtain ⟨M, hM⟩ : ∃ M, M = mat (fun a b => (snEd h a).testBit b) := ⟨_, rfl⟩
  rw [← hM] at HK HF
  clear hM
  obtain ⟨O, hO⟩ : ∃ O, O = snOrd h := ⟨_, rfl⟩
  rw [← hO] at HF ⊢
  clear hO
  have HP := Lib.hid hP
  clear hP
  go_enter Try.func35, Try.ntmps35
  go_wp2_with fail
  refine HA.out.mono ?_
  rintro e w0 ⟨B, rfl, hB, hb0⟩
  have Hb0 := Lib.hid hb0
  clear hb0
  cases B with
  | false => exact absurd (hB.2 HP.out) (by decide)
  | true =>
    clear hB
    go_wp2_with fail
    refine (HC.out _ Hb0.out).mono ?_
    rintro e w1 ⟨v1, rfl, ho1, hb1⟩
    have Hb1 := Lib.hid (Below.tr Hb0.out hb1)
    have Ho1 := Lib.hid ho1
    have HK1 := Lib.hid (HK.out w1 Hb1.out)
    clear hb1 ho1
    go_wp2_with fail
    refine HK1.out.mono ?_
    rintro e w2 ⟨rfl, hb2⟩
    have Hb2 := Lib.hid (Below.tr Hb1.out hb2)
    have HF2 := Lib.hid (HF.out v1 w2 (Ho1.out.ints.keep hb2))
    clear hb2
    go_wp2_with fail
    refine HF2.out.mono ?_
    rintro e w3 ⟨v3, rfl, hi3, hb3⟩
    have Hb3 := Lib.hid (Below.tr Hb2.out hb3)
    have Hi3 := Lib.hid hi3
    clear hb3 hi3
    cases O with
    | none =>
      go_wp2_with fail
      go_ret2
      exact ⟨_, rfl, ints_nil _, Hb3.out⟩
    | some p =>
      go_wp2_with fail
      go_ret2
      exact ⟨_, rfl, Hi3.out, Hb3.out⟩
set_option maxRecDepth 100000 in
set_option maxHeartbeats 8000000 in
theorem dangerR_not {h : List NOp} (hh : VH h) (hP : ¬ AllP h) (v : Value) (w : World) (hv : Ops w v (castO h)) :
    Calls Try.prog 36 #[v] w fun e w' => e = .returned (.tuple #[.slice none 0 0, .int .i64 7]) ∧ Below w.heap.size w w' := by
  have HA := Lib.hid (allowedR_any hh v w hv)
  obtain ⟨a, c, rfl⟩ := ops_slice hv
  clear hv hh
  go_enter Try.func36, Try.ntmps36
  go_wp2_with fail
  refine HA.out.mono ?_
  rintro e w1 ⟨B, rfl, hB, hb1⟩
  have Hb1 := Lib.hid hb1
  clear hb1
  cases B with
  | true => exact absurd (hB.1 rfl) hP
  | false =>
    clear hB hP
    go_wp2_with fail
    go_ret2
    exact ⟨rfl, Hb1.out⟩
theorem anti_dg {h : List NOp} {a c : Nat} (ha : a ∈ comN h 7) (hc : c ∈ comN h 7) : Dg h a c ↔ antiF h a c = true ∧ Ovl h a c := by
  unfold Dg antiF
  rw [decide_eq_true_eq]
  exact ⟨fun q => ⟨⟨⟨ha, hc⟩, q.1⟩, q.2⟩, fun q => ⟨q.1.2, q.2⟩⟩
theorem matB_at {w : World} {b : Nat} {E : Nat → Nat → Bool} (h : MatB w b E) {s t : Nat} (hs : s < 7) (ht : t < 7) : w.cell? ⟨b, s * 7 + t, none⟩ = some (.bool (E s t)) := by
  have := Blk.at h (show s * 7 + t < 49 by omega)
  rwa [show (s * 7 + t) / 7 = s by omega, show (s * 7 + t) % 7 = t by omega] at this
set_option maxRecDepth 100000 in
set_option maxHeartbeats 8000000 in
theorem dangerR_all {h : List NOp} (hh : VH h) (hP : AllP h) (v : Value) (w : World) (hv : Ops w v (castO h)) :
    Calls Try.prog 36 #[v] w fun e w' => ∃ v', e = .returned (.tuple #[v', .int .i64 0]) ∧ Ops w' v' (castO (dgN h)) ∧ Below w.heap.size w w' := by
  have HA := Lib.hid (allowedR_any hh v w hv)
  have HC := Lib.hid (fun (w' : World) (hb : Below w.heap.size w w') => committedR_any hh v w' (Ops.keep hv hb))
  have HK := Lib.hid (fun (w' : World) (hb : Below w.heap.size w w') => anti_any hh v w' (Ops.keep hv hb))
  have HO := Lib.hid (fun (a c : Nat) (ma : a ∈ comN h 7) (mc : c ∈ comN h 7) (w' : World) (hb : Below w.heap.size w w') => overlapR_any hh (mem_comS.1 ma).1 (mem_comS.1 mc).1 (mem_comS.1 ma).2 (mem_comS.1 mc).2 _ rfl v w' (Ops.keep hv hb))
  have HD := Lib.hid (fun (a c : Nat) (ma : a ∈ comN h 7) (mc : c ∈ comN h 7) => anti_dg ma mc)
  have Hm := Lib.hid (fun k (hk : k < (comN h 7).length) => getD_mem hk)
  have H7 := Lib.hid (fun k (hk : k ∈ comN h 7) => (mem_comS.1 hk).1)
  have hl7 := comN_le h 7
  have Hfin := Lib.hid (show dgX h (comN h 7) (comN h 7).length = dgN h from rfl)
  obtain ⟨l, hl⟩ : ∃ l, l = comN h 7 := ⟨_, rfl⟩
  rw [← hl] at HC HO HD Hm H7 hl7 Hfin
  have Hzs := Lib.hid (fun (x y k : Nat) (hk : k < l.length) => dgZ_step (h := h) (x := x) (y := y) hk)
  have Hys := Lib.hid (fun (x j : Nat) (hj : j < l.length) => dgY_step (h := h) (x := x) hj)
  have Hxs := Lib.hid (fun (i : Nat) (hi : i < l.length) => dgX_step (h := h) hi)
  have Hzz := Lib.hid (fun (x y : Nat) => show dgZ h l x y 0 = [] from by unfold dgZ; split <;> simp)
  have Hyz := Lib.hid (fun (x : Nat) => show dgY h l x 0 = [] from by simp [dgY])
  have Hzl := Lib.hid (fun x y k => dgZ_le (h := h) (l := l) (x := x) (y := y) (k := k) hl7)
  have Hyl := Lib.hid (fun x j => dgY_le (h := h) (l := l) (x := x) (j := j) hl7)
  have Hxl := Lib.hid (fun i => dgX_le (h := h) (l := l) (i := i) hl7)
  obtain ⟨a0, c0, rfl⟩ := ops_slice hv
  have HP := Lib.hid hP
  clear hv hh hP hl
  go_enter Try.func36, Try.ntmps36
  go_wp2_with fail
  refine HA.out.mono ?_
  rintro e w0 ⟨B, rfl, hB, hb0⟩
  have Hb0 := Lib.hid hb0
  clear hb0
  cases B with
  | false => exact absurd (hB.2 HP.out) (by decide)
  | true =>
    clear hB HP
    go_wp2_with fail
    refine (HK.out w0 Hb0.out).mono ?_
    rintro e w1 ⟨rfl, hb1⟩
    obtain ⟨w2, hw2⟩ : ∃ w2, w2 = w1.alloc (.cells #[.bool false, .bool false, .bool false, .bool false, .bool false, .bool false, .bool false, .bool false, .bool false, .bool false, .bool false, .bool false, .bool false, .bool false, .bool false, .bool false, .bool false, .bool false, .bool false, .bool false, .bool false, .bool false, .bool false, .bool false, .bool false, .bool false, .bool false, .bool false, .bool false, .bool false, .bool false, .bool false, .bool false, .bool false, .bool false, .bool false, .bool false, .bool false, .bool false, .bool false, .bool false, .bool false, .bool false, .bool false, .bool false, .bool false, .bool false, .bool false, .bool false] 80) := ⟨_, rfl⟩
    obtain ⟨mb, hmb⟩ : ∃ mb, mb = w1.heap.size := ⟨_, rfl⟩
    have hB3 : MatB w2 mb fun _ _ => false := by rw [hw2, hmb]; exact blk_new w1 80 49 fun _ => .bool false
    have hb3 : Below w.heap.size w w2 := by rw [hw2]; exact Below.tr (Below.tr Hb0.out hb1) (below_alloc _ _)
    have hle : w.heap.size ≤ mb := by have := Hb0.out.size; have := hb1.size; omega
    obtain ⟨L, hL⟩ : ∃ L, L = mat (antiF h) := ⟨_, rfl⟩
    have hS : (Try.prog.info? 80).map (·.size) = some L.size := by rw [hL]; unfold mat; rw [row_size]; kernel_rfl
    have h1 : L.all (·.oneCell') = true := by rw [hL]; exact mat_one _
    have hz : (row 49 fun _ => Value.bool false).size = L.size := by rw [hL]; unfold mat; rw [row_size, row_size]
    have HM4 := Lib.hid (show MatB (w2.setRow mb L) mb (antiF h) from by rw [hL]; exact Blk.setRow hB3 _)
    have Hb4 := Lib.hid (show Below w.heap.size w (w2.setRow mb L) from below_setRow hb3 hle _)
    have HB3 := Lib.hid (show w2.heap[mb]? = some (.cells (row 49 fun _ => Value.bool false) 80 (0, 0)) from hB3)
    have HS := Lib.hid hS
    have H1 := Lib.hid h1
    have HZ := Lib.hid hz
    have Hw2 := Lib.hid hw2
    have Hmb := Lib.hid hmb
    rw [← hL]
    clear hB3 hb3 hS h1 hz hb1 hw2 hmb hL HA hle
    go_wp2_with (first | (rw [← Hw2.out, ← Hmb.out]; refine wpList_store_row rfl 80 (.tmp 5) (.tmp 17) rfl mb L rfl rfl 80 (row 49 fun _ => .bool false) HB3.out HS.out HZ.out H1.out ?_))
    generalize w2.setRow mb L = w4 at *
    refine (HC.out w4 Hb4.out).mono ?_
    rintro e w5 ⟨v1, rfl, ho1, hb5⟩
    obtain ⟨A1, b1, f1, c1, rfl, ha1, hc1, _⟩ := own_get ho1
    have Hix1 := Lib.hid (run_ix (P := Try.prog) (t := 24) (a := A1) (len := l.length) (cap := c1) (b := b1) (off := f1) (s := 1) Try.underlying24 (by intro w; kernel_rfl) ha1)
    simp only [Nat.mul_one] at Hix1
    have Hc1 := Lib.hid hc1
    have HM5 := Lib.hid (show MatB w5 mb (antiF h) from Blk.keep HM4.out hb5)
    have Hb5 := Lib.hid (Below.tr Hb4.out hb5)
    clear ho1 ha1 hc1 hb5 HM4 Hb4 HB3 HS H1 HZ Hw2 Hmb Hb0
    have hz66 := cells66
    go_wp2_with fail
    go_loopw [4, 22] (fun vo vi wr => ∃ (i : Nat) (o : Value), o = vo ∧ vi = .int .i64 i ∧ i ≤ l.length ∧ Below w5.heap.size w5 wr ∧ OwnOps 48 w5.heap.size wr o (castO (dgX h l i))) (fun _ vi _ => l.length - (intOf vi).toNat)
    case atStart => exact ⟨0, _, rfl, rfl, Nat.zero_le _, Below.refl _ _, ownOps_nil _ _ _⟩
    case round =>
      obtain ⟨i, o, rfl, rfl, hi, hb, hO⟩ := hrel
      obtain ⟨wA, hwA⟩ : ∃ wA : World, wA = wr := ⟨_, rfl⟩
      subst hwA
      have Hb := Lib.hid hb
      have HOw := Lib.hid hO
      clear hb hO
      by_cases hil : i < l.length
      · have hixi := Hix1.out i
        have hci := Below.keep Hb.out (Hc1.out i hil)
        have ma := Lib.hid (Hm.out i hil)
        have HXs := Lib.hid (Hxs.out i hil)
        have HXl := Lib.hid (Hxl.out i)
        obtain ⟨a, ha⟩ : ∃ a, a = l.getD i 0 := ⟨_, rfl⟩
        rw [← ha] at hci ma HXs
        clear ha
        have ha7 := H7.out a ma.out
        have HOw1 := Lib.hid (show OwnOps 48 w5.heap.size wA o (castO (dgX h l i ++ dgY h l a 0)) from by rw [Hyz.out, List.append_nil]; exact HOw.out)
        go_wp2_with fail
        clear hci hixi
        obtain ⟨wo, hwo⟩ : ∃ wo : World, wo = wA := ⟨_, rfl⟩
        clear hwo
        go_loopw [4, 28] (fun vo vj wr => ∃ (j : Nat) (o : Value), o = vo ∧ vj = .int .i64 j ∧ j ≤ l.length ∧ Below w5.heap.size w5 wr ∧ OwnOps 48 w5.heap.size wr o (castO (dgX h l i ++ dgY h l a j))) (fun _ vj _ => l.length - (intOf vj).toNat)
        case atStart => exact ⟨0, _, rfl, rfl, Nat.zero_le _, Hb.out, HOw1.out⟩
        case round =>
          clear Hb HOw HOw1
          obtain ⟨j, o, rfl, rfl, hj, hb, hO⟩ := hrel
          obtain ⟨wB, hwB⟩ : ∃ wB : World, wB = wr := ⟨_, rfl⟩
          subst hwB
          have Hb := Lib.hid hb
          have HOw := Lib.hid hO
          clear hb hO
          by_cases hjl : j < l.length
          · have hixj := Hix1.out j
            have hcj := Below.keep Hb.out (Hc1.out j hjl)
            have mc := Lib.hid (Hm.out j hjl)
            have HYs := Lib.hid (Hys.out a j hjl)
            have HYl := Lib.hid (Hyl.out a j)
            obtain ⟨c, hc⟩ : ∃ c, c = l.getD j 0 := ⟨_, rfl⟩
            rw [← hc] at hcj mc HYs
            clear hc
            have hc7 := H7.out c mc.out
            have HDac := Lib.hid (HD.out a c ma.out mc.out)
            have HZs := Lib.hid (fun k hk => Hzs.out a c k hk)
            have HZl := Lib.hid (fun k => Hzl.out a c k)
            obtain ⟨Z, hZ⟩ : ∃ Z : Nat → List NOp, Z = fun k => dgZ h l a c k := ⟨_, rfl⟩
            have HZ0 := Lib.hid (show Z 0 = [] from by rw [hZ]; exact Hzz.out a c)
            have HZs' := Lib.hid (show ∀ k, k < l.length → Z (k + 1) = if Dg h a c ∧ Dg h c (l.getD k 0) then Z k ++ [(a, c, l.getD k 0)] else Z k from by rw [hZ]; exact HZs.out)
            have HZl' := Lib.hid (show ∀ k, (Z k).length ≤ 7 from by rw [hZ]; exact HZl.out)
            have HYs' := Lib.hid (show dgY h l a (j + 1) = dgY h l a j ++ Z l.length from by rw [hZ]; exact HYs.out)
            clear hZ HZs HZl HYs
            obtain ⟨P, hP⟩ : ∃ P, P = dgX h l i ++ dgY h l a j := ⟨_, rfl⟩
            have HPl := Lib.hid (show P.length ≤ 392 from by rw [hP, List.length_append]; have := HXl.out; have := HYl.out; omega)
            have HPe := Lib.hid (show dgX h l i ++ dgY h l a (j + 1) = P ++ Z l.length from by rw [HYs'.out, hP, List.append_assoc])
            have HOw1 := Lib.hid (show OwnOps 48 w5.heap.size wB o (castO (P ++ Z 0)) from by rw [HZ0.out, List.append_nil, hP]; exact HOw.out)
            clear hP HYs' HYl HXl
            go_wp2_with fail
            clear hcj hixj
            obtain ⟨wo2, hwo2⟩ : ∃ wo : World, wo = wB := ⟨_, rfl⟩
            clear hwo2
            go_loopw [4, 34] (fun vo vk wr => ∃ (k : Nat) (o : Value), o = vo ∧ vk = .int .i64 k ∧ k ≤ l.length ∧ Below w5.heap.size w5 wr ∧ OwnOps 48 w5.heap.size wr o (castO (P ++ Z k))) (fun _ vk _ => l.length - (intOf vk).toNat)
            case atStart => exact ⟨0, _, rfl, rfl, Nat.zero_le _, Hb.out, HOw1.out⟩
            case round =>
              clear Hb HOw HOw1
              obtain ⟨k, o, rfl, rfl, hk, hb, hO⟩ := hrel
              have Hb := Lib.hid hb
              have HOw := Lib.hid hO
              clear hb hO
              by_cases hkl : k < l.length
              · have hixk := Hix1.out k
                have hck := Below.keep Hb.out (Hc1.out k hkl)
                have md := Lib.hid (Hm.out k hkl)
                have HZk := Lib.hid (HZs'.out k hkl)
                have hZl := HZl'.out k
                have hPl := HPl.out
                obtain ⟨d, hd⟩ : ∃ d, d = l.getD k 0 := ⟨_, rfl⟩
                rw [← hd] at hck md HZk
                clear hd
                have hd7 := H7.out d md.out
                have HDcd := Lib.hid (HD.out c d mc.out md.out)
                have g1 := matB_at (Blk.keep HM5.out Hb.out) ha7 hc7
                have g2 := matB_at (Blk.keep HM5.out Hb.out) hc7 hd7
                have a7 : (a : Int) < 7 := by omega
                have a0' : (0 : Int) ≤ (a : Int) := by omega
                have c7 : (c : Int) < 7 := by omega
                have c0' : (0 : Int) ≤ (c : Int) := by omega
                have d7 : (d : Int) < 7 := by omega
                have d0' : (0 : Int) ≤ (d : Int) := by omega
                have HOac := Lib.hid (fun wx (hb : Below w5.heap.size w5 wx) => HO.out a c ma.out mc.out wx (Below.tr Hb5.out hb))
                have HOcd := Lib.hid (fun wx (hb : Below w5.heap.size w5 wx) => HO.out c d mc.out md.out wx (Below.tr Hb5.out hb))
                by_cases e1 : antiF h a c = true
                · rw [e1] at g1
                  have He1 := Lib.hid e1
                  clear e1
                  by_cases e2 : antiF h c d = true
                  · rw [e2] at g2
                    have He2 := Lib.hid e2
                    clear e2
                    go_wp2_with fail
                    refine (HOac.out _ Hb.out).mono ?_
                    rintro e w6 ⟨rfl, hb6⟩
                    have Hb6 := Lib.hid (Below.tr Hb.out hb6)
                    have HO6 := Lib.hid (HOw.out.keep hb6)
                    clear hb6 g1 g2 hck hixk
                    by_cases e3 : Ovl h a c
                    · have q3 : decide (Ovl h a c) = true := decide_eq_true e3
                      have HDt := Lib.hid (HDac.out.2 ⟨He1.out, e3⟩)
                      clear e3
                      go_wp2_with fail
                      refine (HOcd.out _ Hb6.out).mono ?_
                      rintro e w7 ⟨rfl, hb7⟩
                      have Hb7 := Lib.hid (Below.tr Hb6.out hb7)
                      have HO7 := Lib.hid (HO6.out.keep hb7)
                      clear hb7
                      by_cases e4 : Ovl h c d
                      · have q4 : decide (Ovl h c d) = true := decide_eq_true e4
                        have R := Lib.hid (show P ++ Z (k + 1) = (P ++ Z k) ++ [(a, c, d)] from by rw [HZk.out, if_pos ⟨HDt.out, HDcd.out.2 ⟨He2.out, e4⟩⟩, List.append_assoc])
                        clear e4
                        go_wp2_with (at_builtin; refine append_own rfl (.tmp 62) (.tmp 67) 43 rfl elemTri rfl (World.ownsRow.alloc HO7.out _) [.int .i64 a, .int .i64 c, .int .i64 d] rfl rfl ?c1 ?c2 ?c3 ?c4 ?_)
                        case c1 =>
                          intro j u hj
                          rw [cell_new]
                          simpa using hj
                        case c2 => intro u hu; simp at hu; rcases hu with rfl | rfl | rfl <;> rfl
                        case c3 => rw [castO_length, List.length_append]; omega
                        case c4 => have := Hb7.out.size; simp; omega
                        intro v2 w8 r1 r2 _
                        have HOn := Lib.hid (show OwnOps 48 w5.heap.size w8 v2 (castO (P ++ Z (k + 1))) from by
                          rw [R.out, castO_snoc2]
                          exact OwnOps.snoc r1)
                        have HBn := Lib.hid (show Below w5.heap.size w5 w8 from (Below.tr Hb7.out (below_alloc _ _)).trans r2)
                        clear r1 r2
                        go_wp2_with fail
                        go_roundw
                        case rel => exact ⟨k + 1, _, rfl, by go_num, by omega, HBn.out, HOn.out⟩
                        case measure => simp [intOf]; omega
                      · have q4 : decide (Ovl h c d) = false := decide_eq_false e4
                        have R := Lib.hid (show Z (k + 1) = Z k from by rw [HZk.out, if_neg (fun r => e4 (HDcd.out.1 r.2).2)])
                        clear e4
                        go_wp2_with fail
                        go_roundw
                        case rel => exact ⟨k + 1, _, rfl, by go_num, by omega, Hb7.out, by rw [R.out]; exact HO7.out⟩
                        case measure => simp [intOf]; omega
                    · have q3 : decide (Ovl h a c) = false := decide_eq_false e3
                      have R := Lib.hid (show Z (k + 1) = Z k from by rw [HZk.out, if_neg (fun r => e3 (HDac.out.1 r.1).2)])
                      clear e3
                      go_wp2_with fail
                      go_roundw
                      case rel => exact ⟨k + 1, _, rfl, by go_num, by omega, Hb6.out, by rw [R.out]; exact HO6.out⟩
                      case measure => simp [intOf]; omega
                  · have e2' : antiF h c d = false := by simpa using e2
                    rw [e2'] at g2
                    have R := Lib.hid (show Z (k + 1) = Z k from by rw [HZk.out, if_neg (fun r => e2 (HDcd.out.1 r.2).1)])
                    clear e2 e2'
                    go_wp2_with fail
                    go_roundw
                    case rel => exact ⟨k + 1, _, rfl, by go_num, by omega, Hb.out, by rw [R.out]; exact HOw.out⟩
                    case measure => simp [intOf]; omega
                · have e1' : antiF h a c = false := by simpa using e1
                  rw [e1'] at g1
                  have R := Lib.hid (show Z (k + 1) = Z k from by rw [HZk.out, if_neg (fun r => e1 (HDac.out.1 r.1).1)])
                  clear e1 e1' g2
                  go_wp2_with fail
                  go_roundw
                  case rel => exact ⟨k + 1, _, rfl, by go_num, by omega, Hb.out, by rw [R.out]; exact HOw.out⟩
                  case measure => simp [intOf]; omega
              · obtain rfl : k = l.length := by omega
                go_wp2_with fail
                go_roundw
                case rel => exact ⟨j + 1, _, rfl, by go_num, by omega, Hb.out, by rw [HPe.out]; exact HOw.out⟩
                case measure => simp [intOf]; omega
          · obtain rfl : j = l.length := by omega
            go_wp2_with fail
            go_roundw
            case rel => exact ⟨i + 1, _, rfl, by go_num, by omega, Hb.out, by rw [HXs.out]; exact HOw.out⟩
            case measure => simp [intOf]; omega
      · obtain rfl : i = l.length := by omega
        have HR := Lib.hid (show Ops wA o (castO (dgN h)) from by rw [← Hfin.out]; exact HOw.out.ops)
        have HBf := Lib.hid (Below.tr Hb5.out Hb.out)
        go_wp2_with fail
        go_ret2
        exact ⟨_, rfl, HR.out, HBf.out⟩
#print axioms dangerR_all
end Go.Proofs.Ytpehbffkplmfjaa
