/- Contracts of the reference's Order and Eliminates. -/
import Derived.Test.YtkjpbjbheocciaaGf
namespace Go.Proofs.Ytkjpbjbheocciaa
open Go.RowKit

theorem beqz {n : Nat} (h : n ≠ 0) : ((n : Int) == 0) = false := by rw [beq_eq_false_iff_ne]; omega
theorem bnez {n : Nat} (h : n ≠ 0) : ((n : Int) != 0) = true := by rw [bne_iff_ne]; omega
set_option maxRecDepth 100000 in
set_option maxHeartbeats 4000000 in
theorem orderR_any {g : List Nat} (hg : Gr g) (v : Value) (w : World) (hv : Ints w v (castN g)) :
    Calls Try.prog 23 #[v] w (OrderE g w) := by
  obtain ⟨a, b, off, cap, rfl, hle, ha, hc⟩ := Ints.graph hv
  have hix := run_ix (P := Try.prog) (t := 23) (a := a) (len := g.length) (cap := cap) (b := b) (off := off) (s := 1) Try.underlying23 (by intro w; kernel_rfl) ha
  simp only [Nat.mul_one] at hix
  have Hc := Lib.hid hc
  have Hv := Lib.hid hv
  have HG := Lib.hid hg
  have hn12 := hg.le
  obtain ⟨F, hF, f1, f2, f3⟩ := pow_name g.length hn12
  have HF := Lib.hid hF
  have Hstart := Lib.hid (show ElimRow g w.heap.size w (.slice none 0 0) 0 from ownInts_nil _ _)
  have hF1 : ((F : Int) - 1) = ((F - 1 : Nat) : Int) := by omega
  have hl1 : (0 : Int) ≤ (g.length : Int) := by omega
  have hl2 : (g.length : Int) < 64 := by omega
  have h0 : (elim g 0).2 = F - 1 := by show 2 ^ g.length - 1 = _; rw [hF]
  have H0 := Lib.hid h0
  clear ha hv hc hg hF h0
  go_enter Try.func23, Try.ntmps23
  go_wp2_with fail
  clear hF1
  go_loopw [4, 5, 13] (fun o s i wr => ∃ k L : Nat, i = .int .i64 k ∧ s = .int .i64 L ∧ k ≤ g.length ∧ L = (elim g k).2 ∧ Below w.heap.size w wr ∧ ElimRow g w.heap.size wr o k) (fun _ _ i _ => g.length - (intOf i).toNat)
  case atStart => exact ⟨0, F - 1, rfl, rfl, Nat.zero_le _, H0.out.symm, Below.refl _ _, Hstart.out⟩
  case round =>
    obtain ⟨k, L, rfl, rfl, hk, hL, hb, hown⟩ := hrel
    have HL := Lib.hid hL
    have Hb := Lib.hid hb
    have Hown := Lib.hid hown
    have hL2 : L < 4096 := by rw [hL]; exact lt63 (elim_lt g k) hn12
    clear hL hb hown
    by_cases hlt : k < g.length
    · go_wp2_with fail
      obtain ⟨wo, rfl⟩ : ∃ wo : World, wo = wr := ⟨_, rfl⟩
      go_loopw [4, 5, 17] (fun o s i wr => ∃ x : Nat, i = .int .i64 x ∧ o = u4 ∧ s = .int .i64 L ∧ x ≤ g.length ∧ Below wo.heap.size wo wr ∧ ∀ y, y < x → Simp g L y = false) (fun _ _ i _ => g.length - (intOf i).toNat)
      case atStart => exact ⟨0, rfl, rfl, rfl, Nat.zero_le _, Below.refl _ _, fun q hq => by omega⟩
      case round =>
        obtain ⟨x, rfl, ho, rfl, hx, hbw, hin⟩ := hrel
        subst ho
        have Hin := Lib.hid hin
        have Hbw := Lib.hid hbw
        clear hin hbw
        by_cases hltx : x < g.length
        · have hc1 := Below.keep (Below.tr Hb.out Hbw.out) (Hc.out x hltx)
          have hixk := hix x
          have hnb := lt63 (HG.out.lt x hltx) hn12
          have hi1 : (0 : Int) ≤ (x : Int) := by omega
          have hi2 : (x : Int) < 64 := by omega
          obtain ⟨P, hP, p1, p2, p3⟩ := pow_name x (by omega)
          cases hbit : L.testBit x with
          | false =>
            have R := Lib.hid (show ∀ y, y < x + 1 → Simp g L y = false from fun y hy => by
              by_cases e : y = x
              · subst e; simp [Simp, hbit]
              · exact Hin.out y (by omega))
            have t1 := hasB_0 (s := L) (i := x) (by rw [hasB_nat]; exact hbit)
            rw [p1] at t1
            clear hbit hP
            go_wp2_with fail
            go_roundw
            case rel => exact ⟨x + 1, by go_num, rfl, rfl, by omega, Hbw.out, R.out⟩
            case measure => simp [intOf]; omega
          | true =>
            have t1 := hasB_1 (s := L) (i := x) (by rw [hasB_nat]; exact hbit)
            rw [p1] at t1
            have Hbit := Lib.hid hbit
            obtain ⟨z, hz⟩ : ∃ z, z = nb g x := ⟨_, rfl⟩
            rw [← hz] at hc1 hnb
            have hand := bits_and_nat z L (by omega) (by omega)
            have hand2 : z &&& L ≤ L := Nat.and_le_right
            by_cases hcl : Cliq g (z &&& L)
            · have hS : Simp g L x = true := by unfold Simp; rw [hbit, ← hz, decide_eq_true hcl]; rfl
              have HP2 := Lib.hid (show pick g (elim g k).2 = some x by rw [← HL.out]; exact pick_some hltx hS Hin.out)
              have Hcl := Lib.hid (decide_eq_true hcl)
              have hdn := bits_andNot_nat L P (by omega) (by omega)
              have Hd := Lib.hid (show ndiff L P = (elim g (k + 1)).2 by rw [elim_some HP2.out, ← HL.out, hP])
              have Hll := Lib.hid (show (castN (elim g k).1).length ≤ 12 by rw [castN_length]; have := elim_cnt g k; omega)
              clear hbit hP hcl hS hz
              go_wp2_with fail
              refine (isCliqueR_b HG.out (z &&& L) true Hcl.out (by omega) _ _ (Ints.keep Hv.out (Below.tr Hb.out Hbw.out))).mono ?_
              rintro e w1 ⟨rfl, nq, hw1⟩
              have Hbq := Lib.hid (show Below wo.heap.size wo w1 by rw [hw1]; exact bdrewN Hbw.out nq)
              clear hw1
              have Hown2 := Lib.hid (Hown.out.keep Hbq.out)
              clear Hbw
              go_wp2_with (at_builtin; refine append_own rfl (.tmp 35) (.tmp 37) 22 rfl elemInts rfl (World.ownsRow.alloc Hown2.out _) [.int .i64 x] rfl rfl ?c1 ?c2 ?c3 ?c4 ?_)
              case c1 => intro j u hj; go_simp
              case c2 => intro u hu; simp at hu; subst hu; rfl
              case c3 => have := Hll.out; omega
              case c4 => simp; have := Hb.out.size; have := Hbq.out.size; omega
              intro v' w' h1 h2 _
              have R := Lib.hid (ElimRow.snoc HP2.out h1)
              have hb' := Lib.hid (show Below w.heap.size w w' from (Below.tr (Below.tr Hb.out Hbq.out) (below_alloc _ _)).trans h2)
              clear h1 h2
              go_wp2_with fail
              go_roundw
              case rel => exact ⟨k + 1, ndiff L P, by go_num, rfl, by omega, Hd.out, hb'.out, R.out⟩
              case measure => simp [intOf]; omega
            · have R := Lib.hid (show ∀ y, y < x + 1 → Simp g L y = false from fun y hy => by
                by_cases e : y = x
                · subst e; unfold Simp; rw [← hz, decide_eq_false hcl]; simp
                · exact Hin.out y (by omega))
              have Hcl := Lib.hid (decide_eq_false hcl)
              clear hbit hP hcl hz
              go_wp2_with fail
              refine (isCliqueR_b HG.out (z &&& L) false Hcl.out (by omega) _ _ (Ints.keep Hv.out (Below.tr Hb.out Hbw.out))).mono ?_
              rintro e w1 ⟨rfl, nq, hw1⟩
              have Hbq := Lib.hid (show Below wo.heap.size wo w1 by rw [hw1]; exact bdrewN Hbw.out nq)
              clear hw1
              go_wp2_with fail
              go_roundw
              case rel => exact ⟨x + 1, by go_num, rfl, rfl, by omega, Hbq.out, R.out⟩
              case measure => simp [intOf]; omega
        · obtain rfl : x = g.length := by omega
          have E := Lib.hid (elim_none (k := k) (g := g) (by rw [← HL.out]; exact pick_none Hin.out))
          have Hd := Lib.hid (show L = (elim g (k + 1)).2 by rw [E.out]; exact HL.out)
          have R := Lib.hid (show ElimRow g w.heap.size wr u4 (k + 1) by unfold ElimRow; rw [E.out]; exact Hown.out.keep Hbw.out)
          have hb' := Lib.hid (Below.tr Hb.out Hbw.out)
          go_wp2_with fail
          go_roundw
          case rel => exact ⟨k + 1, L, by go_num, rfl, by omega, Hd.out, hb'.out, R.out⟩
          case measure => simp [intOf]; omega
    · obtain rfl : k = g.length := by omega
      by_cases hL0 : L = 0
      · have q0 : ((L : Int) != 0) = false := by rw [hL0]; rfl
        have HC := Lib.hid (show Chordal g by unfold Chordal; rw [← HL.out, hL0])
        have HR := Lib.hid (show Ints wr u4 (castN (order g)) from OwnInts.ints Hown.out)
        clear hL0
        go_wp2_with fail
        go_ret2
        exact ⟨_, by rw [if_pos HC.out]; rfl, by rw [if_pos HC.out]; exact HR.out, Hb.out⟩
      · have q0 := bnez hL0
        have HC := Lib.hid (show ¬ Chordal g by unfold Chordal; rw [← HL.out]; exact hL0)
        go_wp2_with fail
        go_ret2
        exact ⟨_, by rw [if_neg HC.out]; rfl, by rw [if_neg HC.out]; exact ints_nil _, Hb.out⟩

set_option maxRecDepth 100000 in
set_option maxHeartbeats 4000000 in
theorem eliminates_any {g : List Nat} (hg : Gr g) (l : List Int) (v u : Value) (w : World) (hv : Ints w v (castN g)) (hu : Ints w u l) :
    Calls Try.prog 25 #[v, u] w fun e w' => e = .returned (.bool (decide (IsOrder g l))) ∧ Below w.heap.size w w' := by
  obtain ⟨a, b, off, cap, rfl, hle, ha, hc⟩ := Ints.graph hv
  obtain ⟨a', b', off', cap', rfl, hle', ha', hc'⟩ := Ints.get hu
  have hix := run_ix (P := Try.prog) (t := 23) (a := a) (len := g.length) (cap := cap) (b := b) (off := off) (s := 1) Try.underlying23 (by intro w; kernel_rfl) ha
  have hix' := run_ix (P := Try.prog) (t := 22) (a := a') (len := l.length) (cap := cap') (b := b') (off := off') (s := 1) Try.underlying22 (by intro w; kernel_rfl) ha'
  simp only [Nat.mul_one] at hix hix'
  have Hc := Lib.hid hc
  have Hc' := Lib.hid (show ∀ i, i < l.length → w.cell? ⟨b', off' + i, none⟩ = some (.int .i64 (gI l i)) from fun i hi => by rw [hc' i hi, gI_get hi])
  have Hv := Lib.hid hv
  have HG := Lib.hid hg
  have hn12 := hg.le
  obtain ⟨F, hF, f1, f2, f3⟩ := pow_name g.length hn12
  have HF := Lib.hid hF
  have hF1 : ((F : Int) - 1) = ((F - 1 : Nat) : Int) := by omega
  have hl1 : (0 : Int) ≤ (g.length : Int) := by omega
  have hl2 : (g.length : Int) < 64 := by omega
  obtain ⟨E, hE⟩ : ∃ E, E = decide (IsOrder g l) := ⟨_, rfl⟩
  rw [← hE]
  have HE := Lib.hid hE
  have Hno := Lib.hid (show Elims g (2 ^ g.length - 1) l = false → E = false from fun h => by rw [hE]; exact decide_eq_false fun hh => by rw [hh.2] at h; cases h)
  clear ha hv hc hg hF ha' hu hc' hE
  go_enter Try.func25, Try.ntmps25
  go_wp2_with fail
  clear hF1
  go_loopw [5, 14] (fun s i wr => ∃ k L : Nat, i = .int .i64 k ∧ s = .int .i64 L ∧ k ≤ l.length ∧ Below w.heap.size w wr ∧ L = leftOf (2 ^ g.length - 1) (l.take k) ∧ Elims g (2 ^ g.length - 1) (l.take k) = true) (fun _ i _ => l.length - (intOf i).toNat)
  case atStart => exact ⟨0, F - 1, rfl, rfl, Nat.zero_le _, Below.refl _ _, by rw [HF.out]; rfl, rfl⟩
  case round =>
    obtain ⟨k, L, rfl, rfl, hk, hb, hL, hin⟩ := hrel
    have Hin := Lib.hid hin
    have Hb := Lib.hid hb
    have hL2 : L < 4096 := by rw [hL]; exact lt63 (leftOf_lt (by have := Nat.two_pow_pos g.length; omega)) hn12
    have HL := Lib.hid hL
    clear hin hL hb
    by_cases hlt : k < l.length
    · have hc1 := Below.keep Hb.out (Hc'.out k hlt)
      have hixk := hix' k
      obtain ⟨x, hx⟩ : ∃ x, x = gI l k := ⟨_, rfl⟩
      rw [← hx] at hc1
      have HS := Lib.hid (show Elims g (2 ^ g.length - 1) (l.take (k + 1)) = (decide (0 ≤ x ∧ x < g.length) && Simp g L x.toNat) by rw [take_gI hlt, elims_step, Hin.out, ← HL.out, ← hx]; rfl)
      have HD := Lib.hid (show leftOf (2 ^ g.length - 1) (l.take (k + 1)) = ndiff L (2 ^ x.toNat) by rw [take_gI hlt, leftOf_step, ← HL.out, ← hx])
      clear hx
      by_cases hn : 0 ≤ x ∧ x < (g.length : Int)
      · obtain ⟨hx0, hxn⟩ := hn
        obtain ⟨m, rfl⟩ := Int.eq_ofNat_of_zero_le hx0
        have hmn : m < g.length := by omega
        have HN := Lib.hid (decide_eq_true (show 0 ≤ (m : Int) ∧ (m : Int) < (g.length : Int) from ⟨hx0, hxn⟩))
        have hc2 := Below.keep Hb.out (Hc.out m hmn)
        have hixm := hix m
        have hnb := lt63 (HG.out.lt m hmn) hn12
        have hi2 : (m : Int) < 64 := by omega
        obtain ⟨P, hP, p1, p2, p3⟩ := pow_name m (by omega)
        obtain ⟨z, hz⟩ : ∃ z, z = nb g m := ⟨_, rfl⟩
        have HW := Lib.hid (show z &&& ndiff L P = z &&& L by rw [hz, hP]; exact nb_without HG.out hmn)
        rw [← hz] at hc2 hnb
        cases hbit : L.testBit m with
        | false =>
          have R := Lib.hid (show E = false from Hno.out (elims_no (k := k) (by rw [HS.out, Int.toNat_natCast]; unfold Simp; rw [hbit]; simp)))
          have t1 := hasB_0 (s := L) (i := m) (by rw [hasB_nat]; exact hbit)
          rw [p1] at t1
          clear hbit hP hz
          go_wp2_with fail
          go_ret
          exact ⟨by rw [R.out]; rfl, Hb.out⟩
        | true =>
          have t1 := hasB_1 (s := L) (i := m) (by rw [hasB_nat]; exact hbit)
          rw [p1] at t1
          have hdn := bits_andNot_nat L P (by omega) (by omega)
          have hdl := ndiff_le L P
          have hand := bits_and_nat z (ndiff L P) (by omega) (by omega)
          have hand2 : z &&& ndiff L P ≤ z := Nat.and_le_left
          by_cases hcl : Cliq g (z &&& L)
          · have R := Lib.hid (show Elims g (2 ^ g.length - 1) (l.take (k + 1)) = true by rw [HS.out, HN.out, Int.toNat_natCast]; unfold Simp; rw [hbit, ← hz, decide_eq_true hcl]; rfl)
            have RD := Lib.hid (show ndiff L P = leftOf (2 ^ g.length - 1) (l.take (k + 1)) by rw [HD.out, Int.toNat_natCast, hP])
            have Hcl := Lib.hid (show decide (Cliq g (z &&& ndiff L P)) = true by rw [HW.out]; exact decide_eq_true hcl)
            clear hbit hP hz hcl
            go_wp2_with fail
            refine (isCliqueR_b HG.out (z &&& ndiff L P) true Hcl.out (by omega) _ _ (Ints.keep Hv.out Hb.out)).mono ?_
            rintro e w' ⟨rfl, nq, rfl⟩
            go_wp2_with fail
            go_roundw
            case rel => exact ⟨k + 1, ndiff L P, by go_num, rfl, by omega, bdrewN Hb.out _, RD.out, R.out⟩
            case measure => simp [intOf]; omega
          · have R := Lib.hid (show E = false from Hno.out (elims_no (k := k) (by rw [HS.out, Int.toNat_natCast]; unfold Simp; rw [← hz, decide_eq_false hcl]; simp)))
            have Hcl := Lib.hid (show decide (Cliq g (z &&& ndiff L P)) = false by rw [HW.out]; exact decide_eq_false hcl)
            clear hbit hP hz hcl
            go_wp2_with fail
            refine (isCliqueR_b HG.out (z &&& ndiff L P) false Hcl.out (by omega) _ _ (Ints.keep Hv.out Hb.out)).mono ?_
            rintro e w' ⟨rfl, nq, rfl⟩
            go_wp2_with fail
            go_ret
            exact ⟨by rw [R.out]; rfl, bdrewN Hb.out _⟩
      · have R := Lib.hid (show E = false from Hno.out (elims_no (k := k) (by rw [HS.out, decide_eq_false hn]; rfl)))
        have hn' : x < 0 ∨ (0 ≤ x ∧ x ≥ (g.length : Int)) := by omega
        clear hn
        rcases hn' with hn | ⟨hn0, hn⟩
        all_goals
          go_wp2_with fail
          go_ret
          exact ⟨by rw [R.out]; rfl, Hb.out⟩
    · obtain rfl : k = l.length := by omega
      have h1 := Hin.out
      rw [List.take_length] at h1
      have h2 := HL.out
      rw [List.take_length] at h2
      have h3 := isOrder_zero h1
      by_cases hL0 : L = 0
      · have R := Lib.hid (show E = true by rw [HE.out]; exact decide_eq_true ⟨h3.2 (by rw [← h2]; exact hL0), h1⟩)
        have q0 : ((L : Int) == 0) = true := by rw [hL0]; rfl
        clear h1 h2 h3 hL0
        go_wp2_with fail
        go_ret
        exact ⟨by rw [R.out]; rfl, Hb.out⟩
      · have R := Lib.hid (show E = false by rw [HE.out]; exact decide_eq_false fun h => hL0 (by rw [h2]; exact h3.1 h.1))
        have q0 := beqz hL0
        clear h1 h2 h3
        go_wp2_with fail
        go_ret
        exact ⟨by rw [R.out]; rfl, Hb.out⟩
#print axioms eliminates_any
end Go.Proofs.Ytkjpbjbheocciaa
