/- Contract of (*program).join: the instances in which the newest fact stands at a place are added. -/
import Derived.Test.YthndplkjhbmfmaaRjm
namespace Go.Proofs.Ythndplkjhbmfmaa
open Go.RowKit
theorem bdrewN2 {B : Nat} {a w : World} (h : Below B a w) (n : Nat) : Below B a (w.drewN n) := h.trans ⟨rfl, rfl, rfl, Nat.le_refl _, fun _ _ => rfl⟩
theorem joinM_cons (K : Nat → List Int) (place : Nat) (c : Int) (a : RAt) (q : List RAt) (k : Nat) (m : List Int) : joinM K place c (a :: q) k m = (K a.1.toNat).flatMap fun x => if skipJ k place x c then [] else match extA m a (unpc x) with
    | some y => joinM K place c q (k + 1) y
    | none => [] := rfl
/-- what one of the known facts brings -/
noncomputable def joinB (K : Nat → List Int) (place : Nat) (c : Int) (a : RAt) (q : List RAt) (k : Nat) (m : List Int) (x : Int) : List (List Int) := if skipJ k place x c then [] else match extA m a (unpc x) with
    | some y => joinM K place c q (k + 1) y
    | none => []
/-- what the first n of them bring -/
noncomputable def joinP (K : Nat → List Int) (place : Nat) (c : Int) (a : RAt) (q : List RAt) (k : Nat) (m : List Int) (n : Nat) : List (List Int) := ((K a.1.toNat).take n).flatMap (joinB K place c a q k m)
theorem joinP_succ {K : Nat → List Int} {place : Nat} {c : Int} {a : RAt} {q : List RAt} {k : Nat} {m : List Int} {n : Nat} (hn : n < (K a.1.toNat).length) : joinP K place c a q k m (n + 1) = joinP K place c a q k m n ++ joinB K place c a q k m ((K a.1.toNat).getD n 0) := by
  unfold joinP
  rw [List.take_succ_eq_append_getElem hn, List.flatMap_append, List.getD_eq_getElem?_getD, List.getElem?_eq_getElem hn]
  simp
theorem joinP_all (K : Nat → List Int) (place : Nat) (c : Int) (a : RAt) (q : List RAt) (k : Nat) (m : List Int) : joinP K place c a q k m (K a.1.toNat).length = joinM K place c (a :: q) k m := by
  unfold joinP
  rw [List.take_length, joinM_cons]; rfl
/-- a part of it -/
theorem joinP_part (K : Nat → List Int) (place : Nat) (c : Int) (a : RAt) (q : List RAt) (k : Nat) (m : List Int) (n : Nat) : ∃ t, joinM K place c (a :: q) k m = joinP K place c a q k m n ++ t := by
  refine ⟨((K a.1.toNat).drop n).flatMap (joinB K place c a q k m), ?_⟩
  rw [← joinP_all]
  unfold joinP
  rw [List.take_length, ← List.flatMap_append, List.take_append_drop]
set_option maxRecDepth 100000 in
set_option maxHeartbeats 16000000 in
theorem join_any {w0 : World} (l : List RRule) (hat : RuV l) (hl3 : ∀ r, r ∈ l → r.2.length ≤ 3) (rl : Value) (hrl : Rules w0 rl l) (i : Nat) (hi : i < l.length) (bp : Nat) (lits : List RAt) (hlat : ∀ a, a ∈ lits → AtR a) (u : Value) (K : Nat → List Int) (hK : ∀ t, t < 6 → ∀ x, x ∈ K t → ∃ f, FcR f ∧ pcd f = x) (place : Nat) (c : Int) (base : Nat) (hb0 : base = w0.heap.size) :
    ∀ (n k : Nat) (_ : k + n = lits.length) (m : List Int) (_ : m.length = 8) (_ : ∀ x, x ∈ joinM K place c (lits.drop k) k m → Num6 (rR l i) x) (bnd : Nat) (w : World) (M : PMem) (S : PSt) (_ : PG base bnd w bp rl M S) (_ : Below base w0 w) (_ : LitsJ w0 w (Lv bp M) u lits) (_ : ∀ t, t < 6 → S.R (297 + t) = K t) (_ : ShN (joinM K place c (lits.drop k) k m).length S),
    Calls Try.prog 123 #[.pointer (some ⟨bp, 0, none⟩), .int .i64 (i : Int), u, .int .i64 (place : Int), .int .i64 c, .int .i64 (k : Int), .agg (vrow m)] w fun e w' => PgE base w'.heap.size w w' bp rl M (addsS S i (rR l i) (joinM K place c (lits.drop k) k m)) e := by
  intro n
  induction n with
  | zero =>
    intro k hk m hm8 hms bnd w M S h hw0 hli hkn hsh
    obtain rfl : k = lits.length := by omega
    rw [List.drop_length] at hms hsh ⊢
    have hms := hms m (by simp [joinM])
    obtain ⟨ua, un, uc, rfl⟩ := hli.own.slice
    obtain ⟨vs, hv1, hv2, hv3⟩ := hli.own
    obtain ⟨hx3, hx4, ia, ib, ioff, ic, hv, hx5⟩ := owns_rd hv2
    injection hv with e1 e2 e3
    subst e2
    obtain ⟨B, hB⟩ : ∃ x, x = w.heap.size := ⟨_, rfl⟩
    obtain ⟨w1, hw1⟩ : ∃ x, x = w.alloc (.cells (vrow m) 200) := ⟨_, rfl⟩
    have hb1 : Below w.heap.size w w1 := by rw [hw1]; exact below_alloc _ _
    have HV := Lib.hid (show w1.heap[B]? = some (.cells (vrow m) 200 (0, 0)) from by rw [hw1, hB]; exact heap_alloc_new _ _)
    have HSx := Lib.hid (show (Try.prog.info? 200).map (·.size) = some (vrow m).size from by rw [vrow_size, hm8]; exact sizeVals)
    have hbs : base ≤ w.heap.size := Nat.le_trans (h.ge bp (.inl rfl)) (Nat.le_of_lt h.bpLt)
    have HX := Lib.hid (vrow_one m)
    have HA := Lib.hid (add_any (h.keep hb1) l hat hl3 hb0 (hw0.trans (hb1.mono hbs)) hrl i hi m hm8 hms hsh.short)
    have HM := Lib.hid (show Mv w w1 (Lv bp M) (Lv bp M) from Mv.of_below hb1)
    have Hw1 := Lib.hid hw1
    have HBe := Lib.hid hB
    have HJ := Lib.hid (show joinM K place c [] lits.length m = [m] from rfl)
    clear hv1 hv2 hv3 hx3 hx4 hx5 hw1 hb1 hB h hw0 hli hkn hsh hms hm8 hbs
    rw [HJ.out]
    obtain ⟨X, hX⟩ : ∃ X, X = vrow m := ⟨_, rfl⟩
    rw [← hX] at HX HV HSx Hw1 HA ⊢
    clear hX
    obtain ⟨nn, hnn⟩ : ∃ x, x = lits.length := ⟨_, rfl⟩
    rw [← hnn]
    clear hnn HJ hk
    go_enter Try.func123, Try.ntmps123
    go_wp2_with (first | (refine wpList_load_row rfl 200 (.tmp 13) rfl B rfl 200 X (0, 0) _ HV.out undVals rfl HSx.out ?_) | (rw [← Hw1.out, ← HBe.out]; refine wpList_load_row rfl 200 (.tmp 13) rfl B rfl 200 X (0, 0) _ HV.out undVals rfl HSx.out ?_))
    refine HA.out.mono ?_
    rintro e wz ⟨rfl, M9, h91, h92, h94⟩
    go_wp2_with fail
    refine bodyPost_ret (results_none rfl _ _ _) rfl ?_
    exact ⟨rfl, M9, h91, HM.out.trans h92, h94⟩
  | succ n ih =>
    intro k hk m hm8 hms bnd w M S h hw0 hli hkn hsh
    have hkl : k < lits.length := by omega
    have Ih := Lib.hid (ih (k + 1) (by omega))
    clear ih
    obtain ⟨⟨ar, aA1⟩, ha⟩ : ∃ a, a = lits[k] := ⟨_, rfl⟩
    have haM : (ar, aA1) ∈ lits := by rw [ha]; exact List.getElem_mem hkl
    have Hat := Lib.hid (hlat _ haM)
    rw [List.drop_eq_getElem_cons hkl, ← ha] at hms hsh ⊢
    have hD := Hat.out.1
    obtain ⟨tn, rfl⟩ : ∃ tn : Nat, ar = (tn : Int) := ⟨ar.toNat, by simp only at hD; omega⟩
    have htn : tn < 6 := by simp only at hD; omega
    clear hD
    obtain ⟨kn, hknn⟩ : ∃ x, x = (K tn).length := ⟨_, rfl⟩
    have hbs : base ≤ w.heap.size := Nat.le_trans (h.ge bp (.inl rfl)) (Nat.le_of_lt h.bpLt)
    have hSK : S.R (297 + tn) = K tn := hkn tn htn
    obtain ⟨ya, yn, yc, hy⟩ := oq_form (h.rows (297 + tn) (.inr ⟨by omega, by omega⟩))
    obtain rfl : yn = kn := by
      obtain ⟨a', c', e'⟩ := (h.rows (297 + tn) (.inr ⟨by omega, by omega⟩)).slice
      rw [hy] at e'
      injection e' with _ e2
      rw [e2, hSK, hknn]
    have hyn : yn ≤ 5000000000 := by
      have := hsh.short.2 (297 + tn)
      rw [hSK] at this
      omega
    obtain ⟨B, hB⟩ : ∃ x, x = w.heap.size := ⟨_, rfl⟩
    obtain ⟨w1, hw1⟩ : ∃ x, x = w.alloc (.cells (vrow m) 200) := ⟨_, rfl⟩
    have hb1 : Below w.heap.size w w1 := by rw [hw1]; exact below_alloc _ _
    have HV := Lib.hid (show w1.heap[B]? = some (.cells (vrow m) 200 (0, 0)) from by rw [hw1, hB]; exact heap_alloc_new _ _)
    have HSx := Lib.hid (show (Try.prog.info? 200).map (·.size) = some (vrow m).size from by rw [vrow_size, hm8]; exact sizeVals)
    have HX := Lib.hid (vrow_one m)
    have hl1 := hli.move (Mv.of_below hb1)
    have hw01 := hw0.trans (hb1.mono hbs)
    obtain ⟨ua, b, off, cap, vs, rfl, hle, hia, hcap, hc⟩ := Atoms.get (hl1.own.atoms (hb0 ▸ hw01))
    have hix := run_ix (P := Try.prog) (t := 197) (a := ua) (len := lits.length) (cap := cap) (b := b) (off := off) (s := 2) Try.underlying197 (by intro w; kernel_rfl) hia
    have hixk := fun w => hix k w hkl
    have e1 : aR lits k = (tn : Int) := by unfold aR; rw [List.getD_eq_getElem?_getD, List.getElem?_eq_getElem hkl, ← ha]; rfl
    have e2 : aA lits k = aA1 := by unfold aA; rw [List.getD_eq_getElem?_getD, List.getElem?_eq_getElem hkl, ← ha]; rfl
    obtain ⟨q0, q1, q2⟩ := hc k hkl
    rw [e1] at q0
    rw [e2] at q2
    have gk := (h.keep hb1).cellR (j := 297 + tn) (.inr ⟨by omega, by omega⟩)
    rw [hy] at gk
    have H := Lib.hid (h.keep hb1)
    have HW1 := Lib.hid hw01
    have HL1 := Lib.hid hl1
    have HM1 := Lib.hid (show Mv w w1 (Lv bp M) (Lv bp M) from Mv.of_below hb1)
    have HBL := Lib.hid (show ¬ Lv bp M B from fun e => by have := h.lvLt e; omega)
    have Hw1 := Lib.hid hw1
    have HBe := Lib.hid hB
    have Hy := Lib.hid hy
    have Hms := Lib.hid hms
    have Hsh := Lib.hid hsh
    have Hkn := Lib.hid hkn
    have Hknn := Lib.hid hknn
    have Hm8 := Lib.hid hm8
    have Ha := Lib.hid (show lits.drop k = (((tn : Int), aA1) : RAt) :: lits.drop (k + 1) from by rw [List.drop_eq_getElem_cons hkl, ← ha])
    have HaM := Lib.hid haM
    have Hc := Lib.hid hc
    have Hix := Lib.hid hix
    have hkq : ((k : Int) == (lits.length : Int)) = false := by rw [beq_eq_false_iff_ne]; omega
    clear h hw0 hli hkn hsh hms hy hknn hb1 hw1 hB ha haM hl1 hw01 hc hix hia hcap hSK e1 e2 q1 q2
    obtain ⟨X, hX⟩ : ∃ X, X = vrow m := ⟨_, rfl⟩
    have HXe := Lib.hid hX
    rw [← hX] at HX HV HSx Hw1 ⊢
    clear hX hm8
    obtain ⟨nn, hnn⟩ : ∃ x, x = lits.length := ⟨_, rfl⟩
    have Hnn := Lib.hid hnn
    rw [← hnn] at hkq hixk hle ⊢
    have hkl2 : k < nn := by omega
    clear hnn hk hkl
    have htn2 : (tn : Int) < 6 := by omega
    obtain ⟨Q, hQ⟩ : ∃ Q, Q = lits.drop (k + 1) := ⟨_, rfl⟩
    have HQ := Lib.hid hQ
    rw [← hQ] at Hms Hsh Ih ⊢
    clear hQ
    go_enter Try.func123, Try.ntmps123
    go_upto_region 3 with (rw [← Hw1.out, ← HBe.out])
    go_quiet (fail)
    go_wp2_with fail
    clear gk q0
    go_loopw [37] (fun vi wr => ∃ (j : Nat) (M' : PMem) (bn : Nat), vi = .int .i64 j ∧ j ≤ yn ∧ PG base bn wr bp rl M' (addsS S i (rR l i) (joinP K place c ((tn : Int), aA1) Q k m j)) ∧ Mv w1 wr (Lv bp M) (Lv bp M') ∧ SameK M M' ∧ wr.heap[B]? = some (.cells X 200 (0, 0)) ∧ ¬ Lv bp M' B) (fun vi _ => yn - (intOf vi).toNat)
    case atStart => exact ⟨0, M, bnd, rfl, Nat.zero_le _, H.out.keep (bdrewN2 (Below.refl _ _) _), Mv.of_below (bdrewN2 (Below.refl _ _) _), .refl _, HV.out, HBL.out⟩
    case round =>
      generalize wr = wx at *
      obtain ⟨j, M', bn, rfl, hj, hp, hm, hs, hv, hnb⟩ := hrel
      have HP := Lib.hid hp
      have HM := Lib.hid hm
      have HS := Lib.hid hs
      have HVx := Lib.hid hv
      have HNb := Lib.hid hnb
      clear hp hm hs hv hnb
      by_cases hlt : j < yn
      · have hrow := (HP.out.rows (297 + tn) (.inr ⟨by omega, by omega⟩)).ints
        rw [HS.out _ (by omega) (by omega), Hy.out] at hrow
        have hR : (addsS S i (rR l i) (joinP K place c ((tn : Int), aA1) Q k m j)).R (297 + tn) = K tn := by
          rw [addsS_known (fun b hb => (hat _ (by rw [rR_get hi]; exact List.getElem_mem hi)).2 b hb) (by omega) (by omega) _ _ fun x hx => ?_]
          · exact Hkn.out tn htn
          · obtain ⟨t, ht⟩ := joinP_part K place c ((tn : Int), aA1) Q k m j
            exact Hms.out x (by rw [ht]; exact List.mem_append_left _ hx)
        rw [hR] at hrow
        have Hrow := Lib.hid hrow
        obtain ⟨a5, b5, off5, cap5, he5, hle5, hia5, hc5⟩ := Ints.get hrow
        have hjK : j < (K tn).length := by rw [← Hknn.out]; exact hlt
        have hc6 := hc5 j hjK
        clear hc5
        rw [← Hknn.out] at he5 hle5 hia5
        injection he5 with e51 e52 e53
        subst e51 e53
        have hix5 := fun w => run_ix (P := Try.prog) (t := 23) (a := ya) (len := yn) (cap := yc) (b := b5) (off := off5) (s := 1) Try.underlying23 (by intro w; kernel_rfl) hia5 j w hlt
        simp only [Nat.mul_one] at hix5
        obtain ⟨x, hx⟩ : ∃ x, x = (K tn).getD j 0 := ⟨_, rfl⟩
        have hxe : (K tn)[j] = x := by rw [hx, List.getD_eq_getElem?_getD, List.getElem?_eq_getElem hjK]; rfl
        rw [hxe] at hc6
        have HPs := Lib.hid (show joinP K place c ((tn : Int), aA1) Q k m (j + 1) = joinP K place c ((tn : Int), aA1) Q k m j ++ joinB K place c ((tn : Int), aA1) Q k m x from by rw [joinP_succ hjK, hx]; rfl)
        have HxF := Lib.hid (show ∃ f, FcR f ∧ pcd f = x from hK tn htn x (by rw [← hxe]; exact List.getElem_mem hjK))
        clear hx hxe hjK hrow hR hia5 hle5 e52
        cases hsk : skipJ k place x c with
        | true =>
          have HB := Lib.hid (show joinB K place c ((tn : Int), aA1) Q k m x = [] from by unfold joinB; rw [if_pos hsk])
          have HR := Lib.hid (show joinP K place c ((tn : Int), aA1) Q k m (j + 1) = joinP K place c ((tn : Int), aA1) Q k m j from by rw [HPs.out, HB.out, List.append_nil])
          unfold skipJ at hsk
          by_cases c1 : k < place
          · have d1 : ((k : Int) < (place : Int)) := by omega
            have d2 : (x == c) = true := by
              have : (k == place) = false := by rw [beq_eq_false_iff_ne]; omega
              simpa [c1, this] using hsk
            have d2' : x = c := by simpa using d2
            subst d2'
            clear hsk
            go_wp2_with fail
            go_roundw
            case rel => exact ⟨j + 1, M', bn, by go_num, by omega, by rw [HR.out]; exact HP.out, HM.out, HS.out, HVx.out, HNb.out⟩
            case measure => simp [intOf]; omega
          · have d1 : ¬ ((k : Int) < (place : Int)) := by omega
            have d3 : k = place := by
              by_cases e : k = place
              · exact e
              · have e' : (k == place) = false := by rw [beq_eq_false_iff_ne]; exact e
                simp [c1, e'] at hsk
            have d4 : (x == c) = false := by
              rw [beq_eq_false_iff_ne]
              intro e
              simp [c1, e] at hsk
            have d5 : (x != c) = true := by simp [bne, d4]
            subst d3
            clear hsk
            go_wp2_with fail
            go_roundw
            case rel => exact ⟨j + 1, M', bn, by go_num, by omega, by rw [HR.out]; exact HP.out, HM.out, HS.out, HVx.out, HNb.out⟩
            case measure => simp [intOf]; omega
        | false =>
          go_upto_region 6 with fail
          go_cut [58] (fun v wc => v = .bool false ∧ wc = wx)
          case first =>
            unfold skipJ at hsk
            by_cases c1 : k < place
            · have d1 : ((k : Int) < (place : Int)) := by omega
              have d3 : ((k : Int) == (place : Int)) = false := by rw [beq_eq_false_iff_ne]; omega
              have d2 : (x == c) = false := by
                cases e : (x == c) with
                | false => rfl
                | true => simp [c1, e] at hsk
              clear hsk
              go_wp2_with fail
              go_meet
              exact ⟨rfl, rfl⟩
            · have d1 : ¬ ((k : Int) < (place : Int)) := by omega
              by_cases c2 : k = place
              · have d2 : x = c := by
                  cases e : (x == c) with
                  | true => simpa using e
                  | false => exact absurd hsk (by simp [bne, c2, e])
                subst c2 d2
                clear hsk
                go_wp2_with fail
                go_meet
                exact ⟨rfl, rfl⟩
              · have d3 : ((k : Int) == (place : Int)) = false := by rw [beq_eq_false_iff_ne]; omega
                clear hsk
                go_wp2_with fail
                go_meet
                exact ⟨rfl, rfl⟩
          case rest =>
            obtain ⟨rfl, hwc⟩ := hcut
            obtain rfl : wx = wc := hwc.symm
            go_upto_region 7 with fail
            go_cut [16, 17] (fun o z wc => ∃ (bq : Nat) (y : List Int) (Bb : Bool), o = .pointer (some ⟨bq, 0, none⟩) ∧ z = .bool Bb ∧ ExR m ((tn : Int), aA1) (unpc x) y Bb ∧ wc.heap[bq]? = some (.cells (vrow y) 200 (0, 0)) ∧ wx.heap.size ≤ bq ∧ Below wx.heap.size wx wc)
            case first =>
              clear hlt hix5 hc6 hixk
              have hw0x : Below base w0 wx := HW1.out.trans (HM.out.below (Nat.le_trans hbs (by have := HM1.out.size; omega)) H.out.ge)
              obtain ⟨ua7, b7, off7, cap7, vs7, he7, hle7, hia7, hcap7, hc7⟩ := Atoms.get ((HL1.out.move HM.out).own.atoms (hb0 ▸ hw0x))
              have hkl7 : k < lits.length := by rw [← Hnn.out]; exact hkl2
              have hc7 := hc7 k hkl7
              have e1 : aR lits k = (tn : Int) := by
                have := congrArg List.head? Ha.out
                rw [List.head?_drop] at this
                unfold aR; rw [List.getD_eq_getElem?_getD, this]; rfl
              have e2 : aA lits k = aA1 := by
                have := congrArg List.head? Ha.out
                rw [List.head?_drop] at this
                unfold aA; rw [List.getD_eq_getElem?_getD, this]; rfl
              rw [e1, e2] at hc7
              obtain ⟨q0, q1, q2⟩ := hc7
              rw [← Hnn.out] at he7 hia7
              injection he7 with f1 f2 f3
              subst f1 f3
              have hix7 := fun w => run_ix (P := Try.prog) (t := 197) (a := ua) (len := nn) (cap := cap) (b := b7) (off := off7) (s := 2) Try.underlying197 (by intro w; kernel_rfl) hia7 k w hkl2
              obtain ⟨va, vc, hva⟩ := ints_slice q2
              obtain ⟨vn, hvn⟩ : ∃ x, x = aA1.length := ⟨_, rfl⟩
              rw [hva, ← hvn] at q1 q2
              obtain ⟨HF1, HF2⟩ := unpc_spec HxF.out
              have HF1 := Lib.hid HF1
              have HF2 := Lib.hid HF2
              have Hz := Lib.hid q2
              have HAb := Lib.hid (show ∀ i, i < aA1.length → -9 ≤ aA1.getD i 0 ∧ aA1.getD i 0 ≤ 7 from fun i hi => by
                rw [List.getD_eq_getElem?_getD, List.getElem?_eq_getElem hi]
                have := Hat.out.2.2 _ (List.getElem_mem hi)
                simp only [Option.getD_some]
                omega)
              have HSk := Lib.hid (fun (w' : World) (hb : Below wx.heap.size wx w') => show w'.heap[B]? = some (.cells X 200 (0, 0)) ∧ w'.cell? ⟨b7, off7 + k * 2, none⟩ = some (.int .i64 (tn : Int)) ∧ w'.cell? ⟨b7, off7 + k * 2 + 1, none⟩ = some (.slice va vn vc) from ⟨blk_keep2 HVx.out hb, Below.keep hb q0, Below.keep hb q1⟩)
              have HS0 := Lib.hid (HSk.out wx.drew (Below.refl _ _).drew)
              have HW0 := Lib.hid (show Below wx.heap.size wx wx.drew from (Below.refl _ _).drew)
              clear hle7 hcap7 hkl7 e1 e2 hva hvn q0 q1 q2 f2 hia7 hw0x
              refine wp_region_held (S := fun w' => w'.heap[B]? = some (.cells X 200 (0, 0)) ∧ w'.cell? ⟨b7, off7 + k * 2, none⟩ = some (.int .i64 (tn : Int)) ∧ w'.cell? ⟨b7, off7 + k * 2 + 1, none⟩ = some (.slice va vn vc)) wideK ?_
              change wpAnyH _ _ _ _ _ _ _ _ (World.drew _)
              generalize wx.drew = wd0 at *
              refine wpAnyH_take (i := 1) (v := ?_) rfl (by kernel_rfl) (by kernel_rfl) (by kernel_rfl) (fun _ _ _ h => h) (Or.inl ⟨by rfl, ?_⟩) HS0.out ?_
              rotate_left
              focus (intro w hS; clear hS; first | (go_simp; done) | (go_simp; with_reducible rfl))
              simp only [Act.put, List.getElem_toArray, List.getElem_cons_zero, List.getElem_cons_succ, List.setIfInBounds_toArray, List.set_cons_zero, List.set_cons_succ]
              refine wpAnyH_take (i := 2) (v := ?_) rfl (by kernel_rfl) (by kernel_rfl) (by kernel_rfl) (fun _ _ _ h => h) (Or.inl ⟨by rfl, ?_⟩) HS0.out ?_
              rotate_left
              focus (intro w hS; clear hS; first | (go_simp; done) | (go_simp; with_reducible rfl))
              simp only [Act.put, List.getElem_toArray, List.getElem_cons_zero, List.getElem_cons_succ, List.setIfInBounds_toArray, List.set_cons_zero, List.set_cons_succ]
              refine wpAnyH_take (i := 3) (v := ?_) rfl (by kernel_rfl) (by kernel_rfl) (by kernel_rfl) (fun _ _ _ h => h) (Or.inl ⟨by rfl, ?_⟩) HS0.out ?_
              rotate_left
              focus (intro w hS; clear hS; first | (go_simp; done) | (go_simp; with_reducible rfl))
              simp only [Act.put, List.getElem_toArray, List.getElem_cons_zero, List.getElem_cons_succ, List.setIfInBounds_toArray, List.set_cons_zero, List.set_cons_succ]
              refine wpAnyH_take (i := 4) (v := ?_) rfl (by kernel_rfl) (by kernel_rfl) (by kernel_rfl) (fun _ _ _ h => h) (Or.inl ⟨by rfl, ?_⟩) HS0.out ?_
              rotate_left
              focus (intro w hS; have s0 := hS.2.1; have s1 := hS.2.2; clear hS; first | (go_simp; done) | (go_simp; with_reducible rfl))
              simp only [Act.put, List.getElem_toArray, List.getElem_cons_zero, List.getElem_cons_succ, List.setIfInBounds_toArray, List.set_cons_zero, List.set_cons_succ]
              refine wpAnyH_take (i := 5) (v := ?_) rfl (by kernel_rfl) (by kernel_rfl) (by kernel_rfl) (fun _ _ _ h => h) (Or.inl ⟨by rfl, ?_⟩) HS0.out ?_
              rotate_left
              focus (intro w hS; clear hS; first | (go_simp; done) | (go_simp; with_reducible rfl))
              simp only [Act.put, List.getElem_toArray, List.getElem_cons_zero, List.getElem_cons_succ, List.setIfInBounds_toArray, List.set_cons_zero, List.set_cons_succ]
              refine wpAnyH_ready (rs := [0, 6, 11]) (by kernel_rfl) (by simp) ?_
              refine RdyH.cons rfl (fun K2 hK => ?_) ?_
              · refine step_load_row rfl 200 (.tmp 13) rfl B rfl 200 X (0, 0) _ HS0.out.1 undVals rfl HSx.out ?_
                refine hK _ _ HS0.out ?_
                clear hK K2
                refine wpAnyH_ready (rs := [6, 11]) (by kernel_rfl) (by simp) ?_
                refine RdyH.cons rfl (fun K2 hK => ?_) ?_
                · go_simp
                  go_at_call 127
                  refine (fact_any (unpc x) HF1.out x HF2.out.symm wd0).mono ?_
                  rintro e wd1 ⟨fa, fn, fk, rfl, ho, hb⟩
                  have HG1 := Lib.hid ho.ints
                  have HW1 := Lib.hid (Below.tr HW0.out hb)
                  have HS1 := Lib.hid (HSk.out _ HW1.out)
                  obtain ⟨f1, hf1⟩ : ∃ y, y = (unpc x).1 := ⟨_, rfl⟩
                  have Hf1 := Lib.hid hf1
                  rw [← hf1]
                  clear ho hb hf1
                  go_simp
                  refine hK _ _ HS1.out ?_
                  clear hK K2
                  refine wpAnyH_ready (rs := [7, 11]) (by kernel_rfl) (by simp) ?_
                  refine RdyH.cons rfl (fun K2 hK => ?_) ?_
                  · go_simp
                    go_at_call 143
                    have hbc := extend_any m Hm8.out (tn : Int) aA1 HAb.out (.slice va vn vc) f1 (unpc x).2 (.slice fa fn fk) wd1 (Ints.keep Hz.out HW1.out) HG1.out
                    rw [← HXe.out] at hbc
                    refine hbc.mono ?_
                    clear hbc
                    rintro e wd2 ⟨y, Bb, rfl, hex, hb⟩
                    rw [Hf1.out] at hex
                    have HE := Lib.hid hex
                    have HW2 := Lib.hid (Below.tr HW1.out hb)
                    have HS2 := Lib.hid (HSk.out _ HW2.out)
                    have HYo := Lib.hid (vrow_one y)
                    have HYs := Lib.hid (show (Try.prog.info? 200).map (·.size) = some (vrow y).size from by rw [vrow_size, hex.1]; exact sizeVals)
                    have HY8 := Lib.hid (show (vrow y).size = 8 from by rw [vrow_size, hex.1])
                    obtain ⟨Y, hY⟩ : ∃ Y, Y = vrow y := ⟨_, rfl⟩
                    have HYe := Lib.hid hY
                    rw [← hY] at HYo HYs HY8 ⊢
                    clear hY hb hex
                    go_simp
                    refine hK _ _ HS2.out ?_
                    clear hK K2
                    refine wpAnyH_take (i := 8) (v := ?_) rfl (by kernel_rfl) (by kernel_rfl) (by kernel_rfl) (fun _ _ _ h => h) (Or.inl ⟨by rfl, ?_⟩) HS2.out ?_
                    rotate_left
                    focus (intro w hS; clear hS; first | (go_simp; done) | (go_simp; with_reducible rfl))
                    simp only [Act.put, List.getElem_toArray, List.getElem_cons_zero, List.getElem_cons_succ, List.setIfInBounds_toArray, List.set_cons_zero, List.set_cons_succ]
                    refine wpAnyH_take (i := 9) (v := ?_) rfl (by kernel_rfl) (by kernel_rfl) (by kernel_rfl) (fun _ _ _ h => h) (Or.inl ⟨by rfl, ?_⟩) HS2.out ?_
                    rotate_left
                    focus (intro w hS; clear hS; first | (go_simp; done) | (go_simp; with_reducible rfl))
                    simp only [Act.put, List.getElem_toArray, List.getElem_cons_zero, List.getElem_cons_succ, List.setIfInBounds_toArray, List.set_cons_zero, List.set_cons_succ]
                    refine wpAnyH_take (i := 10) (v := ?_) rfl (by kernel_rfl) (by kernel_rfl) (by kernel_rfl) (fun _ _ _ h => h) (Or.inl ⟨by rfl, ?_⟩) HS2.out ?_
                    rotate_left
                    focus (intro w hS; clear hS; first | (go_simp; done) | (go_simp; with_reducible rfl))
                    simp only [Act.put, List.getElem_toArray, List.getElem_cons_zero, List.getElem_cons_succ, List.setIfInBounds_toArray, List.set_cons_zero, List.set_cons_succ]
                    refine wpAnyH_ready (rs := [11]) (by kernel_rfl) (by simp) ?_
                    refine RdyH.cons rfl (fun K2 hK => ?_) RdyH.nil
                    obtain ⟨wd3, hwd⟩ : ∃ x, x = wd2.alloc (.cells #[.int .i64 0, .int .i64 0, .int .i64 0, .int .i64 0, .int .i64 0, .int .i64 0, .int .i64 0, .int .i64 0] 200) := ⟨_, rfl⟩
                    have hb : Below wd2.heap.size wd2 wd3 := by rw [hwd]; exact below_alloc _ _
                    obtain ⟨bq, hbq⟩ : ∃ x, x = wd2.heap.size := ⟨_, rfl⟩
                    have HI3 := Lib.hid (show wd3.heap[bq]? = some (.cells #[.int .i64 0, .int .i64 0, .int .i64 0, .int .i64 0, .int .i64 0, .int .i64 0, .int .i64 0, .int .i64 0] 200 (0, 0)) from by rw [hwd, hbq]; exact heap_alloc_new _ _)
                    have HW3 := Lib.hid (Below.tr HW2.out hb)
                    have HS3 := Lib.hid (HSk.out _ HW3.out)
                    have Hbq := Lib.hid (show wx.heap.size ≤ bq from by rw [hbq]; exact HW2.out.size)
                    go_simp
                    rw [← hwd, ← hbq]
                    clear hwd hbq hb
                    refine hK _ _ HS3.out ?_
                    clear hK K2
                    refine wpAnyH_ready (rs := [12]) (by kernel_rfl) (by simp) ?_
                    refine RdyH.cons rfl (fun K2 hK => ?_) RdyH.nil
                    refine step_store_row rfl 200 (.tmp 16) (.tmp 68) rfl bq Y rfl rfl 200 _ HI3.out HYs.out HY8.out.symm HYo.out ?_
                    have HI4 := Lib.hid (setRow_heap wd3 bq _ Y _ _ HI3.out)
                    have HW4 := Lib.hid (below_setRow (b := bq) HW3.out Hbq.out Y)
                    generalize wd3.setRow bq Y = wd4 at *
                    have HS4 := Lib.hid (HSk.out _ HW4.out)
                    refine hK _ _ HS4.out ?_
                    clear hK K2
                    refine wpAnyH_take (i := 13) (v := ?_) rfl (by kernel_rfl) (by kernel_rfl) (by kernel_rfl) (fun _ _ _ h => h) (Or.inl ⟨by rfl, ?_⟩) HS4.out ?_
                    rotate_left
                    focus (intro w hS; clear hS; first | (go_simp; done) | (go_simp; with_reducible rfl))
                    simp only [Act.put, List.getElem_toArray, List.getElem_cons_zero, List.getElem_cons_succ, List.setIfInBounds_toArray, List.set_cons_zero, List.set_cons_succ]
                    refine wpAnyH_done (by kernel_rfl) ?_ _
                    go_wp2_with fail
                    go_meet
                    exact ⟨bq, y, Bb, rfl, rfl, HE.out, by rw [← HYe.out]; exact HI4.out, Hbq.out, HW4.out⟩
                  · refine RdyH.cons rfl (fun K2 hK => ?_) RdyH.nil
                    obtain ⟨wd2, hwd⟩ : ∃ x, x = wd1.alloc (.cells #[.int .i64 0, .int .i64 0, .int .i64 0, .int .i64 0, .int .i64 0, .int .i64 0, .int .i64 0, .int .i64 0] 200) := ⟨_, rfl⟩
                    have hb : Below wd1.heap.size wd1 wd2 := by rw [hwd]; exact below_alloc _ _
                    obtain ⟨bq, hbq⟩ : ∃ x, x = wd1.heap.size := ⟨_, rfl⟩
                    have HI2 := Lib.hid (show wd2.heap[bq]? = some (.cells #[.int .i64 0, .int .i64 0, .int .i64 0, .int .i64 0, .int .i64 0, .int .i64 0, .int .i64 0, .int .i64 0] 200 (0, 0)) from by rw [hwd, hbq]; exact heap_alloc_new _ _)
                    have HW2 := Lib.hid (Below.tr HW1.out hb)
                    have HS2 := Lib.hid (HSk.out _ HW2.out)
                    have Hbq := Lib.hid (show wx.heap.size ≤ bq from by rw [hbq]; exact HW1.out.size)
                    have HG2 := Lib.hid (Ints.keep HG1.out hb)
                    go_simp
                    rw [← hwd, ← hbq]
                    clear hwd hbq hb
                    refine hK _ _ HS2.out ?_
                    clear hK K2
                    refine wpAnyH_ready (rs := [7]) (by kernel_rfl) (by simp) ?_
                    refine RdyH.cons rfl (fun K2 hK => ?_) RdyH.nil
                    go_simp
                    go_at_call 143
                    have hbc := extend_any m Hm8.out (tn : Int) aA1 HAb.out (.slice va vn vc) f1 (unpc x).2 (.slice fa fn fk) wd2 (Ints.keep Hz.out HW2.out) HG2.out
                    rw [← HXe.out] at hbc
                    refine hbc.mono ?_
                    clear hbc
                    rintro e wd3 ⟨y, Bb, rfl, hex, hb⟩
                    rw [Hf1.out] at hex
                    have HE := Lib.hid hex
                    have HW3 := Lib.hid (Below.tr HW2.out hb)
                    have HS3 := Lib.hid (HSk.out _ HW3.out)
                    have HI3 := Lib.hid (blk_keep2 HI2.out hb)
                    have HYo := Lib.hid (vrow_one y)
                    have HYs := Lib.hid (show (Try.prog.info? 200).map (·.size) = some (vrow y).size from by rw [vrow_size, hex.1]; exact sizeVals)
                    have HY8 := Lib.hid (show (vrow y).size = 8 from by rw [vrow_size, hex.1])
                    obtain ⟨Y, hY⟩ : ∃ Y, Y = vrow y := ⟨_, rfl⟩
                    have HYe := Lib.hid hY
                    rw [← hY] at HYo HYs HY8 ⊢
                    clear hY hb hex
                    go_simp
                    refine hK _ _ HS3.out ?_
                    clear hK K2
                    refine wpAnyH_take (i := 8) (v := ?_) rfl (by kernel_rfl) (by kernel_rfl) (by kernel_rfl) (fun _ _ _ h => h) (Or.inl ⟨by rfl, ?_⟩) HS3.out ?_
                    rotate_left
                    focus (intro w hS; clear hS; first | (go_simp; done) | (go_simp; with_reducible rfl))
                    simp only [Act.put, List.getElem_toArray, List.getElem_cons_zero, List.getElem_cons_succ, List.setIfInBounds_toArray, List.set_cons_zero, List.set_cons_succ]
                    refine wpAnyH_take (i := 9) (v := ?_) rfl (by kernel_rfl) (by kernel_rfl) (by kernel_rfl) (fun _ _ _ h => h) (Or.inl ⟨by rfl, ?_⟩) HS3.out ?_
                    rotate_left
                    focus (intro w hS; clear hS; first | (go_simp; done) | (go_simp; with_reducible rfl))
                    simp only [Act.put, List.getElem_toArray, List.getElem_cons_zero, List.getElem_cons_succ, List.setIfInBounds_toArray, List.set_cons_zero, List.set_cons_succ]
                    refine wpAnyH_take (i := 10) (v := ?_) rfl (by kernel_rfl) (by kernel_rfl) (by kernel_rfl) (fun _ _ _ h => h) (Or.inl ⟨by rfl, ?_⟩) HS3.out ?_
                    rotate_left
                    focus (intro w hS; clear hS; first | (go_simp; done) | (go_simp; with_reducible rfl))
                    simp only [Act.put, List.getElem_toArray, List.getElem_cons_zero, List.getElem_cons_succ, List.setIfInBounds_toArray, List.set_cons_zero, List.set_cons_succ]
                    refine wpAnyH_ready (rs := [12]) (by kernel_rfl) (by simp) ?_
                    refine RdyH.cons rfl (fun K2 hK => ?_) RdyH.nil
                    refine step_store_row rfl 200 (.tmp 16) (.tmp 68) rfl bq Y rfl rfl 200 _ HI3.out HYs.out HY8.out.symm HYo.out ?_
                    have HI4 := Lib.hid (setRow_heap wd3 bq _ Y _ _ HI3.out)
                    have HW4 := Lib.hid (below_setRow (b := bq) HW3.out Hbq.out Y)
                    generalize wd3.setRow bq Y = wd4 at *
                    have HS4 := Lib.hid (HSk.out _ HW4.out)
                    refine hK _ _ HS4.out ?_
                    clear hK K2
                    refine wpAnyH_take (i := 13) (v := ?_) rfl (by kernel_rfl) (by kernel_rfl) (by kernel_rfl) (fun _ _ _ h => h) (Or.inl ⟨by rfl, ?_⟩) HS4.out ?_
                    rotate_left
                    focus (intro w hS; clear hS; first | (go_simp; done) | (go_simp; with_reducible rfl))
                    simp only [Act.put, List.getElem_toArray, List.getElem_cons_zero, List.getElem_cons_succ, List.setIfInBounds_toArray, List.set_cons_zero, List.set_cons_succ]
                    refine wpAnyH_done (by kernel_rfl) ?_ _
                    go_wp2_with fail
                    go_meet
                    exact ⟨bq, y, Bb, rfl, rfl, HE.out, by rw [← HYe.out]; exact HI4.out, Hbq.out, HW4.out⟩
                · refine RdyH.cons rfl (fun K2 hK => ?_) RdyH.nil
                  obtain ⟨wd1, hwd⟩ : ∃ x, x = wd0.alloc (.cells #[.int .i64 0, .int .i64 0, .int .i64 0, .int .i64 0, .int .i64 0, .int .i64 0, .int .i64 0, .int .i64 0] 200) := ⟨_, rfl⟩
                  have hb : Below wd0.heap.size wd0 wd1 := by rw [hwd]; exact below_alloc _ _
                  obtain ⟨bq, hbq⟩ : ∃ x, x = wd0.heap.size := ⟨_, rfl⟩
                  have HI1 := Lib.hid (show wd1.heap[bq]? = some (.cells #[.int .i64 0, .int .i64 0, .int .i64 0, .int .i64 0, .int .i64 0, .int .i64 0, .int .i64 0, .int .i64 0] 200 (0, 0)) from by rw [hwd, hbq]; exact heap_alloc_new _ _)
                  have HW1 := Lib.hid (Below.tr HW0.out hb)
                  have HS1 := Lib.hid (HSk.out _ HW1.out)
                  have Hbq := Lib.hid (show wx.heap.size ≤ bq from by rw [hbq]; exact HW0.out.size)
                  go_simp
                  rw [← hwd, ← hbq]
                  clear hwd hbq hb
                  refine hK _ _ HS1.out ?_
                  clear hK K2
                  refine wpAnyH_ready (rs := [6]) (by kernel_rfl) (by simp) ?_
                  refine RdyH.cons rfl (fun K2 hK => ?_) RdyH.nil
                  go_simp
                  go_at_call 127
                  refine (fact_any (unpc x) HF1.out x HF2.out.symm wd1).mono ?_
                  rintro e wd2 ⟨fa, fn, fk, rfl, ho, hb⟩
                  have HG2 := Lib.hid ho.ints
                  have HW2 := Lib.hid (Below.tr HW1.out hb)
                  have HS2 := Lib.hid (HSk.out _ HW2.out)
                  have HI2 := Lib.hid (blk_keep2 HI1.out hb)
                  obtain ⟨f1, hf1⟩ : ∃ y, y = (unpc x).1 := ⟨_, rfl⟩
                  have Hf1 := Lib.hid hf1
                  rw [← hf1]
                  clear ho hb hf1
                  go_simp
                  refine hK _ _ HS2.out ?_
                  clear hK K2
                  refine wpAnyH_ready (rs := [7]) (by kernel_rfl) (by simp) ?_
                  refine RdyH.cons rfl (fun K2 hK => ?_) RdyH.nil
                  go_simp
                  go_at_call 143
                  have hbc := extend_any m Hm8.out (tn : Int) aA1 HAb.out (.slice va vn vc) f1 (unpc x).2 (.slice fa fn fk) wd2 (Ints.keep Hz.out HW2.out) HG2.out
                  rw [← HXe.out] at hbc
                  refine hbc.mono ?_
                  clear hbc
                  rintro e wd3 ⟨y, Bb, rfl, hex, hb⟩
                  rw [Hf1.out] at hex
                  have HE := Lib.hid hex
                  have HW3 := Lib.hid (Below.tr HW2.out hb)
                  have HS3 := Lib.hid (HSk.out _ HW3.out)
                  have HI3 := Lib.hid (blk_keep2 HI2.out hb)
                  have HYo := Lib.hid (vrow_one y)
                  have HYs := Lib.hid (show (Try.prog.info? 200).map (·.size) = some (vrow y).size from by rw [vrow_size, hex.1]; exact sizeVals)
                  have HY8 := Lib.hid (show (vrow y).size = 8 from by rw [vrow_size, hex.1])
                  obtain ⟨Y, hY⟩ : ∃ Y, Y = vrow y := ⟨_, rfl⟩
                  have HYe := Lib.hid hY
                  rw [← hY] at HYo HYs HY8 ⊢
                  clear hY hb hex
                  go_simp
                  refine hK _ _ HS3.out ?_
                  clear hK K2
                  refine wpAnyH_take (i := 8) (v := ?_) rfl (by kernel_rfl) (by kernel_rfl) (by kernel_rfl) (fun _ _ _ h => h) (Or.inl ⟨by rfl, ?_⟩) HS3.out ?_
                  rotate_left
                  focus (intro w hS; clear hS; first | (go_simp; done) | (go_simp; with_reducible rfl))
                  simp only [Act.put, List.getElem_toArray, List.getElem_cons_zero, List.getElem_cons_succ, List.setIfInBounds_toArray, List.set_cons_zero, List.set_cons_succ]
                  refine wpAnyH_take (i := 9) (v := ?_) rfl (by kernel_rfl) (by kernel_rfl) (by kernel_rfl) (fun _ _ _ h => h) (Or.inl ⟨by rfl, ?_⟩) HS3.out ?_
                  rotate_left
                  focus (intro w hS; clear hS; first | (go_simp; done) | (go_simp; with_reducible rfl))
                  simp only [Act.put, List.getElem_toArray, List.getElem_cons_zero, List.getElem_cons_succ, List.setIfInBounds_toArray, List.set_cons_zero, List.set_cons_succ]
                  refine wpAnyH_take (i := 10) (v := ?_) rfl (by kernel_rfl) (by kernel_rfl) (by kernel_rfl) (fun _ _ _ h => h) (Or.inl ⟨by rfl, ?_⟩) HS3.out ?_
                  rotate_left
                  focus (intro w hS; clear hS; first | (go_simp; done) | (go_simp; with_reducible rfl))
                  simp only [Act.put, List.getElem_toArray, List.getElem_cons_zero, List.getElem_cons_succ, List.setIfInBounds_toArray, List.set_cons_zero, List.set_cons_succ]
                  refine wpAnyH_ready (rs := [12]) (by kernel_rfl) (by simp) ?_
                  refine RdyH.cons rfl (fun K2 hK => ?_) RdyH.nil
                  refine step_store_row rfl 200 (.tmp 16) (.tmp 68) rfl bq Y rfl rfl 200 _ HI3.out HYs.out HY8.out.symm HYo.out ?_
                  have HI4 := Lib.hid (setRow_heap wd3 bq _ Y _ _ HI3.out)
                  have HW4 := Lib.hid (below_setRow (b := bq) HW3.out Hbq.out Y)
                  generalize wd3.setRow bq Y = wd4 at *
                  have HS4 := Lib.hid (HSk.out _ HW4.out)
                  refine hK _ _ HS4.out ?_
                  clear hK K2
                  refine wpAnyH_take (i := 13) (v := ?_) rfl (by kernel_rfl) (by kernel_rfl) (by kernel_rfl) (fun _ _ _ h => h) (Or.inl ⟨by rfl, ?_⟩) HS4.out ?_
                  rotate_left
                  focus (intro w hS; clear hS; first | (go_simp; done) | (go_simp; with_reducible rfl))
                  simp only [Act.put, List.getElem_toArray, List.getElem_cons_zero, List.getElem_cons_succ, List.setIfInBounds_toArray, List.set_cons_zero, List.set_cons_succ]
                  refine wpAnyH_done (by kernel_rfl) ?_ _
                  go_wp2_with fail
                  go_meet
                  exact ⟨bq, y, Bb, rfl, rfl, HE.out, by rw [← HYe.out]; exact HI4.out, Hbq.out, HW4.out⟩
              · refine RdyH.cons rfl (fun K2 hK => ?_) ?_
                · go_simp
                  go_at_call 127
                  refine (fact_any (unpc x) HF1.out x HF2.out.symm wd0).mono ?_
                  rintro e wd1 ⟨fa, fn, fk, rfl, ho, hb⟩
                  have HG1 := Lib.hid ho.ints
                  have HW1 := Lib.hid (Below.tr HW0.out hb)
                  have HS1 := Lib.hid (HSk.out _ HW1.out)
                  obtain ⟨f1, hf1⟩ : ∃ y, y = (unpc x).1 := ⟨_, rfl⟩
                  have Hf1 := Lib.hid hf1
                  rw [← hf1]
                  clear ho hb hf1
                  go_simp
                  refine hK _ _ HS1.out ?_
                  clear hK K2
                  refine wpAnyH_ready (rs := [0, 11]) (by kernel_rfl) (by simp) ?_
                  refine RdyH.cons rfl (fun K2 hK => ?_) ?_
                  · refine step_load_row rfl 200 (.tmp 13) rfl B rfl 200 X (0, 0) _ HS1.out.1 undVals rfl HSx.out ?_
                    refine hK _ _ HS1.out ?_
                    clear hK K2
                    refine wpAnyH_ready (rs := [7, 11]) (by kernel_rfl) (by simp) ?_
                    refine RdyH.cons rfl (fun K2 hK => ?_) ?_
                    · go_simp
                      go_at_call 143
                      have hbc := extend_any m Hm8.out (tn : Int) aA1 HAb.out (.slice va vn vc) f1 (unpc x).2 (.slice fa fn fk) wd1 (Ints.keep Hz.out HW1.out) HG1.out
                      rw [← HXe.out] at hbc
                      refine hbc.mono ?_
                      clear hbc
                      rintro e wd2 ⟨y, Bb, rfl, hex, hb⟩
                      rw [Hf1.out] at hex
                      have HE := Lib.hid hex
                      have HW2 := Lib.hid (Below.tr HW1.out hb)
                      have HS2 := Lib.hid (HSk.out _ HW2.out)
                      have HYo := Lib.hid (vrow_one y)
                      have HYs := Lib.hid (show (Try.prog.info? 200).map (·.size) = some (vrow y).size from by rw [vrow_size, hex.1]; exact sizeVals)
                      have HY8 := Lib.hid (show (vrow y).size = 8 from by rw [vrow_size, hex.1])
                      obtain ⟨Y, hY⟩ : ∃ Y, Y = vrow y := ⟨_, rfl⟩
                      have HYe := Lib.hid hY
                      rw [← hY] at HYo HYs HY8 ⊢
                      clear hY hb hex
                      go_simp
                      refine hK _ _ HS2.out ?_
                      clear hK K2
                      refine wpAnyH_take (i := 8) (v := ?_) rfl (by kernel_rfl) (by kernel_rfl) (by kernel_rfl) (fun _ _ _ h => h) (Or.inl ⟨by rfl, ?_⟩) HS2.out ?_
                      rotate_left
                      focus (intro w hS; clear hS; first | (go_simp; done) | (go_simp; with_reducible rfl))
                      simp only [Act.put, List.getElem_toArray, List.getElem_cons_zero, List.getElem_cons_succ, List.setIfInBounds_toArray, List.set_cons_zero, List.set_cons_succ]
                      refine wpAnyH_take (i := 9) (v := ?_) rfl (by kernel_rfl) (by kernel_rfl) (by kernel_rfl) (fun _ _ _ h => h) (Or.inl ⟨by rfl, ?_⟩) HS2.out ?_
                      rotate_left
                      focus (intro w hS; clear hS; first | (go_simp; done) | (go_simp; with_reducible rfl))
                      simp only [Act.put, List.getElem_toArray, List.getElem_cons_zero, List.getElem_cons_succ, List.setIfInBounds_toArray, List.set_cons_zero, List.set_cons_succ]
                      refine wpAnyH_take (i := 10) (v := ?_) rfl (by kernel_rfl) (by kernel_rfl) (by kernel_rfl) (fun _ _ _ h => h) (Or.inl ⟨by rfl, ?_⟩) HS2.out ?_
                      rotate_left
                      focus (intro w hS; clear hS; first | (go_simp; done) | (go_simp; with_reducible rfl))
                      simp only [Act.put, List.getElem_toArray, List.getElem_cons_zero, List.getElem_cons_succ, List.setIfInBounds_toArray, List.set_cons_zero, List.set_cons_succ]
                      refine wpAnyH_ready (rs := [11]) (by kernel_rfl) (by simp) ?_
                      refine RdyH.cons rfl (fun K2 hK => ?_) RdyH.nil
                      obtain ⟨wd3, hwd⟩ : ∃ x, x = wd2.alloc (.cells #[.int .i64 0, .int .i64 0, .int .i64 0, .int .i64 0, .int .i64 0, .int .i64 0, .int .i64 0, .int .i64 0] 200) := ⟨_, rfl⟩
                      have hb : Below wd2.heap.size wd2 wd3 := by rw [hwd]; exact below_alloc _ _
                      obtain ⟨bq, hbq⟩ : ∃ x, x = wd2.heap.size := ⟨_, rfl⟩
                      have HI3 := Lib.hid (show wd3.heap[bq]? = some (.cells #[.int .i64 0, .int .i64 0, .int .i64 0, .int .i64 0, .int .i64 0, .int .i64 0, .int .i64 0, .int .i64 0] 200 (0, 0)) from by rw [hwd, hbq]; exact heap_alloc_new _ _)
                      have HW3 := Lib.hid (Below.tr HW2.out hb)
                      have HS3 := Lib.hid (HSk.out _ HW3.out)
                      have Hbq := Lib.hid (show wx.heap.size ≤ bq from by rw [hbq]; exact HW2.out.size)
                      go_simp
                      rw [← hwd, ← hbq]
                      clear hwd hbq hb
                      refine hK _ _ HS3.out ?_
                      clear hK K2
                      refine wpAnyH_ready (rs := [12]) (by kernel_rfl) (by simp) ?_
                      refine RdyH.cons rfl (fun K2 hK => ?_) RdyH.nil
                      refine step_store_row rfl 200 (.tmp 16) (.tmp 68) rfl bq Y rfl rfl 200 _ HI3.out HYs.out HY8.out.symm HYo.out ?_
                      have HI4 := Lib.hid (setRow_heap wd3 bq _ Y _ _ HI3.out)
                      have HW4 := Lib.hid (below_setRow (b := bq) HW3.out Hbq.out Y)
                      generalize wd3.setRow bq Y = wd4 at *
                      have HS4 := Lib.hid (HSk.out _ HW4.out)
                      refine hK _ _ HS4.out ?_
                      clear hK K2
                      refine wpAnyH_take (i := 13) (v := ?_) rfl (by kernel_rfl) (by kernel_rfl) (by kernel_rfl) (fun _ _ _ h => h) (Or.inl ⟨by rfl, ?_⟩) HS4.out ?_
                      rotate_left
                      focus (intro w hS; clear hS; first | (go_simp; done) | (go_simp; with_reducible rfl))
                      simp only [Act.put, List.getElem_toArray, List.getElem_cons_zero, List.getElem_cons_succ, List.setIfInBounds_toArray, List.set_cons_zero, List.set_cons_succ]
                      refine wpAnyH_done (by kernel_rfl) ?_ _
                      go_wp2_with fail
                      go_meet
                      exact ⟨bq, y, Bb, rfl, rfl, HE.out, by rw [← HYe.out]; exact HI4.out, Hbq.out, HW4.out⟩
                    · refine RdyH.cons rfl (fun K2 hK => ?_) RdyH.nil
                      obtain ⟨wd2, hwd⟩ : ∃ x, x = wd1.alloc (.cells #[.int .i64 0, .int .i64 0, .int .i64 0, .int .i64 0, .int .i64 0, .int .i64 0, .int .i64 0, .int .i64 0] 200) := ⟨_, rfl⟩
                      have hb : Below wd1.heap.size wd1 wd2 := by rw [hwd]; exact below_alloc _ _
                      obtain ⟨bq, hbq⟩ : ∃ x, x = wd1.heap.size := ⟨_, rfl⟩
                      have HI2 := Lib.hid (show wd2.heap[bq]? = some (.cells #[.int .i64 0, .int .i64 0, .int .i64 0, .int .i64 0, .int .i64 0, .int .i64 0, .int .i64 0, .int .i64 0] 200 (0, 0)) from by rw [hwd, hbq]; exact heap_alloc_new _ _)
                      have HW2 := Lib.hid (Below.tr HW1.out hb)
                      have HS2 := Lib.hid (HSk.out _ HW2.out)
                      have Hbq := Lib.hid (show wx.heap.size ≤ bq from by rw [hbq]; exact HW1.out.size)
                      have HG2 := Lib.hid (Ints.keep HG1.out hb)
                      go_simp
                      rw [← hwd, ← hbq]
                      clear hwd hbq hb
                      refine hK _ _ HS2.out ?_
                      clear hK K2
                      refine wpAnyH_ready (rs := [7]) (by kernel_rfl) (by simp) ?_
                      refine RdyH.cons rfl (fun K2 hK => ?_) RdyH.nil
                      go_simp
                      go_at_call 143
                      have hbc := extend_any m Hm8.out (tn : Int) aA1 HAb.out (.slice va vn vc) f1 (unpc x).2 (.slice fa fn fk) wd2 (Ints.keep Hz.out HW2.out) HG2.out
                      rw [← HXe.out] at hbc
                      refine hbc.mono ?_
                      clear hbc
                      rintro e wd3 ⟨y, Bb, rfl, hex, hb⟩
                      rw [Hf1.out] at hex
                      have HE := Lib.hid hex
                      have HW3 := Lib.hid (Below.tr HW2.out hb)
                      have HS3 := Lib.hid (HSk.out _ HW3.out)
                      have HI3 := Lib.hid (blk_keep2 HI2.out hb)
                      have HYo := Lib.hid (vrow_one y)
                      have HYs := Lib.hid (show (Try.prog.info? 200).map (·.size) = some (vrow y).size from by rw [vrow_size, hex.1]; exact sizeVals)
                      have HY8 := Lib.hid (show (vrow y).size = 8 from by rw [vrow_size, hex.1])
                      obtain ⟨Y, hY⟩ : ∃ Y, Y = vrow y := ⟨_, rfl⟩
                      have HYe := Lib.hid hY
                      rw [← hY] at HYo HYs HY8 ⊢
                      clear hY hb hex
                      go_simp
                      refine hK _ _ HS3.out ?_
                      clear hK K2
                      refine wpAnyH_take (i := 8) (v := ?_) rfl (by kernel_rfl) (by kernel_rfl) (by kernel_rfl) (fun _ _ _ h => h) (Or.inl ⟨by rfl, ?_⟩) HS3.out ?_
                      rotate_left
                      focus (intro w hS; clear hS; first | (go_simp; done) | (go_simp; with_reducible rfl))
                      simp only [Act.put, List.getElem_toArray, List.getElem_cons_zero, List.getElem_cons_succ, List.setIfInBounds_toArray, List.set_cons_zero, List.set_cons_succ]
                      refine wpAnyH_take (i := 9) (v := ?_) rfl (by kernel_rfl) (by kernel_rfl) (by kernel_rfl) (fun _ _ _ h => h) (Or.inl ⟨by rfl, ?_⟩) HS3.out ?_
                      rotate_left
                      focus (intro w hS; clear hS; first | (go_simp; done) | (go_simp; with_reducible rfl))
                      simp only [Act.put, List.getElem_toArray, List.getElem_cons_zero, List.getElem_cons_succ, List.setIfInBounds_toArray, List.set_cons_zero, List.set_cons_succ]
                      refine wpAnyH_take (i := 10) (v := ?_) rfl (by kernel_rfl) (by kernel_rfl) (by kernel_rfl) (fun _ _ _ h => h) (Or.inl ⟨by rfl, ?_⟩) HS3.out ?_
                      rotate_left
                      focus (intro w hS; clear hS; first | (go_simp; done) | (go_simp; with_reducible rfl))
                      simp only [Act.put, List.getElem_toArray, List.getElem_cons_zero, List.getElem_cons_succ, List.setIfInBounds_toArray, List.set_cons_zero, List.set_cons_succ]
                      refine wpAnyH_ready (rs := [12]) (by kernel_rfl) (by simp) ?_
                      refine RdyH.cons rfl (fun K2 hK => ?_) RdyH.nil
                      refine step_store_row rfl 200 (.tmp 16) (.tmp 68) rfl bq Y rfl rfl 200 _ HI3.out HYs.out HY8.out.symm HYo.out ?_
                      have HI4 := Lib.hid (setRow_heap wd3 bq _ Y _ _ HI3.out)
                      have HW4 := Lib.hid (below_setRow (b := bq) HW3.out Hbq.out Y)
                      generalize wd3.setRow bq Y = wd4 at *
                      have HS4 := Lib.hid (HSk.out _ HW4.out)
                      refine hK _ _ HS4.out ?_
                      clear hK K2
                      refine wpAnyH_take (i := 13) (v := ?_) rfl (by kernel_rfl) (by kernel_rfl) (by kernel_rfl) (fun _ _ _ h => h) (Or.inl ⟨by rfl, ?_⟩) HS4.out ?_
                      rotate_left
                      focus (intro w hS; clear hS; first | (go_simp; done) | (go_simp; with_reducible rfl))
                      simp only [Act.put, List.getElem_toArray, List.getElem_cons_zero, List.getElem_cons_succ, List.setIfInBounds_toArray, List.set_cons_zero, List.set_cons_succ]
                      refine wpAnyH_done (by kernel_rfl) ?_ _
                      go_wp2_with fail
                      go_meet
                      exact ⟨bq, y, Bb, rfl, rfl, HE.out, by rw [← HYe.out]; exact HI4.out, Hbq.out, HW4.out⟩
                  · refine RdyH.cons rfl (fun K2 hK => ?_) RdyH.nil
                    obtain ⟨wd2, hwd⟩ : ∃ x, x = wd1.alloc (.cells #[.int .i64 0, .int .i64 0, .int .i64 0, .int .i64 0, .int .i64 0, .int .i64 0, .int .i64 0, .int .i64 0] 200) := ⟨_, rfl⟩
                    have hb : Below wd1.heap.size wd1 wd2 := by rw [hwd]; exact below_alloc _ _
                    obtain ⟨bq, hbq⟩ : ∃ x, x = wd1.heap.size := ⟨_, rfl⟩
                    have HI2 := Lib.hid (show wd2.heap[bq]? = some (.cells #[.int .i64 0, .int .i64 0, .int .i64 0, .int .i64 0, .int .i64 0, .int .i64 0, .int .i64 0, .int .i64 0] 200 (0, 0)) from by rw [hwd, hbq]; exact heap_alloc_new _ _)
                    have HW2 := Lib.hid (Below.tr HW1.out hb)
                    have HS2 := Lib.hid (HSk.out _ HW2.out)
                    have Hbq := Lib.hid (show wx.heap.size ≤ bq from by rw [hbq]; exact HW1.out.size)
                    have HG2 := Lib.hid (Ints.keep HG1.out hb)
                    go_simp
                    rw [← hwd, ← hbq]
                    clear hwd hbq hb
                    refine hK _ _ HS2.out ?_
                    clear hK K2
                    refine wpAnyH_ready (rs := [0]) (by kernel_rfl) (by simp) ?_
                    refine RdyH.cons rfl (fun K2 hK => ?_) RdyH.nil
                    refine step_load_row rfl 200 (.tmp 13) rfl B rfl 200 X (0, 0) _ HS2.out.1 undVals rfl HSx.out ?_
                    refine hK _ _ HS2.out ?_
                    clear hK K2
                    refine wpAnyH_ready (rs := [7]) (by kernel_rfl) (by simp) ?_
                    refine RdyH.cons rfl (fun K2 hK => ?_) RdyH.nil
                    go_simp
                    go_at_call 143
                    have hbc := extend_any m Hm8.out (tn : Int) aA1 HAb.out (.slice va vn vc) f1 (unpc x).2 (.slice fa fn fk) wd2 (Ints.keep Hz.out HW2.out) HG2.out
                    rw [← HXe.out] at hbc
                    refine hbc.mono ?_
                    clear hbc
                    rintro e wd3 ⟨y, Bb, rfl, hex, hb⟩
                    rw [Hf1.out] at hex
                    have HE := Lib.hid hex
                    have HW3 := Lib.hid (Below.tr HW2.out hb)
                    have HS3 := Lib.hid (HSk.out _ HW3.out)
                    have HI3 := Lib.hid (blk_keep2 HI2.out hb)
                    have HYo := Lib.hid (vrow_one y)
                    have HYs := Lib.hid (show (Try.prog.info? 200).map (·.size) = some (vrow y).size from by rw [vrow_size, hex.1]; exact sizeVals)
                    have HY8 := Lib.hid (show (vrow y).size = 8 from by rw [vrow_size, hex.1])
                    obtain ⟨Y, hY⟩ : ∃ Y, Y = vrow y := ⟨_, rfl⟩
                    have HYe := Lib.hid hY
                    rw [← hY] at HYo HYs HY8 ⊢
                    clear hY hb hex
                    go_simp
                    refine hK _ _ HS3.out ?_
                    clear hK K2
                    refine wpAnyH_take (i := 8) (v := ?_) rfl (by kernel_rfl) (by kernel_rfl) (by kernel_rfl) (fun _ _ _ h => h) (Or.inl ⟨by rfl, ?_⟩) HS3.out ?_
                    rotate_left
                    focus (intro w hS; clear hS; first | (go_simp; done) | (go_simp; with_reducible rfl))
                    simp only [Act.put, List.getElem_toArray, List.getElem_cons_zero, List.getElem_cons_succ, List.setIfInBounds_toArray, List.set_cons_zero, List.set_cons_succ]
                    refine wpAnyH_take (i := 9) (v := ?_) rfl (by kernel_rfl) (by kernel_rfl) (by kernel_rfl) (fun _ _ _ h => h) (Or.inl ⟨by rfl, ?_⟩) HS3.out ?_
                    rotate_left
                    focus (intro w hS; clear hS; first | (go_simp; done) | (go_simp; with_reducible rfl))
                    simp only [Act.put, List.getElem_toArray, List.getElem_cons_zero, List.getElem_cons_succ, List.setIfInBounds_toArray, List.set_cons_zero, List.set_cons_succ]
                    refine wpAnyH_take (i := 10) (v := ?_) rfl (by kernel_rfl) (by kernel_rfl) (by kernel_rfl) (fun _ _ _ h => h) (Or.inl ⟨by rfl, ?_⟩) HS3.out ?_
                    rotate_left
                    focus (intro w hS; clear hS; first | (go_simp; done) | (go_simp; with_reducible rfl))
                    simp only [Act.put, List.getElem_toArray, List.getElem_cons_zero, List.getElem_cons_succ, List.setIfInBounds_toArray, List.set_cons_zero, List.set_cons_succ]
                    refine wpAnyH_ready (rs := [12]) (by kernel_rfl) (by simp) ?_
                    refine RdyH.cons rfl (fun K2 hK => ?_) RdyH.nil
                    refine step_store_row rfl 200 (.tmp 16) (.tmp 68) rfl bq Y rfl rfl 200 _ HI3.out HYs.out HY8.out.symm HYo.out ?_
                    have HI4 := Lib.hid (setRow_heap wd3 bq _ Y _ _ HI3.out)
                    have HW4 := Lib.hid (below_setRow (b := bq) HW3.out Hbq.out Y)
                    generalize wd3.setRow bq Y = wd4 at *
                    have HS4 := Lib.hid (HSk.out _ HW4.out)
                    refine hK _ _ HS4.out ?_
                    clear hK K2
                    refine wpAnyH_take (i := 13) (v := ?_) rfl (by kernel_rfl) (by kernel_rfl) (by kernel_rfl) (fun _ _ _ h => h) (Or.inl ⟨by rfl, ?_⟩) HS4.out ?_
                    rotate_left
                    focus (intro w hS; clear hS; first | (go_simp; done) | (go_simp; with_reducible rfl))
                    simp only [Act.put, List.getElem_toArray, List.getElem_cons_zero, List.getElem_cons_succ, List.setIfInBounds_toArray, List.set_cons_zero, List.set_cons_succ]
                    refine wpAnyH_done (by kernel_rfl) ?_ _
                    go_wp2_with fail
                    go_meet
                    exact ⟨bq, y, Bb, rfl, rfl, HE.out, by rw [← HYe.out]; exact HI4.out, Hbq.out, HW4.out⟩
                · refine RdyH.cons rfl (fun K2 hK => ?_) RdyH.nil
                  obtain ⟨wd1, hwd⟩ : ∃ x, x = wd0.alloc (.cells #[.int .i64 0, .int .i64 0, .int .i64 0, .int .i64 0, .int .i64 0, .int .i64 0, .int .i64 0, .int .i64 0] 200) := ⟨_, rfl⟩
                  have hb : Below wd0.heap.size wd0 wd1 := by rw [hwd]; exact below_alloc _ _
                  obtain ⟨bq, hbq⟩ : ∃ x, x = wd0.heap.size := ⟨_, rfl⟩
                  have HI1 := Lib.hid (show wd1.heap[bq]? = some (.cells #[.int .i64 0, .int .i64 0, .int .i64 0, .int .i64 0, .int .i64 0, .int .i64 0, .int .i64 0, .int .i64 0] 200 (0, 0)) from by rw [hwd, hbq]; exact heap_alloc_new _ _)
                  have HW1 := Lib.hid (Below.tr HW0.out hb)
                  have HS1 := Lib.hid (HSk.out _ HW1.out)
                  have Hbq := Lib.hid (show wx.heap.size ≤ bq from by rw [hbq]; exact HW0.out.size)
                  go_simp
                  rw [← hwd, ← hbq]
                  clear hwd hbq hb
                  refine hK _ _ HS1.out ?_
                  clear hK K2
                  refine wpAnyH_ready (rs := [0, 6]) (by kernel_rfl) (by simp) ?_
                  refine RdyH.cons rfl (fun K2 hK => ?_) ?_
                  · refine step_load_row rfl 200 (.tmp 13) rfl B rfl 200 X (0, 0) _ HS1.out.1 undVals rfl HSx.out ?_
                    refine hK _ _ HS1.out ?_
                    clear hK K2
                    refine wpAnyH_ready (rs := [6]) (by kernel_rfl) (by simp) ?_
                    refine RdyH.cons rfl (fun K2 hK => ?_) RdyH.nil
                    go_simp
                    go_at_call 127
                    refine (fact_any (unpc x) HF1.out x HF2.out.symm wd1).mono ?_
                    rintro e wd2 ⟨fa, fn, fk, rfl, ho, hb⟩
                    have HG2 := Lib.hid ho.ints
                    have HW2 := Lib.hid (Below.tr HW1.out hb)
                    have HS2 := Lib.hid (HSk.out _ HW2.out)
                    have HI2 := Lib.hid (blk_keep2 HI1.out hb)
                    obtain ⟨f1, hf1⟩ : ∃ y, y = (unpc x).1 := ⟨_, rfl⟩
                    have Hf1 := Lib.hid hf1
                    rw [← hf1]
                    clear ho hb hf1
                    go_simp
                    refine hK _ _ HS2.out ?_
                    clear hK K2
                    refine wpAnyH_ready (rs := [7]) (by kernel_rfl) (by simp) ?_
                    refine RdyH.cons rfl (fun K2 hK => ?_) RdyH.nil
                    go_simp
                    go_at_call 143
                    have hbc := extend_any m Hm8.out (tn : Int) aA1 HAb.out (.slice va vn vc) f1 (unpc x).2 (.slice fa fn fk) wd2 (Ints.keep Hz.out HW2.out) HG2.out
                    rw [← HXe.out] at hbc
                    refine hbc.mono ?_
                    clear hbc
                    rintro e wd3 ⟨y, Bb, rfl, hex, hb⟩
                    rw [Hf1.out] at hex
                    have HE := Lib.hid hex
                    have HW3 := Lib.hid (Below.tr HW2.out hb)
                    have HS3 := Lib.hid (HSk.out _ HW3.out)
                    have HI3 := Lib.hid (blk_keep2 HI2.out hb)
                    have HYo := Lib.hid (vrow_one y)
                    have HYs := Lib.hid (show (Try.prog.info? 200).map (·.size) = some (vrow y).size from by rw [vrow_size, hex.1]; exact sizeVals)
                    have HY8 := Lib.hid (show (vrow y).size = 8 from by rw [vrow_size, hex.1])
                    obtain ⟨Y, hY⟩ : ∃ Y, Y = vrow y := ⟨_, rfl⟩
                    have HYe := Lib.hid hY
                    rw [← hY] at HYo HYs HY8 ⊢
                    clear hY hb hex
                    go_simp
                    refine hK _ _ HS3.out ?_
                    clear hK K2
                    refine wpAnyH_take (i := 8) (v := ?_) rfl (by kernel_rfl) (by kernel_rfl) (by kernel_rfl) (fun _ _ _ h => h) (Or.inl ⟨by rfl, ?_⟩) HS3.out ?_
                    rotate_left
                    focus (intro w hS; clear hS; first | (go_simp; done) | (go_simp; with_reducible rfl))
                    simp only [Act.put, List.getElem_toArray, List.getElem_cons_zero, List.getElem_cons_succ, List.setIfInBounds_toArray, List.set_cons_zero, List.set_cons_succ]
                    refine wpAnyH_take (i := 9) (v := ?_) rfl (by kernel_rfl) (by kernel_rfl) (by kernel_rfl) (fun _ _ _ h => h) (Or.inl ⟨by rfl, ?_⟩) HS3.out ?_
                    rotate_left
                    focus (intro w hS; clear hS; first | (go_simp; done) | (go_simp; with_reducible rfl))
                    simp only [Act.put, List.getElem_toArray, List.getElem_cons_zero, List.getElem_cons_succ, List.setIfInBounds_toArray, List.set_cons_zero, List.set_cons_succ]
                    refine wpAnyH_take (i := 10) (v := ?_) rfl (by kernel_rfl) (by kernel_rfl) (by kernel_rfl) (fun _ _ _ h => h) (Or.inl ⟨by rfl, ?_⟩) HS3.out ?_
                    rotate_left
                    focus (intro w hS; clear hS; first | (go_simp; done) | (go_simp; with_reducible rfl))
                    simp only [Act.put, List.getElem_toArray, List.getElem_cons_zero, List.getElem_cons_succ, List.setIfInBounds_toArray, List.set_cons_zero, List.set_cons_succ]
                    refine wpAnyH_ready (rs := [12]) (by kernel_rfl) (by simp) ?_
                    refine RdyH.cons rfl (fun K2 hK => ?_) RdyH.nil
                    refine step_store_row rfl 200 (.tmp 16) (.tmp 68) rfl bq Y rfl rfl 200 _ HI3.out HYs.out HY8.out.symm HYo.out ?_
                    have HI4 := Lib.hid (setRow_heap wd3 bq _ Y _ _ HI3.out)
                    have HW4 := Lib.hid (below_setRow (b := bq) HW3.out Hbq.out Y)
                    generalize wd3.setRow bq Y = wd4 at *
                    have HS4 := Lib.hid (HSk.out _ HW4.out)
                    refine hK _ _ HS4.out ?_
                    clear hK K2
                    refine wpAnyH_take (i := 13) (v := ?_) rfl (by kernel_rfl) (by kernel_rfl) (by kernel_rfl) (fun _ _ _ h => h) (Or.inl ⟨by rfl, ?_⟩) HS4.out ?_
                    rotate_left
                    focus (intro w hS; clear hS; first | (go_simp; done) | (go_simp; with_reducible rfl))
                    simp only [Act.put, List.getElem_toArray, List.getElem_cons_zero, List.getElem_cons_succ, List.setIfInBounds_toArray, List.set_cons_zero, List.set_cons_succ]
                    refine wpAnyH_done (by kernel_rfl) ?_ _
                    go_wp2_with fail
                    go_meet
                    exact ⟨bq, y, Bb, rfl, rfl, HE.out, by rw [← HYe.out]; exact HI4.out, Hbq.out, HW4.out⟩
                  · refine RdyH.cons rfl (fun K2 hK => ?_) RdyH.nil
                    go_simp
                    go_at_call 127
                    refine (fact_any (unpc x) HF1.out x HF2.out.symm wd1).mono ?_
                    rintro e wd2 ⟨fa, fn, fk, rfl, ho, hb⟩
                    have HG2 := Lib.hid ho.ints
                    have HW2 := Lib.hid (Below.tr HW1.out hb)
                    have HS2 := Lib.hid (HSk.out _ HW2.out)
                    have HI2 := Lib.hid (blk_keep2 HI1.out hb)
                    obtain ⟨f1, hf1⟩ : ∃ y, y = (unpc x).1 := ⟨_, rfl⟩
                    have Hf1 := Lib.hid hf1
                    rw [← hf1]
                    clear ho hb hf1
                    go_simp
                    refine hK _ _ HS2.out ?_
                    clear hK K2
                    refine wpAnyH_ready (rs := [0]) (by kernel_rfl) (by simp) ?_
                    refine RdyH.cons rfl (fun K2 hK => ?_) RdyH.nil
                    refine step_load_row rfl 200 (.tmp 13) rfl B rfl 200 X (0, 0) _ HS2.out.1 undVals rfl HSx.out ?_
                    refine hK _ _ HS2.out ?_
                    clear hK K2
                    refine wpAnyH_ready (rs := [7]) (by kernel_rfl) (by simp) ?_
                    refine RdyH.cons rfl (fun K2 hK => ?_) RdyH.nil
                    go_simp
                    go_at_call 143
                    have hbc := extend_any m Hm8.out (tn : Int) aA1 HAb.out (.slice va vn vc) f1 (unpc x).2 (.slice fa fn fk) wd2 (Ints.keep Hz.out HW2.out) HG2.out
                    rw [← HXe.out] at hbc
                    refine hbc.mono ?_
                    clear hbc
                    rintro e wd3 ⟨y, Bb, rfl, hex, hb⟩
                    rw [Hf1.out] at hex
                    have HE := Lib.hid hex
                    have HW3 := Lib.hid (Below.tr HW2.out hb)
                    have HS3 := Lib.hid (HSk.out _ HW3.out)
                    have HI3 := Lib.hid (blk_keep2 HI2.out hb)
                    have HYo := Lib.hid (vrow_one y)
                    have HYs := Lib.hid (show (Try.prog.info? 200).map (·.size) = some (vrow y).size from by rw [vrow_size, hex.1]; exact sizeVals)
                    have HY8 := Lib.hid (show (vrow y).size = 8 from by rw [vrow_size, hex.1])
                    obtain ⟨Y, hY⟩ : ∃ Y, Y = vrow y := ⟨_, rfl⟩
                    have HYe := Lib.hid hY
                    rw [← hY] at HYo HYs HY8 ⊢
                    clear hY hb hex
                    go_simp
                    refine hK _ _ HS3.out ?_
                    clear hK K2
                    refine wpAnyH_take (i := 8) (v := ?_) rfl (by kernel_rfl) (by kernel_rfl) (by kernel_rfl) (fun _ _ _ h => h) (Or.inl ⟨by rfl, ?_⟩) HS3.out ?_
                    rotate_left
                    focus (intro w hS; clear hS; first | (go_simp; done) | (go_simp; with_reducible rfl))
                    simp only [Act.put, List.getElem_toArray, List.getElem_cons_zero, List.getElem_cons_succ, List.setIfInBounds_toArray, List.set_cons_zero, List.set_cons_succ]
                    refine wpAnyH_take (i := 9) (v := ?_) rfl (by kernel_rfl) (by kernel_rfl) (by kernel_rfl) (fun _ _ _ h => h) (Or.inl ⟨by rfl, ?_⟩) HS3.out ?_
                    rotate_left
                    focus (intro w hS; clear hS; first | (go_simp; done) | (go_simp; with_reducible rfl))
                    simp only [Act.put, List.getElem_toArray, List.getElem_cons_zero, List.getElem_cons_succ, List.setIfInBounds_toArray, List.set_cons_zero, List.set_cons_succ]
                    refine wpAnyH_take (i := 10) (v := ?_) rfl (by kernel_rfl) (by kernel_rfl) (by kernel_rfl) (fun _ _ _ h => h) (Or.inl ⟨by rfl, ?_⟩) HS3.out ?_
                    rotate_left
                    focus (intro w hS; clear hS; first | (go_simp; done) | (go_simp; with_reducible rfl))
                    simp only [Act.put, List.getElem_toArray, List.getElem_cons_zero, List.getElem_cons_succ, List.setIfInBounds_toArray, List.set_cons_zero, List.set_cons_succ]
                    refine wpAnyH_ready (rs := [12]) (by kernel_rfl) (by simp) ?_
                    refine RdyH.cons rfl (fun K2 hK => ?_) RdyH.nil
                    refine step_store_row rfl 200 (.tmp 16) (.tmp 68) rfl bq Y rfl rfl 200 _ HI3.out HYs.out HY8.out.symm HYo.out ?_
                    have HI4 := Lib.hid (setRow_heap wd3 bq _ Y _ _ HI3.out)
                    have HW4 := Lib.hid (below_setRow (b := bq) HW3.out Hbq.out Y)
                    generalize wd3.setRow bq Y = wd4 at *
                    have HS4 := Lib.hid (HSk.out _ HW4.out)
                    refine hK _ _ HS4.out ?_
                    clear hK K2
                    refine wpAnyH_take (i := 13) (v := ?_) rfl (by kernel_rfl) (by kernel_rfl) (by kernel_rfl) (fun _ _ _ h => h) (Or.inl ⟨by rfl, ?_⟩) HS4.out ?_
                    rotate_left
                    focus (intro w hS; clear hS; first | (go_simp; done) | (go_simp; with_reducible rfl))
                    simp only [Act.put, List.getElem_toArray, List.getElem_cons_zero, List.getElem_cons_succ, List.setIfInBounds_toArray, List.set_cons_zero, List.set_cons_succ]
                    refine wpAnyH_done (by kernel_rfl) ?_ _
                    go_wp2_with fail
                    go_meet
                    exact ⟨bq, y, Bb, rfl, rfl, HE.out, by rw [← HYe.out]; exact HI4.out, Hbq.out, HW4.out⟩
            case rest =>
              obtain ⟨bq, y, Bb, rfl, rfl, hE, hI, hbq, hb⟩ := hcut
              have hvw := HM.out.trans (Mv.of_below hb (D := Lv bp M'))
              have HP2 := Lib.hid (HP.out.keep hb)
              have HM2 := Lib.hid hvw
              have HV2 := Lib.hid (blk_keep2 HVx.out hb)
              cases Bb with
              | false =>
                have hn : extA m ((tn : Int), aA1) (unpc x) = none := by
                  rcases hE.2 with ⟨q, _⟩ | ⟨_, q⟩
                  · cases q
                  · exact q
                have HR := Lib.hid (show joinP K place c ((tn : Int), aA1) Q k m (j + 1) = joinP K place c ((tn : Int), aA1) Q k m j from by
                  rw [HPs.out]
                  unfold joinB
                  rw [hn]
                  simp)
                clear hn hE hI hbq hb hvw hsk
                go_wp2_with fail
                go_roundw
                case rel => exact ⟨j + 1, M', bn, by go_num, by omega, by rw [HR.out]; exact HP2.out, HM2.out, HS.out, HV2.out, HNb.out⟩
                case measure => simp [intOf]; omega
              | true =>
                have hn : extA m ((tn : Int), aA1) (unpc x) = some y := by
                  rcases hE.2 with ⟨_, q⟩ | ⟨q, _⟩
                  · exact q
                  · cases q
                have hBq : joinB K place c ((tn : Int), aA1) Q k m x = joinM K place c Q (k + 1) y := by
                  unfold joinB
                  rw [hsk, hn]
                  rfl
                obtain ⟨t, ht⟩ := joinP_part K place c ((tn : Int), aA1) Q k m (j + 1)
                rw [HPs.out, hBq, List.append_assoc] at ht
                have HR := Lib.hid (show joinP K place c ((tn : Int), aA1) Q k m (j + 1) = joinP K place c ((tn : Int), aA1) Q k m j ++ joinM K place c Q (k + 1) y from by rw [HPs.out, hBq])
                have hMr : rR l i ∈ l := by rw [rR_get hi]; exact List.getElem_mem hi
                have hk1 : ((k + 1 : Nat) : Int) = (k : Int) + 1 := by omega
                have hC := Ih.out y hE.1 (fun z hz => Hms.out z (by rw [ht]; exact List.mem_append_right _ (List.mem_append_left _ hz))) bn wc M' _ HP2.out
                  ((HW1.out.trans (HM2.out.below (Nat.le_trans hbs (by have := HM1.out.size; omega)) H.out.ge))) (HL1.out.move HM2.out)
                  (fun t ht6 => (addsS_known (fun b hb => (hat _ hMr).2 b hb) (by omega) (by omega) _ _ fun z hz => Hms.out z (by rw [ht]; exact List.mem_append_left _ hz)).trans (Hkn.out t ht6))
                  ((ShN.adds (hl3 _ hMr) (joinP K place c ((tn : Int), aA1) Q k m j) (n := (joinM K place c Q (k + 1) y).length + t.length) (by
                    have := Hsh.out
                    rw [ht, List.length_append, List.length_append] at this
                    exact this)).mono (Nat.le_add_right _ _))
                rw [hk1, ← Hnn.out] at hC
                have HSy := Lib.hid (show (Try.prog.info? 200).map (·.size) = some (vrow y).size from by rw [vrow_size, hE.1]; exact sizeVals)
                have HI := Lib.hid hI
                obtain ⟨Y, hY⟩ : ∃ Y, Y = vrow y := ⟨_, rfl⟩
                rw [← hY] at hC HSy HI
                have HC := Lib.hid hC
                have hk2 : (k : Int) + 1 ≤ 9223372036854775807 := by omega
                clear hn hE hI hbq hb hvw hsk ht hMr hk1 hY hBq hC
                go_wp2_with (first | (refine wpList_load_row rfl 200 (.tmp 16) rfl bq rfl 200 Y (0, 0) _ HI.out undVals rfl HSy.out ?_))
                refine HC.out.mono ?_
                rintro e wz ⟨rfl, M9, h91, h92, h94⟩
                have H91 := Lib.hid h91
                have HM9 := Lib.hid (HM2.out.trans h92)
                have HS9 := Lib.hid (HS.out.trans h94)
                have HV9 := Lib.hid (h92.keep HV2.out HNb.out)
                clear h91 h92 h94
                go_wp2_with fail
                go_roundw
                case rel => exact ⟨j + 1, M9, wz.heap.size, by go_num, by omega, by rw [HR.out, addsS_app]; exact H91.out, HM9.out, HS9.out, HV9.out.1, HV9.out.2⟩
                case measure => simp [intOf]; omega
      · obtain rfl : yn = j := by omega
        have HR := Lib.hid (joinP_all K place c ((tn : Int), aA1) Q k m)
        have e : joinP K place c ((tn : Int), aA1) Q k m yn = joinM K place c (((tn : Int), aA1) :: Q) k m := by rw [← HR.out, Hknn.out]; rfl
        rw [e] at HP
        have HPe := Lib.hid (show PG base wx.heap.size wx bp rl M' _ from HP.out.up HP.out.bl (Nat.le_refl _))
        clear e HR
        go_wp2_with fail
        go_end0
        exact ⟨rfl, M', HPe.out, HM1.out.trans HM.out, HS.out⟩
#print axioms join_any
end Go.Proofs.Ythndplkjhbmfmaa
