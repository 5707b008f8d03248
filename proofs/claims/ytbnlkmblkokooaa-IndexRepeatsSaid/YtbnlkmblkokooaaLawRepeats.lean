/- IndexRepeats: for every input the law returns true. -/
import Derived.Test.YtbnlkmblkokooaaRep
import Derived.Test.YtbnlkmblkokooaaCnt
import Derived.Test.YtbnlkmblkokooaaLet
import Derived.Test.YtbnlkmblkokooaaFrame
import Derived.Test.YtbnlkmblkokooaaRows
import Derived.HandedShaped
import Derived.Deep.CutBlock
import Derived.Deep.DeepCutAuto
namespace Go.Proofs.Ytbnlkmblkokooaa
open Go.RowKit

theorem lon_lab {l : Bs} (h : Lab l) : Lab (lonTo l l.length) := by
  rcases (lonTo_isLon l).1 with e | ⟨i, j, _, _, e⟩
  · rw [e]; exact ⟨Nat.zero_le _, fun c hc => by cases hc⟩
  · have hl := lonTo_length l l.length
    refine ⟨Nat.le_trans hl h.1, fun c hc => h.2 c ?_⟩
    rw [e] at hc
    exact List.mem_of_mem_drop (List.mem_of_mem_take hc)
theorem lab_ext {p : ByteArray} (h : Lab (bs p)) (a b : Nat) : Lab (bs (p.extract a b)) := by
  rw [bs_part]
  exact ⟨by rw [List.length_take, List.length_drop]; have := h.1; omega, fun c hc => h.2 c (List.mem_of_mem_drop (List.mem_of_mem_take hc))⟩
theorem ex_one {p : ByteArray} {b : Nat} (h : b < p.size) : bs (p.extract b (b + 1)) = [p[b]] := by
  rw [bs_part, Nat.add_sub_cancel_left, bs_get h]
  have h' : b < (bs p).length := by rw [bs_len]; exact h
  rw [List.drop_eq_getElem_cons h']
  rfl
/-- what the law asks of Absent's answer -/
theorem abs_facts {t L x : Bs} (hL : LetOK L) (h : IsAbs t L x) : ∃ k, x.length = k + 1 ∧ k ≤ t.length ∧ (occ' t x).length = 0 ∧ (k + 1 ≤ 200 → Lab x) ∧ ∀ j, j ≤ k → Full t L j := by
  obtain ⟨k, a, h1, h2, h3, _⟩ := h
  have hx : x ∈ lvl L (k + 1) := List.mem_of_getElem? h2
  have hne : L ≠ [] := fun e => by have := hL.1; rw [e] at this; simp at this
  exact ⟨k, lvl_len hx, full_le hne (h1 k (Nat.le_refl _)), occ_none h3, fun hk => lvl_lab hL hx hk, h1⟩
#print axioms abs_facts
theorem newE_no {s : ByteArray} (hs : s.size ≤ 1000) (h : ¬ Lab (bs s)) (w : World) :
    Calls Try.prog 33 #[.string s] w fun e w' => e = .returned (.tuple #[.pointer none, .int .i64 2]) ∧ w = w' := by
  have H := Lib.hid (isLabel_b s hs false (decide_eq_false h) w)
  clear h
  go_enter Try.func33, Try.ntmps33
  go_wp2_with fail
  refine H.out.mono ?_
  rintro e w1 ⟨rfl, rfl⟩
  go_wp2_with fail
  go_ret2
  exact ⟨rfl, rfl⟩
set_option maxRecDepth 100000 in
set_option maxHeartbeats 8000000 in
theorem repeats_bad {t0 p0 s p : ByteArray} (HF : Hid (∀ w, Calls Try.prog 18 #[.string t0] w fun e w' => e = .returned (.string s) ∧ w = w')) (HF2 : Hid (∀ w, Calls Try.prog 18 #[.string p0] w fun e w' => e = .returned (.string p) ∧ w = w')) (hs : s.size ≤ 1000) (h : ¬ Lab (bs s)) (w : World) :
    Calls Try.prog 17 #[.string t0, .string p0] w fun e w' => e = .returned (.bool true) ∧ Below w.heap.size w w' := by
  have HN := Lib.hid (newE_no hs h)
  clear hs h
  go_enter Try.func17, Try.ntmps17
  go_wp2_with fail
  refine (HF.out _).mono ?_
  rintro e w' ⟨rfl, rfl⟩
  go_wp2_with fail
  refine (HF2.out _).mono ?_
  rintro e w' ⟨rfl, rfl⟩
  go_wp2_with fail
  refine (HN.out _).mono ?_
  rintro e w' ⟨rfl, rfl⟩
  go_wp2_with fail
  refine (awake_any _).mono ?_
  rintro e w7 ⟨rfl, hb7⟩
  have Hb7 := Lib.hid hb7
  clear hb7
  go_wp2_with fail
  go_ret
  exact ⟨rfl, Hb7.out⟩
#print axioms repeats_bad
set_option maxRecDepth 100000 in
set_option maxHeartbeats 16000000 in
theorem repeats_yes {t0 p0 s p : ByteArray} (HF : Hid (∀ w, Calls Try.prog 18 #[.string t0] w fun e w' => e = .returned (.string s) ∧ w = w')) (HF2 : Hid (∀ w, Calls Try.prog 18 #[.string p0] w fun e w' => e = .returned (.string p) ∧ w = w')) (hs2 : p.size ≤ 1000) (h1 : Lab (bs s)) (w : World) (hg : Glob w) :
    Calls Try.prog 17 #[.string t0, .string p0] w fun e w' => e = .returned (.bool true) ∧ Below w.heap.size w w' := by
  have hs := lab_size h1
  obtain ⟨S, hS⟩ : ∃ S : ByteArray, S = ⟨(lonTo (bs s) (bs s).length).toArray⟩ := ⟨_, rfl⟩
  obtain ⟨E, hE⟩ : ∃ E : Int, E = lonE (lonTo (bs s) (bs s).length) := ⟨_, rfl⟩
  have hSb : bs S = lonTo (bs s) (bs s).length := by rw [hS]; rfl
  have HA := Lib.hid (longE_any h1)
  unfold strV at HA
  rw [← hS, ← hE] at HA
  have hSl : Lab (bs S) := by rw [hSb]; exact lon_lab h1
  have hSs : S.size ≤ s.size := by rw [← bs_len, ← bs_len, hSb]; exact lonTo_length _ _
  obtain ⟨K, hK⟩ : ∃ K, K = (occ' (bs s) (bs S)).length := ⟨_, rfl⟩
  have hK2 : bs S ≠ [] → 2 ≤ K := fun h => by rw [hK, hSb]; exact lon_two (by rw [← hSb]; exact h)
  have HE := Lib.hid (show (E = 5) ∨ (E = 0 ∧ 2 ≤ K ∧ S.toList.isEmpty = false) from by
    rw [hE, ← hSb]
    unfold lonE
    by_cases h : bs S = []
    · rw [if_pos h]; exact .inl rfl
    · rw [if_neg h]; exact .inr ⟨rfl, hK2 h, by rw [bs_toList]; simpa using h⟩)
  obtain ⟨m, hm⟩ : ∃ m, m = S.size := ⟨_, rfl⟩
  obtain ⟨N, hN⟩ : ∃ N, N = s.size := ⟨_, rfl⟩
  have HOne := Lib.hid (show ∀ i, i + m + 1 ≤ N → (occ' (bs s) (bs (s.extract i (i + m + 1)))).length = 1 from fun i hi => by
    rw [bs_part, show i + m + 1 - i = m + 1 by omega]
    have := lon_one (l := bs s) (i := i) (by rw [← hSb, bs_len, bs_len]; omega)
    rw [← hSb, bs_len, ← hm] at this
    exact this)
  have HX := Lib.hid (fun a b => lab_ext h1 a b)
  have HN := Lib.hid (newE_any h1)
  have HC := Lib.hid (fun (q : ByteArray) (hq : Lab (bs q)) (w' : World) B v (hm : Made B w' v (bs s)) => count_yes h1 hq w' hm)
  have HCS := Lib.hid (fun (w' : World) B v (hm : Made B w' v (bs s)) => by have h := count_yes h1 hSl w' hm; rw [← hK] at h; exact h)
  have HCA := Lib.hid (fun (q : ByteArray) (hq : ¬ Lab (bs q)) (hq2 : q.size ≤ 1000) (w' : World) B v (hm : Made B w' v (bs s)) => count_arg hq hq2 w' hm)
  have HAb := Lib.hid (fun (h2 : LetOK (bs p)) (w' : World) (hg' : Glob w') => absentE_any h1 h2 w' hg')
  have HAn := Lib.hid (fun (h2 : ¬ LetOK (bs p)) (w' : World) => absentE_bad (s := s) (p := p) (by omega) hs2 (fun h => h2 h.2) w')
  have HG := Lib.hid hg
  have hm1 : m ≤ N := by omega
  have hN1 : N ≤ 200 := by omega
  have hmS : (S.size : Int) = (m : Int) := by omega
  have hsN : (s.size : Int) = (N : Int) := by omega
  have HmS := Lib.hid hm
  have HsN := Lib.hid hN
  clear h1 hg hS hE hSb hSl hSs hK hK2 hm hN hs hs2
  go_enter Try.func17, Try.ntmps17
  go_wp2_with fail
  refine (HF.out _).mono ?_
  rintro e w' ⟨rfl, hw'⟩
  subst hw'
  go_wp2_with fail
  refine (HF2.out _).mono ?_
  rintro e w' ⟨rfl, hw'⟩
  subst hw'
  go_wp2_with fail
  refine (HN.out _).mono ?_
  rintro e w1 ⟨v1, rfl, hm1', hb1⟩
  have Hm1 := Lib.hid hm1'
  have Hb1 := Lib.hid hb1
  have HG1 := Lib.hid (HG.out.keep hb1)
  clear hm1' hb1
  go_wp2_with fail
  refine (HA.out _).mono ?_
  rintro e w2 ⟨rfl, hb2⟩
  have Hm2 := Lib.hid (Hm1.out.keep hb2)
  have HG2 := Lib.hid (HG1.out.keep hb2)
  have Hb2 := Lib.hid (Below.tr Hb1.out hb2)
  obtain ⟨B, hB⟩ : ∃ B, B = w.heap.size := ⟨_, rfl⟩
  rw [← hB] at Hm2
  clear hb2 hB Hm1 HG1 Hb1
  go_upto_region 6 with fail
  go_cut [8, 51] (fun v8 v wx => v8 = .int .i64 E ∧ v = .bool false ∧ wx = w2)
  case first =>
    rcases HE.out with e | ⟨e, _, _⟩
    · rw [e]
      go_wp2_with fail
      go_meet
      exact ⟨by rw [e]; try rfl, by first | rfl | (congr 1; exact decide_eq_false (by omega)), rfl⟩
    · rw [e]
      go_wp2_with fail
      go_meet
      exact ⟨by rw [e]; try rfl, by first | rfl | (congr 1; exact decide_eq_false (by omega)), rfl⟩
  case rest =>
    obtain ⟨rfl, rfl, hwx⟩ := hcut
    subst hwx
    go_wp2_with fail
    refine (HCS.out _ _ _ Hm2.out).mono ?_
    rintro e w3 ⟨rfl, q3, hw3⟩
    have HW3 := Lib.hid hw3
    clear hw3
    go_upto_region 9 with fail
    go_cut [8, 71] (fun v8 v wx => v8 = .int .i64 E ∧ v = .bool false ∧ wx = w3)
    case first =>
      rcases HE.out with e | ⟨e, e2, e3⟩
      · rw [e]
        go_wp2_with fail
        go_meet
        exact ⟨by rw [e]; try rfl, by first | rfl | (congr 1; exact decide_eq_false (by omega)), rfl⟩
      · rw [e]
        have hk : ¬ ((K : Int) < 2) := by omega
        go_wp2_with fail
        go_meet
        exact ⟨by rw [e]; try rfl, by first | rfl | (congr 1; exact decide_eq_false (by omega)), rfl⟩
    case rest =>
      obtain ⟨rfl, rfl, hwx⟩ := hcut
      subst hwx
      have Hm3 := Lib.hid (show Made B wc v1 (bs s) from by rw [HW3.out]; exact Hm2.out.draw q3)
      have Hb3 := Lib.hid (show Below w.heap.size w wc from by rw [HW3.out]; exact bdrewN Hb2.out q3)
      have HG3 := Lib.hid (show Glob wc from by rw [HW3.out]; exact HG2.out.keep (bdrewN (Below.refl _ _) q3))
      clear HW3 Hm2 Hb2 HG2
      obtain ⟨D, hD⟩ : ∃ D, D = N - m := ⟨_, rfl⟩
      have hwD : IntKind.i64.wrap ((N : Int) - (m : Int)) = (D : Int) := by rw [IntWalk.i64_in _ ⟨by omega, by omega⟩]; omega
      have hD2 : D + m = N := by omega
      clear hD
      obtain ⟨wo, hwo⟩ : ∃ wo : World, wo = wc := ⟨_, rfl⟩
      subst hwo
      go_wp2_with fail
      go_loopw [77] (fun vi wr => ∃ i : Nat, vi = .int .i64 i ∧ i ≤ D ∧ ∃ d, wr = wo.drewN d) (fun vi _ => D - (intOf vi).toNat)
      case atStart => exact ⟨0, rfl, Nat.zero_le _, 0, rfl⟩
      case round =>
        obtain ⟨i, rfl, hi, d, hwr⟩ := hrel
        have Hmr := Lib.hid (show Made B wr v1 (bs s) from by rw [hwr]; exact Hm3.out.draw d)
        have HWr := Lib.hid hwr
        by_cases hlt : i < D
        · obtain ⟨x, hx⟩ : ∃ x, x = i + m := ⟨_, rfl⟩
          have hw1 : IntKind.i64.wrap ((i : Int) + (m : Int)) = (x : Int) := by rw [IntWalk.i64_in _ ⟨by omega, by omega⟩]; omega
          have hw2 : IntKind.i64.wrap ((x : Int) + 1) = ((x + 1 : Nat) : Int) := by rw [IntWalk.i64_in _ ⟨by omega, by omega⟩]; omega
          have hix : (i : Int) ≤ ((x + 1 : Nat) : Int) := by omega
          have hxs : ((x + 1 : Nat) : Int) ≤ (s.size : Int) := by omega
          have HCi := Lib.hid (show Calls Try.prog 34 #[v1, .string (s.extract i (x + 1))] wr (CntPost 1 0 wr) from by
            have h := HC.out (s.extract i (x + 1)) (HX.out _ _) wr _ _ Hmr.out
            rw [hx, HOne.out i (by omega)] at h
            rw [hx]; exact h)
          clear hwr hx
          go_wp2_with fail
          refine HCi.out.mono ?_
          rintro e w5 ⟨rfl, q5, hw5⟩
          have HW5 := Lib.hid hw5
          clear hw5
          go_wp2_with fail
          go_roundw
          case rel => exact ⟨i + 1, by go_num, by omega, d + q5, by rw [HW5.out, HWr.out, World.drewN_drewN]⟩
          case measure => simp [intOf]; omega
        · have Hb5 := Lib.hid (show Below w.heap.size w wr from by rw [hwr]; exact bdrewN Hb3.out d)
          have HG5 := Lib.hid (show Glob wr from by rw [hwr]; exact HG3.out.keep (bdrewN (Below.refl _ _) d))
          clear hwr HWr Hm3 HG3 Hb3
          by_cases h2 : LetOK (bs p)
          · have HAp := Lib.hid (HAb.out h2 wr HG5.out)
            have HL2 := Lib.hid h2
            have hp8 : p.size ≤ 8 := by have := h2.2.1; rwa [bs_len] at this
            clear h2
            go_wp2_with fail
            refine HAp.out.mono ?_
            rintro e w6 ⟨x, rfl, hx, hb6⟩
            obtain ⟨k, hk1, hk2, hk3, hk4, hk5⟩ := abs_facts HL2.out hx
            obtain ⟨X, hX⟩ : ∃ X : ByteArray, strV x = .string X ∧ bs X = x := ⟨⟨x.toArray⟩, rfl, rfl⟩
            rw [hX.1]
            have hXs : X.size = k + 1 := by rw [← bs_len, hX.2]; exact hk1
            rw [bs_len, ← HsN.out] at hk2
            rw [← hX.2] at hk3 hk4
            have Hm6 := Lib.hid (Hmr.out.keep hb6)
            have Hb6 := Lib.hid (Below.tr Hb5.out hb6)
            have Hf := Lib.hid hk5
            have HCX := Lib.hid (show ∃ c : Nat, (c = 0 ∨ (c = 2 ∧ 200 < X.size)) ∧ Calls Try.prog 34 #[v1, .string X] w6 (CntPost 0 c w6) from by
              by_cases hq : k + 1 ≤ 200
              · have h := HC.out X (hk4 hq) w6 _ _ Hm6.out
                rw [hk3] at h
                exact ⟨0, .inl rfl, h⟩
              · exact ⟨2, .inr ⟨rfl, by omega⟩, HCA.out X (fun h => hq (by have := h.1; rw [bs_len] at this; omega)) (by omega) w6 _ _ Hm6.out⟩)
            obtain ⟨c, hc, hcX⟩ := HCX.out
            have Hc := Lib.hid hc
            have HcX := Lib.hid hcX
            clear hk3 hk4 hk5 hk1 hx hX hb6 HCX hc hcX Hmr Hb5 HG5 HAp HAb HAn
            go_wp2_with fail
            refine HcX.out.mono ?_
            rintro e w7 ⟨rfl, q7, hw7⟩
            have HW7 := Lib.hid hw7
            clear hw7 HcX
            go_upto_region 22 with fail
            go_cut [16, 138] (fun v8 v wx => v8 = .int .i64 c ∧ v = .bool false ∧ wx = w7)
            case first =>
              have hXe : X.toList.isEmpty = false := by
                rw [bs_toList]
                cases hb : bs X with
                | nil => exfalso; have := congrArg List.length hb; rw [bs_len, List.length_nil] at this; omega
                | cons a b => rfl
              have hX1 : ¬ ((X.size : Int) > 201) := by omega
              rcases Hc.out with e | ⟨e, e2⟩
              · rw [e]
                by_cases hq : (X.size : Int) ≤ 200
                · go_wp2_with fail
                  go_meet
                  exact ⟨by rw [e]; try rfl, by first | rfl | (congr 1; exact decide_eq_false (by omega)), rfl⟩
                · go_wp2_with fail
                  go_meet
                  exact ⟨by rw [e]; try rfl, by first | rfl | (congr 1; exact decide_eq_false (by omega)), rfl⟩
              · rw [e]
                have hq : ¬ ((X.size : Int) ≤ 200) := by omega
                go_wp2_with fail
                go_meet
                exact ⟨by rw [e]; try rfl, by first | rfl | (congr 1; exact decide_eq_false (by omega)), rfl⟩
            case rest =>
              obtain ⟨rfl, rfl, hwx⟩ := hcut
              subst hwx
              have Hm7 := Lib.hid (show Made B wc v1 (bs s) from by rw [HW7.out]; exact Hm6.out.draw q7)
              have Hb7 := Lib.hid (show Below w.heap.size w wc from by rw [HW7.out]; exact bdrewN Hb6.out q7)
              have hXz : (X.size : Int) = ((k + 1 : Nat) : Int) := by omega
              have hwk : IntKind.i64.wrap (((k + 1 : Nat) : Int) - 1) = (k : Int) := by rw [IntWalk.i64_in _ ⟨by omega, by omega⟩]; omega
              clear HW7 Hm6 Hb6
              go_wp2_with fail
              have Hst := Lib.hid (show Strs (wc.alloc (.cells #[.string ⟨#[]⟩] 9)) (.slice (some ⟨wc.heap.size, 0, none⟩) 1 1) (lvl (bs p) 0) from rd_new wc #[.string ⟨#[]⟩] 9 1 1 rfl (by unfold maxLen; omega))
              have Hba := Lib.hid (below_alloc wc (.cells #[.string ⟨#[]⟩] 9))
              have Hb8 := Lib.hid (Below.tr Hb7.out Hba.out)
              have Hm8 := Lib.hid (Hm7.out.keep Hba.out)
              generalize wc.alloc (.cells #[.string ⟨#[]⟩] 9) = w8 at *
              clear Hba Hb7 Hm7
              go_loopw [17, 143] (fun vn vi wr => ∃ j : Nat, vi = .int .i64 j ∧ j ≤ k ∧ Below w.heap.size w wr ∧ Made B wr v1 (bs s) ∧ Strs wr vn (lvl (bs p) j)) (fun _ vi _ => k - (intOf vi).toNat)
              case atStart => exact ⟨0, rfl, Nat.zero_le _, Hb8.out, Hm8.out, Hst.out⟩
              case round =>
                obtain ⟨j, rfl, hj, hb, hmd, hst⟩ := hrel
                have Hb := Lib.hid hb
                have Hmd := Lib.hid hmd
                have Hst9 := Lib.hid hst
                clear hb hmd hst
                by_cases hltj : j < k
                · obtain ⟨a3, b3, off3, cap3, rfl, hle3, ha3, hc3⟩ := Strs.get Hst9.out
                  obtain ⟨M, hM⟩ : ∃ M, M = (lvl (bs p) j).length := ⟨_, rfl⟩
                  have hfew := full_few (sorted_nodup HL2.out.2.2.2) (Hf.out j (by omega))
                  rw [bs_len, ← HsN.out] at hfew
                  rw [← hM] at ha3 hc3 hle3 hfew
                  have hix3 := run_ix (P := Try.prog) (t := 57) (a := a3) (len := M) (cap := cap3) (b := b3) (off := off3) (s := 1) Try.underlying57 (by intro w; kernel_rfl) ha3
                  simp only [Nat.mul_one] at hix3
                  have Hix3 := Lib.hid hix3
                  have Hc3 := Lib.hid hc3
                  have HM := Lib.hid hM
                  rw [← hM]
                  clear ha3 hc3 hix3 hM
                  obtain ⟨wo9, hwo9⟩ : ∃ wo9 : World, wo9 = wr := ⟨_, rfl⟩
                  subst hwo9
                  go_wp2_with fail
                  go_loopw [18, 147] (fun o i wr => ∃ a : Nat, i = .int .i64 a ∧ a ≤ M ∧ Below wo9.heap.size wo9 wr ∧ OwnStrs wo9.heap.size wr o (part (bs p) j a 0)) (fun _ i _ => M - (intOf i).toNat)
                  case atStart => exact ⟨0, rfl, Nat.zero_le _, Below.refl _ _, by rw [part_zero]; exact ownStrs_nil _ _⟩
                  case round =>
                    obtain ⟨a, rfl, ha, hb, hown⟩ := hrel
                    have Hb4 := Lib.hid hb
                    have Hown := Lib.hid hown
                    clear hb hown
                    by_cases hlta : a < M
                    · have hixa := Hix3.out a
                      have hca := Below.keep Hb4.out (Hc3.out a hlta)
                      obtain ⟨Y, hY, hYV⟩ : ∃ Y : ByteArray, bs Y = (lvl (bs p) j).getD a [] ∧ strV ((lvl (bs p) j).getD a []) = .string Y := ⟨⟨((lvl (bs p) j).getD a []).toArray⟩, rfl, rfl⟩
                      rw [hYV] at hca
                      have hYk : Y.size = j := by
                        rw [← bs_len, hY]
                        apply lvl_len (L := bs p)
                        rw [List.getD_eq_getElem?_getD, List.getElem?_eq_getElem (by rw [← HM.out]; exact hlta)]
                        exact List.getElem_mem _
                      have HY := Lib.hid hY
                      clear hY hYV
                      go_wp2_with fail
                      go_loopw [18, 153] (fun o i wr => ∃ b : Nat, i = .int .i64 b ∧ b ≤ p.size ∧ Below wo9.heap.size wo9 wr ∧ OwnStrs wo9.heap.size wr o (part (bs p) j a b)) (fun _ i _ => p.size - (intOf i).toNat)
                      case atStart => exact ⟨0, rfl, Nat.zero_le _, Hb4.out, Hown.out⟩
                      case round =>
                        obtain ⟨b, rfl, hbp, hb, hown⟩ := hrel
                        have Hb5 := Lib.hid hb
                        have Hown5 := Lib.hid hown
                        clear hb hown
                        by_cases hltb : b < p.size
                        · have hbL : b < (bs p).length := by rw [bs_len]; exact hltb
                          have haL : a < (lvl (bs p) j).length := by rw [← HM.out]; exact hlta
                          have hto : ((b : Int) + 1).toNat = b + 1 := by omega
                          have hwb : IntKind.i64.wrap ((b : Int) + 1) = ((b + 1 : Nat) : Int) := by rw [IntWalk.i64_in _ ⟨by omega, by omega⟩]; omega
                          have hbb : (b : Int) ≤ ((b + 1 : Nat) : Int) := by omega
                          have hbp2 : ((b + 1 : Nat) : Int) ≤ (p.size : Int) := by omega
                          have hex : (p.extract b (b + 1)).size = 1 := by rw [ByteArray.size_extract]; omega
                          have Hnx := Lib.hid (show bs (Y ++ p.extract b (b + 1)) = ((lvl (bs p) j).getD a []) ++ [(bs p)[b]'hbL] by rw [bs_app, ex_one hltb, HY.out]; rfl)
                          have hmem : bs (Y ++ p.extract b (b + 1)) ∈ lvl (bs p) (j + 1) := by rw [Hnx.out]; exact List.mem_of_getElem? (part_elem haL hbL)
                          have hoc := occ_some (Hf.out (j + 1) (by omega) _ hmem)
                          have HCy := Lib.hid (HC.out (Y ++ p.extract b (b + 1)) (lvl_lab HL2.out hmem (by omega)) wr _ _ (Hmd.out.keep Hb5.out))
                          obtain ⟨Q, hQ⟩ : ∃ Q, Q = (occ' (bs s) (bs (Y ++ p.extract b (b + 1)))).length := ⟨_, rfl⟩
                          rw [← hQ] at HCy hoc
                          have hQ0 : ((Q : Int) == 0) = false := by rw [beq_eq_false_iff_ne]; omega
                          have hlen := part_few (t := bs s) (sorted_nodup HL2.out.2.2.2) haL (k := j) (a := a) (b := b) (L := bs p) (fun x hx => Hf.out (j + 1) (by omega) x (by
                            obtain ⟨r, hr⟩ := part_prefix (b := b) haL
                            rw [← hr]; exact List.mem_append_left _ hx))
                          rw [bs_len] at hlen
                          have Hlen := Lib.hid hlen
                          clear hmem hQ hlen
                          go_wp2_with fail
                          generalize p.extract b (b + 1) = C at *
                          refine HCy.out.mono ?_
                          rintro e w' ⟨rfl, q', hw'⟩
                          have Hown7 := Lib.hid (show OwnStrs wo9.heap.size w' u18 (part (bs p) j a b) from by rw [hw']; exact owns_drewN Hown5.out q')
                          have Hb7 := Lib.hid (show Below wo9.heap.size wo9 w' from by rw [hw']; exact bdrewN Hb5.out q')
                          clear hw'
                          go_wp2_with (at_builtin; refine append_own rfl (.tmp 175) (.tmp 177) 57 rfl elemStrs rfl (World.ownsRow.alloc Hown7.out _) [.string (Y ++ C)] rfl rfl ?c1 ?c2 ?c3 ?c4 ?_)
                          case c1 => intro q u hq; exact new_one _ _ _ hq
                          case c2 => intro u hu; simp at hu; subst hu; rfl
                          case c3 => have := Hlen.out; omega
                          case c4 => have := Hb7.out.size; simp; omega
                          intro v7 w7 hown7 hb7 _
                          have HO := Lib.hid (show OwnStrs wo9.heap.size w7 v7 (part (bs p) j a (b + 1)) from by
                            rw [part_succ hbL]
                            refine OwnStrs.snoc ?_
                            rw [str_bs, Hnx.out] at hown7
                            exact hown7)
                          have hb' := Lib.hid (show Below wo9.heap.size wo9 w7 from (Below.alloc Hb7.out Hb7.out.size _).trans hb7)
                          clear hown7 hb7
                          go_wp2_with fail
                          go_roundw
                          case rel => exact ⟨b + 1, by go_num, by omega, hb'.out, HO.out⟩
                          case measure => simp [intOf]; omega
                        · obtain rfl : b = p.size := by omega
                          have Hown6 := Lib.hid (show OwnStrs wo9.heap.size wr u18 (part (bs p) j (a + 1) 0) from by
                            have := Hown5.out
                            rw [← bs_len, part_row (by rw [← HM.out]; exact hlta)] at this
                            exact this)
                          go_wp2_with fail
                          go_roundw
                          case rel => exact ⟨a + 1, by go_num, by omega, Hb5.out, Hown6.out⟩
                          case measure => simp [intOf]; omega
                    · obtain rfl : a = M := by omega
                      have hst6 : OwnStrs wo9.heap.size wr u18 (lvl (bs p) (j + 1)) := by
                        have := Hown.out
                        rw [HM.out, part_all] at this
                        exact this
                      have hfew2 := full_few (sorted_nodup HL2.out.2.2.2) (Hf.out (j + 1) (by omega))
                      rw [bs_len, ← HsN.out] at hfew2
                      obtain ⟨a', c', hv'⟩ := own_slice hst6
                      subst hv'
                      have Hst6 := Lib.hid hst6.strs
                      obtain ⟨M', hM'⟩ : ∃ M', M' = (lvl (bs p) (j + 1)).length := ⟨_, rfl⟩
                      rw [← hM'] at hfew2 ⊢
                      have Hb9 := Lib.hid (Below.tr Hb.out Hb4.out)
                      have Hm9 := Lib.hid (Hmd.out.keep Hb4.out)
                      have hM2 : ¬ ((M' : Int) > 2000) := by omega
                      rw [← hM'] at Hst6
                      clear hst6 hM'
                      go_wp2_with fail
                      go_roundw
                      case rel => exact ⟨j + 1, by go_num, by omega, Hb9.out, Hm9.out, Hst6.out⟩
                      case measure => simp [intOf]; omega
                · go_wp2_with fail
                  refine (awake_any _).mono ?_
                  rintro e w9 ⟨rfl, hb9⟩
                  have Hb9 := Lib.hid (Below.tr Hb.out hb9)
                  clear hb9
                  go_wp2_with fail
                  go_ret
                  exact ⟨rfl, Hb9.out⟩
          · have HAp := Lib.hid (HAn.out h2 wr)
            clear h2
            go_wp2_with fail
            refine HAp.out.mono ?_
            rintro e w6 ⟨rfl, q6, hw6⟩
            have Hb6 := Lib.hid (show Below w.heap.size w w6 from by rw [hw6]; exact bdrewN Hb5.out q6)
            clear hw6
            go_wp2_with fail
            refine (awake_any _).mono ?_
            rintro e w7 ⟨rfl, hb7⟩
            have Hb7 := Lib.hid (Below.tr Hb6.out hb7)
            clear hb7
            go_wp2_with fail
            go_ret
            exact ⟨rfl, Hb7.out⟩
#print axioms repeats_yes
theorem repeats_any (t0 : ByteArray) (ht : t0.size ≤ maxLen) (p0 : ByteArray) (hp : p0.size ≤ maxLen) (w : World) (hg : Glob w) :
    Calls Try.prog 17 #[.string t0, .string p0] w fun e w' => e = .returned (.bool true) ∧ Below w.heap.size w w' := by
  have HF := Lib.hid (few_any t0 ht)
  have HF2 := Lib.hid (few_any p0 hp)
  have hs : (fewB t0).size ≤ 1000 := by have := fewB_size t0; omega
  have hs2 : (fewB p0).size ≤ 1000 := by have := fewB_size p0; omega
  by_cases h : Lab (bs (fewB t0))
  · exact repeats_yes HF HF2 hs2 h w hg
  · exact repeats_bad HF HF2 hs h w

namespace indexRepeats
open Go.ChangeShapes Go.WideShapes Go.ChangeAt Go.ChangeMaps
set_option maxRecDepth 100000 in
theorem lifted (os : Os) (started : os.Started) (H : Type) (enc : TypeId × Value → H) :
    ReturnsInHanded {} Try.checked os 17 .any (Rows.indexRepeatsSpec.pre6 enc Try.prog Try.f17 Rows.indexRepeatsRow.domain false) (Rows.indexRepeatsSpec.post enc Try.prog Try.f17 false true false false) := by
  refine returnsInHanded_of_change_shaped (C := Try.checked) Try.own started (by kernel_rfl) Try.func17
    (ChangeSpec.witness6 (enc := enc) (C := Try.checked) false ⟨#[], #[.string ⟨#[]⟩, .string ⟨#[]⟩], []⟩ 8 (by kernel_rfl) (by kernel_rfl) (by kernel_rfl) (by kernel_rfl)) ?_
  intro W base args ds gs before hval0 hW _ _ hshape _
  have hval : ∀ (j : Nat) t v, Try.f17.params[j]? = some t → args[j]? = some v → Value.okWide Try.prog W .any base t v := hval0
  clear hval0
  obtain rfl : gs = [] := by obtain ⟨p, q, _, hV, _⟩ := hW; exact (trodVars_none hV).1
  have hW' := hW
  obtain ⟨p, q, hA0, hV, rfl, hfz, hnd⟩ := hW
  have hA : DataW.TrodAll enc Try.prog W 0 (fun _ => true) true Try.f17.params.toList args.toList ds p := hA0
  rw [Try.params17] at hA hval
  obtain ⟨v0, vs0, d0, ds0, p0, q0, hv0, hd0, hp0, h0, r0⟩ := trodAll_cons hA
  obtain ⟨v1, vs1, d1, ds1, p1, q1, hv1, hd1, hp1, h1, r1⟩ := trodAll_cons r0
  obtain ⟨hvn, hdn, hpn⟩ := trodAll_nil r1
  have ha : args = #[v0, v1] := by cases args; simp_all
  have hdd : ds = [d0, d1] := by simp_all
  rw [ha] at hval
  obtain ⟨a0, e0, -, -, ws0⟩ := open_string Try.underlying9 (hval 0 9 v0 rfl rfl) h0
  obtain ⟨a1, e1, -, -, ws1⟩ := open_string Try.underlying9 (hval 1 9 v1 rfl rfl) h1
  have hw : Calls Try.prog 17 args W (fun e W' => e = .returned (.bool true) ∧ Below W.heap.size W W') := by
    rw [ha, e0, e1]; exact repeats_any a0 ws0 a1 ws1 W (glob_of hshape)
  exact hw.mono fun e W' ⟨he, hb⟩ => ⟨_, he, law_post Try.laidOut hW' rfl rfl Try.underlying4 (by rw [hdd]; rfl)
    (by kernel_rfl) hb⟩

theorem holds : Rows.IndexRepeatsSaid :=
  OpenClaim.holds_of_wide 17 Try.f17 rfl rfl rfl rfl rfl rfl rfl ⟨rfl, rfl, rfl, rfl, rfl⟩ rfl rfl rfl rfl rfl (by kernel_rfl) Try.func17 (by kernel_rfl)
    (of_decide_eq_true (by kernel_rfl)) (by unfold Func.isWrapper; first | (rw [if_pos (by decide +kernel)]; kernel_rfl) | (rw [if_neg (by decide +kernel)]; exact ⟨rfl, rfl⟩))
    (fun os started H enc _ => lifted os started H enc)
#print axioms holds
end indexRepeats
end Go.Proofs.Ytbnlkmblkokooaa
