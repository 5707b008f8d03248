/- MatchReduced: for every input the law returns true. -/
import Derived.Test.YtfplmdieeabgpaaRdz
import Derived.Test.YtfplmdieeabgpaaCtq
import Derived.Test.YtfplmdieeabgpaaAwk
import Derived.Test.YtfplmdieeabgpaaFrame
import Derived.Test.YtfplmdieeabgpaaRows
namespace Go.Proofs.Ytfplmdieeabgpaa
open Go.RowKit
structure Bq (w wr : World) (bp : Nat) (x0 x1 : Value) : Prop where
  b : Below w.heap.size w wr
  p : Bx wr bp x0 x1
theorem Bq.keep {w wr w' : World} {bp : Nat} {x0 x1 : Value} (h : Bq w wr bp x0 x1) (hb : Below wr.heap.size wr w') : Bq w w' bp x0 x1 := ⟨Below.tr h.b hb, h.p.keep hb⟩
theorem Bq.cells {w wr : World} {bp : Nat} {x0 x1 : Value} (h : Bq w wr bp x0 x1) : (wr.cell? ⟨bp, 0, none⟩ = some x0 ∧ wr.cell? ⟨bp, 1, none⟩ = some x1) ∧ True ∧ True := ⟨⟨aCell h.p 0 rfl, aCell h.p 1 rfl⟩, trivial, trivial⟩
/-- the facts of the first i parts, and the first j of the next, each once -/
def AllI (P : List (List HAt)) (i j : Nat) (al : List HAt) : Prop := al.Nodup ∧ ∀ x, x ∈ al ↔ (∃ k, k < i ∧ x ∈ P.getD k []) ∨ x ∈ (P.getD i []).take j
theorem allI_00 (P : List (List HAt)) : AllI P 0 0 [] := ⟨List.nodup_nil, fun x => ⟨fun h => (by cases h), fun h => by
  rcases h with ⟨k, hk, _⟩ | h
  · omega
  · rw [List.take_zero] at h; cases h⟩⟩
theorem allI_next {P : List (List HAt)} {i : Nat} {al : List HAt} (h : AllI P i (P.getD i []).length al) : AllI P (i + 1) 0 al := ⟨h.1, fun x => by
  rw [h.2, List.take_length, List.take_zero]
  constructor
  · rintro (⟨k, hk, hx⟩ | hx)
    · exact .inl ⟨k, by omega, hx⟩
    · exact .inl ⟨i, by omega, hx⟩
  · rintro (⟨k, hk, hx⟩ | hx)
    · by_cases e : k = i
      · subst e; exact .inr hx
      · exact .inl ⟨k, by omega, hx⟩
    · cases hx⟩
theorem nodup_of_keys {N : List HAt} (h : Strict (N.map keyF)) : N.Nodup := by
  have := strict_nodup h
  rw [List.nodup_iff_pairwise_ne, List.pairwise_map] at this
  rw [List.nodup_iff_pairwise_ne]
  exact this.imp fun h e => h (congrArg keyF e)
theorem take_mem {N : List HAt} {j : Nat} (hj : j < N.length) (x : HAt) : x ∈ N.take (j + 1) ↔ x ∈ N.take j ∨ x = (aR N j, aA N j) := by
  rw [List.take_succ_eq_append_getElem hj, List.mem_append, List.mem_singleton, at_get hj]
theorem allI_in {P : List (List HAt)} {i j : Nat} {al N : List HAt} (hN : N = P.getD i []) (h : AllI P i j al) (hj : j < N.length) (hx : (aR N j, aA N j) ∈ al) : AllI P i (j + 1) al := ⟨h.1, fun x => by
  rw [h.2, ← hN, take_mem hj]
  constructor
  · exact fun h => h.elim .inl fun h => .inr (.inl h)
  · rintro (h1 | h1 | rfl)
    · exact .inl h1
    · exact .inr h1
    · have := (h.2 _).1 hx
      rwa [← hN] at this⟩
theorem allI_new {P : List (List HAt)} {i j : Nat} {al N : List HAt} (hN : N = P.getD i []) (h : AllI P i j al) (hj : j < N.length) (hx : (aR N j, aA N j) ∉ al) : AllI P i (j + 1) (al ++ [(aR N j, aA N j)]) := by
  refine ⟨?_, fun x => ?_⟩
  · rw [List.nodup_append]
    refine ⟨h.1, by simp, fun a ha b hb => ?_⟩
    rw [List.mem_singleton.1 hb]
    exact fun e => hx (e ▸ ha)
  · rw [List.mem_append, h.2, ← hN, take_mem hj, List.mem_singleton, or_assoc]
theorem allI_all {q : HQ} {P : List (List HAt)} {al : List HAt} (h : AllI P q.2.length 0 al) : AllP q P al := fun x => by
  rw [h.2, List.take_zero]
  exact ⟨fun h => h.elim id fun h => (by cases h), .inl⟩
set_option maxRecDepth 100000 in
set_option maxHeartbeats 16000000 in
theorem reduced_law (q : HQ) (l : List HAt) (v x : Value) (w : World) (hq : Qr w v q) (hl : Atoms w x l) :
    Calls Try.prog 13 #[v, x] w fun e w' => e = .returned (.bool true) ∧ Below w.heap.size w w' := by
  obtain ⟨h0, b0, rfl, hh, hb⟩ := hq
  have Hq := Lib.hid (show Qr w (.agg #[h0, b0]) q from ⟨_, _, rfl, hh, hb⟩)
  obtain ⟨ha, hc, rfl⟩ := ints_slice hh
  obtain ⟨ba, b3, off3, bc, vs3, rfl, _, hia3, _, hcl3⟩ := Atoms.get hb
  obtain ⟨la, lc, rfl⟩ := atoms_slice hl
  obtain ⟨n0, hn0⟩ : ∃ x, x = q.1.length := ⟨_, rfl⟩
  obtain ⟨n1, hn1⟩ : ∃ x, x = q.2.length := ⟨_, rfl⟩
  obtain ⟨ln, hln⟩ : ∃ x, x = l.length := ⟨_, rfl⟩
  rw [← hn0, ← hn1] at Hq
  rw [← hln] at hl
  rw [← hn1] at hia3 hcl3
  rw [← hn0, ← hn1, ← hln]
  have Hix3 := Lib.hid (run_ix (P := Try.prog) (t := 23) (a := ba) (len := n1) (cap := bc) (b := b3) (off := off3) (s := 2) Try.underlying23 (by intro w; kernel_rfl) hia3)
  have Hc3 := Lib.hid (fun i hi => (hcl3 i hi).1)
  have Hn1 := Lib.hid hn1
  have Hl := Lib.hid hl
  obtain ⟨w1, hw1⟩ : ∃ x, x = w.alloc (.cells #[.slice ha n0 hc, .slice ba n1 bc] 25) := ⟨_, rfl⟩
  obtain ⟨bp, hbp⟩ : ∃ x, x = w.heap.size := ⟨_, rfl⟩
  have HB := Lib.hid (show Bq w w1 bp (.slice ha n0 hc) (.slice ba n1 bc) from ⟨by rw [hw1]; exact below_alloc _ _, by rw [hw1, hbp]; exact heap_alloc_new _ _⟩)
  have Hw1 := Lib.hid hw1
  have Hbpe := Lib.hid hbp
  clear hh hb hw1 hbp hn0 hn1 hln hl hia3 hcl3
  go_enter Try.func13, Try.ntmps13
  go_upto_region 1 with fail
  rw [← Hw1.out, ← Hbpe.out]
  clear Hw1 Hbpe
  obtain ⟨⟨g0, g1⟩, g2, g3⟩ := HB.out.cells
  go_wp2_with fail
  refine (ofC_any _ _ (Hq.out.keep HB.out.b)).mono ?_
  rintro e w2 ⟨a1, e1, k1, a2, e2, k2, rfl, ho, hb⟩
  have HB := Lib.hid (HB.out.keep hb)
  have HQ := Lib.hid (ho.qr)
  clear hb ho g0 g1 g2 g3
  go_wp2_with fail
  refine (facC_any _ _ (Hl.out.keep HB.out.b)).mono ?_
  rintro e w3 ⟨f1, f2, f3, rfl, ho, hb⟩
  have HB := Lib.hid (HB.out.keep hb)
  have HQ := Lib.hid (HQ.out.keep hb)
  have HF := Lib.hid ho.atoms
  clear hb ho
  go_wp2_with fail
  refine (reduce_any _ _ _ HQ.out HF.out).mono ?_
  rintro e w4 ⟨ra, rn, rk, c1, rfl, hR, hb⟩
  have HB := Lib.hid (HB.out.keep hb)
  have HQ := Lib.hid (HQ.out.keep hb)
  have HF := Lib.hid (HF.out.keep hb)
  have HR1 := Lib.hid hR
  clear hb hR HQ HF
  obtain ⟨⟨g0, g1⟩, g2, g3⟩ := HB.out.cells
  go_wp2_with fail
  refine (ofC_any _ _ (Hq.out.keep HB.out.b)).mono ?_
  rintro e w5 ⟨a1, e1, k1, a2, e2, k2, rfl, ho, hb⟩
  have HB := Lib.hid (HB.out.keep hb)
  have HR1 := Lib.hid (HR1.out.keep hb)
  have HQ := Lib.hid (ho.qr)
  clear hb ho g0 g1 g2 g3
  go_wp2_with fail
  refine (facC_any _ _ (Hl.out.keep HB.out.b)).mono ?_
  rintro e w6 ⟨f1, f2, f3, rfl, ho, hb⟩
  have HB := Lib.hid (HB.out.keep hb)
  have HR1 := Lib.hid (HR1.out.keep hb)
  have HQ := Lib.hid (HQ.out.keep hb)
  have HF := Lib.hid ho.atoms
  clear hb ho
  go_wp2_with fail
  refine (resC_any _ _ _ HQ.out HF.out).mono ?_
  rintro e w7 ⟨rb, rbn, rbk, c2, rfl, hR, hb⟩
  have HB := Lib.hid (HB.out.keep hb)
  have HR1 := Lib.hid (HR1.out.keep hb)
  have HQ := Lib.hid (HQ.out.keep hb)
  have HF := Lib.hid (HF.out.keep hb)
  have HR2 := Lib.hid hR
  clear hb hR HQ HF
  obtain ⟨⟨g0, g1⟩, g2, g3⟩ := HB.out.cells
  go_wp2_with fail
  refine (ofC_any _ _ (Hq.out.keep HB.out.b)).mono ?_
  rintro e w8 ⟨a1, e1, k1, a2, e2, k2, rfl, ho, hb⟩
  have HB := Lib.hid (HB.out.keep hb)
  have HR1 := Lib.hid (HR1.out.keep hb)
  have HR2 := Lib.hid (HR2.out.keep hb)
  have HQ := Lib.hid (ho.qr)
  clear hb ho g0 g1 g2 g3
  go_wp2_with fail
  refine (facC_any _ _ (Hl.out.keep HB.out.b)).mono ?_
  rintro e w9 ⟨f1, f2, f3, rfl, ho, hb⟩
  have HB := Lib.hid (HB.out.keep hb)
  have HR1 := Lib.hid (HR1.out.keep hb)
  have HR2 := Lib.hid (HR2.out.keep hb)
  have HQ := Lib.hid (HQ.out.keep hb)
  have HF := Lib.hid ho.atoms
  clear hb ho
  go_wp2_with fail
  refine (cntC_any _ _ _ HQ.out HF.out).mono ?_
  rintro e w10 ⟨na, c3, rfl, hC, hb⟩
  have HB := Lib.hid (HB.out.keep hb)
  have HR1 := Lib.hid (HR1.out.keep hb)
  have HR2 := Lib.hid (HR2.out.keep hb)
  have HQ := Lib.hid (HQ.out.keep hb)
  have HF := Lib.hid (HF.out.keep hb)
  have HC3 := Lib.hid hC
  clear hb hC HQ HF
  obtain ⟨hc2, hc3⟩ := codes HR1.out HR2.out HC3.out
  subst hc2 hc3
  have hR1 := HR1.out
  have hR2 := HR2.out
  have hC3 := HC3.out
  clear HR1 HR2 HC3
  rcases hR1 with ⟨_, _, rfl⟩ | ⟨_, _, _, _, rfl⟩ | ⟨q1, q2, q3, rfl, P, hP, hPl, hPp⟩
  · clear hR2 hC3
    go_wp2_with fail
    refine (awake_any _).mono ?_
    rintro e w11 ⟨rfl, hb⟩
    have HB := Lib.hid (HB.out.keep hb)
    clear hb 
    go_wp2_with fail
    go_ret
    exact ⟨rfl, HB.out.b⟩
  · clear hR2 hC3
    go_wp2_with fail
    refine (awake_any _).mono ?_
    rintro e w11 ⟨rfl, hb⟩
    have HB := Lib.hid (HB.out.keep hb)
    clear hb 
    go_wp2_with fail
    go_ret
    exact ⟨rfl, HB.out.b⟩
  · have EQ := Lib.hid (ofQ_valid q1)
    have EF := Lib.hid (ofF_valid2 q2)
    rw [EQ.out] at q1 q3 hPl hPp hR2 hC3
    rw [EF.out] at q2 q3 hPp hR2 hC3
    have Q1 := Lib.hid q1
    have Q2 := Lib.hid q2
    have Q3 := Lib.hid q3
    have HPp := Lib.hid hPp
    have HP := Lib.hid hP.pts
    obtain ⟨Ra, hRa, hIs⟩ : ∃ R, Rows w10 (.slice rb rbn rbk) R ∧ IsRes q l R := by
      rcases hR2 with ⟨k1, _⟩ | ⟨_, _, k3, _⟩ | ⟨_, _, _, _, R, k5, k6⟩
      · exact absurd ⟨q1, q2⟩ k1
      · exact absurd k3 q3
      · exact ⟨R, k5.rows, k6⟩
    obtain ⟨L, hL1, hL2, rfl⟩ : ∃ L : List (List Int), L.Nodup ∧ (∀ v, v ∈ L ↔ MaP l q.2 v) ∧ na = L.length := by
      rcases hC3 with ⟨k1, _⟩ | ⟨_, _, k3, _⟩ | ⟨_, _, _, _, L, k5, k6, k7⟩
      · exact absurd ⟨q1, q2⟩ k1
      · exact absurd k3 q3
      · exact ⟨L, k5, k6, k7⟩
    have HRa := Lib.hid hRa
    have HIs := Lib.hid hIs
    have L1 := Lib.hid hL1
    have L2 := Lib.hid hL2
    obtain ⟨nl, hnl⟩ : ∃ x, x = L.length := ⟨_, rfl⟩
    have Hnl := Lib.hid hnl
    rw [← hnl]
    obtain rfl : n1 = rn := by
      obtain ⟨_, _, e⟩ := hP.slice
      injection e with _ e _
      rw [e, hPl]; exact Hn1.out
    have HPl := Lib.hid (show P.length = n1 from by rw [hPl]; exact Hn1.out.symm)
    clear q1 q2 q3 hP hPl hPp hR2 hC3 hRa hIs hL1 hL2 hnl
    obtain ⟨⟨g0, g1⟩, g2, g3⟩ := HB.out.cells
    go_wp2_with fail
    refine (validQR_any q _ _ (Hq.out.keep HB.out.b) true (decide_eq_true Q1.out)).mono ?_
    rintro e w11 ⟨rfl, hb⟩
    have HB := Lib.hid (HB.out.keep hb)
    have HP := Lib.hid (HP.out.keep hb)
    have HRa := Lib.hid (HRa.out.keep hb)
    clear hb g0 g1 g2 g3
    obtain ⟨a, b, off, cap, vs, hav, hle, hia, hcs⟩ := Pts.get HP.out
    rw [HPl.out] at hav hle hia hcs
    injection hav with e1 e2 e3
    subst e1 e3
    have Hix := Lib.hid (run_ix (P := Try.prog) (t := 66) (a := ra) (len := n1) (cap := rk) (b := b) (off := off) (s := 1) Try.underlying66 (by intro w; kernel_rfl) hia)
    simp only [Nat.mul_one] at Hix
    have Hc := Lib.hid hcs
    clear hia hcs e2
    have hn5 : n1 ≤ 5 := by rw [Hn1.out]; exact Q1.out.1.2.1
    obtain ⟨⟨g0, g1⟩, g2, g3⟩ := HB.out.cells
    go_wp2_with fail
    clear g0 g1 g2 g3
    go_loopw [11, 76] (fun va vi wr => ∃ (i : Nat) (sa : Option Addr) (sn sk : Nat) (al : List HAt), va = .slice sa sn sk ∧ vi = .int .i64 i ∧ i ≤ n1 ∧ Below w11.heap.size w11 wr ∧ SubB 77 w11 w11.heap.size wr (.slice sa sn sk) al ∧ AllI P i 0 al) (fun _ vi _ => n1 - (intOf vi).toNat)
    case atStart => exact ⟨0, none, 0, 0, [], rfl, rfl, Nat.zero_le _, Below.refl _ _, subB_nil _ _ _ _, allI_00 P⟩
    case round =>
      generalize wr = wx at *
      obtain ⟨i, sa, sn, sk, al, rfl, rfl, hi, hb, hS, hA⟩ := hrel
      have Hb := Lib.hid hb
      have HS := Lib.hid hS
      have HA := Lib.hid hA
      clear hb hS hA
      by_cases hlt : i < n1
      · have hck := Below.keep (Hb.out.mono (Nat.le_refl _)) (Hc.out i hlt).1
        have hik := (Hc.out i hlt).2
        have hixi := Hix.out i
        have hlt2 : i < q.2.length := by rw [← Hn1.out]; exact hlt
        have HPi := Lib.hid (HPp.out i hlt2)
        obtain ⟨N, hN⟩ : ∃ x, x = P.getD i [] := ⟨_, rfl⟩
        rw [← hN] at hik HPi
        have HN := Lib.hid hN
        obtain ⟨a5, b5, off5, cap5, vs5, he5, _, hia5, _, hcl5⟩ := Atoms.get hik
        rw [he5] at hck
        clear he5 hN hik
        obtain ⟨pn, hpn⟩ : ∃ x, x = N.length := ⟨_, rfl⟩
        have Hpn := Lib.hid hpn
        rw [← hpn] at hck hia5 hcl5
        have Hix5 := Lib.hid (run_ix (P := Try.prog) (t := 26) (a := a5) (len := pn) (cap := cap5) (b := b5) (off := off5) (s := 2) Try.underlying26 (by intro w; kernel_rfl) hia5)
        have Hc5 := Lib.hid hcl5
        obtain ⟨B, hB⟩ : ∃ B, B = decide (pn = 0) := ⟨_, rfl⟩
        have hz : pn = 0 ↔ nl = 0 := by rw [Hpn.out, Hnl.out, part_none HPi.out, list_none L2.out]
        have z1 : ((pn : Int) == 0) = B := by
          rw [hB]
          by_cases c : pn = 0
          · rw [decide_eq_true c, beq_iff_eq]; omega
          · rw [decide_eq_false c, beq_eq_false_iff_ne]; omega
        have z2 : ((nl : Int) == 0) = B := by
          rw [hB]
          by_cases c : pn = 0
          · have := hz.1 c; rw [decide_eq_true c, beq_iff_eq]; omega
          · have : nl ≠ 0 := fun e => c (hz.2 e)
            rw [decide_eq_false c, beq_eq_false_iff_ne]; omega
        have hpl : pn ≤ 1000000 := by
          have := len_le (l := N) (m := l) (nodup_of_keys HPi.out.1) fun x hx => (part_in HPi.out hlt2 hx).1
          have h24 := Q2.out.1
          omega
        clear hpn hia5 hcl5 hB hz hlt2
        go_wp2_with fail
        clear z1 z2 hck hixi
        go_loopw [11, 89] (fun va vi wr => ∃ (j : Nat) (sa : Option Addr) (sn sk : Nat) (al : List HAt), va = .slice sa sn sk ∧ vi = .int .i64 j ∧ j ≤ pn ∧ Below w11.heap.size w11 wr ∧ SubB 77 w11 w11.heap.size wr (.slice sa sn sk) al ∧ AllI P i j al) (fun _ vi _ => pn - (intOf vi).toNat)
        case atStart => exact ⟨0, sa, sn, sk, al, rfl, rfl, Nat.zero_le _, Hb.out, HS.out, HA.out⟩
        case round =>
          generalize wr = wy at *
          clear HS HA Hb
          obtain ⟨j, sa, sn, sk, al, rfl, rfl, hj, hb, hS, hA⟩ := hrel
          have Hb := Lib.hid hb
          have HS := Lib.hid hS
          have HA := Lib.hid hA
          clear hb hS hA
          by_cases hlj : j < pn
          · have hlj2 : j < N.length := by rw [← Hpn.out]; exact hlj
            have hmem : (aR N j, aA N j) ∈ N := by rw [← at_get hlj2]; exact List.getElem_mem hlj2
            have hin := part_in HPi.out (by rw [← Hn1.out]; exact hlt) hmem
            have HI1 := Lib.hid (fun h => allI_in HN.out HA.out hlj2 h)
            have HI2 := Lib.hid (fun h => allI_new HN.out HA.out hlj2 h)
            have hc1 := Below.keep Hb.out (Hc5.out j hlj).1
            have hc2 := Below.keep Hb.out (Hc5.out j hlj).2.1
            have Hai := Lib.hid (Hc5.out j hlj).2.2
            have hixj := Hix5.out j
            have hc3 := Below.keep (Below.tr HB.out.b Hb.out) (Hc3.out i hlt)
            have hixi := Hix3.out i
            have e0 : aR q.2 i = aR N j := hin.2.symm
            rw [e0] at hc3
            have hin := hin.1
            obtain ⟨r, hr⟩ : ∃ t, t = aR N j := ⟨_, rfl⟩
            obtain ⟨X, hX⟩ : ∃ t, t = aA N j := ⟨_, rfl⟩
            rw [← hr, ← hX] at hin HI1 HI2
            rw [← hr] at hc1 hc3
            rw [← hX] at Hai
            obtain ⟨ya, yc, hys⟩ := ints_slice Hai.out
            rw [hys] at hc2 Hai
            obtain ⟨yn, hyn⟩ : ∃ x, x = X.length := ⟨_, rfl⟩
            rw [← hyn] at hc2 Hai
            have Hin := Lib.hid hin
            clear hr hX hys hyn e0 hmem hlj2 hin
            obtain ⟨wn, hwn⟩ : ∃ wn, wn = wy.alloc (.cells #[.int .i64 r, .slice ya yn yc] 77) := ⟨_, rfl⟩
            obtain ⟨bx, hbx⟩ : ∃ x, x = wy.heap.size := ⟨_, rfl⟩
            have hb : Below wy.heap.size wy wn := by rw [hwn]; exact below_alloc _ _
            have HX := Lib.hid (show wn.heap[bx]? = some (.cells #[.int .i64 r, .slice ya yn yc] 77 (0, 0)) from by rw [hwn, hbx]; exact heap_alloc_new _ _)
            have Hbn := Lib.hid (Hb.out.trans (hb.mono Hb.out.size))
            have HSn := Lib.hid (HS.out.keep hb)
            have H3 := Lib.hid (Below.keep hb hc3)
            have HBn := Lib.hid (HB.out.keep Hbn.out)
            have Hwn := Lib.hid hwn
            have Hbx := Lib.hid hbx
            clear hwn hbx hb hc3
            go_upto_region 17 with fail
            rw [← Hwn.out, ← Hbx.out]
            clear Hwn Hbx hc1 hc2 hixj
            try simp only [Act.put]
            go_cut [107] (fun o wc => o = .bool false ∧ Below wn.heap.size wn wc)
            case first =>
              have HS0 := Lib.hid (show wn.drew.heap[bx]? = some (.cells #[.int .i64 r, .slice ya yn yc] 77 (0, 0)) ∧ Bx wn.drew bp (.slice ha n0 hc) (.slice ba n1 bc) ∧ wn.drew.cell? ⟨b3, off3 + i * 2, none⟩ = some (.int .i64 r) from ⟨HX.out, HBn.out.p, H3.out⟩)
              have HW0 := Lib.hid (show Below wn.heap.size wn wn.drew from (Below.refl _ _).drew)
              refine wp_region_held (S := fun w' => w'.heap[bx]? = some (.cells #[.int .i64 r, .slice ya yn yc] 77 (0, 0)) ∧ Bx w' bp (.slice ha n0 hc) (.slice ba n1 bc) ∧ w'.cell? ⟨b3, off3 + i * 2, none⟩ = some (.int .i64 r)) wideK ?_
              change wpAnyH _ _ _ _ _ _ _ _ (World.drew _)
              generalize wn.drew = wd0 at *
              refine wpAnyH_take (i := 0) (v := ?_) rfl (by kernel_rfl) (by kernel_rfl) (by kernel_rfl) (fun _ _ _ h => h) (Or.inl ⟨by rfl, ?_⟩) HS0.out ?_
              rotate_left
              focus (intro w hS; clear hS; first | (go_simp; done) | (go_simp; with_reducible rfl))
              simp only [Act.put, List.getElem_toArray, List.getElem_cons_zero, List.setIfInBounds_toArray, List.set_cons_zero, List.set_cons_succ]
              refine wpAnyH_take (i := 1) (v := ?_) rfl (by kernel_rfl) (by kernel_rfl) (by kernel_rfl) (fun _ _ _ h => h) (Or.inl ⟨by rfl, ?_⟩) HS0.out ?_
              rotate_left
              focus (intro w hS; have s0 := aCell hS.1 0 rfl; clear hS; first | (go_simp; done) | (go_simp; with_reducible rfl))
              simp only [Act.put, List.getElem_toArray, List.getElem_cons_zero, List.getElem_cons_succ, List.setIfInBounds_toArray, List.set_cons_zero, List.set_cons_succ]
              refine wpAnyH_take (i := 2) (v := ?_) rfl (by kernel_rfl) (by kernel_rfl) (by kernel_rfl) (fun _ _ _ h => h) (Or.inl ⟨by rfl, ?_⟩) HS0.out ?_
              rotate_left
              focus (intro w hS; clear hS; first | (go_simp; done) | (go_simp; with_reducible rfl))
              simp only [Act.put, List.getElem_toArray, List.getElem_cons_zero, List.getElem_cons_succ, List.setIfInBounds_toArray, List.set_cons_zero, List.set_cons_succ]
              refine wpAnyH_take (i := 3) (v := ?_) rfl (by kernel_rfl) (by kernel_rfl) (by kernel_rfl) (fun _ _ _ h => h) (Or.inl ⟨by rfl, ?_⟩) HS0.out ?_
              rotate_left
              focus (intro w hS; have s0 := aCell hS.2.1 1 rfl; clear hS; first | (go_simp; done) | (go_simp; with_reducible rfl))
              simp only [Act.put, List.getElem_toArray, List.getElem_cons_zero, List.getElem_cons_succ, List.setIfInBounds_toArray, List.set_cons_zero, List.set_cons_succ]
              refine wpAnyH_take (i := 4) (v := ?_) rfl (by kernel_rfl) (by kernel_rfl) (by kernel_rfl) (fun _ _ _ h => h) (Or.inl ⟨by rfl, ?_⟩) HS0.out ?_
              rotate_left
              focus (intro w hS; clear hS; first | (go_simp; done) | (go_simp; with_reducible rfl))
              simp only [Act.put, List.getElem_toArray, List.getElem_cons_zero, List.getElem_cons_succ, List.setIfInBounds_toArray, List.set_cons_zero, List.set_cons_succ]
              refine wpAnyH_take (i := 5) (v := ?_) rfl (by kernel_rfl) (by kernel_rfl) (by kernel_rfl) (fun _ _ _ h => h) (Or.inl ⟨by rfl, ?_⟩) HS0.out ?_
              rotate_left
              focus (intro w hS; clear hS; first | (go_simp; done) | (go_simp; with_reducible rfl))
              simp only [Act.put, List.getElem_toArray, List.getElem_cons_zero, List.getElem_cons_succ, List.setIfInBounds_toArray, List.set_cons_zero, List.set_cons_succ]
              refine wpAnyH_take (i := 6) (v := ?_) rfl (by kernel_rfl) (by kernel_rfl) (by kernel_rfl) (fun _ _ _ h => h) (Or.inl ⟨by rfl, ?_⟩) HS0.out ?_
              rotate_left
              focus (intro w hS; clear hS; first | (go_simp; done) | (go_simp; with_reducible rfl))
              simp only [Act.put, List.getElem_toArray, List.getElem_cons_zero, List.getElem_cons_succ, List.setIfInBounds_toArray, List.set_cons_zero, List.set_cons_succ]
              refine wpAnyH_take (i := 7) (v := ?_) rfl (by kernel_rfl) (by kernel_rfl) (by kernel_rfl) (fun _ _ _ h => h) (Or.inl ⟨by rfl, ?_⟩) HS0.out ?_
              rotate_left
              focus (intro w hS; have s0 := hS.2.2; clear hS; first | (go_simp; done) | (go_simp; with_reducible rfl))
              simp only [Act.put, List.getElem_toArray, List.getElem_cons_zero, List.getElem_cons_succ, List.setIfInBounds_toArray, List.set_cons_zero, List.set_cons_succ]
              refine wpAnyH_take (i := 8) (v := ?_) rfl (by kernel_rfl) (by kernel_rfl) (by kernel_rfl) (fun _ _ _ h => h) (Or.inl ⟨by rfl, ?_⟩) HS0.out ?_
              rotate_left
              focus (intro w hS; clear hS; first | (go_simp; done) | (go_simp; with_reducible rfl))
              simp only [Act.put, List.getElem_toArray, List.getElem_cons_zero, List.getElem_cons_succ, List.setIfInBounds_toArray, List.set_cons_zero, List.set_cons_succ]
              refine wpAnyH_take (i := 9) (v := ?_) rfl (by kernel_rfl) (by kernel_rfl) (by kernel_rfl) (fun _ _ _ h => h) (Or.inl ⟨by rfl, ?_⟩) HS0.out ?_
              rotate_left
              focus (intro w hS; clear hS; first | (go_simp; done) | (go_simp; with_reducible rfl))
              simp only [Act.put, List.getElem_toArray, List.getElem_cons_zero, List.getElem_cons_succ, List.setIfInBounds_toArray, List.set_cons_zero, List.set_cons_succ]
              refine wpAnyH_take (i := 10) (v := ?_) rfl (by kernel_rfl) (by kernel_rfl) (by kernel_rfl) (fun _ _ _ h => h) (Or.inl ⟨by rfl, ?_⟩) HS0.out ?_
              rotate_left
              focus (intro w hS; clear hS; first | (go_simp; done) | (go_simp; with_reducible rfl))
              simp only [Act.put, List.getElem_toArray, List.getElem_cons_zero, List.getElem_cons_succ, List.setIfInBounds_toArray, List.set_cons_zero, List.set_cons_succ]
              refine wpAnyH_take (i := 11) (v := ?_) rfl (by kernel_rfl) (by kernel_rfl) (by kernel_rfl) (fun _ _ _ h => h) (Or.inl ⟨by rfl, ?_⟩) HS0.out ?_
              rotate_left
              focus (intro w hS; clear hS; first | (go_simp; done) | (go_simp; with_reducible rfl))
              simp only [Act.put, List.getElem_toArray, List.getElem_cons_zero, List.getElem_cons_succ, List.setIfInBounds_toArray, List.set_cons_zero, List.set_cons_succ]
              refine wpAnyH_ready (rs := [12]) (by kernel_rfl) (by simp) ?_
              refine RdyH.cons rfl (fun K2 hK => ?_) RdyH.nil
              go_simp
              go_at_call 55
              refine (conFR1_any r X l (.slice ya yn yc) _ bx _ (aCell HS0.out.1 0 rfl) (aCell HS0.out.1 1 rfl) (Hai.out.keep (Hbn.out.trans (HW0.out.mono Hbn.out.size))) (Hl.out.keep (Below.tr HBn.out.b HW0.out)) true (decide_eq_true Hin.out)).mono ?_
              rintro e wd1 ⟨rfl, hb⟩
              have HS1 := Lib.hid (show wd1.heap[bx]? = some (.cells #[.int .i64 r, .slice ya yn yc] 77 (0, 0)) ∧ Bx wd1 bp (.slice ha n0 hc) (.slice ba n1 bc) ∧ wd1.cell? ⟨b3, off3 + i * 2, none⟩ = some (.int .i64 r) from ⟨blk_keep2 HS0.out.1 hb, HS0.out.2.1.keep hb, Below.keep hb HS0.out.2.2⟩)
              have HW1 := Lib.hid (Below.tr HW0.out hb)
              clear hb
              go_simp
              refine hK _ _ HS1.out ?_
              clear hK K2
              refine wpAnyH_take (i := 13) (v := ?_) rfl (by kernel_rfl) (by kernel_rfl) (by kernel_rfl) (fun _ _ _ h => h) (Or.inl ⟨by rfl, ?_⟩) HS1.out ?_
              rotate_left
              focus (intro w hS; clear hS; first | (go_simp; done) | (go_simp; with_reducible rfl))
              simp only [Act.put, List.getElem_toArray, List.getElem_cons_zero, List.getElem_cons_succ, List.setIfInBounds_toArray, List.set_cons_zero, List.set_cons_succ]
              refine wpAnyH_take (i := 14) (v := ?_) rfl (by kernel_rfl) (by kernel_rfl) (by kernel_rfl) (fun _ _ _ h => h) (Or.inl ⟨by rfl, ?_⟩) HS1.out ?_
              rotate_left
              focus (intro w hS; clear hS; first | (go_simp; done) | (go_simp; with_reducible rfl))
              simp only [Act.put, List.getElem_toArray, List.getElem_cons_zero, List.getElem_cons_succ, List.setIfInBounds_toArray, List.set_cons_zero, List.set_cons_succ]
              refine wpAnyH_done (by kernel_rfl) ?_ _
              go_wp2_with fail
              go_meet
              exact ⟨rfl, HW1.out⟩
            case rest =>
              obtain ⟨rfl, hb⟩ := hcut
              generalize wc = wz at *
              have HX := Lib.hid (blk_keep2 HX.out hb)
              have HSz := Lib.hid (HSn.out.keep hb)
              have Hbz := Lib.hid (Hbn.out.trans (hb.mono Hbn.out.size))
              have HaX := Lib.hid (HSz.out.atoms Hbz.out)
              clear hb HBn H3 HSn Hbn hixi
              skip
              by_cases hin : (r, X) ∈ al
              · have HC := Lib.hid (conFR2_any r X al (.slice ya yn yc) _ bx wz (aCell HX.out 0 rfl) (aCell HX.out 1 rfl) (Hai.out.keep Hbz.out) HaX.out true (decide_eq_true hin))
                have HI := Lib.hid (HI1.out hin)
                clear hin HaX
                go_wp2_with fail
                refine HC.out.mono ?_
                rintro e w9 ⟨rfl, hb⟩
                have Hb9 := Lib.hid (Hbz.out.trans (hb.mono Hbz.out.size))
                have HS9 := Lib.hid (HSz.out.keep hb)
                clear hb
                go_wp2_with fail
                go_roundw
                case rel => exact ⟨j + 1, sa, sn, sk, al, rfl, by go_num, by omega, Hb9.out, HS9.out, HI.out⟩
                case measure => simp [intOf]; omega
              · have HC := Lib.hid (conFR2_any r X al (.slice ya yn yc) _ bx wz (aCell HX.out 0 rfl) (aCell HX.out 1 rfl) (Hai.out.keep Hbz.out) HaX.out false (decide_eq_false hin))
                have HI := Lib.hid (HI2.out hin)
                clear hin HaX
                go_wp2_with fail
                refine HC.out.mono ?_
                rintro e w9 ⟨rfl, hb⟩
                have Hb9 := Lib.hid (Hbz.out.trans (hb.mono Hbz.out.size))
                have HS9 := Lib.hid (HSz.out.keep hb)
                have HX9 := Lib.hid (blk_keep2 HX.out hb)
                clear hb
                obtain ⟨w7, hw7⟩ : ∃ x, x = w9.alloc (.cells #[.int .i64 r, .slice ya yn yc] 77) := ⟨_, rfl⟩
                have hb : Below w9.heap.size w9 w7 := by rw [hw7]; exact below_alloc _ _
                obtain ⟨bl, hbl⟩ : ∃ x, x = w9.heap.size := ⟨_, rfl⟩
                have HL := Lib.hid (show w7.heap[bl]? = some (.cells #[.int .i64 r, .slice ya yn yc] 77 (0, 0)) from by rw [hw7, hbl]; exact heap_alloc_new _ _)
                obtain ⟨us, s1, s2, s3⟩ := HS9.out.keep hb
                have Hs1 := Lib.hid s1
                have Hs3 := Lib.hid s3
                have HO := Lib.hid s2
                have Hb7 := Lib.hid (Hb9.out.trans (hb.mono Hb9.out.size))
                have Hw7 := Lib.hid hw7
                have Hbl := Lib.hid hbl
                have hal : al.length + 1 ≤ 100000000000 := by
                  have hsub : ∀ x, x ∈ al → x ∈ l := fun x hx => (by
                  rcases (HA.out.2 x).1 hx with ⟨k, hk, h⟩ | h
                  · exact (part_in (HPp.out k (by rw [← Hn1.out]; omega)) (by rw [← Hn1.out]; omega) h).1
                  · rw [← HN.out] at h
                    exact (part_in HPi.out (by rw [← Hn1.out]; exact hlt) (List.mem_of_mem_take h)).1)
                  have := len_le (l := al) (m := l) HA.out.1 hsub
                  have h24 := Q2.out.1
                  omega
                have g0 := aCell HX9.out 0 rfl
                have g1 := aCell HX9.out 1 rfl
                clear hw7 hbl hb s1 s2 s3
                go_wp2_with (first | (at_builtin; rw [← Hw7.out, ← Hbl.out]; refine append_own rfl (.tmp 112) (.tmp 114) 26 rfl elemFacts rfl HO.out (m := 1) [.int .i64 r, .slice ya yn yc] rfl rfl (fun k y hk => aCell HL.out k (by simpa using hk)) (by intro u hu; simp at hu; rcases hu with rfl | rfl <;> rfl) hal Hb7.out.size ?_; intro v8 w8 h81 h82 h83))
                have HS8 := Lib.hid (show SubB 77 w11 w11.heap.size w8 v8 (al ++ [(r, X)]) from SubB.snoc Hs1.out Hs3.out Hai.out h81)
                have Hb8 := Lib.hid (Hb7.out.trans h82)
                obtain ⟨pa, pm, pk, rfl⟩ := HS8.out.slice
                clear h81 h82 h83 hal g0 g1
                go_wp2_with fail
                go_roundw
                case rel => exact ⟨j + 1, pa, pm, pk, al ++ [(r, X)], rfl, by go_num, by omega, Hb8.out, HS8.out, HI.out⟩
                case measure => simp [intOf]; omega
          · obtain rfl : j = pn := by omega
            have HI := Lib.hid (show AllI P (i + 1) 0 al from allI_next (by have := HA.out; rw [Hpn.out, HN.out] at this; exact this))
            go_wp2_with fail
            go_roundw
            case rel => exact ⟨i + 1, sa, sn, sk, al, rfl, by go_num, by omega, Hb.out, HS.out, HI.out⟩
            case measure => simp [intOf]; omega
      · obtain rfl : i = n1 := by omega
        have HAp := Lib.hid (show AllP q P al from allI_all (by rw [← Hn1.out]; exact HA.out))
        have HNd := Lib.hid HA.out.1
        have HFv := Lib.hid (allP_valid Q2.out HPp.out HAp.out HNd.out)
        have HBg := Lib.hid (show ¬ Big al q.2 from fun h => Q3.out (big_sub (fun x hx => allP_in HPp.out HAp.out hx) h))
        have HAl := Lib.hid (HS.out.atoms Hb.out)
        have HB := Lib.hid (HB.out.keep Hb.out)
        have HRa := Lib.hid (HRa.out.keep Hb.out)
        clear HS HA Hb
        generalize wx = w20 at *
        obtain ⟨⟨g0, g1⟩, g2, g3⟩ := HB.out.cells
        go_wp2_with fail
        refine (ofC_any _ _ (Hq.out.keep HB.out.b)).mono ?_
        rintro e w21 ⟨a1, e1, k1, a2, e2, k2, rfl, ho, hb⟩
        have HB := Lib.hid (HB.out.keep hb)
        have HRa := Lib.hid (HRa.out.keep hb)
        have HAl := Lib.hid (HAl.out.keep hb)
        have HQ := Lib.hid (EQ.out ▸ ho.qr)
        clear hb ho g0 g1 g2 g3
        go_wp2_with fail
        refine (resC_any _ _ _ HQ.out HAl.out).mono ?_
        rintro e w22 ⟨sb, sbn, sbk, c4, rfl, hR, hb⟩
        have HB := Lib.hid (HB.out.keep hb)
        have HRa := Lib.hid (HRa.out.keep hb)
        have HAl := Lib.hid (HAl.out.keep hb)
        have HQ := Lib.hid (HQ.out.keep hb)
        obtain ⟨rfl, R2, hR2, hI2⟩ : c4 = 0 ∧ ∃ R, Rows w22 (.slice sb sbn sbk) R ∧ IsRes q al R := by
          rcases hR with ⟨k1, _⟩ | ⟨_, _, k3, _⟩ | ⟨_, _, _, k4, R, k5, k6⟩
          · exact absurd ⟨Q1.out, HFv.out⟩ k1
          · exact absurd k3 HBg.out
          · exact ⟨k4, R, k5.rows, k6⟩
        obtain rfl := allP_res HPp.out HAp.out HIs.out hI2
        have HRb := Lib.hid hR2
        clear hb hR hR2 hI2 HQ
        obtain ⟨⟨g0, g1⟩, g2, g3⟩ := HB.out.cells
        go_wp2_with fail
        refine (ofC_any _ _ (Hq.out.keep HB.out.b)).mono ?_
        rintro e w23 ⟨a1, e1, k1, a2, e2, k2, rfl, ho, hb⟩
        have HB := Lib.hid (HB.out.keep hb)
        have HRa := Lib.hid (HRa.out.keep hb)
        have HRb := Lib.hid (HRb.out.keep hb)
        have HAl := Lib.hid (HAl.out.keep hb)
        have HQ := Lib.hid (EQ.out ▸ ho.qr)
        clear hb ho g0 g1 g2 g3
        go_wp2_with fail
        refine (cntC_any _ _ _ HQ.out HAl.out).mono ?_
        rintro e w24 ⟨nb, c5, rfl, hC, hb⟩
        have HB := Lib.hid (HB.out.keep hb)
        have HRa := Lib.hid (HRa.out.keep hb)
        have HRb := Lib.hid (HRb.out.keep hb)
        have HAl := Lib.hid (HAl.out.keep hb)
        have HQ := Lib.hid (HQ.out.keep hb)
        obtain ⟨rfl, hnb⟩ : c5 = 0 ∧ nb = (nl : Int) := by
          rcases hC with ⟨k1, _⟩ | ⟨_, _, k3, _⟩ | ⟨_, _, _, k4, L3, k5, k6, k7⟩
          · exact absurd ⟨Q1.out, HFv.out⟩ k1
          · exact absurd k3 HBg.out
          · exact ⟨k4, by rw [k7, Hnl.out, allP_cnt HPp.out HAp.out L1.out k5 L2.out k6]⟩
        subst hnb
        clear hb hC HQ
        have HRw := Lib.hid (rows_any Ra Ra _ _ w24 HRa.out HRb.out)
        clear HRa HRb
        go_wp2_with fail
        refine HRw.out.mono ?_
        intro e w25 hh
        obtain ⟨rfl, hb⟩ : e = .returned (.bool true) ∧ Below w24.heap.size w24 w25 := by
          obtain ⟨h1, n, h2⟩ := hh
          exact ⟨by rw [h1]; simp, by rw [h2]; exact ⟨rfl, rfl, rfl, Nat.le_refl _, fun _ _ => rfl⟩⟩
        have HB := Lib.hid (HB.out.keep hb)
        clear hb hh HRw
        go_wp2_with fail
        refine (awake_any _).mono ?_
        rintro e w26 ⟨rfl, hb⟩
        have HB := Lib.hid (HB.out.keep hb)
        clear hb 
        go_wp2_with fail
        go_ret
        exact ⟨rfl, HB.out.b⟩
#print axioms reduced_law
namespace matchReduced
open Go.ChangeShapes Go.WideShapes Go.ChangeAt
set_option maxRecDepth 100000 in
theorem lifted (os : Os) (started : os.Started) (H : Type) (enc : TypeId × Value → H) :
    ReturnsInHanded {} Try.checked os 13 .any (Rows.matchReducedSpec.pre6 enc Try.prog Try.f13 Rows.matchReducedRow.domain false) (Rows.matchReducedSpec.post enc Try.prog Try.f13 false true false false) := by
  refine returnsInHanded_of_change (C := Try.checked) Try.own started (by kernel_rfl) Try.func13
    (ChangeSpec.witness6 (enc := enc) (C := Try.checked) false ⟨#[], #[.agg #[.slice none 0 0, .slice none 0 0], .slice none 0 0], []⟩ 8 (by kernel_rfl) (by kernel_rfl) (by kernel_rfl) (by kernel_rfl)) ?_
  intro W base args ds gs before hval0 hW _ _
  have hval : ∀ (j : Nat) t v, Try.f13.params[j]? = some t → args[j]? = some v → Value.okWide Try.prog W .any base t v := hval0
  clear hval0
  obtain rfl : gs = [] := by obtain ⟨p, q, _, hV, _⟩ := hW; exact (trodVars_none hV).1
  have hW' := hW
  obtain ⟨p, q, hA0, hV, rfl, hfz, hnd⟩ := hW
  have hA : DataW.TrodAll enc Try.prog W 0 (fun _ => true) true Try.f13.params.toList args.toList ds p := hA0
  rw [Try.params13] at hA hval
  obtain ⟨v0, vs0, d0, ds0, p0, q0, hv0, hd0, hp0, h0, r0⟩ := trodAll_cons hA
  obtain ⟨v1, vs1, d1, ds1, p1, q1, hv1, hd1, hp1, h1, r1⟩ := trodAll_cons r0
  obtain ⟨hvn, hdn, hpn⟩ := trodAll_nil r1
  have ha : args = #[v0, v1] := by cases args; simp_all
  have hdd : ds = [d0, d1] := by simp_all
  rw [ha] at hval
  obtain ⟨a0, k0⟩ := qry_arg Try.underlying25 ⟨rfl, rfl⟩ ⟨rfl, rfl⟩ Try.underlying23 Try.underlying80 ⟨rfl, rfl⟩ ⟨rfl, rfl⟩ Try.underlying3 Try.underlying22 cellsI (by kernel_rfl) (by kernel_rfl) (by kernel_rfl) (by kernel_rfl) (hval 0 25 v0 rfl rfl) h0
  obtain ⟨a1, k1⟩ := atoms_of_trod Try.underlying26 Try.underlying77 ⟨rfl, rfl⟩ ⟨rfl, rfl⟩ Try.underlying3 Try.underlying22 cellsI (by kernel_rfl) (by kernel_rfl) (okWide_slice Try.underlying26 (hval 1 26 v1 rfl rfl)) h1
  have hw : Calls Try.prog 13 args W (fun e W' => e = .returned (.bool true) ∧ Below W.heap.size W W') := by
    rw [ha]; exact reduced_law a0 a1 v0 v1 W k0 k1
  exact hw.mono fun e W' ⟨he, hb⟩ => ⟨_, he, law_post Try.laidOut hW' rfl rfl Try.underlying4 (by rw [hdd]; rfl)
    (by kernel_rfl) hb⟩

theorem holds : Rows.MatchReducedSaid :=
  OpenClaim.holds_of_wide 13 Try.f13 rfl rfl rfl rfl rfl rfl rfl ⟨rfl, rfl, rfl, rfl, rfl⟩ rfl rfl rfl rfl rfl (by kernel_rfl) Try.func13 (by kernel_rfl)
    (of_decide_eq_true (by kernel_rfl)) (by unfold Func.isWrapper; first | (rw [if_pos (by decide +kernel)]; kernel_rfl) | (rw [if_neg (by decide +kernel)]; exact ⟨rfl, rfl⟩))
    (fun os started H enc _ => lifted os started H enc)
end matchReduced
end Go.Proofs.Ytfplmdieeabgpaa
