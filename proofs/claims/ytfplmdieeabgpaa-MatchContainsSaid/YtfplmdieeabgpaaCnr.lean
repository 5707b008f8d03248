/- Contract of the reference's Contained. -/
import Derived.Test.YtfplmdieeabgpaaFrr
namespace Go.Proofs.Ytfplmdieeabgpaa
open Go.RowKit
theorem fs_frozen' {p : HQ} (hp : QrV p) : FsV (p.2.map frA) := by
  refine ⟨by rw [List.length_map]; have := hp.1; omega, fun i hi => ?_⟩
  rw [List.length_map] at hi
  have e : (p.2.map frA).getD i (0, []) = frA (aR p.2 i, aA p.2 i) := by
    rw [List.getD_eq_getElem?_getD, List.getElem?_map, List.getElem?_eq_getElem hi, ← at_get hi]; rfl
  have h := hp.2.1 i hi
  unfold aR aA
  rw [e]
  refine ⟨h.1, by rw [show (frA (aR p.2 i, aA p.2 i)).2 = (aA p.2 i).map (numOf fz) from rfl, List.length_map]; exact h.2.1, fun x hx => ?_⟩
  obtain ⟨t, ht, rfl⟩ := List.mem_map.1 (show x ∈ (aA p.2 i).map (numOf fz) from hx)
  have hr := h.2.2 t ht
  obtain ⟨h1, h2⟩ := numOf_fz (t := t) hr
  by_cases c : 0 ≤ t
  · rw [h1 c]; omega
  · rw [h2 (by omega)]; omega
/-- is the frozen query's own result among the results -/
theorem frozen_mem' {p q : HQ} (hpq : PairV p q) {R : List (List Int)} (hR : IsRes q (p.2.map frA) R) : p.1.map (10 + ·) ∈ R ↔ ∃ h, IsH q p h := by
  rw [hR.2]
  constructor
  · rintro ⟨v, hv, e⟩
    have hk := vok_of_maP (frA_ok hpq.2.1 hpq.1) hv
    exact ⟨trm v, v, hv, rfl, (frozen_iff hpq.1 hpq.2.1 hpq.2.2.symm hk).1 e⟩
  · rintro ⟨h, v, hv, rfl, ha⟩
    have hk := vok_of_maP (frA_ok hpq.2.1 hpq.1) hv
    exact ⟨v, hv, (frozen_iff hpq.1 hpq.2.1 hpq.2.2.symm hk).2 ha⟩
theorem frB_frA {p : HQ} (hp : QrV p) : p.2.map frB = p.2.map frA := List.map_congr_left fun a ha => by
  refine Prod.ext rfl (List.map_congr_left fun t ht => ?_)
  obtain ⟨h1, h2⟩ := numOf_fz (qrV_arg hp ha t ht)
  unfold frz1
  by_cases c : 0 ≤ t
  · rw [if_pos c]; exact (h1 c).symm
  · rw [if_neg c]; exact (h2 (by omega)).symm
set_option maxRecDepth 100000 in
set_option maxHeartbeats 8000000 in
theorem containedR_any {p q : HQ} (v u : Value) (w : World) (hv : Qr w v p) (hu : Qr w u q) :
    Calls Try.prog 33 #[v, u] w fun e w' => ∃ B c, e = .returned (.tuple #[.bool B, .int .i64 c]) ∧ ContC p q B c ∧ Below w.heap.size w w' := by
  obtain ⟨h0, b0, rfl, hh, hb⟩ := hv
  obtain ⟨h1, b1, rfl, hh1, hb1⟩ := hu
  have Hp := Lib.hid (show Qr w (.agg #[h0, b0]) p from ⟨_, _, rfl, hh, hb⟩)
  have Hq := Lib.hid (show Qr w (.agg #[h1, b1]) q from ⟨_, _, rfl, hh1, hb1⟩)
  obtain ⟨ha, hc, rfl⟩ := ints_slice hh
  obtain ⟨ba, bc, rfl⟩ := atoms_slice hb
  obtain ⟨ha1, hc1, rfl⟩ := ints_slice hh1
  obtain ⟨ba1, bc1, rfl⟩ := atoms_slice hb1
  obtain ⟨n0, hn0⟩ : ∃ x, x = p.1.length := ⟨_, rfl⟩
  obtain ⟨n1, hn1⟩ : ∃ x, x = p.2.length := ⟨_, rfl⟩
  obtain ⟨n2, hn2⟩ : ∃ x, x = q.1.length := ⟨_, rfl⟩
  obtain ⟨n3, hn3⟩ : ∃ x, x = q.2.length := ⟨_, rfl⟩
  rw [← hn0, ← hn1] at Hp
  rw [← hn2, ← hn3] at Hq
  have Hn := Lib.hid (And.intro hn0 hn2)
  rw [← hn0, ← hn1, ← hn2, ← hn3]
  obtain ⟨w1, hw1⟩ : ∃ x, x = w.alloc (.cells #[.slice ha n0 hc, .slice ba n1 bc] 25) := ⟨_, rfl⟩
  obtain ⟨w2, hw2⟩ : ∃ x, x = w1.alloc (.cells #[.slice ha1 n2 hc1, .slice ba1 n3 bc1] 25) := ⟨_, rfl⟩
  obtain ⟨bp, hbp⟩ : ∃ x, x = w.heap.size := ⟨_, rfl⟩
  obtain ⟨bq, hbq⟩ : ∃ x, x = bp + 1 := ⟨_, rfl⟩
  have HB := Lib.hid (B2.new hw1 hw2 hbp hbq)
  have Hw1 := Lib.hid hw1
  have Hw2 := Lib.hid hw2
  have Hbpe := Lib.hid hbp
  have Hbqe := Lib.hid hbq
  clear hh hb hh1 hb1 hw1 hw2 hbp hbq hn0 hn1 hn2 hn3
  go_enter Try.func33, Try.ntmps33
  go_upto_region 1 with fail
  rw [← Hw1.out, ← Hw2.out, ← Hbpe.out, ← Hbqe.out]
  clear Hw1 Hw2
  obtain ⟨⟨g0, g1⟩, g2, g3⟩ := HB.out.cells
  by_cases hp : QrV p
  · have HV := Lib.hid (validQR_any p _ w2 (Hp.out.keep HB.out.b) true (decide_eq_true hp))
    go_wp2_with fail
    refine HV.out.mono ?_
    rintro e w3 ⟨rfl, hb⟩
    have HB := Lib.hid (HB.out.keep hb)
    clear hb g0 g1 g2 g3 HV
    obtain ⟨⟨g0, g1⟩, g2, g3⟩ := HB.out.cells
    by_cases hq : QrV q
    · have HV := Lib.hid (validQR_any q _ w3 (Hq.out.keep HB.out.b) true (decide_eq_true hq))
      go_wp2_with fail
      refine HV.out.mono ?_
      rintro e w4 ⟨rfl, hb⟩
      have HB := Lib.hid (HB.out.keep hb)
      clear hb g0 g1 g2 g3 HV
      obtain ⟨⟨g0, g1⟩, g2, g3⟩ := HB.out.cells
      by_cases hlen : n0 = n2
      · subst hlen
        have HP := Lib.hid (show PairV p q from ⟨hp, hq, Hn.out.1.symm.trans Hn.out.2⟩)
        have HFr := Lib.hid (freezeR_any hp _ w4 (Hp.out.keep HB.out.b))
        go_wp2_with fail
        refine HFr.out.mono ?_
        rintro e w5 ⟨fa, fn, fk, xa, xn, xk, rfl, hF, hX, hb⟩
        have HF := Lib.hid hF
        have HX := Lib.hid hX
        have HB := Lib.hid (HB.out.keep hb)
        clear hF hX hb g0 g1 g2 g3 HFr
        obtain ⟨⟨g0, g1⟩, g2, g3⟩ := HB.out.cells
        have HRs := Lib.hid (resultsR_any _ _ w5 (Hq.out.keep HB.out.b) HF.out)
        go_wp2_with fail
        refine HRs.out.mono ?_
        rintro e w6 ⟨ra, rn, rk, c, rfl, hR, hb⟩
        rw [frB_frA hp] at hR
        obtain ⟨rfl, R, hRr, hI⟩ : c = 0 ∧ ∃ R, Rows w6 (.slice ra rn rk) R ∧ IsRes q (p.2.map frA) R := by
          rcases hR with ⟨h, _⟩ | ⟨_, _, h, _⟩ | ⟨_, _, _, h1, R, h2, h3⟩
          · exact absurd ⟨hq, fs_frozen' hp⟩ h
          · exact absurd h (hom_notBig hq hp)
          · exact ⟨h1, R, h2, h3⟩
        have HI := Lib.hid (frozen_mem' HP.out hI)
        have HX := Lib.hid (HX.out.keep hb)
        have HB := Lib.hid (HB.out.keep hb)
        have HRr := Lib.hid hRr
        obtain ⟨a, b, off, cap, vs, hav, hle, hia, hvs, hcs, hrs⟩ := hRr.get
        injection hav with e1 e2 e3
        subst e1 e2 e3
        have Hix := Lib.hid (run_ix (P := Try.prog) (t := 27) (a := ra) (len := R.length) (cap := rk) (b := b) (off := off) (s := 1) Try.underlying27 (by intro w; kernel_rfl) hia)
        simp only [Nat.mul_one] at Hix
        have Hc := Lib.hid (show ∀ i, i < R.length → w6.cell? ⟨b, off + i, none⟩ = some (vs.getD i (.bool false)) ∧ Ints w6 (vs.getD i (.bool false)) (R.getD i []) from fun i hi => by
          rw [List.getD_eq_getElem?_getD, List.getElem?_eq_getElem (by omega : i < vs.length), List.getD_eq_getElem?_getD, List.getElem?_eq_getElem hi]
          exact ⟨hcs i (by omega), hrs i hi (by omega)⟩)
        clear hR hb hRr hI hia hvs hcs hrs g0 g1 g2 g3 HRs HF
        go_wp2_with fail
        go_loopw [42] (fun vi wr => ∃ k : Nat, vi = .int .i64 k ∧ k ≤ R.length ∧ wr = w6 ∧ ∀ j, j < k → p.1.map (10 + ·) ≠ R.getD j []) (fun vi _ => R.length - (intOf vi).toNat)
        case atStart => exact ⟨0, rfl, Nat.zero_le _, rfl, fun j h => by omega⟩
        case round =>
          obtain ⟨k, rfl, hk, rfl, hno⟩ := hrel
          have Hno := Lib.hid hno
          clear hno
          by_cases hlt : k < R.length
          · have hck := (Hc.out k hlt).1
            have Hik := Lib.hid (Hc.out k hlt).2
            have hixk := Hix.out k
            have hmem : R.getD k [] ∈ R := by rw [List.getD_eq_getElem?_getD, List.getElem?_eq_getElem hlt]; exact List.getElem_mem hlt
            obtain ⟨Y, hY⟩ : ∃ x, x = R.getD k [] := ⟨_, rfl⟩
            have HY := Lib.hid hY
            rw [← hY] at Hik hmem
            have Hmem := Lib.hid hmem
            obtain ⟨ya, yc, hys⟩ := ints_slice Hik.out
            rw [hys] at hck Hik
            obtain ⟨yn, hyn⟩ : ∃ x, x = Y.length := ⟨_, rfl⟩
            rw [← hyn] at hck Hik
            clear hys hY hyn hmem
            go_wp2_with fail
            refine (equalQ_any (p.1.map (10 + ·)) Y _ _ _ HX.out Hik.out).mono ?_
            rintro e w9 ⟨rfl, rfl⟩
            by_cases he : p.1.map (10 + ·) = Y
            · rw [decide_eq_true he]
              have HE := Lib.hid (show ContC p q true 0 from .inr ⟨HP.out, rfl, fun _ => HI.out.1 (by rw [he]; exact Hmem.out), fun _ => rfl⟩)
              clear he hck hixk
              go_wp2_with fail
              go_ret2
              exact ⟨true, 0, rfl, HE.out, HB.out.b⟩
            · rw [decide_eq_false he]
              have HN := Lib.hid (show ∀ j, j < k + 1 → p.1.map (10 + ·) ≠ R.getD j [] from fun j hj => by
                rcases Nat.lt_or_ge j k with h | h
                · exact Hno.out j h
                · rw [show j = k by omega, ← HY.out]; exact he)
              clear he hck hixk
              go_wp2_with fail
              go_roundw
              case rel => exact ⟨k + 1, by go_num, by omega, by first | rfl | trivial, HN.out⟩
              case measure => simp [intOf]; omega
          · obtain rfl : k = R.length := by omega
            have HE := Lib.hid (show ContC p q false 0 from .inr ⟨HP.out, rfl, fun h => (by cases h), fun h => by
              obtain ⟨i, hi, e⟩ := List.getElem_of_mem (HI.out.2 h)
              exact absurd (by rw [List.getD_eq_getElem?_getD, List.getElem?_eq_getElem hi, ← e]; rfl) (Hno.out i hi)⟩)
            go_wp2_with fail
            go_ret2
            exact ⟨false, 0, rfl, HE.out, HB.out.b⟩
      · have HE := Lib.hid (show ContC p q false 2 from .inl ⟨fun h => hlen (Hn.out.1.trans (h.2.2.trans Hn.out.2.symm)), rfl, rfl⟩)
        have hne : ((n0 : Int) != n2) = true := by rw [bne_iff_ne]; omega
        go_wp2_with fail
        go_ret2
        exact ⟨false, 2, rfl, HE.out, HB.out.b⟩
    · have HV := Lib.hid (validQR_any q _ w3 (Hq.out.keep HB.out.b) false (decide_eq_false hq))
      have HE := Lib.hid (show ContC p q false 2 from .inl ⟨fun h => hq h.2.1, rfl, rfl⟩)
      go_wp2_with fail
      refine HV.out.mono ?_
      rintro e w4 ⟨rfl, hb⟩
      have HB := Lib.hid (HB.out.keep hb)
      clear hb g0 g1 g2 g3
      go_wp2_with fail
      go_ret2
      exact ⟨false, 2, rfl, HE.out, HB.out.b⟩
  · have HV := Lib.hid (validQR_any p _ w2 (Hp.out.keep HB.out.b) false (decide_eq_false hp))
    have HE := Lib.hid (show ContC p q false 2 from .inl ⟨fun h => hp h.1, rfl, rfl⟩)
    go_wp2_with fail
    refine HV.out.mono ?_
    rintro e w3 ⟨rfl, hb⟩
    have HB := Lib.hid (HB.out.keep hb)
    clear hb g0 g1 g2 g3
    go_wp2_with fail
    go_ret2
    exact ⟨false, 2, rfl, HE.out, HB.out.b⟩
#print axioms containedR_any
end Go.Proofs.Ytfplmdieeabgpaa
