/- MatchContains: for every input the law returns true. -/
import Derived.Test.YtfplmdieeabgpaaCnr
import Derived.Test.YtfplmdieeabgpaaPrd
import Derived.Test.YtfplmdieeabgpaaFrh
import Derived.Test.YtfplmdieeabgpaaSam
import Derived.Test.YtfplmdieeabgpaaFrame
import Derived.Test.YtfplmdieeabgpaaRows
namespace Go.Proofs.Ytfplmdieeabgpaa
open Go.RowKit
theorem pair_same {p q : HQ} : (PairV (ofQ p) (ofQ q) ∧ ofQ p = p ∧ ofQ q = q ∧ PairV p q) ∨ (¬ PairV (ofQ p) (ofQ q) ∧ ¬ PairV p q) := by
  by_cases h : PairV p q
  · have e1 := ofQ_of h.1
    have e2 := ofQ_of h.2.1
    exact .inl ⟨by rw [e1, e2]; exact h, e1, e2, h⟩
  · refine .inr ⟨fun k => h ?_, h⟩
    have e1 := ofQ_valid k.1
    have e2 := ofQ_valid k.2.1
    rw [e1, e2] at k; exact k
theorem same_cont {p q : HQ} {B B' : Bool} {c c' : Int} (h : ContC (ofQ p) (ofQ q) B c) (k : ContC p q B' c') : B = B' ∧ c = c' := by
  rcases pair_same (p := p) (q := q) with ⟨v1, e1, e2, v2⟩ | ⟨v1, v2⟩
  · rw [e1, e2] at h
    rcases h with ⟨h1, _⟩ | ⟨_, rfl, h3⟩
    · exact absurd v2 h1
    · rcases k with ⟨k1, _⟩ | ⟨_, rfl, k3⟩
      · exact absurd v2 k1
      · exact ⟨by rw [Bool.eq_iff_iff, h3, k3], rfl⟩
  · rcases h with ⟨_, rfl, rfl⟩ | ⟨h1, _⟩
    · rcases k with ⟨_, rfl, rfl⟩ | ⟨k1, _⟩
      · exact ⟨rfl, rfl⟩
      · exact absurd k1 v2
    · exact absurd h1 v1
theorem drawI {w w' : World} {e : Ending} {B : Bool} (h : e = .returned (.bool B) ∧ ∃ n, w' = w.drewN n) : e = .returned (.bool B) ∧ Below w.heap.size w w' := ⟨h.1, by obtain ⟨n, h⟩ := h.2; exact drewB h⟩
set_option maxRecDepth 100000 in
set_option maxHeartbeats 16000000 in
theorem contains_any (p q : HQ) (v u : Value) (w : World) (hp : Qr w v p) (hq : Qr w u q) :
    Calls Try.prog 5 #[v, u] w fun e w' => e = .returned (.bool true) ∧ Below w.heap.size w w' := by
  obtain ⟨h0, b0, rfl, hh, hb⟩ := hp
  obtain ⟨h1, b1, rfl, hh1, hb1⟩ := hq
  have Hp := Lib.hid (show Qr w (.agg #[h0, b0]) p from ⟨_, _, rfl, hh, hb⟩)
  have Hq := Lib.hid (show Qr w (.agg #[h1, b1]) q from ⟨_, _, rfl, hh1, hb1⟩)
  obtain ⟨ha, hc, rfl⟩ := ints_slice hh
  obtain ⟨ba, bc, rfl⟩ := atoms_slice hb
  obtain ⟨ha1, hc1, rfl⟩ := ints_slice hh1
  obtain ⟨ba1, bc1, rfl⟩ := atoms_slice hb1
  obtain ⟨n0, hn0⟩ : ∃ x, x = p.1.length := ⟨_, rfl⟩
  obtain ⟨n1, hn1⟩ : ∃ x, x = p.2.length := ⟨_, rfl⟩
  obtain ⟨n2, hn2⟩ : ∃ x, x = q.1.length := ⟨_, rfl⟩
  obtain ⟨n3, hn3⟩ : ∃ x, x = q.2.length := ⟨_, rfl⟩
  rw [← hn0, ← hn1] at Hp
  rw [← hn2, ← hn3] at Hq
  rw [← hn0, ← hn1, ← hn2, ← hn3]
  obtain ⟨w1, hw1⟩ : ∃ x, x = w.alloc (.cells #[.slice ha n0 hc, .slice ba n1 bc] 25) := ⟨_, rfl⟩
  obtain ⟨w2, hw2⟩ : ∃ x, x = w1.alloc (.cells #[.slice ha1 n2 hc1, .slice ba1 n3 bc1] 25) := ⟨_, rfl⟩
  obtain ⟨bp, hbp⟩ : ∃ x, x = w.heap.size := ⟨_, rfl⟩
  obtain ⟨bq, hbq⟩ : ∃ x, x = bp + 1 := ⟨_, rfl⟩
  have HB := Lib.hid (B2.new hw1 hw2 hbp hbq)
  have Hw1 := Lib.hid hw1
  have Hw2 := Lib.hid hw2
  have Hbpe := Lib.hid hbp
  have Hbqe := Lib.hid hbq
  clear hh hb hh1 hb1 hw1 hw2 hbp hbq hn0 hn1 hn2 hn3
  go_enter Try.func5, Try.ntmps5
  go_upto_region 1 with fail
  rw [← Hw1.out, ← Hw2.out, ← Hbpe.out, ← Hbqe.out]
  clear Hw1 Hw2
  go_upto_region 1 with fail
  try simp only [Act.put]
  go_cut [5, 6] (fun o5 o6 wc => ∃ B c1, (o5 = .bool B ∧ o6 = .int .i64 c1) ∧ (ContC (ofQ p) (ofQ q) B c1) ∧ Below w2.heap.size w2 wc)
  case first =>
    have HS0 := Lib.hid (show Bx w2.drew bp (.slice ha n0 hc) (.slice ba n1 bc) ∧ Bx w2.drew bq (.slice ha1 n2 hc1) (.slice ba1 n3 bc1) from ⟨HB.out.p, HB.out.q⟩)
    have Hw0 := Lib.hid (show Below w.heap.size w w2.drew from HB.out.b.drew)
    have HW0 := Lib.hid (show Below w2.heap.size w2 w2.drew from (Below.refl _ _).drew)
    refine wp_region_held (S := fun w' => Bx w' bp (.slice ha n0 hc) (.slice ba n1 bc) ∧ Bx w' bq (.slice ha1 n2 hc1) (.slice ba1 n3 bc1)) wideK ?_
    change wpAnyH _ _ _ _ _ _ _ _ (World.drew _)
    generalize w2.drew = wd0 at *
    refine wpAnyH_take (i := 0) (v := ?_) rfl (by kernel_rfl) (by kernel_rfl) (by kernel_rfl) (fun _ _ _ h => h) (Or.inl ⟨by rfl, ?_⟩) HS0.out ?_
    rotate_left
    focus (intro w hS; have s0 := aCell hS.1 0 rfl; have s1 := aCell hS.1 1 rfl; clear hS; first | (go_simp; done) | (go_simp; with_reducible rfl))
    simp only [Act.put, List.getElem_toArray, List.getElem_cons_zero, List.setIfInBounds_toArray, List.set_cons_zero, List.set_cons_succ]
    refine wpAnyH_take (i := 2) (v := ?_) rfl (by kernel_rfl) (by kernel_rfl) (by kernel_rfl) (fun _ _ _ h => h) (Or.inl ⟨by rfl, ?_⟩) HS0.out ?_
    rotate_left
    focus (intro w hS; have s0 := aCell hS.2 0 rfl; have s1 := aCell hS.2 1 rfl; clear hS; first | (go_simp; done) | (go_simp; with_reducible rfl))
    simp only [Act.put, List.getElem_toArray, List.getElem_cons_zero, List.getElem_cons_succ, List.setIfInBounds_toArray, List.set_cons_zero, List.set_cons_succ]
    refine wpAnyH_ready (rs := [1]) (by kernel_rfl) (by simp) ?_
    refine RdyH.cons rfl (fun K2 hK => ?_) RdyH.nil
    go_simp
    go_at_call 20
    refine (ofC_any _ _ (Hp.out.keep Hw0.out)).mono ?_
    rintro e wd1 ⟨a1, n1, k1, b1, m1, l1, rfl, ho, hb⟩
    have HS1 := Lib.hid (And.intro (Bx.keep HS0.out.1 hb) (Bx.keep HS0.out.2 hb))
    have Hw1 := Lib.hid (Below.tr Hw0.out hb)
    have HW1 := Lib.hid (Below.tr HW0.out hb)
    have HQ1 := Lib.hid ho.qr
    clear ho hb
    go_simp
    refine hK _ _ HS1.out ?_
    clear hK K2
    refine wpAnyH_ready (rs := [3]) (by kernel_rfl) (by simp) ?_
    refine RdyH.cons rfl (fun K2 hK => ?_) RdyH.nil
    go_simp
    go_at_call 20
    refine (ofC_any _ _ (Hq.out.keep Hw1.out)).mono ?_
    rintro e wd2 ⟨a2, n2, k2, b2, m2, l2, rfl, ho, hb⟩
    have HS2 := Lib.hid (And.intro (Bx.keep HS1.out.1 hb) (Bx.keep HS1.out.2 hb))
    have Hw2 := Lib.hid (Below.tr Hw1.out hb)
    have HW2 := Lib.hid (Below.tr HW1.out hb)
    have HQ2 := Lib.hid ho.qr
    have HQ1 := Lib.hid (HQ1.out.keep hb)
    clear ho hb
    go_simp
    refine hK _ _ HS2.out ?_
    clear hK K2
    refine wpAnyH_ready (rs := [4]) (by kernel_rfl) (by simp) ?_
    refine RdyH.cons rfl (fun K2 hK => ?_) RdyH.nil
    go_simp
    go_at_call 32
    refine (contC_any _ _ _ HQ1.out HQ2.out).mono ?_
    rintro e wd3 ⟨B, c1, rfl, hP, hb⟩
    have HS3 := Lib.hid (And.intro (Bx.keep HS2.out.1 hb) (Bx.keep HS2.out.2 hb))
    have HW3 := Lib.hid (Below.tr HW2.out hb)
    have HP := Lib.hid hP
    clear hP hb
    go_simp
    refine hK _ _ HS3.out ?_
    clear hK K2
    refine wpAnyH_take (i := 5) (v := ?_) rfl (by kernel_rfl) (by kernel_rfl) (by kernel_rfl) (fun _ _ _ h => h) (Or.inl ⟨by rfl, ?_⟩) HS3.out ?_
    rotate_left
    focus (intro w hS; clear hS; first | (go_simp; done) | (go_simp; with_reducible rfl))
    simp only [Act.put, List.getElem_toArray, List.getElem_cons_zero, List.getElem_cons_succ, List.setIfInBounds_toArray, List.set_cons_zero, List.set_cons_succ]
    refine wpAnyH_take (i := 6) (v := ?_) rfl (by kernel_rfl) (by kernel_rfl) (by kernel_rfl) (fun _ _ _ h => h) (Or.inl ⟨by rfl, ?_⟩) HS3.out ?_
    rotate_left
    focus (intro w hS; clear hS; first | (go_simp; done) | (go_simp; with_reducible rfl))
    simp only [Act.put, List.getElem_toArray, List.getElem_cons_zero, List.getElem_cons_succ, List.setIfInBounds_toArray, List.set_cons_zero, List.set_cons_succ]
    refine wpAnyH_take (i := 7) (v := ?_) rfl (by kernel_rfl) (by kernel_rfl) (by kernel_rfl) (fun _ _ _ h => h) (Or.inl ⟨by rfl, ?_⟩) HS3.out ?_
    rotate_left
    focus (intro w hS; clear hS; first | (go_simp; done) | (go_simp; with_reducible rfl))
    simp only [Act.put, List.getElem_toArray, List.getElem_cons_zero, List.getElem_cons_succ, List.setIfInBounds_toArray, List.set_cons_zero, List.set_cons_succ]
    refine wpAnyH_take (i := 8) (v := ?_) rfl (by kernel_rfl) (by kernel_rfl) (by kernel_rfl) (fun _ _ _ h => h) (Or.inl ⟨by rfl, ?_⟩) HS3.out ?_
    rotate_left
    focus (intro w hS; clear hS; first | (go_simp; done) | (go_simp; with_reducible rfl))
    simp only [Act.put, List.getElem_toArray, List.getElem_cons_zero, List.getElem_cons_succ, List.setIfInBounds_toArray, List.set_cons_zero, List.set_cons_succ]
    refine wpAnyH_take (i := 9) (v := ?_) rfl (by kernel_rfl) (by kernel_rfl) (by kernel_rfl) (fun _ _ _ h => h) (Or.inl ⟨by rfl, ?_⟩) HS3.out ?_
    rotate_left
    focus (intro w hS; clear hS; first | (go_simp; done) | (go_simp; with_reducible rfl))
    simp only [Act.put, List.getElem_toArray, List.getElem_cons_zero, List.getElem_cons_succ, List.setIfInBounds_toArray, List.set_cons_zero, List.set_cons_succ]
    refine wpAnyH_done (by kernel_rfl) ?_ _
    go_wp2_with fail
    go_meet
    exact ⟨B, c1, ⟨rfl, rfl⟩, HP.out, HW3.out⟩
  case rest =>
    obtain ⟨B, c1, ⟨rfl, rfl⟩, hP, hb⟩ := hcut
    generalize wc = w3 at *
    have HB := Lib.hid (HB.out.keep hb)
    clear hb
    have HC := Lib.hid hP
    clear hP
    obtain ⟨⟨g0, g1⟩, g2, g3⟩ := HB.out.cells
    go_wp2_with fail
    refine (containedR_any _ _ _ (Hp.out.keep HB.out.b) (Hq.out.keep HB.out.b)).mono ?_
    rintro e w4 ⟨B2, c2, rfl, hC, hb⟩
    have HB := Lib.hid (HB.out.keep hb)
    obtain ⟨rfl, rfl⟩ := same_cont HC.out hC
    clear hb hC HC g0 g1 g2 g3
    obtain ⟨⟨g0, g1⟩, g2, g3⟩ := HB.out.cells
    go_wp2_with fail
    refine (ofC_any _ _ (Hp.out.keep HB.out.b)).mono ?_
    rintro e w5 ⟨a1, e1, k1, a2, e2, k2, rfl, ho, hb⟩
    have HB := Lib.hid (HB.out.keep hb)
    have HQ := Lib.hid ho.qr
    clear hb ho g0 g1 g2 g3
    by_cases hv : QrV p
    · have Hv := Lib.hid hv
      have HV2 := Lib.hid (show QrV (ofQ p) from by rw [ofQ_of hv]; exact hv)
      have HO := Lib.hid (ofQ_of hv)
      clear hv
      go_wp2_with fail
      refine (freezeE_any HV2.out _ _ HQ.out).mono ?_
      rintro e w6 ⟨fu, fx, rfl, ho, hx, hb⟩
      have HB := Lib.hid (HB.out.keep hb)
      have HQ := Lib.hid (HQ.out.keep hb)
      rw [HO.out] at ho hx
      obtain ⟨fa, fk, rfl⟩ := Atoms.own ho
      have ho := ho.atoms
      obtain ⟨fn, hfn⟩ : ∃ x, x = (p.2.map frA).length := ⟨_, rfl⟩
      rw [← hfn] at ho ⊢
      have HF := Lib.hid ho
      obtain ⟨xa, xn, xk, rfl⟩ := own_slice hx
      have HX := Lib.hid hx.ints
      clear hb ho hx hfn HQ
      go_wp2_with fail
      refine (awake_any _).mono ?_
      rintro e w7 ⟨rfl, hb⟩
      have HB := Lib.hid (HB.out.keep hb)
      have HF := Lib.hid (HF.out.keep hb)
      have HX := Lib.hid (HX.out.keep hb)
      clear hb 
      obtain ⟨⟨g0, g1⟩, g2, g3⟩ := HB.out.cells
      go_wp2_with fail
      refine (validQR_any p _ _ (Hp.out.keep HB.out.b) true (decide_eq_true Hv.out)).mono ?_
      rintro e w8 ⟨rfl, hb⟩
      have HB := Lib.hid (HB.out.keep hb)
      have HF := Lib.hid (HF.out.keep hb)
      have HX := Lib.hid (HX.out.keep hb)
      clear hb g0 g1 g2 g3
      obtain ⟨⟨g0, g1⟩, g2, g3⟩ := HB.out.cells
      go_wp2_with fail
      refine (freezeR_any Hv.out _ _ (Hp.out.keep HB.out.b)).mono ?_
      rintro e w9 ⟨ya, yn, yk, za, zn, zk, rfl, hF, hX, hb⟩
      have HB := Lib.hid (HB.out.keep hb)
      have HF := Lib.hid (HF.out.keep hb)
      have HX := Lib.hid (HX.out.keep hb)
      have HF2 := Lib.hid hF
      have HX2 := Lib.hid hX
      clear hb hF hX g0 g1 g2 g3
      go_wp2_with fail
      refine (same_any _ _ _ _ _ HF.out HF2.out true (decide_eq_true (frB_frA Hv.out).symm)).mono ?_
      rintro e w10 ⟨rfl, hb⟩
      have HB := Lib.hid (HB.out.keep hb)
      have HF := Lib.hid (HF.out.keep hb)
      have HX := Lib.hid (HX.out.keep hb)
      have HF2 := Lib.hid (HF2.out.keep hb)
      have HX2 := Lib.hid (HX2.out.keep hb)
      clear hb HF HF2
      go_wp2_with fail
      refine (equal_any _ _ _ _ _ HX.out HX2.out).mono ?_
      rintro e w11 hh
      obtain ⟨rfl, hb⟩ : e = .returned (.bool true) ∧ Below w10.heap.size w10 w11 := by
        obtain ⟨h1, h2⟩ := drawI hh
        exact ⟨by rw [h1]; simp, h2⟩
      have HB := Lib.hid (HB.out.keep hb)
      have HX := Lib.hid (HX.out.keep hb)
      have HX2 := Lib.hid (HX2.out.keep hb)
      clear hb hh
      go_wp2_with fail
      go_ret
      exact ⟨rfl, HB.out.b⟩
    · have Hv := Lib.hid hv
      have HV2 := Lib.hid (show ¬ QrV (ofQ p) from fun h => hv (by rw [ofQ_valid h] at h; exact h))
      clear hv
      go_wp2_with fail
      refine (freezeE_bad HV2.out _ _ HQ.out).mono ?_
      rintro e w6 ⟨rfl, hb⟩
      have HB := Lib.hid (HB.out.keep hb)
      have HQ := Lib.hid (HQ.out.keep hb)
      clear hb HQ
      go_wp2_with fail
      refine (awake_any _).mono ?_
      rintro e w7 ⟨rfl, hb⟩
      have HB := Lib.hid (HB.out.keep hb)
      clear hb 
      obtain ⟨⟨g0, g1⟩, g2, g3⟩ := HB.out.cells
      go_wp2_with fail
      refine (validQR_any p _ _ (Hp.out.keep HB.out.b) false (decide_eq_false Hv.out)).mono ?_
      rintro e w8 ⟨rfl, hb⟩
      have HB := Lib.hid (HB.out.keep hb)
      clear hb g0 g1 g2 g3
      go_wp2_with fail
      go_ret
      exact ⟨rfl, HB.out.b⟩
#print axioms contains_any
namespace matchContains
open Go.ChangeShapes Go.WideShapes Go.ChangeAt
set_option maxRecDepth 100000 in
theorem lifted (os : Os) (started : os.Started) (H : Type) (enc : TypeId × Value → H) :
    ReturnsInHanded {} Try.checked os 5 .any (Rows.matchContainsSpec.pre6 enc Try.prog Try.f5 Rows.matchContainsRow.domain false) (Rows.matchContainsSpec.post enc Try.prog Try.f5 false true false false) := by
  refine returnsInHanded_of_change (C := Try.checked) Try.own started (by kernel_rfl) Try.func5
    (ChangeSpec.witness6 (enc := enc) (C := Try.checked) false ⟨#[], #[.agg #[.slice none 0 0, .slice none 0 0], .agg #[.slice none 0 0, .slice none 0 0]], []⟩ 8 (by kernel_rfl) (by kernel_rfl) (by kernel_rfl) (by kernel_rfl)) ?_
  intro W base args ds gs before hval0 hW _ _
  have hval : ∀ (j : Nat) t v, Try.f5.params[j]? = some t → args[j]? = some v → Value.okWide Try.prog W .any base t v := hval0
  clear hval0
  obtain rfl : gs = [] := by obtain ⟨p, q, _, hV, _⟩ := hW; exact (trodVars_none hV).1
  have hW' := hW
  obtain ⟨p, q, hA0, hV, rfl, hfz, hnd⟩ := hW
  have hA : DataW.TrodAll enc Try.prog W 0 (fun _ => true) true Try.f5.params.toList args.toList ds p := hA0
  rw [Try.params5] at hA hval
  obtain ⟨v0, vs0, d0, ds0, p0, q0, hv0, hd0, hp0, h0, r0⟩ := trodAll_cons hA
  obtain ⟨v1, vs1, d1, ds1, p1, q1, hv1, hd1, hp1, h1, r1⟩ := trodAll_cons r0
  obtain ⟨hvn, hdn, hpn⟩ := trodAll_nil r1
  have ha : args = #[v0, v1] := by cases args; simp_all
  have hdd : ds = [d0, d1] := by simp_all
  rw [ha] at hval
  obtain ⟨a0, k0⟩ := qry_arg Try.underlying25 ⟨rfl, rfl⟩ ⟨rfl, rfl⟩ Try.underlying23 Try.underlying80 ⟨rfl, rfl⟩ ⟨rfl, rfl⟩ Try.underlying3 Try.underlying22 cellsI (by kernel_rfl) (by kernel_rfl) (by kernel_rfl) (by kernel_rfl) (hval 0 25 v0 rfl rfl) h0
  obtain ⟨a1, k1⟩ := qry_arg Try.underlying25 ⟨rfl, rfl⟩ ⟨rfl, rfl⟩ Try.underlying23 Try.underlying80 ⟨rfl, rfl⟩ ⟨rfl, rfl⟩ Try.underlying3 Try.underlying22 cellsI (by kernel_rfl) (by kernel_rfl) (by kernel_rfl) (by kernel_rfl) (hval 1 25 v1 rfl rfl) h1
  have hw : Calls Try.prog 5 args W (fun e W' => e = .returned (.bool true) ∧ Below W.heap.size W W') := by
    rw [ha]; exact contains_any a0 a1 v0 v1 W k0 k1
  exact hw.mono fun e W' ⟨he, hb⟩ => ⟨_, he, law_post Try.laidOut hW' rfl rfl Try.underlying4 (by rw [hdd]; rfl)
    (by kernel_rfl) hb⟩

theorem holds : Rows.MatchContainsSaid :=
  OpenClaim.holds_of_wide 5 Try.f5 rfl rfl rfl rfl rfl rfl rfl ⟨rfl, rfl, rfl, rfl, rfl⟩ rfl rfl rfl rfl rfl (by kernel_rfl) Try.func5 (by kernel_rfl)
    (of_decide_eq_true (by kernel_rfl)) (by unfold Func.isWrapper; first | (rw [if_pos (by decide +kernel)]; kernel_rfl) | (rw [if_neg (by decide +kernel)]; exact ⟨rfl, rfl⟩))
    (fun os started H enc _ => lifted os started H enc)
end matchContains
end Go.Proofs.Ytfplmdieeabgpaa
