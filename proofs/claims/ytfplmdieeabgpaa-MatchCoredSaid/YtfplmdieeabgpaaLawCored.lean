/- MatchCored: for every input the law returns true. -/
import Derived.Test.YtfplmdieeabgpaaCod
import Derived.Test.YtfplmdieeabgpaaPrt
import Derived.Test.YtfplmdieeabgpaaFrame
import Derived.Test.YtfplmdieeabgpaaRows
namespace Go.Proofs.Ytfplmdieeabgpaa
open Go.RowKit
structure Bq (w wr : World) (bp : Nat) (x0 x1 : Value) : Prop where
  b : Below w.heap.size w wr
  p : Bx wr bp x0 x1
theorem Bq.keep {w wr w' : World} {bp : Nat} {x0 x1 : Value} (h : Bq w wr bp x0 x1) (hb : Below wr.heap.size wr w') : Bq w w' bp x0 x1 := ⟨Below.tr h.b hb, h.p.keep hb⟩
theorem Bq.cells {w wr : World} {bp : Nat} {x0 x1 : Value} (h : Bq w wr bp x0 x1) : (wr.cell? ⟨bp, 0, none⟩ = some x0 ∧ wr.cell? ⟨bp, 1, none⟩ = some x1) ∧ True ∧ True := ⟨⟨aCell h.p 0 rfl, aCell h.p 1 rfl⟩, trivial, trivial⟩
/-- a box of a query of the program -/
def BxM (w : World) (b : Nat) (x y : Value) : Prop := w.heap[b]? = some (.cells #[x, y] 33 (0, 0))
theorem BxM.keep {w w' : World} {b : Nat} {x y : Value} (h : BxM w b x y) (hb : Below w.heap.size w w') : BxM w' b x y := blk_keep2 h hb
theorem drawG {w w' : World} {e : Ending} {B : Bool} (h : e = .returned (.bool B) ∧ ∃ n, w' = w.drewN n) : e = .returned (.bool B) ∧ Below w.heap.size w w' := ⟨h.1, by obtain ⟨n, h⟩ := h.2; rw [h]; exact ⟨rfl, rfl, rfl, Nat.le_refl _, fun _ _ => rfl⟩⟩
set_option maxRecDepth 100000 in
set_option maxHeartbeats 16000000 in
theorem cored_any (q : HQ) (l : List HAt) (v x : Value) (w : World) (hq : Qr w v q) (hl : Atoms w x l) :
    Calls Try.prog 10 #[v, x] w fun e w' => e = .returned (.bool true) ∧ Below w.heap.size w w' := by
  obtain ⟨h0, b0, rfl, hh, hb⟩ := hq
  have Hq := Lib.hid (show Qr w (.agg #[h0, b0]) q from ⟨_, _, rfl, hh, hb⟩)
  obtain ⟨ha, hc, rfl⟩ := ints_slice hh
  obtain ⟨ba, bc, rfl⟩ := atoms_slice hb
  obtain ⟨la, lc, rfl⟩ := atoms_slice hl
  obtain ⟨n0, hn0⟩ : ∃ x, x = q.1.length := ⟨_, rfl⟩
  obtain ⟨n1, hn1⟩ : ∃ x, x = q.2.length := ⟨_, rfl⟩
  obtain ⟨ln, hln⟩ : ∃ x, x = l.length := ⟨_, rfl⟩
  rw [← hn0, ← hn1] at Hq
  rw [← hln] at hl
  rw [← hn0, ← hn1, ← hln]
  have Hl := Lib.hid hl
  obtain ⟨w1, hw1⟩ : ∃ x, x = w.alloc (.cells #[.slice ha n0 hc, .slice ba n1 bc] 25) := ⟨_, rfl⟩
  obtain ⟨bp, hbp⟩ : ∃ x, x = w.heap.size := ⟨_, rfl⟩
  have HB := Lib.hid (show Bq w w1 bp (.slice ha n0 hc) (.slice ba n1 bc) from ⟨by rw [hw1]; exact below_alloc _ _, by rw [hw1, hbp]; exact heap_alloc_new _ _⟩)
  have Hw1 := Lib.hid hw1
  have Hbpe := Lib.hid hbp
  clear hh hb hw1 hbp hn0 hn1 hln hl
  go_enter Try.func10, Try.ntmps10
  go_upto_region 1 with fail
  rw [← Hw1.out, ← Hbpe.out]
  clear Hw1 Hbpe
  obtain ⟨⟨g0, g1⟩, g2, g3⟩ := HB.out.cells
  go_wp2_with fail
  refine (ofC_any _ _ (Hq.out.keep HB.out.b)).mono ?_
  rintro e w2 ⟨a1, e1, k1, a2, e2, k2, rfl, ho, hb⟩
  have HB := Lib.hid (HB.out.keep hb)
  have HQ := Lib.hid ho.qr
  clear hb ho g0 g1 g2 g3
  go_wp2_with fail
  refine (core_any _ _ HQ.out).mono ?_
  rintro e w3 ⟨ca, cn, ck, c1, rfl, hC, hb⟩
  have HB := Lib.hid (HB.out.keep hb)
  have HQ := Lib.hid (HQ.out.keep hb)
  have HC := Lib.hid hC
  clear hb hC HQ
  by_cases hv : QrV (ofQ q)
  · obtain ⟨rfl, L, ⟨S, s1, s2, s3, hLe, s4⟩, hO⟩ : c1 = 0 ∧ ∃ L, CoreL (ofQ q) L ∧ OwnInts w2.heap.size w3 (.slice ca cn ck) (cz L) := by
      rcases HC.out with ⟨h, _⟩ | ⟨_, h, L, h2, h3⟩
      · exact absurd hv h
      · exact ⟨h, L, h2, h3⟩
    subst hLe
    have HL := Lib.hid hO.ints
    have hcn := own_len hO
    rw [cz_len] at hcn
    have Hcn := Lib.hid hcn
    have Hv := Lib.hid hv
    have Hs1 := Lib.hid s1
    have Hs2 := Lib.hid s2
    have Hs3 := Lib.hid s3
    have Hs4 := Lib.hid s4
    clear HC hO hv s1 s2 s3 s4 hcn
    obtain ⟨⟨g0, g1⟩, g2, g3⟩ := HB.out.cells
    go_wp2_with fail
    refine (ofC_any _ _ (Hq.out.keep HB.out.b)).mono ?_
    rintro e w4 ⟨a1, e1, k1, a2, e2, k2, rfl, ho, hb⟩
    have HB := Lib.hid (HB.out.keep hb)
    have HL := Lib.hid (HL.out.keep hb)
    have HQ := Lib.hid ho.qr
    clear hb ho g0 g1 g2 g3
    go_wp2_with fail
    refine (partL_any (q := ofQ q) (by have := Hv.out.1.2.1; omega) (by have := Hv.out.1.2.2; omega) (chL S (ofQ q).2.length) (fun i hi => ((mem_chL _).1 hi).1) (by have := chL_len S (ofQ q).2.length; have := Hv.out.1.2.1; omega) _ _ _ HQ.out HL.out).mono ?_
    rintro e w5 ⟨pa, pn, pk, qa, qn, qk, rfl, hP, hb⟩
    have HB := Lib.hid (HB.out.keep hb)
    have HL := Lib.hid (HL.out.keep hb)
    have HQ := Lib.hid (HQ.out.keep hb)
    have HP := Lib.hid (show Qr w5 (.agg #[.slice pa pn pk, .slice qa qn qk]) (partQ (ofQ q) S) from hP)
    clear hb hP HQ HL
    obtain ⟨wn, hwn⟩ : ∃ wn, wn = w5.alloc (.cells #[.slice pa pn pk, .slice qa qn qk] 33) := ⟨_, rfl⟩
    obtain ⟨bx, hbx⟩ : ∃ x, x = w5.heap.size := ⟨_, rfl⟩
    have hb : Below w5.heap.size w5 wn := by rw [hwn]; exact below_alloc _ _
    have HX := Lib.hid (show BxM wn bx (.slice pa pn pk) (.slice qa qn qk) from by rw [hwn, hbx]; exact heap_alloc_new _ _)
    have HB := Lib.hid (HB.out.keep hb)
    have HP := Lib.hid (HP.out.keep hb)
    have Hwn := Lib.hid hwn
    have Hbx := Lib.hid hbx
    clear hb hwn hbx
    go_upto_region 5 with fail
    rw [← Hwn.out, ← Hbx.out]
    clear Hwn Hbx
    generalize wn = w6 at *
    have x0 := aCell HX.out 0 rfl
    have x1 := aCell HX.out 1 rfl
    go_wp2_with fail
    refine (core_any _ _ HP.out).mono ?_
    rintro e w7 ⟨da, dn, dk, c2, rfl, hD, hb⟩
    have HB := Lib.hid (HB.out.keep hb)
    have HP := Lib.hid (HP.out.keep hb)
    have HX := Lib.hid (HX.out.keep hb)
    obtain ⟨rfl, D, hD1, hD2⟩ : c2 = 0 ∧ ∃ D, CoreL (partQ (ofQ q) S) D ∧ OwnInts w6.heap.size w7 (.slice da dn dk) (cz D) := by
      rcases hD with ⟨h, _⟩ | ⟨_, h, D, h2, h3⟩
      · exact absurd Hs3.out.1 h
      · exact ⟨h, D, h2, h3⟩
    have hdn := own_len hD2
    rw [cz_len, core_core Hv.out Hs1.out Hs2.out Hs3.out Hs4.out hD1, ← Hcn.out] at hdn
    subst hdn
    clear hb hD hD1 hD2 x0 x1
    have hnn : ((dn : Int) != dn) = false := by simp
    obtain ⟨⟨g0, g1⟩, g2, g3⟩ := HB.out.cells
    go_wp2_with fail
    refine (ofC_any _ _ (Hq.out.keep HB.out.b)).mono ?_
    rintro e w8 ⟨a1, e1, k1, a2, e2, k2, rfl, ho, hb⟩
    have HB := Lib.hid (HB.out.keep hb)
    have HP := Lib.hid (HP.out.keep hb)
    have HX := Lib.hid (HX.out.keep hb)
    have HQ := Lib.hid ho.qr
    clear hb ho g0 g1 g2 g3
    go_wp2_with fail
    refine (facC_any _ _ (Hl.out.keep HB.out.b)).mono ?_
    rintro e w9 ⟨f1, f2, f3, rfl, ho, hb⟩
    have HB := Lib.hid (HB.out.keep hb)
    have HP := Lib.hid (HP.out.keep hb)
    have HX := Lib.hid (HX.out.keep hb)
    have HQ := Lib.hid (HQ.out.keep hb)
    have HF := Lib.hid ho.atoms
    clear hb ho
    go_wp2_with fail
    refine (resC_any _ _ _ HQ.out HF.out).mono ?_
    rintro e w10 ⟨ra1, rn1, rk1, c4, rfl, hR, hb⟩
    have HB := Lib.hid (HB.out.keep hb)
    have HP := Lib.hid (HP.out.keep hb)
    have HX := Lib.hid (HX.out.keep hb)
    have HQ := Lib.hid (HQ.out.keep hb)
    have HF := Lib.hid (HF.out.keep hb)
    have HR1 := Lib.hid hR
    clear hb hR HQ HF
    go_upto_region 9 with fail
    try simp only [Act.put]
    clear hnn
    go_cut [12, 10] (fun o1 o2 wc => ∃ ra2 rn2 rk2 c5 z, (o1 = .slice ra2 rn2 rk2 ∧ o2 = .int .i64 c5) ∧ ResC (partQ (ofQ q) S) (ofF l) z wc (.slice ra2 rn2 rk2) c5 ∧ Below w10.heap.size w10 wc)
    case first =>
      have HS0 := Lib.hid (show BxM w10.drew bx (.slice pa pn pk) (.slice qa qn qk) from HX.out)
      have Hw0 := Lib.hid (show Below w.heap.size w w10.drew from HB.out.b.drew)
      have HW0 := Lib.hid (show Below w10.heap.size w10 w10.drew from (Below.refl _ _).drew)
      refine wp_region_held (S := fun w' => BxM w' bx (.slice pa pn pk) (.slice qa qn qk)) wideK ?_
      change wpAnyH _ _ _ _ _ _ _ _ (World.drew _)
      generalize w10.drew = wd0 at *
      refine wpAnyH_take (i := 0) (v := ?_) rfl (by kernel_rfl) (by kernel_rfl) (by kernel_rfl) (fun _ _ _ h => h) (Or.inl ⟨by rfl, ?_⟩) HS0.out ?_
      rotate_left
      focus (intro w hS; have s0 := aCell hS 0 rfl; have s1 := aCell hS 1 rfl; clear hS; first | (go_simp; done) | (go_simp; with_reducible rfl))
      simp only [Act.put, List.getElem_toArray, List.getElem_cons_zero, List.setIfInBounds_toArray, List.set_cons_zero, List.set_cons_succ]
      refine wpAnyH_take (i := 1) (v := ?_) rfl (by kernel_rfl) (by kernel_rfl) (by kernel_rfl) (fun _ _ _ h => h) (Or.inl ⟨by rfl, ?_⟩) HS0.out ?_
      rotate_left
      focus (intro w hS; clear hS; first | (go_simp; done) | (go_simp; with_reducible rfl))
      simp only [Act.put, List.getElem_toArray, List.getElem_cons_zero, List.getElem_cons_succ, List.setIfInBounds_toArray, List.set_cons_zero, List.set_cons_succ]
      refine wpAnyH_ready (rs := [2]) (by kernel_rfl) (by simp) ?_
      refine RdyH.cons rfl (fun K2 hK => ?_) RdyH.nil
      go_simp
      go_at_call 21
      refine (facC_any _ _ (Hl.out.keep Hw0.out)).mono ?_
      rintro e wd1 ⟨f1, f2, f3, rfl, ho, hb⟩
      have HS1 := Lib.hid (BxM.keep HS0.out hb)
      have Hw1 := Lib.hid (Below.tr Hw0.out hb)
      have HW1 := Lib.hid (Below.tr HW0.out hb)
      have HF := Lib.hid ho.atoms
      clear ho hb
      go_simp
      refine hK _ _ HS1.out ?_
      clear hK K2
      refine wpAnyH_ready (rs := [3]) (by kernel_rfl) (by simp) ?_
      refine RdyH.cons rfl (fun K2 hK => ?_) RdyH.nil
      go_simp
      go_at_call 19
      refine (resC_any _ _ _ (HP.out.keep HW1.out) HF.out).mono ?_
      rintro e wd2 ⟨ra2, rn2, rk2, c5, rfl, hR, hb⟩
      have HS2 := Lib.hid (BxM.keep HS1.out hb)
      have Hw2 := Lib.hid (Below.tr Hw1.out hb)
      have HW2 := Lib.hid (Below.tr HW1.out hb)
      have HR2 := Lib.hid hR
      clear hR hb
      go_simp
      refine hK _ _ HS2.out ?_
      clear hK K2
      refine wpAnyH_take (i := 4) (v := ?_) rfl (by kernel_rfl) (by kernel_rfl) (by kernel_rfl) (fun _ _ _ h => h) (Or.inl ⟨by rfl, ?_⟩) HS2.out ?_
      rotate_left
      focus (intro w hS; clear hS; first | (go_simp; done) | (go_simp; with_reducible rfl))
      simp only [Act.put, List.getElem_toArray, List.getElem_cons_zero, List.getElem_cons_succ, List.setIfInBounds_toArray, List.set_cons_zero, List.set_cons_succ]
      refine wpAnyH_take (i := 5) (v := ?_) rfl (by kernel_rfl) (by kernel_rfl) (by kernel_rfl) (fun _ _ _ h => h) (Or.inl ⟨by rfl, ?_⟩) HS2.out ?_
      rotate_left
      focus (intro w hS; clear hS; first | (go_simp; done) | (go_simp; with_reducible rfl))
      simp only [Act.put, List.getElem_toArray, List.getElem_cons_zero, List.getElem_cons_succ, List.setIfInBounds_toArray, List.set_cons_zero, List.set_cons_succ]
      refine wpAnyH_take (i := 6) (v := ?_) rfl (by kernel_rfl) (by kernel_rfl) (by kernel_rfl) (fun _ _ _ h => h) (Or.inl ⟨by rfl, ?_⟩) HS2.out ?_
      rotate_left
      focus (intro w hS; clear hS; first | (go_simp; done) | (go_simp; with_reducible rfl))
      simp only [Act.put, List.getElem_toArray, List.getElem_cons_zero, List.getElem_cons_succ, List.setIfInBounds_toArray, List.set_cons_zero, List.set_cons_succ]
      refine wpAnyH_take (i := 7) (v := ?_) rfl (by kernel_rfl) (by kernel_rfl) (by kernel_rfl) (fun _ _ _ h => h) (Or.inl ⟨by rfl, ?_⟩) HS2.out ?_
      rotate_left
      focus (intro w hS; clear hS; first | (go_simp; done) | (go_simp; with_reducible rfl))
      simp only [Act.put, List.getElem_toArray, List.getElem_cons_zero, List.getElem_cons_succ, List.setIfInBounds_toArray, List.set_cons_zero, List.set_cons_succ]
      refine wpAnyH_take (i := 8) (v := ?_) rfl (by kernel_rfl) (by kernel_rfl) (by kernel_rfl) (fun _ _ _ h => h) (Or.inl ⟨by rfl, ?_⟩) HS2.out ?_
      rotate_left
      focus (intro w hS; clear hS; first | (go_simp; done) | (go_simp; with_reducible rfl))
      simp only [Act.put, List.getElem_toArray, List.getElem_cons_zero, List.getElem_cons_succ, List.setIfInBounds_toArray, List.set_cons_zero, List.set_cons_succ]
      refine wpAnyH_done (by kernel_rfl) ?_ _
      go_wp2_with fail
      go_meet
      exact ⟨ra2, rn2, rk2, c5, _, ⟨rfl, rfl⟩, HR2.out, HW2.out⟩
    case rest =>
      obtain ⟨ra2, rn2, rk2, c5, z, ⟨rfl, rfl⟩, hR, hb⟩ := hcut
      generalize wc = w11 at *
      have HB := Lib.hid (HB.out.keep hb)
      have HR1 := Lib.hid (HR1.out.keep hb)
      clear hb
      obtain ⟨Ra, a1, a2, a3⟩ := HR1.out.rows
      obtain ⟨Rb, b1, b2, b3⟩ := hR.rows
      have Hra := Lib.hid a1
      have Hrb := Lib.hid b1
      have Hia := Lib.hid a3
      have Hib := Lib.hid b3
      clear HR1 hR a1 a2 a3 b1 b2 b3
      by_cases z4 : c4 = 0
      · by_cases z5 : c5 = 0
        · subst z4; subst z5
          obtain rfl := core_res Hv.out Hs3.out (Hia.out rfl) (Hib.out rfl)
          go_wp2_with fail
          refine (rows_any _ _ _ _ _ Hra.out Hrb.out).mono ?_
          rintro e w12 hh
          obtain ⟨rfl, hb⟩ : e = .returned (.bool true) ∧ Below w11.heap.size w11 w12 := by
            obtain ⟨h1, h2⟩ := drawG hh
            exact ⟨by rw [h1]; simp, h2⟩
          have HB := Lib.hid (HB.out.keep hb)
          clear hb hh
          go_wp2_with fail
          refine (awake_any _).mono ?_
          rintro e w13 ⟨rfl, hb⟩
          have HB := Lib.hid (HB.out.keep hb)
          clear hb 
          go_wp2_with fail
          go_ret
          exact ⟨rfl, HB.out.b⟩
        · have q5 : (c5 != 0) = true := by rw [bne_iff_ne]; exact z5
          subst z4
          go_wp2_with fail
          refine (awake_any _).mono ?_
          rintro e w12 ⟨rfl, hb⟩
          have HB := Lib.hid (HB.out.keep hb)
          clear hb 
          go_wp2_with fail
          go_ret
          exact ⟨rfl, HB.out.b⟩
      · have q4 : (c4 != 0) = true := by rw [bne_iff_ne]; exact z4
        go_wp2_with fail
        refine (awake_any _).mono ?_
        rintro e w12 ⟨rfl, hb⟩
        have HB := Lib.hid (HB.out.keep hb)
        clear hb 
        go_wp2_with fail
        go_ret
        exact ⟨rfl, HB.out.b⟩
  · obtain rfl : c1 = 2 := by
      rcases HC.out with ⟨_, _, h⟩ | ⟨h, _⟩
      · exact h
      · exact absurd h hv
    clear HC hv
    go_wp2_with fail
    refine (awake_any _).mono ?_
    rintro e w4 ⟨rfl, hb⟩
    have HB := Lib.hid (HB.out.keep hb)
    clear hb 
    go_wp2_with fail
    go_ret
    exact ⟨rfl, HB.out.b⟩
#print axioms cored_any
namespace matchCored
open Go.ChangeShapes Go.WideShapes Go.ChangeAt
set_option maxRecDepth 100000 in
theorem lifted (os : Os) (started : os.Started) (H : Type) (enc : TypeId × Value → H) :
    ReturnsInHanded {} Try.checked os 10 .any (Rows.matchCoredSpec.pre6 enc Try.prog Try.f10 Rows.matchCoredRow.domain false) (Rows.matchCoredSpec.post enc Try.prog Try.f10 false true false false) := by
  refine returnsInHanded_of_change (C := Try.checked) Try.own started (by kernel_rfl) Try.func10
    (ChangeSpec.witness6 (enc := enc) (C := Try.checked) false ⟨#[], #[.agg #[.slice none 0 0, .slice none 0 0], .slice none 0 0], []⟩ 8 (by kernel_rfl) (by kernel_rfl) (by kernel_rfl) (by kernel_rfl)) ?_
  intro W base args ds gs before hval0 hW _ _
  have hval : ∀ (j : Nat) t v, Try.f10.params[j]? = some t → args[j]? = some v → Value.okWide Try.prog W .any base t v := hval0
  clear hval0
  obtain rfl : gs = [] := by obtain ⟨p, q, _, hV, _⟩ := hW; exact (trodVars_none hV).1
  have hW' := hW
  obtain ⟨p, q, hA0, hV, rfl, hfz, hnd⟩ := hW
  have hA : DataW.TrodAll enc Try.prog W 0 (fun _ => true) true Try.f10.params.toList args.toList ds p := hA0
  rw [Try.params10] at hA hval
  obtain ⟨v0, vs0, d0, ds0, p0, q0, hv0, hd0, hp0, h0, r0⟩ := trodAll_cons hA
  obtain ⟨v1, vs1, d1, ds1, p1, q1, hv1, hd1, hp1, h1, r1⟩ := trodAll_cons r0
  obtain ⟨hvn, hdn, hpn⟩ := trodAll_nil r1
  have ha : args = #[v0, v1] := by cases args; simp_all
  have hdd : ds = [d0, d1] := by simp_all
  rw [ha] at hval
  obtain ⟨a0, k0⟩ := qry_arg Try.underlying25 ⟨rfl, rfl⟩ ⟨rfl, rfl⟩ Try.underlying23 Try.underlying80 ⟨rfl, rfl⟩ ⟨rfl, rfl⟩ Try.underlying3 Try.underlying22 cellsI (by kernel_rfl) (by kernel_rfl) (by kernel_rfl) (by kernel_rfl) (hval 0 25 v0 rfl rfl) h0
  obtain ⟨a1, k1⟩ := atoms_of_trod Try.underlying26 Try.underlying77 ⟨rfl, rfl⟩ ⟨rfl, rfl⟩ Try.underlying3 Try.underlying22 cellsI (by kernel_rfl) (by kernel_rfl) (okWide_slice Try.underlying26 (hval 1 26 v1 rfl rfl)) h1
  have hw : Calls Try.prog 10 args W (fun e W' => e = .returned (.bool true) ∧ Below W.heap.size W W') := by
    rw [ha]; exact cored_any a0 a1 v0 v1 W k0 k1
  exact hw.mono fun e W' ⟨he, hb⟩ => ⟨_, he, law_post Try.laidOut hW' rfl rfl Try.underlying4 (by rw [hdd]; rfl)
    (by kernel_rfl) hb⟩

theorem holds : Rows.MatchCoredSaid :=
  OpenClaim.holds_of_wide 10 Try.f10 rfl rfl rfl rfl rfl rfl rfl ⟨rfl, rfl, rfl, rfl, rfl⟩ rfl rfl rfl rfl rfl (by kernel_rfl) Try.func10 (by kernel_rfl)
    (of_decide_eq_true (by kernel_rfl)) (by unfold Func.isWrapper; first | (rw [if_pos (by decide +kernel)]; kernel_rfl) | (rw [if_neg (by decide +kernel)]; exact ⟨rfl, rfl⟩))
    (fun os started H enc _ => lifted os started H enc)
end matchCored
end Go.Proofs.Ytfplmdieeabgpaa
