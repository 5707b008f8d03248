/- MatchTrees: for every input the law returns true. -/
import Derived.Test.YtfplmdieeabgpaaTre
import Derived.Test.YtfplmdieeabgpaaRst
import Derived.Test.YtfplmdieeabgpaaPrd
import Derived.Test.YtfplmdieeabgpaaFrame
import Derived.Test.YtfplmdieeabgpaaRows
namespace Go.Proofs.Ytfplmdieeabgpaa
open Go.RowKit
structure Bq (w wr : World) (bp : Nat) (x0 x1 : Value) : Prop where
  b : Below w.heap.size w wr
  p : Bx wr bp x0 x1
theorem Bq.keep {w wr w' : World} {bp : Nat} {x0 x1 : Value} (h : Bq w wr bp x0 x1) (hb : Below wr.heap.size wr w') : Bq w w' bp x0 x1 := ⟨Below.tr h.b hb, h.p.keep hb⟩
theorem Bq.cells {w wr : World} {bp : Nat} {x0 x1 : Value} (h : Bq w wr bp x0 x1) : (wr.cell? ⟨bp, 0, none⟩ = some x0 ∧ wr.cell? ⟨bp, 1, none⟩ = some x1) ∧ True ∧ True := ⟨⟨aCell h.p 0 rfl, aCell h.p 1 rfl⟩, trivial, trivial⟩
theorem take_tree {V : Nat → Nat → Prop} {n : Nat} (hn : n ≤ 5) {l : List Int} : IsTree V n (l.take 9) ↔ IsTree V n l := by
  by_cases h : l.length ≤ 9
  · rw [List.take_of_length_le h]
  · constructor
    · intro T
      have := T.len
      rw [List.length_take] at this; omega
    · intro T
      have := T.len
      omega
set_option maxRecDepth 100000 in
set_option maxHeartbeats 16000000 in
theorem trees_any (q : HQ) (l : List Int) (v x : Value) (w : World) (hq : Qr w v q) (hl : Ints w x l) :
    Calls Try.prog 7 #[v, x] w fun e w' => e = .returned (.bool true) ∧ Below w.heap.size w w' := by
  obtain ⟨h0, b0, rfl, hh, hb⟩ := hq
  have Hq := Lib.hid (show Qr w (.agg #[h0, b0]) q from ⟨_, _, rfl, hh, hb⟩)
  obtain ⟨ha, hc, rfl⟩ := ints_slice hh
  obtain ⟨ba, bc, rfl⟩ := atoms_slice hb
  obtain ⟨la, lc, rfl⟩ := ints_slice hl
  obtain ⟨n0, hn0⟩ : ∃ x, x = q.1.length := ⟨_, rfl⟩
  obtain ⟨n1, hn1⟩ : ∃ x, x = q.2.length := ⟨_, rfl⟩
  obtain ⟨ln, hln⟩ : ∃ x, x = l.length := ⟨_, rfl⟩
  rw [← hn0, ← hn1] at Hq
  rw [← hln] at hl
  rw [← hn0, ← hn1, ← hln]
  have Hl := Lib.hid hl
  obtain ⟨w1, hw1⟩ : ∃ x, x = w.alloc (.cells #[.slice ha n0 hc, .slice ba n1 bc] 25) := ⟨_, rfl⟩
  obtain ⟨bp, hbp⟩ : ∃ x, x = w.heap.size := ⟨_, rfl⟩
  have HB := Lib.hid (show Bq w w1 bp (.slice ha n0 hc) (.slice ba n1 bc) from ⟨by rw [hw1]; exact below_alloc _ _, by rw [hw1, hbp]; exact heap_alloc_new _ _⟩)
  have Hw1 := Lib.hid hw1
  have Hbpe := Lib.hid hbp
  clear hh hb hw1 hbp hn0 hn1 hln hl
  go_enter Try.func7, Try.ntmps7
  go_upto_region 1 with fail
  rw [← Hw1.out, ← Hbpe.out]
  clear Hw1 Hbpe
  obtain ⟨⟨g0, g1⟩, g2, g3⟩ := HB.out.cells
  go_wp2_with fail
  refine (ofC_any _ _ (Hq.out.keep HB.out.b)).mono ?_
  rintro e w2 ⟨a1, e1, k1, a2, e2, k2, rfl, ho, hb⟩
  have HB := Lib.hid (HB.out.keep hb)
  have HQ := Lib.hid ho.qr
  clear hb ho g0 g1 g2 g3
  go_wp2_with fail
  refine (rest_any _ _ HQ.out).mono ?_
  rintro e w3 ⟨n, c1, rfl, hR, hb⟩
  have HB := Lib.hid (HB.out.keep hb)
  have HQ := Lib.hid (HQ.out.keep hb)
  have HR := Lib.hid hR
  clear hb hR HQ
  obtain ⟨⟨g0, g1⟩, g2, g3⟩ := HB.out.cells
  go_wp2_with fail
  refine (ofC_any _ _ (Hq.out.keep HB.out.b)).mono ?_
  rintro e w4 ⟨a1, e1, k1, a2, e2, k2, rfl, ho, hb⟩
  have HB := Lib.hid (HB.out.keep hb)
  have HQ := Lib.hid ho.qr
  clear hb ho g0 g1 g2 g3
  go_wp2_with fail
  refine (joinTree_any _ _ HQ.out).mono ?_
  rintro e w5 ⟨ua, un, uk, c2, rfl, hJ, hb⟩
  have HB := Lib.hid (HB.out.keep hb)
  have HQ := Lib.hid (HQ.out.keep hb)
  have HJ := Lib.hid hJ
  clear hb hJ HQ
  obtain ⟨⟨g0, g1⟩, g2, g3⟩ := HB.out.cells
  go_wp2_with fail
  refine (ofC_any _ _ (Hq.out.keep HB.out.b)).mono ?_
  rintro e w6 ⟨a1, e1, k1, a2, e2, k2, rfl, ho, hb⟩
  have HB := Lib.hid (HB.out.keep hb)
  have HJ := Lib.hid (HJ.out.keep hb)
  have HQ := Lib.hid ho.qr
  clear hb ho g0 g1 g2 g3
  go_wp2_with fail
  refine (fewQ_any l _ _ (Hl.out.keep HB.out.b)).mono ?_
  rintro e w7 ⟨fu, rfl, ho, hb⟩
  have HB := Lib.hid (HB.out.keep hb)
  have HJ := Lib.hid (HJ.out.keep hb)
  have HQ := Lib.hid (HQ.out.keep hb)
  obtain ⟨fa, fn, fk, rfl⟩ := own_slice ho
  have HF := Lib.hid ho.ints
  clear hb ho
  go_wp2_with fail
  refine (checkTree_any _ _ _ _ HQ.out HF.out).mono ?_
  rintro e w8 ⟨B, c3, rfl, hC, hb⟩
  have HB := Lib.hid (HB.out.keep hb)
  have HJ := Lib.hid (HJ.out.keep hb)
  have HQ := Lib.hid (HQ.out.keep hb)
  have HF := Lib.hid (HF.out.keep hb)
  have HC := Lib.hid hC
  clear hb hC HQ HF
  by_cases hv : QrV q
  · have Hv := Lib.hid hv
    have HO := Lib.hid (ofQ_of hv)
    have Hv2 := Lib.hid (show QrV (ofQ q) from by rw [ofQ_of hv]; exact hv)
    clear hv
    obtain ⟨rfl, L, hF, hn⟩ : c1 = 0 ∧ ∃ L : Nat, FinL q L ∧ ((OneL L ∧ n = 0) ∨ (¬ OneL L ∧ n = L)) := by
      rcases HR.out with ⟨h, _⟩ | ⟨_, h⟩
      · exact absurd Hv2.out h
      · rw [HO.out] at h; exact h
    obtain ⟨rfl, hB⟩ : c3 = 0 ∧ (B = true ↔ IsTree (Vq q.2) q.2.length l) := by
      rcases HC.out with ⟨h, _⟩ | ⟨_, h, h2⟩
      · exact absurd Hv2.out h
      · rw [HO.out] at h2; exact ⟨h, h2.trans (take_tree Hv.out.1.2.1)⟩
    have HF := Lib.hid hF
    have HBi := Lib.hid hB
    have Hn := Lib.hid hn
    clear HR HC hF hB hn
    obtain ⟨⟨g0, g1⟩, g2, g3⟩ := HB.out.cells
    go_wp2_with fail
    refine (validQR_any q _ _ (Hq.out.keep HB.out.b) true (decide_eq_true Hv.out)).mono ?_
    rintro e w9 ⟨rfl, hb⟩
    have HB := Lib.hid (HB.out.keep hb)
    have HJ := Lib.hid (HJ.out.keep hb)
    clear hb g0 g1 g2 g3
    obtain ⟨⟨g0, g1⟩, g2, g3⟩ := HB.out.cells
    go_wp2_with fail
    refine (restR_any Hv.out _ _ (Hq.out.keep HB.out.b)).mono ?_
    rintro e w10 ⟨m, rfl, hR2, hb⟩
    have HB := Lib.hid (HB.out.keep hb)
    have HJ := Lib.hid (HJ.out.keep hb)
    obtain rfl : m = n := by
      obtain ⟨M, k1, k2⟩ := hR2
      rw [finL_same k1 HF.out] at k2
      rcases k2 with ⟨a1, a2⟩ | ⟨a1, a2⟩
      · rcases Hn.out with ⟨b1, b2⟩ | ⟨b1, b2⟩
        · rw [a2, b2]
        · exact absurd a1 b1
      · rcases Hn.out with ⟨b1, b2⟩ | ⟨b1, b2⟩
        · exact absurd b1 a1
        · rw [a2, b2]
    clear hb hR2 g0 g1 g2 g3
    have hmm : (m != m) = false := by simp
    have hbb : (B != B) = false := by cases B <;> rfl
    obtain ⟨⟨g0, g1⟩, g2, g3⟩ := HB.out.cells
    have Hbd := Lib.hid (show Atoms w (.slice ba n1 bc) q.2 from by
      obtain ⟨_, _, e, _, h⟩ := Hq.out
      injection e with e
      have e2 := congrArg Array.toList e
      injection e2 with e3 e4
      injection e4 with e5 e6
      rw [← e5] at h; exact h)
    go_wp2_with fail
    refine (treeR_any q.2 Hv.out.1.2.1 (fun i hi t ht => ((Hv.out.2.1 i hi).2.2 t ht).2) l (.slice ha n0 hc) _ _ _ (Hbd.out.keep HB.out.b) (Hl.out.keep HB.out.b) B HBi.out).mono ?_
    rintro e w11 ⟨rfl, hb⟩
    have HB := Lib.hid (HB.out.keep hb)
    have HJ := Lib.hid (HJ.out.keep hb)
    clear hb g0 g1 g2 g3
    go_wp2_with fail
    refine (awake_any _).mono ?_
    rintro e w12 ⟨rfl, hb⟩
    have HB := Lib.hid (HB.out.keep hb)
    have HJ := Lib.hid (HJ.out.keep hb)
    clear hb 
    obtain ⟨⟨g0, g1⟩, g2, g3⟩ := HB.out.cells
    go_wp2_with fail
    refine (restR_any Hv.out _ _ (Hq.out.keep HB.out.b)).mono ?_
    rintro e w13 ⟨m2, rfl, hR2, hb⟩
    have HB := Lib.hid (HB.out.keep hb)
    have HJ := Lib.hid (HJ.out.keep hb)
    obtain rfl : m2 = m := by
      obtain ⟨M, k1, k2⟩ := hR2
      rw [finL_same k1 HF.out] at k2
      rcases k2 with ⟨a1, a2⟩ | ⟨a1, a2⟩
      · rcases Hn.out with ⟨b1, b2⟩ | ⟨b1, b2⟩
        · rw [a2, b2]
        · exact absurd a1 b1
      · rcases Hn.out with ⟨b1, b2⟩ | ⟨b1, b2⟩
        · exact absurd b1 a1
        · rw [a2, b2]
    clear hb hR2 g0 g1 g2 g3
    rcases Hn.out with ⟨h1, h2⟩ | ⟨h1, h2⟩
    · obtain ⟨rfl, par, hp, hT⟩ : c2 = 0 ∧ ∃ par, Ints w13 (.slice ua un uk) par ∧ IsTree (Vq q.2) q.2.length par := by
        rcases HJ.out with ⟨h, _⟩ | ⟨_, _, _, M, k1, k2⟩ | ⟨_, h, M, par, _, _, k3, k4⟩
        · exact absurd Hv2.out h
        · rw [HO.out] at k1; exact absurd (by rw [finL_same k1 HF.out]; exact h1) k2
        · rw [HO.out] at k4; exact ⟨h, par, k3, k4⟩
      have HP := Lib.hid hp
      have HT := Lib.hid hT
      have hz : (m2 != 0) = false := by rw [h2]; rfl
      clear HJ hp hT h1 h2
      obtain ⟨⟨g0, g1⟩, g2, g3⟩ := HB.out.cells
      go_wp2_with fail
      refine (treeR_any q.2 Hv.out.1.2.1 (fun i hi t ht => ((Hv.out.2.1 i hi).2.2 t ht).2) par (.slice ha n0 hc) _ _ _ (Hbd.out.keep HB.out.b) HP.out true ⟨fun _ => HT.out, fun _ => rfl⟩).mono ?_
      rintro e w14 ⟨rfl, hb⟩
      have HB := Lib.hid (HB.out.keep hb)
      have HP := Lib.hid (HP.out.keep hb)
      clear hb g0 g1 g2 g3 HP
      go_wp2_with fail
      go_ret
      exact ⟨rfl, HB.out.b⟩
    · obtain ⟨rfl, hnil⟩ : c2 = 8 ∧ (Value.slice ua un uk = .slice none 0 0) := by
        rcases HJ.out with ⟨h, _⟩ | ⟨_, h, h3, _⟩ | ⟨_, _, M, par, k1, k2, _⟩
        · exact absurd Hv2.out h
        · exact ⟨h, h3⟩
        · rw [HO.out] at k1; exact absurd (by rw [← finL_same k1 HF.out]; exact k2) h1
      injection hnil with x1 x2 x3
      subst x1 x2 x3
      have hL0 := (HF.out.lt Hv.out).2
      have hz : (m2 != 0) = true := by rw [bne_iff_ne]; omega
      clear HJ h1 h2 hL0
      go_wp2_with fail
      go_ret
      exact ⟨rfl, HB.out.b⟩
  · have Hv := Lib.hid hv
    have hv2 : ¬ QrV (ofQ q) := fun h => hv (by rw [ofQ_valid h] at h; exact h)
    obtain ⟨rfl, rfl⟩ : n = 0 ∧ c1 = 2 := by
      rcases HR.out with ⟨_, h1, h⟩ | ⟨h, _⟩
      · exact ⟨h1, h⟩
      · exact absurd h hv2
    obtain ⟨hnil, rfl⟩ : (Value.slice ua un uk = .slice none 0 0) ∧ c2 = 2 := by
      rcases HJ.out with ⟨_, h1, h⟩ | ⟨h, _⟩ | ⟨h, _⟩
      · exact ⟨h1, h⟩
      · exact absurd h hv2
      · exact absurd h hv2
    injection hnil with x1 x2 x3
    subst x1 x2 x3
    obtain ⟨rfl, rfl⟩ : B = false ∧ c3 = 2 := by
      rcases HC.out with ⟨_, h1, h⟩ | ⟨h, _⟩
      · exact ⟨h1, h⟩
      · exact absurd h hv2
    clear HR HJ HC hv hv2
    obtain ⟨⟨g0, g1⟩, g2, g3⟩ := HB.out.cells
    go_wp2_with fail
    refine (validQR_any q _ _ (Hq.out.keep HB.out.b) false (decide_eq_false Hv.out)).mono ?_
    rintro e w9 ⟨rfl, hb⟩
    have HB := Lib.hid (HB.out.keep hb)
    clear hb g0 g1 g2 g3
    go_wp2_with fail
    refine (awake_any _).mono ?_
    rintro e w10 ⟨rfl, hb⟩
    have HB := Lib.hid (HB.out.keep hb)
    clear hb 
    go_wp2_with fail
    go_ret
    exact ⟨rfl, HB.out.b⟩
#print axioms trees_any
namespace matchTrees
open Go.ChangeShapes Go.WideShapes Go.ChangeAt
set_option maxRecDepth 100000 in
theorem lifted (os : Os) (started : os.Started) (H : Type) (enc : TypeId × Value → H) :
    ReturnsInHanded {} Try.checked os 7 .any (Rows.matchTreesSpec.pre6 enc Try.prog Try.f7 Rows.matchTreesRow.domain false) (Rows.matchTreesSpec.post enc Try.prog Try.f7 false true false false) := by
  refine returnsInHanded_of_change (C := Try.checked) Try.own started (by kernel_rfl) Try.func7
    (ChangeSpec.witness6 (enc := enc) (C := Try.checked) false ⟨#[], #[.agg #[.slice none 0 0, .slice none 0 0], .slice none 0 0], []⟩ 8 (by kernel_rfl) (by kernel_rfl) (by kernel_rfl) (by kernel_rfl)) ?_
  intro W base args ds gs before hval0 hW _ _
  have hval : ∀ (j : Nat) t v, Try.f7.params[j]? = some t → args[j]? = some v → Value.okWide Try.prog W .any base t v := hval0
  clear hval0
  obtain rfl : gs = [] := by obtain ⟨p, q, _, hV, _⟩ := hW; exact (trodVars_none hV).1
  have hW' := hW
  obtain ⟨p, q, hA0, hV, rfl, hfz, hnd⟩ := hW
  have hA : DataW.TrodAll enc Try.prog W 0 (fun _ => true) true Try.f7.params.toList args.toList ds p := hA0
  rw [Try.params7] at hA hval
  obtain ⟨v0, vs0, d0, ds0, p0, q0, hv0, hd0, hp0, h0, r0⟩ := trodAll_cons hA
  obtain ⟨v1, vs1, d1, ds1, p1, q1, hv1, hd1, hp1, h1, r1⟩ := trodAll_cons r0
  obtain ⟨hvn, hdn, hpn⟩ := trodAll_nil r1
  have ha : args = #[v0, v1] := by cases args; simp_all
  have hdd : ds = [d0, d1] := by simp_all
  rw [ha] at hval
  obtain ⟨a0, k0⟩ := qry_arg Try.underlying25 ⟨rfl, rfl⟩ ⟨rfl, rfl⟩ Try.underlying23 Try.underlying80 ⟨rfl, rfl⟩ ⟨rfl, rfl⟩ Try.underlying3 Try.underlying22 cellsI (by kernel_rfl) (by kernel_rfl) (by kernel_rfl) (by kernel_rfl) (hval 0 25 v0 rfl rfl) h0
  obtain ⟨a1, k1⟩ := ints_of_trod Try.underlying22 Try.underlying3 cellsI (okWide_slice Try.underlying22 (hval 1 22 v1 rfl rfl)) h1
  have hw : Calls Try.prog 7 args W (fun e W' => e = .returned (.bool true) ∧ Below W.heap.size W W') := by
    rw [ha]; exact trees_any a0 a1 v0 v1 W k0 k1
  exact hw.mono fun e W' ⟨he, hb⟩ => ⟨_, he, law_post Try.laidOut hW' rfl rfl Try.underlying4 (by rw [hdd]; rfl)
    (by kernel_rfl) hb⟩

theorem holds : Rows.MatchTreesSaid :=
  OpenClaim.holds_of_wide 7 Try.f7 rfl rfl rfl rfl rfl rfl rfl ⟨rfl, rfl, rfl, rfl, rfl⟩ rfl rfl rfl rfl rfl (by kernel_rfl) Try.func7 (by kernel_rfl)
    (of_decide_eq_true (by kernel_rfl)) (by unfold Func.isWrapper; first | (rw [if_pos (by decide +kernel)]; kernel_rfl) | (rw [if_neg (by decide +kernel)]; exact ⟨rfl, rfl⟩))
    (fun os started H enc _ => lifted os started H enc)
end matchTrees
end Go.Proofs.Ytfplmdieeabgpaa
