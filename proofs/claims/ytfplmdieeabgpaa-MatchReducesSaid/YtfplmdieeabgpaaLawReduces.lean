/- MatchReduces: for every input the law returns true. -/
import Derived.Test.YtfplmdieeabgpaaRdy
import Derived.Test.YtfplmdieeabgpaaRdz
import Derived.Test.YtfplmdieeabgpaaAwk
import Derived.Test.YtfplmdieeabgpaaFrame
import Derived.Test.YtfplmdieeabgpaaRows
namespace Go.Proofs.Ytfplmdieeabgpaa
open Go.RowKit
structure Bq (w wr : World) (bp : Nat) (x0 x1 : Value) : Prop where
  b : Below w.heap.size w wr
  p : Bx wr bp x0 x1
theorem Bq.keep {w wr w' : World} {bp : Nat} {x0 x1 : Value} (h : Bq w wr bp x0 x1) (hb : Below wr.heap.size wr w') : Bq w w' bp x0 x1 := ⟨Below.tr h.b hb, h.p.keep hb⟩
theorem Bq.cells {w wr : World} {bp : Nat} {x0 x1 : Value} (h : Bq w wr bp x0 x1) : (wr.cell? ⟨bp, 0, none⟩ = some x0 ∧ wr.cell? ⟨bp, 1, none⟩ = some x1) ∧ True ∧ True := ⟨⟨aCell h.p 0 rfl, aCell h.p 1 rfl⟩, trivial, trivial⟩
theorem ptsNil2 (w : World) : Pts w (.slice none 0 0) [] := (ptsNil 0 w).pts
theorem part_same {q : HQ} {l : List HAt} {i : Nat} {N M : List HAt} (h : Part q l i N) (k : Part q l i M) : N = M := by
  have e : N.map keyF = M.map keyF := strict_eq h.1 k.1 fun x => by
    rw [List.mem_map, List.mem_map]
    exact ⟨fun ⟨y, h1, h2⟩ => ⟨y, (k.2 y).2 ((h.2 y).1 h1), h2⟩, fun ⟨y, h1, h2⟩ => ⟨y, (h.2 y).2 ((k.2 y).1 h1), h2⟩⟩
  exact (List.map_inj_right (fun _ _ h => keyF_inj h)).1 e
theorem parts_same {q : HQ} {l : List HAt} {P Q : List (List HAt)} (h1 : P.length = q.2.length) (h2 : Q.length = q.2.length) (h : ∀ i, i < q.2.length → Part q l i (P.getD i [])) (k : ∀ i, i < q.2.length → Part q l i (Q.getD i [])) : P = Q :=
  List.ext_getElem (h1.trans h2.symm) fun i a b => by
    have := part_same (h i (by omega)) (k i (by omega))
    rwa [List.getD_eq_getElem?_getD, List.getElem?_eq_getElem a, List.getD_eq_getElem?_getD, List.getElem?_eq_getElem b] at this
theorem same_red {q : HQ} {l : List HAt} {b : Nat} {w : World} {u u' : Value} {c c' : Int} (h : RedE (ofQ q) (ofF l) b w u c) (k : RedRR q l w u' c') : c = c' ∧ ∃ P, Pts w u P ∧ Pts w u' P := by
  have hn := ptsNil2 w
  rcases valid_same2 (q := q) (l := l) with ⟨v1, v2, e1, e2, v3, v4⟩ | ⟨v1, v2⟩
  · rw [e1, e2] at h
    rcases h with ⟨h1, _⟩ | ⟨_, _, h3, rfl, rfl⟩ | ⟨_, _, h3, rfl, P, h5, h6, h7⟩
    · exact absurd ⟨v3, v4⟩ h1
    · rcases k with ⟨k1, _⟩ | ⟨_, _, _, rfl, rfl⟩ | ⟨_, _, k3, _⟩
      · exact absurd ⟨v3, v4⟩ k1
      · exact ⟨rfl, [], hn, hn⟩
      · exact absurd h3 k3
    · rcases k with ⟨k1, _⟩ | ⟨_, _, k3, _⟩ | ⟨_, _, _, rfl, Q, k5, k6, k7⟩
      · exact absurd ⟨v3, v4⟩ k1
      · exact absurd k3 h3
      · have e := parts_same h6 k6 h7 k7
        subst e
        exact ⟨rfl, P, h5.pts, k5⟩
  · rcases h with ⟨_, rfl, rfl⟩ | ⟨h1, h2, _⟩ | ⟨h1, h2, _⟩
    · rcases k with ⟨_, rfl, rfl⟩ | ⟨k1, k2, _⟩ | ⟨k1, k2, _⟩
      · exact ⟨rfl, [], hn, hn⟩
      · exact absurd ⟨k1, k2⟩ v2
      · exact absurd ⟨k1, k2⟩ v2
    · exact absurd ⟨h1, h2⟩ v1
    · exact absurd ⟨h1, h2⟩ v1
set_option maxRecDepth 100000 in
set_option maxHeartbeats 16000000 in
theorem reduces_law (q : HQ) (l : List HAt) (v x : Value) (w : World) (hq : Qr w v q) (hl : Atoms w x l) :
    Calls Try.prog 8 #[v, x] w fun e w' => e = .returned (.bool true) ∧ Below w.heap.size w w' := by
  obtain ⟨h0, b0, rfl, hh, hb⟩ := hq
  have Hq := Lib.hid (show Qr w (.agg #[h0, b0]) q from ⟨_, _, rfl, hh, hb⟩)
  obtain ⟨ha, hc, rfl⟩ := ints_slice hh
  obtain ⟨ba, bc, rfl⟩ := atoms_slice hb
  obtain ⟨la, lc, rfl⟩ := atoms_slice hl
  obtain ⟨n0, hn0⟩ : ∃ x, x = q.1.length := ⟨_, rfl⟩
  obtain ⟨n1, hn1⟩ : ∃ x, x = q.2.length := ⟨_, rfl⟩
  obtain ⟨ln, hln⟩ : ∃ x, x = l.length := ⟨_, rfl⟩
  rw [← hn0, ← hn1] at Hq
  rw [← hln] at hl
  rw [← hn0, ← hn1, ← hln]
  have Hl := Lib.hid hl
  obtain ⟨w1, hw1⟩ : ∃ x, x = w.alloc (.cells #[.slice ha n0 hc, .slice ba n1 bc] 25) := ⟨_, rfl⟩
  obtain ⟨bp, hbp⟩ : ∃ x, x = w.heap.size := ⟨_, rfl⟩
  have HB := Lib.hid (show Bq w w1 bp (.slice ha n0 hc) (.slice ba n1 bc) from ⟨by rw [hw1]; exact below_alloc _ _, by rw [hw1, hbp]; exact heap_alloc_new _ _⟩)
  have Hw1 := Lib.hid hw1
  have Hbpe := Lib.hid hbp
  clear hh hb hw1 hbp hn0 hn1 hln hl
  go_enter Try.func8, Try.ntmps8
  go_upto_region 1 with fail
  rw [← Hw1.out, ← Hbpe.out]
  clear Hw1 Hbpe
  obtain ⟨⟨g0, g1⟩, g2, g3⟩ := HB.out.cells
  go_wp2_with fail
  refine (ofC_any _ _ (Hq.out.keep HB.out.b)).mono ?_
  rintro e w2 ⟨a1, e1, k1, a2, e2, k2, rfl, ho, hb⟩
  have HB := Lib.hid (HB.out.keep hb)
  have HQ := Lib.hid ho.qr
  clear hb ho g0 g1 g2 g3
  go_wp2_with fail
  refine (facC_any _ _ (Hl.out.keep HB.out.b)).mono ?_
  rintro e w3 ⟨f1, f2, f3, rfl, ho, hb⟩
  have HB := Lib.hid (HB.out.keep hb)
  have HQ := Lib.hid (HQ.out.keep hb)
  have HF := Lib.hid ho.atoms
  clear hb ho
  go_wp2_with fail
  refine (reduce_any _ _ _ HQ.out HF.out).mono ?_
  rintro e w4 ⟨ra1, rn1, rk1, c1, rfl, hR, hb⟩
  have HB := Lib.hid (HB.out.keep hb)
  have HQ := Lib.hid (HQ.out.keep hb)
  have HF := Lib.hid (HF.out.keep hb)
  have HR1 := Lib.hid hR
  clear hb hR HQ HF
  obtain ⟨⟨g0, g1⟩, g2, g3⟩ := HB.out.cells
  go_wp2_with fail
  refine (reduceR_any _ _ _ (Hq.out.keep HB.out.b) (Hl.out.keep HB.out.b)).mono ?_
  rintro e w5 ⟨ra2, rn2, rk2, c2, rfl, hR, hb⟩
  have HB := Lib.hid (HB.out.keep hb)
  have HR1 := Lib.hid (HR1.out.keep hb)
  obtain ⟨rfl, Rb, hb2, hb3⟩ := same_red HR1.out hR
  have HRb := Lib.hid hb2
  have HRc := Lib.hid hb3
  clear hb hR hb2 hb3 HR1 g0 g1 g2 g3
  go_wp2_with fail
  refine (eqParts_any Rb _ _ _ HRb.out HRc.out).mono ?_
  rintro e w6 ⟨rfl, hb⟩
  have HB := Lib.hid (HB.out.keep hb)
  have HRb := Lib.hid (HRb.out.keep hb)
  have HRc := Lib.hid (HRc.out.keep hb)
  clear hb 
  go_wp2_with fail
  refine (awake_any _).mono ?_
  rintro e w7 ⟨rfl, hb⟩
  have HB := Lib.hid (HB.out.keep hb)
  have HRb := Lib.hid (HRb.out.keep hb)
  have HRc := Lib.hid (HRc.out.keep hb)
  clear hb 
  go_wp2_with fail
  go_ret
  exact ⟨rfl, HB.out.b⟩
#print axioms reduces_law
namespace matchReduces
open Go.ChangeShapes Go.WideShapes Go.ChangeAt
set_option maxRecDepth 100000 in
theorem lifted (os : Os) (started : os.Started) (H : Type) (enc : TypeId × Value → H) :
    ReturnsInHanded {} Try.checked os 8 .any (Rows.matchReducesSpec.pre6 enc Try.prog Try.f8 Rows.matchReducesRow.domain false) (Rows.matchReducesSpec.post enc Try.prog Try.f8 false true false false) := by
  refine returnsInHanded_of_change (C := Try.checked) Try.own started (by kernel_rfl) Try.func8
    (ChangeSpec.witness6 (enc := enc) (C := Try.checked) false ⟨#[], #[.agg #[.slice none 0 0, .slice none 0 0], .slice none 0 0], []⟩ 8 (by kernel_rfl) (by kernel_rfl) (by kernel_rfl) (by kernel_rfl)) ?_
  intro W base args ds gs before hval0 hW _ _
  have hval : ∀ (j : Nat) t v, Try.f8.params[j]? = some t → args[j]? = some v → Value.okWide Try.prog W .any base t v := hval0
  clear hval0
  obtain rfl : gs = [] := by obtain ⟨p, q, _, hV, _⟩ := hW; exact (trodVars_none hV).1
  have hW' := hW
  obtain ⟨p, q, hA0, hV, rfl, hfz, hnd⟩ := hW
  have hA : DataW.TrodAll enc Try.prog W 0 (fun _ => true) true Try.f8.params.toList args.toList ds p := hA0
  rw [Try.params8] at hA hval
  obtain ⟨v0, vs0, d0, ds0, p0, q0, hv0, hd0, hp0, h0, r0⟩ := trodAll_cons hA
  obtain ⟨v1, vs1, d1, ds1, p1, q1, hv1, hd1, hp1, h1, r1⟩ := trodAll_cons r0
  obtain ⟨hvn, hdn, hpn⟩ := trodAll_nil r1
  have ha : args = #[v0, v1] := by cases args; simp_all
  have hdd : ds = [d0, d1] := by simp_all
  rw [ha] at hval
  obtain ⟨a0, k0⟩ := qry_arg Try.underlying25 ⟨rfl, rfl⟩ ⟨rfl, rfl⟩ Try.underlying23 Try.underlying80 ⟨rfl, rfl⟩ ⟨rfl, rfl⟩ Try.underlying3 Try.underlying22 cellsI (by kernel_rfl) (by kernel_rfl) (by kernel_rfl) (by kernel_rfl) (hval 0 25 v0 rfl rfl) h0
  obtain ⟨a1, k1⟩ := atoms_of_trod Try.underlying26 Try.underlying77 ⟨rfl, rfl⟩ ⟨rfl, rfl⟩ Try.underlying3 Try.underlying22 cellsI (by kernel_rfl) (by kernel_rfl) (okWide_slice Try.underlying26 (hval 1 26 v1 rfl rfl)) h1
  have hw : Calls Try.prog 8 args W (fun e W' => e = .returned (.bool true) ∧ Below W.heap.size W W') := by
    rw [ha]; exact reduces_law a0 a1 v0 v1 W k0 k1
  exact hw.mono fun e W' ⟨he, hb⟩ => ⟨_, he, law_post Try.laidOut hW' rfl rfl Try.underlying4 (by rw [hdd]; rfl)
    (by kernel_rfl) hb⟩

theorem holds : Rows.MatchReducesSaid :=
  OpenClaim.holds_of_wide 8 Try.f8 rfl rfl rfl rfl rfl rfl rfl ⟨rfl, rfl, rfl, rfl, rfl⟩ rfl rfl rfl rfl rfl (by kernel_rfl) Try.func8 (by kernel_rfl)
    (of_decide_eq_true (by kernel_rfl)) (by unfold Func.isWrapper; first | (rw [if_pos (by decide +kernel)]; kernel_rfl) | (rw [if_neg (by decide +kernel)]; exact ⟨rfl, rfl⟩))
    (fun os started H enc _ => lifted os started H enc)
end matchReduces
end Go.Proofs.Ytfplmdieeabgpaa
