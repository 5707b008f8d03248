/- MatchCores: for every input the law returns true. -/
import Derived.Test.YtfplmdieeabgpaaCob
import Derived.Test.YtfplmdieeabgpaaPrd
import Derived.Test.YtfplmdieeabgpaaEqq
import Derived.Test.YtfplmdieeabgpaaFrame
import Derived.Test.YtfplmdieeabgpaaRows
namespace Go.Proofs.Ytfplmdieeabgpaa
open Go.RowKit
structure Bq (w wr : World) (bp : Nat) (x0 x1 : Value) : Prop where
  b : Below w.heap.size w wr
  p : Bx wr bp x0 x1
theorem Bq.keep {w wr w' : World} {bp : Nat} {x0 x1 : Value} (h : Bq w wr bp x0 x1) (hb : Below wr.heap.size wr w') : Bq w w' bp x0 x1 := ⟨Below.tr h.b hb, h.p.keep hb⟩
theorem Bq.cells {w wr : World} {bp : Nat} {x0 x1 : Value} (h : Bq w wr bp x0 x1) : (wr.cell? ⟨bp, 0, none⟩ = some x0 ∧ wr.cell? ⟨bp, 1, none⟩ = some x1) ∧ True ∧ True := ⟨⟨aCell h.p 0 rfl, aCell h.p 1 rfl⟩, trivial, trivial⟩
theorem same_core {q : HQ} {b : Nat} {w w' : World} {u u' : Value} {c c' : Int} (h : CoreC (ofQ q) b w u c) (hb : Below w.heap.size w w') (k : CoreRC q w' u' c') : c = c' ∧ ∃ L, Ints w' u L ∧ Ints w' u' L := by
  have hn : Ints w' (.slice none 0 0) [] := (ownInts_nil 0 w').ints
  by_cases hv : QrV q
  · have e := ofQ_of hv
    rw [e] at h
    rcases h with ⟨h1, _⟩ | ⟨_, rfl, L, h2, h3⟩
    · exact absurd hv h1
    · rcases k with ⟨k1, _⟩ | ⟨_, rfl, M, k2, k3⟩
      · exact absurd hv k1
      · obtain rfl := coreL_same h2 k2
        exact ⟨rfl, _, (h3.ints).keep hb, k3⟩
  · have hv2 : ¬ QrV (ofQ q) := fun h => hv (by rw [ofQ_valid h] at h; exact h)
    rcases h with ⟨_, rfl, rfl⟩ | ⟨h1, _⟩
    · rcases k with ⟨_, rfl, rfl⟩ | ⟨k1, _⟩
      · exact ⟨rfl, [], hn, hn⟩
      · exact absurd k1 hv
    · exact absurd h1 hv2
theorem drawK {w w' : World} {e : Ending} {B : Bool} (h : e = .returned (.bool B) ∧ ∃ n, w' = w.drewN n) : e = .returned (.bool B) ∧ Below w.heap.size w w' := ⟨h.1, by obtain ⟨n, h⟩ := h.2; rw [h]; exact ⟨rfl, rfl, rfl, Nat.le_refl _, fun _ _ => rfl⟩⟩
set_option maxRecDepth 100000 in
set_option maxHeartbeats 16000000 in
theorem cores_any (q : HQ) (v : Value) (w : World) (hq : Qr w v q) :
    Calls Try.prog 6 #[v] w fun e w' => e = .returned (.bool true) ∧ Below w.heap.size w w' := by
  obtain ⟨h0, b0, rfl, hh, hb⟩ := hq
  have Hq := Lib.hid (show Qr w (.agg #[h0, b0]) q from ⟨_, _, rfl, hh, hb⟩)
  obtain ⟨ha, hc, rfl⟩ := ints_slice hh
  obtain ⟨ba, bc, rfl⟩ := atoms_slice hb
  obtain ⟨n0, hn0⟩ : ∃ x, x = q.1.length := ⟨_, rfl⟩
  obtain ⟨n1, hn1⟩ : ∃ x, x = q.2.length := ⟨_, rfl⟩
  rw [← hn0, ← hn1] at Hq
  rw [← hn0, ← hn1]
  obtain ⟨w1, hw1⟩ : ∃ x, x = w.alloc (.cells #[.slice ha n0 hc, .slice ba n1 bc] 25) := ⟨_, rfl⟩
  obtain ⟨bp, hbp⟩ : ∃ x, x = w.heap.size := ⟨_, rfl⟩
  have HB := Lib.hid (show Bq w w1 bp (.slice ha n0 hc) (.slice ba n1 bc) from ⟨by rw [hw1]; exact below_alloc _ _, by rw [hw1, hbp]; exact heap_alloc_new _ _⟩)
  have Hw1 := Lib.hid hw1
  have Hbpe := Lib.hid hbp
  clear hh hb hw1 hbp hn0 hn1
  go_enter Try.func6, Try.ntmps6
  go_upto_region 1 with fail
  rw [← Hw1.out, ← Hbpe.out]
  clear Hw1 Hbpe
  obtain ⟨⟨g0, g1⟩, g2, g3⟩ := HB.out.cells
  go_wp2_with fail
  refine (ofC_any _ _ (Hq.out.keep HB.out.b)).mono ?_
  rintro e w2 ⟨a1, e1, k1, a2, e2, k2, rfl, ho, hb⟩
  have HB := Lib.hid (HB.out.keep hb)
  have HQ := Lib.hid ho.qr
  clear hb ho g0 g1 g2 g3
  go_wp2_with fail
  refine (core_any _ _ HQ.out).mono ?_
  rintro e w3 ⟨ca, cn, ck, c1, rfl, hC, hb⟩
  have HB := Lib.hid (HB.out.keep hb)
  have HQ := Lib.hid (HQ.out.keep hb)
  have HC := Lib.hid hC
  clear hb hC HQ
  obtain ⟨⟨g0, g1⟩, g2, g3⟩ := HB.out.cells
  go_wp2_with fail
  refine (coreR_any _ _ (Hq.out.keep HB.out.b)).mono ?_
  rintro e w4 ⟨da, dn, dk, c2, rfl, hD, hb⟩
  have HB := Lib.hid (HB.out.keep hb)
  obtain ⟨rfl, L, hL, hM⟩ := same_core HC.out hb hD
  have HL := Lib.hid hL
  have HM := Lib.hid hM
  clear hb hD HC hL hM g0 g1 g2 g3
  go_wp2_with fail
  refine (equal_any _ _ _ _ _ HL.out HM.out).mono ?_
  rintro e w5 hh
  obtain ⟨rfl, hb⟩ : e = .returned (.bool true) ∧ Below w4.heap.size w4 w5 := by
    obtain ⟨h1, h2⟩ := drawK hh
    exact ⟨by rw [h1]; simp, h2⟩
  have HB := Lib.hid (HB.out.keep hb)
  clear hb hh HL HM
  go_wp2_with fail
  refine (awake_any _).mono ?_
  rintro e w6 ⟨rfl, hb⟩
  have HB := Lib.hid (HB.out.keep hb)
  clear hb 
  go_wp2_with fail
  go_ret
  exact ⟨rfl, HB.out.b⟩
#print axioms cores_any
namespace matchCores
open Go.ChangeShapes Go.WideShapes Go.ChangeAt
set_option maxRecDepth 100000 in
theorem lifted (os : Os) (started : os.Started) (H : Type) (enc : TypeId × Value → H) :
    ReturnsInHanded {} Try.checked os 6 .any (Rows.matchCoresSpec.pre6 enc Try.prog Try.f6 Rows.matchCoresRow.domain false) (Rows.matchCoresSpec.post enc Try.prog Try.f6 false true false false) := by
  refine returnsInHanded_of_change (C := Try.checked) Try.own started (by kernel_rfl) Try.func6
    (ChangeSpec.witness6 (enc := enc) (C := Try.checked) false ⟨#[], #[.agg #[.slice none 0 0, .slice none 0 0]], []⟩ 8 (by kernel_rfl) (by kernel_rfl) (by kernel_rfl) (by kernel_rfl)) ?_
  intro W base args ds gs before hval0 hW _ _
  have hval : ∀ (j : Nat) t v, Try.f6.params[j]? = some t → args[j]? = some v → Value.okWide Try.prog W .any base t v := hval0
  clear hval0
  obtain rfl : gs = [] := by obtain ⟨p, q, _, hV, _⟩ := hW; exact (trodVars_none hV).1
  have hW' := hW
  obtain ⟨p, q, hA0, hV, rfl, hfz, hnd⟩ := hW
  have hA : DataW.TrodAll enc Try.prog W 0 (fun _ => true) true Try.f6.params.toList args.toList ds p := hA0
  rw [Try.params6] at hA hval
  obtain ⟨v0, vs0, d0, ds0, p0, q0, hv0, hd0, hp0, h0, r0⟩ := trodAll_cons hA
  obtain ⟨hvn, hdn, hpn⟩ := trodAll_nil r0
  have ha : args = #[v0] := by cases args; simp_all
  have hdd : ds = [d0] := by simp_all
  rw [ha] at hval
  obtain ⟨a0, k0⟩ := qry_arg Try.underlying25 ⟨rfl, rfl⟩ ⟨rfl, rfl⟩ Try.underlying23 Try.underlying80 ⟨rfl, rfl⟩ ⟨rfl, rfl⟩ Try.underlying3 Try.underlying22 cellsI (by kernel_rfl) (by kernel_rfl) (by kernel_rfl) (by kernel_rfl) (hval 0 25 v0 rfl rfl) h0
  have hw : Calls Try.prog 6 args W (fun e W' => e = .returned (.bool true) ∧ Below W.heap.size W W') := by
    rw [ha]; exact cores_any a0 v0 W k0
  exact hw.mono fun e W' ⟨he, hb⟩ => ⟨_, he, law_post Try.laidOut hW' rfl rfl Try.underlying4 (by rw [hdd]; rfl)
    (by kernel_rfl) hb⟩

theorem holds : Rows.MatchCoresSaid :=
  OpenClaim.holds_of_wide 6 Try.f6 rfl rfl rfl rfl rfl rfl rfl ⟨rfl, rfl, rfl, rfl, rfl⟩ rfl rfl rfl rfl rfl (by kernel_rfl) Try.func6 (by kernel_rfl)
    (of_decide_eq_true (by kernel_rfl)) (by unfold Func.isWrapper; first | (rw [if_pos (by decide +kernel)]; kernel_rfl) | (rw [if_neg (by decide +kernel)]; exact ⟨rfl, rfl⟩))
    (fun os started H enc _ => lifted os started H enc)
end matchCores
end Go.Proofs.Ytfplmdieeabgpaa
