/- ChordalQueries: for every input the law returns true. -/
import Derived.Test.YtkjpbjbheocciaaOf
import Derived.Test.YtkjpbjbheocciaaTr
import Derived.Test.YtkjpbjbheocciaaEqg
import Derived.Test.YtkjpbjbheocciaaGf
import Derived.Test.YtkjpbjbheocciaaFrame
import Derived.Test.YtkjpbjbheocciaaRows
namespace Go.Proofs.Ytkjpbjbheocciaa
open Go.RowKit
theorem ofQ_eq {q : HQ} (h1 : q.1.length ≤ 9) (h2 : q.2.length ≤ 7) (h3 : ∀ i, i < q.2.length → (aA q.2 i).length ≤ 9) : ofQ q = q := by
  obtain ⟨hd, bd⟩ := q
  simp only at *
  unfold ofQ
  simp only
  rw [List.take_of_length_le h1, List.take_of_length_le h2]
  refine congrArg (Prod.mk hd) (List.ext_getElem (by simp) fun i a b => ?_)
  rw [List.getElem_map, at_get b]
  unfold ofA
  rw [List.take_of_length_le (h3 i b)]
theorem ofQ_of {q : HQ} (h : QrV q) : ofQ q = q :=
  ofQ_eq (by have := h.1.2.2; omega) (by have := h.1.2.1; omega) fun i hi => by have := (h.2.1 i hi).2.1.2; omega
theorem ofQ_valid {q : HQ} (h : QrV (ofQ q)) : ofQ q = q := by
  obtain ⟨hd, bd⟩ := q
  have l1 := h.1.2.2
  have l2 := h.1.2.1
  have l3 := h.2.1
  simp only [ofQ, List.length_take, List.length_map] at l1 l2 l3
  have h7 : bd.length ≤ 7 := by omega
  refine ofQ_eq (show hd.length ≤ 9 by omega) h7 fun i hi => ?_
  have hi' : i < bd.length := hi
  have := (l3 i (by omega)).2.1.2
  rw [List.take_of_length_le h7, show aA (bd.map ofA) i = (aA bd i).take 9 by simp [aA, hi', ofA], List.length_take] at this
  show (aA bd i).length ≤ 9
  omega
theorem fqr_same {q : HQ} {base base' : Nat} {w w' : World} {x y : Value} {c c' : Int} (h : FqR (ofQ q) base w x c) (h' : FqR q base' w' y c') : c = c' ∧ ∃ l : List Int, Ints w x l ∧ Ints w' y l := by
  have key : (QrV (ofQ q) ∧ vsQ (ofQ q).2 ≠ 0) ↔ (QrV q ∧ vsQ q.2 ≠ 0) := by
    constructor
    · intro hh; have := ofQ_valid hh.1; rw [this] at hh; exact hh
    · intro hh; rw [ofQ_of hh.1]; exact hh
  rcases h with ⟨rfl, rfl, h1⟩ | ⟨rfl, h1, G, h2, h3⟩
  · rcases h' with ⟨rfl, rfl, _⟩ | ⟨rfl, h1', _⟩
    · exact ⟨rfl, [], ints_nil _, ints_nil _⟩
    · exact absurd (key.2 h1') h1
  · rcases h' with ⟨rfl, rfl, h1'⟩ | ⟨rfl, _, G', h2', h3'⟩
    · exact absurd (key.1 h1) h1'
    · rw [ofQ_valid h1.1] at h3
      have e : G = G' := h3.same h3' fun r m => Iff.rfl
      subst e
      exact ⟨rfl, castN G, h2.ints, h2'.ints⟩
set_option maxRecDepth 100000 in
set_option maxHeartbeats 8000000 in
theorem queries_any (q : HQ) (v : Value) (w : World) (hq : Qr w v q) :
    Calls Try.prog 9 #[v] w fun e w' => e = .returned (.bool true) ∧ Below w.heap.size w w' := by
  obtain ⟨h0, b0, rfl, hh, hb⟩ := hq
  obtain ⟨xa, xc, rfl⟩ := ints_slice hh
  obtain ⟨ba, bc, rfl⟩ := atoms_slice hb
  obtain ⟨w1, hw1⟩ : ∃ w1, w1 = w.alloc (.cells #[.slice xa q.1.length xc, .slice ba q.2.length bc] 59) := ⟨_, rfl⟩
  have hb1 : Below w.heap.size w w1 := by rw [hw1]; exact below_alloc _ _
  have Hq := Lib.hid (show Qr w (.agg #[.slice xa q.1.length xc, .slice ba q.2.length bc]) q from ⟨_, _, rfl, hh, hb⟩)
  have g0 : w1.cell? ⟨w.heap.size, 0, none⟩ = some (.slice xa q.1.length xc) := by rw [hw1]; exact cell_new w _ _ 0
  have g1 : w1.cell? ⟨w.heap.size, 1, none⟩ = some (.slice ba q.2.length bc) := by rw [hw1]; exact cell_new w _ _ 1
  have HG := Lib.hid (And.intro g0 g1)
  have Hb1 := Lib.hid hb1
  have Hw1 := Lib.hid hw1
  obtain ⟨ob, hob⟩ : ∃ ob, ob = w.heap.size := ⟨_, rfl⟩
  rw [← hob] at g0 g1 HG
  have Hob := Lib.hid hob
  clear hh hb hb1 hw1 hob
  go_enter Try.func9, Try.ntmps9
  go_upto_region 1 with fail
  rw [← Hw1.out, ← Hob.out]
  clear Hw1
  go_wp2_with fail
  refine (ofQ_any q _ w1 (Hq.out.keep Hb1.out)).mono ?_
  rintro e w2 ⟨v2, rfl, ho, hb2⟩
  have Ho := Lib.hid ho.qr
  have HG2 := Lib.hid (And.intro (Below.keep hb2 HG.out.1) (Below.keep hb2 HG.out.2))
  have Hb2 := Lib.hid (Below.tr Hb1.out hb2)
  clear ho hb2 g0 g1
  go_wp2_with fail
  refine (fromQ_any (ofQ q) v2 w2 Ho.out).mono ?_
  rintro e w3 ⟨x, c, rfl, hr, hb3⟩
  have hxs : ∃ a n k, x = .slice a n k := by
    rcases hr with ⟨_, h, _⟩ | ⟨_, _, G, h, _⟩
    · exact ⟨_, _, _, h⟩
    · exact own_slice h
  obtain ⟨ya, yn, yc, rfl⟩ := hxs
  have Hr := Lib.hid hr
  have Hb3 := Lib.hid (Below.tr Hb2.out hb3)
  have g0 := Below.keep hb3 HG2.out.1
  have g1 := Below.keep hb3 HG2.out.2
  clear hr hb3
  go_wp2_with fail
  refine (fromQR_any q _ w3 (Hq.out.keep Hb3.out)).mono ?_
  rintro e w4 ⟨y, c', rfl, hr', hb4⟩
  have hxs : ∃ a n k, y = .slice a n k := by
    rcases hr' with ⟨_, h, _⟩ | ⟨_, _, G, h, _⟩
    · exact ⟨_, _, _, h⟩
    · exact own_slice h
  obtain ⟨za, zn, zc, rfl⟩ := hxs
  obtain ⟨rfl, l, i1, i2⟩ := fqr_same Hr.out hr'
  have HE := Lib.hid (equalG_any l l _ _ w4 (i1.keep hb4) i2)
  rw [decide_eq_true rfl] at HE
  have Hb4 := Lib.hid (Below.tr Hb3.out hb4)
  have q1 : (c == c) = true := by simp
  clear hr' hb4 i1 i2 g0 g1
  go_wp2_with fail
  refine HE.out.mono ?_
  rintro e w5 ⟨rfl, hb5⟩
  have Hb5 := Lib.hid (Below.tr Hb4.out hb5)
  clear hb5
  go_wp2_with fail
  refine (awake_any _).mono ?_
  rintro e w6 ⟨rfl, hb6⟩
  have Hb6 := Lib.hid (Below.tr Hb5.out hb6)
  clear hb6
  go_wp2_with fail
  go_ret
  exact ⟨rfl, Hb6.out⟩

namespace chordalQueries
open Go.ChangeShapes Go.WideShapes Go.ChangeAt
set_option maxRecDepth 100000 in
theorem lifted (os : Os) (started : os.Started) (H : Type) (enc : TypeId × Value → H) :
    ReturnsInHanded {} Try.checked os 9 .any (Rows.chordalQueriesSpec.pre6 enc Try.prog Try.f9 Rows.chordalQueriesRow.domain false) (Rows.chordalQueriesSpec.post enc Try.prog Try.f9 false true false false) := by
  refine returnsInHanded_of_change (C := Try.checked) Try.own started (by kernel_rfl) Try.func9
    (ChangeSpec.witness6 (enc := enc) (C := Try.checked) false ⟨#[], #[.agg #[.slice none 0 0, .slice none 0 0]], []⟩ 8 (by kernel_rfl) (by kernel_rfl) (by kernel_rfl) (by kernel_rfl)) ?_
  intro W base args ds gs before hval0 hW _ _
  have hval : ∀ (j : Nat) t v, Try.f9.params[j]? = some t → args[j]? = some v → Value.okWide Try.prog W .any base t v := hval0
  clear hval0
  obtain rfl : gs = [] := by obtain ⟨p, q, _, hV, _⟩ := hW; exact (trodVars_none hV).1
  have hW' := hW
  obtain ⟨p, q, hA0, hV, rfl, hfz, hnd⟩ := hW
  have hA : DataW.TrodAll enc Try.prog W 0 (fun _ => true) true Try.f9.params.toList args.toList ds p := hA0
  rw [Try.params9] at hA hval
  obtain ⟨v0, vs0, d0, ds0, p0, q0, hv0, hd0, hp0, h0, r0⟩ := trodAll_cons hA
  obtain ⟨hvn, hdn, hpn⟩ := trodAll_nil r0
  have ha : args = #[v0] := by cases args; simp_all
  have hdd : ds = [d0] := by simp_all
  rw [ha] at hval
  obtain ⟨a0, k0⟩ := qry_arg Try.underlying59 ⟨rfl, rfl⟩ ⟨rfl, rfl⟩ Try.underlying57 Try.underlying75 ⟨rfl, rfl⟩ ⟨rfl, rfl⟩ Try.underlying3 Try.underlying22 Try.cells3 (by kernel_rfl) (by kernel_rfl) (by kernel_rfl) (by kernel_rfl) (hval 0 59 v0 rfl rfl) h0
  have hw : Calls Try.prog 9 args W (fun e W' => e = .returned (.bool true) ∧ Below W.heap.size W W') := by
    rw [ha]; exact queries_any a0 v0 W k0
  exact hw.mono fun e W' ⟨he, hb⟩ => ⟨_, he, law_post Try.laidOut hW' rfl rfl Try.underlying4 (by rw [hdd]; rfl)
    (by kernel_rfl) hb⟩

theorem holds : Rows.ChordalQueriesSaid :=
  OpenClaim.holds_of_wide 9 Try.f9 rfl rfl rfl rfl rfl rfl rfl ⟨rfl, rfl, rfl, rfl, rfl⟩ rfl rfl rfl rfl rfl (by kernel_rfl) Try.func9 (by kernel_rfl)
    (of_decide_eq_true (by kernel_rfl)) (by unfold Func.isWrapper; first | (rw [if_pos (by decide +kernel)]; kernel_rfl) | (rw [if_neg (by decide +kernel)]; exact ⟨rfl, rfl⟩))
    (fun os started H enc _ => lifted os started H enc)
#print axioms holds
end chordalQueries
end Go.Proofs.Ytkjpbjbheocciaa
