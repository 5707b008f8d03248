/- DependSound: for every input the law returns true. -/
import Derived.Test.YtnidalbfmicoiaaSoundB
import Derived.Test.YtnidalbfmicoiaaSoundC
namespace Go.Proofs.Ytnidalbfmicoiaa
open Go.RowKit
theorem sound_any (n : Int) (l : List (Int × Int)) (p : List Stp) (R : List (List Int)) (v u x : Value) (w : World) (hv : Deps w v l) (hu : Steps w u p) (hx : Rows w x R) :
    Calls Try.prog 11 #[.int .i64 n, v, u, x] w fun e w' => e = .returned (.bool true) ∧ Below w.heap.size w w' := by
  by_cases h : ValidP n l []
  · obtain ⟨m, l', q, rfl, h1, h8, rfl, h12, hl, -, -⟩ := h.nat
    have hok : Okl m l' := ⟨h1, h8, h12, hl⟩
    by_cases hp : p = []
    · subst hp; exact sound_nil h v u x w hv hu
    · have hlen : 0 < p.length := List.length_pos_iff.2 hp
      obtain ⟨Q, hQ⟩ : ∃ Q, (p.take 102).length = Q + 1 := ⟨(p.take 102).length - 1, by simp; omega⟩
      obtain ⟨s, t, hst⟩ : ∃ s t, (stp (p.take 102) Q).2.2.2 = (s, t) := ⟨_, _, rfl⟩
      by_cases hS : InSet m s ∧ InSet m t
      · obtain ⟨a, rfl, ha⟩ := hS.1.nat
        obtain ⟨b, rfl, hb⟩ := hS.2.nat
        by_cases hf : Sub b (cl l' a)
        · by_cases ho : ProofOk m (castD l') (p.take 102)
          · exact sound_yes_true hok p _ rfl Q hQ a b hst ha hb hf (decide_eq_true ho) R v u x w hv hu hx
          · exact sound_yes_false hok p _ rfl Q hQ a b hst ha hb hf (decide_eq_false ho) R v u x w hv hu hx
        · refine sound_not hok p _ rfl Q hQ a b hst ha hb hf (decide_eq_false fun ho => hf ?_) R v u x w hv hu hx
          obtain ⟨a', b', e, _, _, hs⟩ := proof_sound hok ho (Q + 1) Q (by omega) (by omega)
          rw [hst] at e
          have e1 : (a : Int) = (a' : Int) := congrArg (·.1) e
          have e2 : (b : Int) = (b' : Int) := congrArg (·.2) e
          obtain rfl : a = a' := by omega
          obtain rfl : b = b' := by omega
          exact hs
      · refine sound_out hok p _ rfl Q hQ s t hst hS (decide_eq_false fun ho => hS ?_) R v u x w hv hu hx
        have := (ho.1 Q (by omega)).1
        unfold PairOk at this
        rwa [show (stp (p.take 102) Q).2.2.2.1 = s from congrArg (·.1) hst, show (stp (p.take 102) Q).2.2.2.2 = t from congrArg (·.2) hst] at this
  · exact sound_bad n l p v u x w hv hu h

namespace dependSound
open Go.ChangeShapes Go.WideShapes Go.ChangeAt
set_option maxRecDepth 100000 in
theorem lifted (os : Os) (started : os.Started) (H : Type) (enc : TypeId × Value → H) :
    ReturnsInHanded {} Try.checked os 11 .any (Rows.dependSoundSpec.pre6 enc Try.prog Try.f11 Rows.dependSoundRow.domain false) (Rows.dependSoundSpec.post enc Try.prog Try.f11 false true false false) := by
  refine returnsInHanded_of_change (C := Try.checked) Try.own started (by kernel_rfl) Try.func11
    (ChangeSpec.witness6 (enc := enc) (C := Try.checked) false ⟨#[], #[.int .i64 0, .slice none 0 0, .slice none 0 0, .slice none 0 0], []⟩ 8 (by kernel_rfl) (by kernel_rfl) (by kernel_rfl) (by kernel_rfl)) ?_
  intro W base args ds gs before hval0 hW _ _
  have hval : ∀ (j : Nat) t v, Try.f11.params[j]? = some t → args[j]? = some v → Value.okWide Try.prog W .any base t v := hval0
  clear hval0
  obtain rfl : gs = [] := by obtain ⟨p, q, _, hV, _⟩ := hW; exact (trodVars_none hV).1
  have hW' := hW
  obtain ⟨p, q, hA0, hV, rfl, hfz, hnd⟩ := hW
  have hA : DataW.TrodAll enc Try.prog W 0 (fun _ => true) true Try.f11.params.toList args.toList ds p := hA0
  rw [Try.params11] at hA hval
  obtain ⟨v0, vs0, d0, ds0, p0, q0, hv0, hd0, hp0, h0, r0⟩ := trodAll_cons hA
  obtain ⟨v1, vs1, d1, ds1, p1, q1, hv1, hd1, hp1, h1, r1⟩ := trodAll_cons r0
  obtain ⟨v2, vs2, d2, ds2, p2, q2, hv2, hd2, hp2, h2, r2⟩ := trodAll_cons r1
  obtain ⟨v3, vs3, d3, ds3, p3, q3, hv3, hd3, hp3, h3, r3⟩ := trodAll_cons r2
  obtain ⟨hvn, hdn, hpn⟩ := trodAll_nil r3
  have ha : args = #[v0, v1, v2, v3] := by cases args; simp_all
  have hdd : ds = [d0, d1, d2, d3] := by simp_all
  rw [ha] at hval
  obtain ⟨a0, e0, -, -, w0⟩ := open_int Try.underlying3 (hval 0 3 v0 rfl rfl) h0
  obtain ⟨a1, k1⟩ := deps_of_trod Try.underlying22 Try.underlying24 ⟨rfl, rfl⟩ ⟨rfl, rfl⟩ Try.underlying3 Try.cells3 Try.cells24 (okWide_slice Try.underlying22 (hval 1 22 v1 rfl rfl)) h1
  obtain ⟨a2, k2⟩ := steps_of_trod_try (okWide_slice Try.underlying50 (hval 2 50 v2 rfl rfl)) h2
  obtain ⟨a3, k3⟩ := rows_of_trod Try.underlying34 Try.underlying56 Try.underlying3 Try.cells3 Try.cells56 (okWide_slice Try.underlying34 (hval 3 34 v3 rfl rfl)) h3
  have hw : Calls Try.prog 11 args W (fun e W' => e = .returned (.bool true) ∧ Below W.heap.size W W') := by
    rw [ha, e0]; exact sound_any a0 a1 a2 a3 v1 v2 v3 W k1 k2 k3
  exact hw.mono fun e W' ⟨he, hb⟩ => ⟨_, he, law_post Try.laidOut hW' rfl rfl Try.underlying4 (by rw [hdd]; rfl)
    (by kernel_rfl) hb⟩

theorem holds : Rows.DependSoundSaid :=
  OpenClaim.holds_of_wide 11 Try.f11 rfl rfl rfl rfl rfl rfl rfl ⟨rfl, rfl, rfl, rfl, rfl⟩ rfl rfl rfl rfl rfl (by kernel_rfl) Try.func11 (by kernel_rfl)
    (of_decide_eq_true (by kernel_rfl)) (by unfold Func.isWrapper; first | (rw [if_pos (by decide +kernel)]; kernel_rfl) | (rw [if_neg (by decide +kernel)]; exact ⟨rfl, rfl⟩))
    (fun os started H enc _ => lifted os started H enc)
#print axioms holds
end dependSound
end Go.Proofs.Ytnidalbfmicoiaa
