/- DependProves: for every input the law returns true. -/
import Derived.Test.YtnidalbfmicoiaaWalkSi
import Derived.Test.YtnidalbfmicoiaaWalkSe
import Derived.Test.YtnidalbfmicoiaaWalkSc
import Derived.Test.YtnidalbfmicoiaaFrame
import Derived.Test.YtnidalbfmicoiaaFacts
import Derived.Test.YtnidalbfmicoiaaRows
namespace Go.Proofs.Ytnidalbfmicoiaa
open Go.RowKit

theorem valid_take {n : Int} {l : List (Int × Int)} {s : List Int} : ValidP n (l.take 14) s ↔ ValidP n l s := by
  by_cases h : l.length ≤ 14
  · rw [List.take_of_length_le h]
  · constructor
    · intro hv
      have := hv.1.2.2
      simp at this
      omega
    · intro hv
      have := hv.1.2.2
      omega
/-- a proof of (s, t) in memory -/
def Proven (m : Nat) (l : List (Int × Int)) (s t : Int) (w : World) (u : Value) : Prop := ∃ p : List Stp, Steps w u p ∧ ProofOk m l p ∧ p.length ≤ 27 ∧ 1 ≤ p.length ∧ (stp p (p.length - 1)).2.2.2 = (s, t)
/-- what Prove answers -/
def PCase (n s t : Int) (l : List (Int × Int)) (r : Int) (P : World → Value → Prop) : Prop :=
  (¬ ValidP n l [] ∧ r = 2 ∧ P = fun _ u => u = .slice none 0 0) ∨
  ∃ (m : Nat) (l' : List DepN), n = m ∧ l = castD l' ∧ Okl m l' ∧
    ((¬ (InSet m s ∧ InSet m t) ∧ r = 2 ∧ P = fun _ u => u = .slice none 0 0) ∨
     ∃ a b : Nat, s = a ∧ t = b ∧ a < 2 ^ m ∧ b < 2 ^ m ∧
        ((¬ Sub b (cl l' a) ∧ r = 5 ∧ P = fun _ u => u = .slice none 0 0) ∨
         (Sub b (cl l' a) ∧ r = 0 ∧ P = Proven m (castD l') a b)))
theorem hold4 {w w' : World} {a0 a1 a2 a3 : Addr} {v0 v1 v2 v3 : Value} (c0 : w.cell? a0 = some v0) (c1 : w.cell? a1 = some v1) (c2 : w.cell? a2 = some v2) (c3 : w.cell? a3 = some v3) (hb : Below w.heap.size w w') :
    w'.cell? a0 = some v0 ∧ w'.cell? a1 = some v1 ∧ w'.cell? a2 = some v2 ∧ w'.cell? a3 = some v3 :=
  ⟨Below.keep hb c0, Below.keep hb c1, Below.keep hb c2, Below.keep hb c3⟩

set_option maxRecDepth 100000 in
set_option maxHeartbeats 2000000 in
theorem proves_gen (n s t : Int) (l : List (Int × Int)) (v : Value) (w : World) (hv : Deps w v l) (r : Int) (P : World → Value → Prop)
    (hR : ∀ v' w', Deps w' v' (l.take 14) → Calls Try.prog 34 #[.int .i64 n, v', .agg #[.int .i64 s, .int .i64 t]] w' fun e w'' => ∃ u, e = .returned (.tuple #[u, .int .i64 r]) ∧ P w'' u ∧ Below w'.heap.size w' w'')
    (hcase : PCase n s t l r P) :
    Calls Try.prog 4 #[.int .i64 n, v, .agg #[.int .i64 s, .int .i64 t]] w fun e w' => e = .returned (.bool true) ∧ Below w.heap.size w w' := by
  have Hv := Lib.hid hv
  have HR := Lib.hid hR
  have Hcase := Lib.hid hcase
  have hb0 := below_alloc w (.cells #[.int .i64 s, .int .i64 t] 24)
  have c0 := cell_new w #[.int .i64 s, .int .i64 t] 24 0
  have c1 := cell_new w #[.int .i64 s, .int .i64 t] 24 1
  have hz : (w.alloc (.cells #[.int .i64 s, .int .i64 t] 24)).heap.size = w.heap.size + 1 := by simp
  clear hv hR hcase
  go_enter Try.func4, Try.ntmps4
  go_wp2_with fail
  generalize w.alloc (.cells #[.int .i64 s, .int .i64 t] 24) = w0 at *
  have Hb0 := Lib.hid hb0
  have Hz := Lib.hid hz
  have C0 := Lib.hid c0
  have C1 := Lib.hid c1
  clear hb0 hz c0 c1
  go_region_held3 (fun w' => w'.cell? ⟨w.heap.size, 0, none⟩ = some (.int .i64 s) ∧ w'.cell? ⟨w.heap.size, 1, none⟩ = some (.int .i64 t) ∧ Below w0.heap.size w0 w')
    ((refine hold2 C0.out C1.out ?_; repeat (first | exact Below.refl _ _ | refine Below.drew ?_ | refine Below.tr ?_ (below_alloc _ _) | refine Below.tr ?_ (by assumption))))
    (first | (go_at_call 22; refine (deps_any l _ _ (by exact Deps.keep Hv.out Hb0.out.drew)).mono ?_; rintro e w1 ⟨v1, rfl, hd1, hb1⟩) | (go_at_call 24; refine (dep_any _ _ _).mono ?_; rintro e w2 ⟨rfl, hb2⟩) | (go_at_call 34; refine (HR.out _ _ (by exact Deps.keep hd1 hb2)).mono ?_; rintro e w3 ⟨u, rfl, hP, hb3⟩))
  have Hb3 := Lib.hid (show Below w0.heap.size w0 w3 from (Below.tr (Below.tr (Below.tr (Below.refl _ _).drew hb1) hb2) hb3))
  have HP := Lib.hid hP
  have c0 := Below.keep Hb3.out C0.out
  have c1 := Below.keep Hb3.out C1.out
  clear hd1 hb1 hb2 hb3 hP
  go_wp2_with fail
  refine (validR_any n l _ _ (by exact Deps.keep Hv.out (Below.tr Hb0.out Hb3.out))).mono ?_
  rintro e wb ⟨rfl, hbb⟩
  have Hbb := Lib.hid (Below.tr Hb3.out hbb)
  have Hb9b := Lib.hid hbb
  clear hbb
  replace c0 := Below.keep Hbb.out C0.out
  replace c1 := Below.keep Hbb.out C1.out
  rcases Hcase.out with ⟨hbad, rfl, rfl⟩ | ⟨m, l', rfl, rfl, hok, hcase⟩
  · have hu : u = .slice none 0 0 := HP.out
    subst hu
    rw [decide_eq_false hbad]
    clear HR Hcase HP hbad
    go_wp2_with fail
    refine (awake_any _).mono ?_
    rintro e wa ⟨rfl, hba⟩
    have Hba := Lib.hid (Below.tr Hbb.out hba)
    clear hba
    go_wp2_with fail
    go_ret
    exact ⟨rfl, Below.tr Hb0.out Hba.out⟩
  · have hval : ValidP m (castD l') [] := validP_nat hok.h1 hok.h8 hok.h12 hok.hl (t := []) (by simp)
    rw [decide_eq_true hval]
    have hm8 := hok.h8
    have Hok := Lib.hid hok
    clear HR Hcase hval hok
    go_wp2_with fail
    refine (pairR_any m _ _ hm8 _).mono ?_
    rintro e we ⟨rfl, hbe⟩
    have Hbe := Lib.hid (Below.tr Hbb.out hbe)
    have Hb9e := Lib.hid (Below.tr Hb9b.out hbe)
    clear hbe
    replace c0 := Below.keep Hbe.out C0.out
    replace c1 := Below.keep Hbe.out C1.out
    rcases hcase with ⟨hbad, rfl, rfl⟩ | ⟨a, b, rfl, rfl, ha, hb, hcase⟩
    · have hu : u = .slice none 0 0 := HP.out
      subst hu
      rw [decide_eq_false hbad]
      clear HP hbad
      go_wp2_with fail
      refine (awake_any _).mono ?_
      rintro e wa ⟨rfl, hba⟩
      have Hba := Lib.hid (Below.tr Hbe.out hba)
      clear hba
      go_wp2_with fail
      go_ret
      exact ⟨rfl, Below.tr Hb0.out Hba.out⟩
    · have hin : InSet m (a : Int) ∧ InSet m (b : Int) := ⟨(inSet_nat m a).2 ⟨by omega, by omega⟩, (inSet_nat m b).2 ⟨by omega, by omega⟩⟩
      rw [decide_eq_true hin]
      have hp := Hok.out.pow
      have Ha := Lib.hid (show a < 256 by omega)
      have Hbn := Lib.hid (show b < 256 by omega)
      clear hin hp ha hb
      go_wp2_with fail
      refine (followsR_any Hok.out.lt a b Ha.out Hbn.out _ _ (Deps.keep Hv.out (Below.tr Hb0.out Hbe.out))).mono ?_
      rintro e wf ⟨rfl, hbf⟩
      have Hbf := Lib.hid (Below.tr Hbe.out hbf)
      have Hb9f := Lib.hid (Below.tr Hb9e.out hbf)
      clear hbf
      replace c0 := Below.keep Hbf.out C0.out
      replace c1 := Below.keep Hbf.out C1.out
      rcases hcase with ⟨hno, rfl, rfl⟩ | ⟨hyes, rfl, rfl⟩
      · have hu : u = .slice none 0 0 := HP.out
        subst hu
        rw [decide_eq_false hno]
        clear HP hno
        go_wp2_with fail
        refine (awake_any _).mono ?_
        rintro e wa ⟨rfl, hba⟩
        have Hba := Lib.hid (Below.tr Hbf.out hba)
        clear hba
        go_wp2_with fail
        go_ret
        exact ⟨rfl, Below.tr Hb0.out Hba.out⟩
      · rw [decide_eq_true hyes]
        obtain ⟨p, hst, hpr, hl27, hl1, hlast⟩ := HP.out
        obtain ⟨q, hq⟩ : ∃ q, p.length = q + 1 := ⟨p.length - 1, by omega⟩
        rw [hq, Nat.add_sub_cancel] at hlast
        have Hst := Lib.hid (Steps.keep hst Hb9f.out)
        obtain ⟨pa, pb, poff, pc, hpv, hple, hpa, hpcap, hpc⟩ := Steps.get Hst.out
        subst hpv
        have hixp := run_ix (P := Try.prog) (t := 46) (a := pa) (len := p.length) (cap := pc) (b := pb) (off := poff) (s := 5) Try.underlying46 (by intro w; kernel_rfl) hpa q
        obtain ⟨-, -, -, hp4, hp5⟩ := hpc q (by omega)
        rw [stp_get (by omega)] at hp4 hp5
        rw [show (stp p q).2.2.2.1 = (a : Int) from congrArg (·.1) hlast] at hp4
        rw [show (stp p q).2.2.2.2 = (b : Int) from congrArg (·.2) hlast] at hp5
        rw [hq] at hixp
        have Hpr := Lib.hid (decide_eq_true hpr)
        have hq26 : q < 27 := by omega
        have Hst := Lib.hid (show Steps wf (.slice pa (q + 1) pc) p by rw [← hq]; exact Hst.out)
        rw [hq]
        have Hq := Lib.hid (show p.length ≤ 1000 by omega)
        have qa : ((a : Int) == (a : Int)) = true := by simp
        have qb : ((b : Int) == (b : Int)) = true := by simp
        have f1 : IntKind.i64.wrap ((q : Int) + 1 - 1) = (q : Int) := by rw [IntWalk.i64_in _ ⟨by omega, by omega⟩]; omega
        have f3 : IntKind.i64.wrap (q : Int) = (q : Int) := IntWalk.i64_in _ ⟨by omega, by omega⟩
        have hixq : ∀ w, q < q + 1 → (Instr.indexAt 46 (.slice pa (q + 1) pc) (.int .i64 q)).run Try.prog w = .ok (.pointer (some ⟨pb, poff + q * 5, none⟩)) w := hixp
        have D0 := Lib.hid c0
        have D1 := Lib.hid c1
        have D2 := Lib.hid hp4
        have D3 := Lib.hid hp5
        clear hst hpr hl27 hl1 hlast hq hple hpa hpcap hpc hyes HP c0 c1 hp4 hp5 hixp
        go_wp2_with fail
        go_region_held3 (fun w' => w'.cell? ⟨w.heap.size, 0, none⟩ = some (.int .i64 a) ∧ w'.cell? ⟨w.heap.size, 1, none⟩ = some (.int .i64 b) ∧ w'.cell? ⟨pb, poff + q * 5 + 3, none⟩ = some (.int .i64 a) ∧ w'.cell? ⟨pb, poff + q * 5 + 4, none⟩ = some (.int .i64 b))
          ((refine hold4 D0.out D1.out D2.out D3.out ?_; repeat (first | assumption | exact Below.refl _ _ | refine Below.drew ?_ | refine Below.tr ?_ (below_alloc _ _) | refine Below.tr ?_ (by assumption))))
          (first | (go_at_call 36; refine (ownSteps_any p Hq.out _ _ (by exact Steps.keep Hst.out (Below.refl _ _).drew)).mono ?_; rintro e wx ⟨vx, rfl, hsx, hbx⟩) | (go_at_call 35; refine (proofR_any m hm8 (castD l') p _ _ _ (by exact Deps.keep Hv.out (Below.tr (Below.tr (Below.tr Hb0.out Hbf.out) (Below.refl _ _).drew) hbx)) hsx).mono ?_; rw [Hpr.out]; rintro e wy ⟨rfl, hby⟩) | (go_at_call 24; refine (dep_any _ _ _).mono ?_; rintro e wz ⟨rfl, hbz⟩) | (go_at_call 26; refine (awake_any _).mono ?_; rintro e wu ⟨rfl, hbu⟩))
        have Hbu := Lib.hid (Below.tr (Below.tr (Below.tr (Below.tr (Below.tr Hbf.out (Below.refl _ _).drew) hbx) hby) hbz) hbu)
        clear hsx hbx hby hbz hbu
        go_wp2_with fail
        go_ret
        exact ⟨rfl, Below.tr Hb0.out Hbu.out⟩

theorem proves_any (n s t : Int) (l : List (Int × Int)) (v : Value) (w : World) (hv : Deps w v l) :
    Calls Try.prog 4 #[.int .i64 n, v, .agg #[.int .i64 s, .int .i64 t]] w fun e w' => e = .returned (.bool true) ∧ Below w.heap.size w w' := by
  by_cases h : ValidP n l []
  · obtain ⟨m, l', q, rfl, h1, h8, rfl, h12, hl, -, -⟩ := h.nat
    have hok : Okl m l' := ⟨h1, h8, h12, hl⟩
    have ht : (castD l').take 14 = castD l' := List.take_of_length_le (by simp [castD]; omega)
    by_cases hst : InSet m s ∧ InSet m t
    · obtain ⟨a, rfl, ha⟩ := hst.1.nat
      obtain ⟨b, rfl, hb⟩ := hst.2.nat
      by_cases hf : Sub b (cl l' a)
      · refine proves_gen m a b _ v w hv 0 (Proven m (castD l') a b) (fun v' w' hd => ?_) (.inr ⟨m, l', rfl, rfl, hok, .inr ⟨a, b, rfl, rfl, ha, hb, .inr ⟨hf, rfl, rfl⟩⟩⟩)
        rw [ht] at hd
        refine (prove_yes hok ha hb hf v' w' hd).mono ?_
        rintro e w2 ⟨u, p, he, h1, h2, h3, h4, h5, h6⟩
        exact ⟨u, he, ⟨p, h1, h2, h3, h4, h5⟩, h6⟩
      · refine proves_gen m a b _ v w hv 5 _ (fun v' w' hd => ?_) (.inr ⟨m, l', rfl, rfl, hok, .inr ⟨a, b, rfl, rfl, ha, hb, .inl ⟨hf, rfl, rfl⟩⟩⟩)
        rw [ht] at hd
        exact (prove_none hok ha hb hf v' w' hd).mono fun e w2 ⟨he, hb⟩ => ⟨_, he, rfl, hb⟩
    · refine proves_gen m s t _ v w hv 2 _ (fun v' w' hd => ?_) (.inr ⟨m, l', rfl, rfl, hok, .inl ⟨hst, rfl, rfl⟩⟩)
      rw [ht] at hd
      exact (prove_bad m s t _ v' w' hd (fun hq => hst ((hok.valid2 s t).1 hq))).mono fun e w2 ⟨he, hb⟩ => ⟨_, he, rfl, hb⟩
  · refine proves_gen n s t _ v w hv 2 _ (fun v' w' hd => ?_) (.inl ⟨h, rfl, rfl⟩)
    exact (prove_bad n s t _ v' w' hd (fun hq => h (valid_take.1 ⟨hq.1, hq.2.1, fun x hx => by simp at hx⟩))).mono fun e w2 ⟨he, hb⟩ => ⟨_, he, rfl, hb⟩

namespace dependProves
open Go.ChangeShapes Go.WideShapes Go.ChangeAt
set_option maxRecDepth 100000 in
theorem lifted (os : Os) (started : os.Started) (H : Type) (enc : TypeId × Value → H) :
    ReturnsInHanded {} Try.checked os 4 .any (Rows.dependProvesSpec.pre6 enc Try.prog Try.f4 Rows.dependProvesRow.domain false) (Rows.dependProvesSpec.post enc Try.prog Try.f4 false true false false) := by
  refine returnsInHanded_of_change (C := Try.checked) Try.own started (by kernel_rfl) Try.func4
    (ChangeSpec.witness6 (enc := enc) (C := Try.checked) false ⟨#[], #[.int .i64 0, .slice none 0 0, .agg #[.int .i64 0, .int .i64 0]], []⟩ 8 (by kernel_rfl) (by kernel_rfl) (by kernel_rfl) (by kernel_rfl)) ?_
  intro W base args ds gs before hval0 hW _ _
  have hval : ∀ (j : Nat) t v, Try.f4.params[j]? = some t → args[j]? = some v → Value.okWide Try.prog W .any base t v := hval0
  clear hval0
  obtain rfl : gs = [] := by obtain ⟨p, q, _, hV, _⟩ := hW; exact (trodVars_none hV).1
  have hW' := hW
  obtain ⟨p, q, hA0, hV, rfl, hfz, hnd⟩ := hW
  have hA : DataW.TrodAll enc Try.prog W 0 (fun _ => true) true Try.f4.params.toList args.toList ds p := hA0
  rw [Try.params4] at hA hval
  obtain ⟨v0, vs0, d0, ds0, p0, q0, hv0, hd0, hp0, h0, r0⟩ := trodAll_cons hA
  obtain ⟨v1, vs1, d1, ds1, p1, q1, hv1, hd1, hp1, h1, r1⟩ := trodAll_cons r0
  obtain ⟨v2, vs2, d2, ds2, p2, q2, hv2, hd2, hp2, h2, r2⟩ := trodAll_cons r1
  obtain ⟨hvn, hdn, hpn⟩ := trodAll_nil r2
  have ha : args = #[v0, v1, v2] := by cases args; simp_all
  have hdd : ds = [d0, d1, d2] := by simp_all
  rw [ha] at hval
  obtain ⟨a0, e0, -, -, w0⟩ := open_int Try.underlying3 (hval 0 3 v0 rfl rfl) h0
  obtain ⟨a1, k1⟩ := deps_of_trod Try.underlying22 Try.underlying24 ⟨rfl, rfl⟩ ⟨rfl, rfl⟩ Try.underlying3 Try.cells3 Try.cells24 (okWide_slice Try.underlying22 (hval 1 22 v1 rfl rfl)) h1
  obtain ⟨a2, e2⟩ := pair_arg Try.underlying24 ⟨rfl, rfl⟩ ⟨rfl, rfl⟩ Try.underlying3 Try.cells3 Try.cells24 (hval 2 24 v2 rfl rfl) h2
  have hw : Calls Try.prog 4 args W (fun e W' => e = .returned (.bool true) ∧ Below W.heap.size W W') := by
    rw [ha, e0, e2]; exact proves_any a0 a2.1 a2.2 a1 v1 W k1
  exact hw.mono fun e W' ⟨he, hb⟩ => ⟨_, he, law_post Try.laidOut hW' rfl rfl Try.underlying4 (by rw [hdd]; rfl)
    (by kernel_rfl) hb⟩

theorem holds : Rows.DependProvesSaid :=
  OpenClaim.holds_of_wide 4 Try.f4 rfl rfl rfl rfl rfl rfl rfl ⟨rfl, rfl, rfl, rfl, rfl⟩ rfl rfl rfl rfl rfl (by kernel_rfl) Try.func4 (by kernel_rfl)
    (of_decide_eq_true (by kernel_rfl)) (by unfold Func.isWrapper; first | (rw [if_pos (by decide +kernel)]; kernel_rfl) | (rw [if_neg (by decide +kernel)]; exact ⟨rfl, rfl⟩))
    (fun os started H enc _ => lifted os started H enc)
#print axioms holds
end dependProves
end Go.Proofs.Ytnidalbfmicoiaa
