/- Contract of Check. -/
import Derived.Test.YtnidalbfmicoiaaWalkSf
import Derived.Test.YtnidalbfmicoiaaWalkSb
import Derived.Deep.RegionLaw
namespace Go.Proofs.Ytnidalbfmicoiaa
open Go.RowKit

theorem stp_take {p : List Stp} {k i : Nat} (hi : i < k) : stp (p.take k) i = stp p i := by
  simp [stp, hi]
theorem step_take {n : Int} {l : List (Int × Int)} {p : List Stp} {k : Nat} (hk : k ≤ p.length) (s : Stp) : StepOk n l (p.take k) (p.take k).length s ↔ StepOk n l p k s := by
  have e : (p.take k).length = k := by simp; omega
  rw [e]
  have h2 : Ok2 n (p.take k) k s.2.1 s.2.2.1 s.2.2.2.1 s.2.2.2.2 ↔ Ok2 n p k s.2.1 s.2.2.1 s.2.2.2.1 s.2.2.2.2 := by
    unfold Ok2
    constructor
    · rintro ⟨a, b, c⟩; rw [stp_take (by omega)] at c; exact ⟨a, b, c⟩
    · rintro ⟨a, b, c⟩; rw [← stp_take (k := k) (by omega)] at c; exact ⟨a, b, c⟩
  have h3 : Ok3 (p.take k) k s.2.1 s.2.2.1 s.2.2.2.1 s.2.2.2.2 ↔ Ok3 p k s.2.1 s.2.2.1 s.2.2.2.1 s.2.2.2.2 := by
    unfold Ok3
    constructor
    · rintro ⟨a, b, c, d, e⟩; rw [stp_take (by omega), stp_take (by omega)] at e; exact ⟨a, b, c, d, e⟩
    · rintro ⟨a, b, c, d, e⟩; rw [← stp_take (k := k) (by omega), ← stp_take (k := k) (i := s.2.2.1.toNat) (by omega)] at e; exact ⟨a, b, c, d, e⟩
  unfold StepOk
  rw [h2, h3]
theorem stepHolds_b (m : Nat) (l : List (Int × Int)) (hV : ValidP m l []) (p : List Stp) (k : Nat) (hk : k ≤ p.length) (b : Bool) (r i j f t : Int) (hb : decide (StepOk m l p k (r, i, j, f, t)) = b) (v u : Value) (w : World) (hv : Deps w v l) (hu : Steps w u (p.take k)) :
    Calls Try.prog 78 #[.int .i64 m, v, u, .agg #[.int .i64 r, .int .i64 i, .int .i64 j, .int .i64 f, .int .i64 t]] w fun e w' => e = .returned (.bool b) ∧ Below w.heap.size w w' := by
  subst hb
  have := stepHolds_any m l hV (p.take k) (r, i, j, f, t) v u w hv hu
  rwa [decide_eq_decide.2 (step_take hk _)] at this

theorem ints_nil0 (w : World) : Ints w (.slice none 0 0) [] := ⟨rfl, Nat.zero_le _, none, 0, 0, 0, rfl, ⟨fun h => by simp at h, by simp⟩, fun j hj => by simp at hj⟩
theorem check_bad (n : Int) (l : List (Int × Int)) (v u : Value) (w : World) (hv : Deps w v l) (hbad : ¬ ValidP n l []) :
    Calls Try.prog 37 #[.int .i64 n, v, u] w fun e w' => e = .returned (.tuple #[.bool false, .int .i64 2]) ∧ Below w.heap.size w w' := by
  have H := Lib.hid (valid_no hv (ints_nil0 w) hbad)
  clear hv hbad
  go_enter Try.func37, Try.ntmps37
  go_wp2_with fail
  refine H.out.mono ?_
  rintro e w1 ⟨rfl, hb1⟩
  go_wp2_with fail
  go_ret2
  exact ⟨rfl, hb1⟩
theorem check_len (n : Int) (l : List (Int × Int)) (p : List Stp) (v u : Value) (w : World) (hv : Deps w v l) (hu : Steps w u p) (hgood : ValidP n l []) (hp : ¬ (1 ≤ p.length ∧ p.length ≤ 100)) :
    Calls Try.prog 37 #[.int .i64 n, v, u] w fun e w' => e = .returned (.tuple #[.bool false, .int .i64 0]) ∧ Below w.heap.size w w' := by
  obtain ⟨a', b', off', cap', rfl, hle', -, -, -⟩ := Steps.get hu
  have H := Lib.hid (valid_yes hv (ints_nil0 w) hgood)
  clear hv hgood hu
  have hq : p.length < 1 ∨ (1 ≤ p.length ∧ 100 < p.length) := by omega
  clear hp
  rcases hq with q | ⟨q, q2⟩
  all_goals
    go_enter Try.func37, Try.ntmps37
    go_wp2_with fail
    refine H.out.mono ?_
    rintro e w1 ⟨rfl, hb1⟩
    go_wp2_with fail
    go_ret2
    exact ⟨rfl, hb1⟩

set_option maxRecDepth 100000 in
set_option maxHeartbeats 4000000 in
theorem check_good (m : Nat) (l : List (Int × Int)) (p : List Stp) (v u : Value) (w : World) (hv : Deps w v l) (hu : Steps w u p) (hgood : ValidP m l []) (hp1 : 1 ≤ p.length) (hp2 : p.length ≤ 100) :
    Calls Try.prog 37 #[.int .i64 m, v, u] w fun e w' => e = .returned (.tuple #[.bool (decide (ProofOk m l p)), .int .i64 0]) ∧ Below w.heap.size w w' := by
  have hu0 := hu
  obtain ⟨a', b', off', cap', rfl, hle', ha', -, hc'⟩ := Steps.get hu
  have hix' := run_ix (P := Try.prog) (t := 46) (a := a') (len := p.length) (cap := cap') (b := b') (off := off') (s := 5) Try.underlying46 (by intro w; kernel_rfl) ha'
  have hto := run_to (P := Try.prog) (t := 46) (a := a') (len := p.length) (cap := cap') (s := 5) Try.underlying46 (by intro w; kernel_rfl) (Steps.cap hu0).1
  have H := Lib.hid (valid_yes hv (ints_nil0 w) hgood)
  have Hc' := Lib.hid hc'
  have Hv := Lib.hid hv
  have HV := Lib.hid hgood
  have Hu := Lib.hid hu0
  have Hix' := Lib.hid hix'
  have Hto := Lib.hid hto
  clear hu0 ha' hv hu hc' hgood hix' hto
  obtain ⟨da, db, doff, dcap, rfl, -⟩ := Deps.get Hv.out
  go_enter Try.func37, Try.ntmps37
  go_wp2_with fail
  refine H.out.mono ?_
  rintro e w1 ⟨rfl, hb1⟩
  have Hb1 := Lib.hid hb1
  clear hb1 H
  go_wp2_with fail
  go_loopw [24] (fun i wr => ∃ k : Nat, i = .int .i64 k ∧ k ≤ p.length ∧ Below w.heap.size w wr ∧ ∀ q, q < k → PairOk m (stp p q) ∧ StepOk m l p q (stp p q)) (fun i _ => p.length - (intOf i).toNat)
  case atStart => exact ⟨0, rfl, Nat.zero_le _, Hb1.out, fun q hq => by omega⟩
  case round =>
    obtain ⟨k, rfl, hk, hb, hin⟩ := hrel
    have Hin := Lib.hid hin
    have Hb := Lib.hid hb
    clear hin hb
    by_cases hlt : k < p.length
    · obtain ⟨hc1, hc2, hc3, hc4, hc5⟩ := Hc'.out k hlt
      have hc1 := Below.keep Hb.out hc1
      have hc2 := Below.keep Hb.out hc2
      have hc3 := Below.keep Hb.out hc3
      have hc4 := Below.keep Hb.out hc4
      have hc5 := Below.keep Hb.out hc5
      have hix := Hix'.out k
      have hto := fun w => Hto.out k w (by omega)
      rw [stp_get hlt] at hc1 hc2 hc3 hc4 hc5
      obtain ⟨s, hs⟩ : ∃ s, s = stp p k := ⟨_, rfl⟩
      rw [← hs] at hc1 hc2 hc3 hc4 hc5
      have Hs := Lib.hid hs.symm
      clear hs
      obtain ⟨r, i, j, f, t⟩ := s
      simp only at hc1 hc2 hc3 hc4 hc5
      have Hpk := Lib.hid (Hu.out.take k hk)
      have Hno := Lib.hid (fun (h : ¬ (PairOk m (r, i, j, f, t) ∧ StepOk m l p k (r, i, j, f, t))) => Lib.hid (proof_no (n := m) (l := l) hlt Hs.out h))
      have Hyes := Lib.hid (fun (h : PairOk m (r, i, j, f, t) ∧ StepOk m l p k (r, i, j, f, t)) => Lib.hid (show ∀ q, q < k + 1 → PairOk m (stp p q) ∧ StepOk m l p q (stp p q) from fun q hq => by
        by_cases e : q = k
        · subst e; rw [Hs.out]; exact h
        · exact Hin.out q (by omega)))
      go_upto_region 8 with fail
      have c0 := cell_new wr #[.int .i64 r, .int .i64 i, .int .i64 j, .int .i64 f, .int .i64 t] 53 0
      have c1 := cell_new wr #[.int .i64 r, .int .i64 i, .int .i64 j, .int .i64 f, .int .i64 t] 53 1
      have c2 := cell_new wr #[.int .i64 r, .int .i64 i, .int .i64 j, .int .i64 f, .int .i64 t] 53 2
      have c3 := cell_new wr #[.int .i64 r, .int .i64 i, .int .i64 j, .int .i64 f, .int .i64 t] 53 3
      have c4 := cell_new wr #[.int .i64 r, .int .i64 i, .int .i64 j, .int .i64 f, .int .i64 t] 53 4
      have hb0 := below_alloc wr (.cells #[.int .i64 r, .int .i64 i, .int .i64 j, .int .i64 f, .int .i64 t] 53)
      generalize wr.alloc (.cells #[.int .i64 r, .int .i64 i, .int .i64 j, .int .i64 f, .int .i64 t] 53) = w0 at *
      have Hb0 := Lib.hid (Below.tr Hb.out hb0)
      have C0 := Lib.hid c0
      have C1 := Lib.hid c1
      have C2 := Lib.hid c2
      have C3 := Lib.hid c3
      have C4 := Lib.hid c4
      clear hb0 c0 c1 c2 c3 c4 hc1 hc2 hc3 hc4 hc5
      by_cases hP : InSet m f ∧ InSet m t
      · have Hgood := Lib.hid (show ValidP m l [f, t] from ⟨HV.out.1, HV.out.2.1, fun x hx => by simp at hx; rcases hx with rfl | rfl; exact hP.1; exact hP.2⟩)
        have HP := Lib.hid (show PairOk m (r, i, j, f, t) from hP)
        clear hP
        by_cases hS : StepOk m l p k (r, i, j, f, t)
        · have R := Hyes.out ⟨HP.out, hS⟩
          have HS := Lib.hid (decide_eq_true hS)
          clear hS Hno Hyes
          go_region_held3 (fun w' => w'.cell? ⟨wr.heap.size, 0, none⟩ = some (.int .i64 r) ∧ w'.cell? ⟨wr.heap.size, 1, none⟩ = some (.int .i64 i) ∧ w'.cell? ⟨wr.heap.size, 2, none⟩ = some (.int .i64 j) ∧ w'.cell? ⟨wr.heap.size, 3, none⟩ = some (.int .i64 f) ∧ w'.cell? ⟨wr.heap.size, 4, none⟩ = some (.int .i64 t))
            ((refine hold5 C0.out C1.out C2.out C3.out C4.out ?_; repeat (first | assumption | exact Below.refl _ _ | refine Below.drew ?_ | refine Below.tr ?_ (below_alloc _ _) | refine Below.tr ?_ (by assumption))))
            (first | (go_at_call 70; refine (valid_yes (by exact Deps.keep Hv.out (Below.tr Hb0.out (below_alloc _ _).drew)) (by exact ints_two _ _ _ _ _ (by simp)) Hgood.out).mono ?_; rintro e w4 ⟨rfl, hb4⟩) | (go_at_call 78; refine (stepHolds_b m l HV.out p k hk true r i j f t HS.out _ _ _ (by exact Deps.keep Hv.out (Below.tr Hb0.out (Below.tr (below_alloc _ _).drew hb4))) (by exact Steps.keep Hpk.out (Below.tr Hb0.out (Below.tr (below_alloc _ _).drew hb4)))).mono ?_; rintro e w5 ⟨rfl, hb5⟩))
          have Hb5 := Lib.hid (Below.tr Hb0.out (Below.tr (Below.tr (below_alloc _ _).drew hb4) hb5))
          clear hb4 hb5
          go_wp2_with fail
          go_roundw
          case rel => exact ⟨k + 1, by go_num, by omega, Hb5.out, R.out⟩
          case measure => simp [intOf]; omega
        · have R := Hno.out (fun h => hS h.2)
          have HS := Lib.hid (decide_eq_false hS)
          clear hS Hno Hyes
          go_region_held3 (fun w' => w'.cell? ⟨wr.heap.size, 0, none⟩ = some (.int .i64 r) ∧ w'.cell? ⟨wr.heap.size, 1, none⟩ = some (.int .i64 i) ∧ w'.cell? ⟨wr.heap.size, 2, none⟩ = some (.int .i64 j) ∧ w'.cell? ⟨wr.heap.size, 3, none⟩ = some (.int .i64 f) ∧ w'.cell? ⟨wr.heap.size, 4, none⟩ = some (.int .i64 t))
            ((refine hold5 C0.out C1.out C2.out C3.out C4.out ?_; repeat (first | assumption | exact Below.refl _ _ | refine Below.drew ?_ | refine Below.tr ?_ (below_alloc _ _) | refine Below.tr ?_ (by assumption))))
            (first | (go_at_call 70; refine (valid_yes (by exact Deps.keep Hv.out (Below.tr Hb0.out (below_alloc _ _).drew)) (by exact ints_two _ _ _ _ _ (by simp)) Hgood.out).mono ?_; rintro e w4 ⟨rfl, hb4⟩) | (go_at_call 78; refine (stepHolds_b m l HV.out p k hk false r i j f t HS.out _ _ _ (by exact Deps.keep Hv.out (Below.tr Hb0.out (Below.tr (below_alloc _ _).drew hb4))) (by exact Steps.keep Hpk.out (Below.tr Hb0.out (Below.tr (below_alloc _ _).drew hb4)))).mono ?_; rintro e w5 ⟨rfl, hb5⟩))
          have Hb5 := Lib.hid (Below.tr Hb0.out (Below.tr (Below.tr (below_alloc _ _).drew hb4) hb5))
          clear hb4 hb5
          go_wp2_with fail
          go_ret2
          exact ⟨congrArg (fun b => Ending.returned (.tuple #[.bool b, .int .i64 0])) R.out.symm, Hb5.out⟩
      · have Hbad := Lib.hid (show ¬ ValidP m l [f, t] from fun h => hP ⟨h.2.2 f (by simp), h.2.2 t (by simp)⟩)
        have R := Hno.out (fun h => hP h.1)
        clear hP Hno Hyes
        have d3 := C3.out
        have d4 := C4.out
        refine wp_region_any (by kernel_rfl) ?_
        change wpAny _ _ _ _ _ _ _ (World.drew _)
        refine wpAny_take (i := 0) (v := ?_) rfl (by kernel_rfl) (by kernel_rfl) (by kernel_rfl) (fun _ _ _ h => h) (Or.inl ⟨by rfl, ?_⟩) ?_
        rotate_left
        · intro w; go_simp; with_reducible rfl
        refine wpAny_take (i := 1) (v := ?_) rfl (by kernel_rfl) (by kernel_rfl) (by kernel_rfl) (fun _ _ _ h => h) (Or.inl ⟨by rfl, ?_⟩) ?_
        rotate_left
        · intro w; go_simp; with_reducible rfl
        refine wpAny_take (i := 2) (v := ?_) rfl (by kernel_rfl) (by kernel_rfl) (by kernel_rfl) (fun _ _ _ h => h) (Or.inl ⟨by rfl, ?_⟩) ?_
        rotate_left
        · intro w; go_simp; with_reducible rfl
        refine wpAny_take (i := 3) (v := ?_) rfl (by kernel_rfl) (by kernel_rfl) (by kernel_rfl) (fun _ _ _ h => h) (Or.inl ⟨by rfl, ?_⟩) ?_
        rotate_left
        · intro w; go_simp; with_reducible rfl
        refine wpAny_take (i := 5) (v := ?_) rfl (by kernel_rfl) (by kernel_rfl) (by kernel_rfl) (fun _ _ _ h => h) (Or.inl ⟨by rfl, ?_⟩) ?_
        rotate_left
        · intro w; go_simp; with_reducible rfl
        refine wpAny_take (i := 6) (v := ?_) rfl (by kernel_rfl) (by kernel_rfl) (by kernel_rfl) (fun _ _ _ h => h) (Or.inl ⟨by rfl, ?_⟩) ?_
        rotate_left
        · intro w; go_simp; with_reducible rfl
        refine wpAny_ready (rs := [4, 7]) (by kernel_rfl) (by simp) ?_
        refine AllReady.cons rfl (fun K hK => ?_) ?_
        · go_simp
          refine hK _ _ ?_
          clear hK K
          refine wpAny_ready (rs := [7]) (by kernel_rfl) (by simp) ?_
          refine AllReady.cons rfl (fun K hK => ?_) ?_
          · go_simp
            refine hK _ _ ?_
            clear hK K
            refine wpAny_ready (rs := [8]) (by kernel_rfl) (by simp) ?_
            refine AllReady.cons rfl (fun K hK => ?_) ?_
            · go_simp
              refine hK _ _ ?_
              clear hK K
              refine wpAny_ready (rs := [9]) (by kernel_rfl) (by simp) ?_
              refine AllReady.cons rfl (fun K hK => ?_) ?_
              · go_simp
                refine (valid_no (by exact Deps.keep Hv.out (Below.tr Hb0.out (below_alloc _ _).drew)) (by exact ints_two _ _ _ _ _ (by simp)) Hbad.out).mono ?_
                rintro e w4 ⟨rfl, hb4⟩
                have hb4 := Lib.hid (Below.tr Hb0.out (Below.tr (below_alloc _ _).drew hb4))
                go_wp2_with fail
                try (refine hK _ _ ?_; clear hK K)
                refine wpAny_take (i := 10) (v := ?_) rfl (by kernel_rfl) (by kernel_rfl) (by kernel_rfl) (fun _ _ _ h => h) (Or.inl ⟨by rfl, ?_⟩) ?_
                rotate_left
                · intro w; go_simp; with_reducible rfl
                refine wpAny_take (i := 11) (v := ?_) rfl (by kernel_rfl) (by kernel_rfl) (by kernel_rfl) (fun _ _ _ h => h) (Or.inl ⟨by rfl, ?_⟩) ?_
                rotate_left
                · intro w; go_simp; with_reducible rfl
                refine wpAny_take (i := 12) (v := undef) rfl (by kernel_rfl) (by kernel_rfl) (by kernel_rfl) (fun _ _ _ h => h) (Or.inr ⟨by kernel_rfl, rfl⟩) ?_
                go_simp
                refine wpAny_take (i := 13) (v := undef) rfl (by kernel_rfl) (by kernel_rfl) (by kernel_rfl) (fun _ _ _ h => h) (Or.inr ⟨by kernel_rfl, rfl⟩) ?_
                go_simp
                refine wpAny_take (i := 14) (v := undef) rfl (by kernel_rfl) (by kernel_rfl) (by kernel_rfl) (fun _ _ _ h => h) (Or.inr ⟨by kernel_rfl, rfl⟩) ?_
                go_simp
                refine wpAny_take (i := 15) (v := undef) rfl (by kernel_rfl) (by kernel_rfl) (by kernel_rfl) (fun _ _ _ h => h) (Or.inr ⟨by kernel_rfl, rfl⟩) ?_
                go_simp
                refine wpAny_take (i := 16) (v := undef) rfl (by kernel_rfl) (by kernel_rfl) (by kernel_rfl) (fun _ _ _ h => h) (Or.inr ⟨by kernel_rfl, rfl⟩) ?_
                go_simp
                refine wpAny_take (i := 17) (v := undef) rfl (by kernel_rfl) (by kernel_rfl) (by kernel_rfl) (fun _ _ _ h => h) (Or.inr ⟨by kernel_rfl, rfl⟩) ?_
                go_simp
                refine wpAny_take (i := 18) (v := undef) rfl (by kernel_rfl) (by kernel_rfl) (by kernel_rfl) (fun _ _ _ h => h) (Or.inr ⟨by kernel_rfl, rfl⟩) ?_
                go_simp
                refine wpAny_take (i := 19) (v := undef) rfl (by kernel_rfl) (by kernel_rfl) (by kernel_rfl) (fun _ _ _ h => h) (Or.inr ⟨by kernel_rfl, rfl⟩) ?_
                go_simp
                refine wpAny_take (i := 20) (v := ?_) rfl (by kernel_rfl) (by kernel_rfl) (by kernel_rfl) (fun _ _ _ h => h) (Or.inl ⟨by rfl, ?_⟩) ?_
                rotate_left
                · intro w; go_simp; with_reducible rfl
                refine wpAny_done (by kernel_rfl) ?_ _
                go_wp2_with fail
                go_ret2
                exact ⟨congrArg (fun b => Ending.returned (.tuple #[.bool b, .int .i64 0])) R.out.symm, hb4.out⟩
              · exact AllReady.nil
            · exact AllReady.nil
          · exact AllReady.nil
        refine AllReady.cons rfl (fun K hK => ?_) ?_
        · go_simp
          refine hK _ _ ?_
          clear hK K
          refine wpAny_ready (rs := [4]) (by kernel_rfl) (by simp) ?_
          refine AllReady.cons rfl (fun K hK => ?_) ?_
          · go_simp
            refine hK _ _ ?_
            clear hK K
            refine wpAny_ready (rs := [8]) (by kernel_rfl) (by simp) ?_
            refine AllReady.cons rfl (fun K hK => ?_) ?_
            · go_simp
              refine hK _ _ ?_
              clear hK K
              refine wpAny_ready (rs := [9]) (by kernel_rfl) (by simp) ?_
              refine AllReady.cons rfl (fun K hK => ?_) ?_
              · go_simp
                refine (valid_no (by exact Deps.keep Hv.out (Below.tr Hb0.out (below_alloc _ _).drew)) (by exact ints_two _ _ _ _ _ (by simp)) Hbad.out).mono ?_
                rintro e w4 ⟨rfl, hb4⟩
                have hb4 := Lib.hid (Below.tr Hb0.out (Below.tr (below_alloc _ _).drew hb4))
                go_wp2_with fail
                try (refine hK _ _ ?_; clear hK K)
                refine wpAny_take (i := 10) (v := ?_) rfl (by kernel_rfl) (by kernel_rfl) (by kernel_rfl) (fun _ _ _ h => h) (Or.inl ⟨by rfl, ?_⟩) ?_
                rotate_left
                · intro w; go_simp; with_reducible rfl
                refine wpAny_take (i := 11) (v := ?_) rfl (by kernel_rfl) (by kernel_rfl) (by kernel_rfl) (fun _ _ _ h => h) (Or.inl ⟨by rfl, ?_⟩) ?_
                rotate_left
                · intro w; go_simp; with_reducible rfl
                refine wpAny_take (i := 12) (v := undef) rfl (by kernel_rfl) (by kernel_rfl) (by kernel_rfl) (fun _ _ _ h => h) (Or.inr ⟨by kernel_rfl, rfl⟩) ?_
                go_simp
                refine wpAny_take (i := 13) (v := undef) rfl (by kernel_rfl) (by kernel_rfl) (by kernel_rfl) (fun _ _ _ h => h) (Or.inr ⟨by kernel_rfl, rfl⟩) ?_
                go_simp
                refine wpAny_take (i := 14) (v := undef) rfl (by kernel_rfl) (by kernel_rfl) (by kernel_rfl) (fun _ _ _ h => h) (Or.inr ⟨by kernel_rfl, rfl⟩) ?_
                go_simp
                refine wpAny_take (i := 15) (v := undef) rfl (by kernel_rfl) (by kernel_rfl) (by kernel_rfl) (fun _ _ _ h => h) (Or.inr ⟨by kernel_rfl, rfl⟩) ?_
                go_simp
                refine wpAny_take (i := 16) (v := undef) rfl (by kernel_rfl) (by kernel_rfl) (by kernel_rfl) (fun _ _ _ h => h) (Or.inr ⟨by kernel_rfl, rfl⟩) ?_
                go_simp
                refine wpAny_take (i := 17) (v := undef) rfl (by kernel_rfl) (by kernel_rfl) (by kernel_rfl) (fun _ _ _ h => h) (Or.inr ⟨by kernel_rfl, rfl⟩) ?_
                go_simp
                refine wpAny_take (i := 18) (v := undef) rfl (by kernel_rfl) (by kernel_rfl) (by kernel_rfl) (fun _ _ _ h => h) (Or.inr ⟨by kernel_rfl, rfl⟩) ?_
                go_simp
                refine wpAny_take (i := 19) (v := undef) rfl (by kernel_rfl) (by kernel_rfl) (by kernel_rfl) (fun _ _ _ h => h) (Or.inr ⟨by kernel_rfl, rfl⟩) ?_
                go_simp
                refine wpAny_take (i := 20) (v := ?_) rfl (by kernel_rfl) (by kernel_rfl) (by kernel_rfl) (fun _ _ _ h => h) (Or.inl ⟨by rfl, ?_⟩) ?_
                rotate_left
                · intro w; go_simp; with_reducible rfl
                refine wpAny_done (by kernel_rfl) ?_ _
                go_wp2_with fail
                go_ret2
                exact ⟨congrArg (fun b => Ending.returned (.tuple #[.bool b, .int .i64 0])) R.out.symm, hb4.out⟩
              · exact AllReady.nil
            · exact AllReady.nil
          · exact AllReady.nil
        exact AllReady.nil
    · obtain rfl : k = p.length := by omega
      have R := Lib.hid (show decide (ProofOk m l p) = true from decide_eq_true ⟨Hin.out, hp1, hp2⟩)
      go_wp2
      go_ret2
      exact ⟨congrArg (fun b => Ending.returned (.tuple #[.bool b, .int .i64 0])) R.out.symm, Hb.out⟩
end Go.Proofs.Ytnidalbfmicoiaa
