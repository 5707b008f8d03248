/- RulesMore: without Not, more facts give no fewer. For every input. -/
import Derived.Test.YthndplkjhbmfmaaRpl
import Derived.Test.YthndplkjhbmfmaaRvl
import Derived.Test.YthndplkjhbmfmaaRfw
import Derived.Test.YthndplkjhbmfmaaFrame
import Derived.Test.YthndplkjhbmfmaaRows
namespace Go.Proofs.Ythndplkjhbmfmaa
open Go.RowKit
theorem plain_sol {l : List RRule} (hl : RuV l) (hp : PlainR l) : PSol l [0, 0, 0, 0, 0, 0] := by
  have h0 : ∀ r : Int, 0 ≤ r → r ≤ 5 → atL [0, 0, 0, 0, 0, 0] r = 0 := fun r h1 h2 => by
    have : r = 0 ∨ r = 1 ∨ r = 2 ∨ r = 3 ∨ r = 4 ∨ r = 5 := by omega
    rcases this with rfl | rfl | rfl | rfl | rfl | rfl <;> rfl
  refine ⟨fun i hi => ?_, fun r hr b hb => ?_⟩
  · match i, hi with
    | 0, _ | 1, _ | 2, _ | 3, _ | 4, _ | 5, _ => decide
  · have h1 := (hl r hr).1.1
    have h2 := ((hl r hr).2 b hb).1
    show atL _ b.2.1 + nt b.1 ≤ atL _ r.1.1
    rw [h0 _ h2.1 h2.2, h0 _ h1.1 h1.2, hp r hr b hb]
    decide
theorem plain_str {l : List RRule} (hl : RuV l) (hp : PlainR l) : ¬ NoStr l := fun h => by
  obtain ⟨i, hi, h5⟩ := h _ (plain_sol hl hp)
  match i, hi with
  | 0, _ | 1, _ | 2, _ | 3, _ | 4, _ | 5, _ => exact absurd h5 (by decide)
theorem mlv_more {l : List RRule} (hp : PlainR l) {L : List Int} {G G' : RAt → Prop} (hG : ∀ f, G f → G' f) : ∀ s f, mlv l L G s f → mlv l L G' s f
  | 0, f, h => hG f h
  | s + 1, f, h => by
    refine Cons.least (C := fun f => mlv l L G' (s + 1) f) (fun f hf => .given (mlv_more hp hG s f hf)) (fun r m h1 h2 h3 _ => ?_) h
    exact .step h1 h2 h3 fun b hb hb1 => by
      have := hp r h1.1 b hb
      rw [this] at hb1; cases hb1
/-- valid rules and facts are copied whole -/
theorem ofRl_val {l : List RRule} {fs : List RAt} (h : ValR l fs) : ofRl l = l := by
  unfold ofRl
  rw [List.take_of_length_le (by have := h.l10; omega)]
  have hat : ∀ a, AtR a → ofAt a = a := fun a ha => by
    unfold ofAt
    rw [List.take_of_length_le (by have := ha.2.1.2; omega)]
  refine (List.map_congr_left fun r hr => ?_).trans (List.map_id _)
  have hr2 := h.ats r hr
  show (ofAt r.1, (r.2.take 5).map ofLt) = r
  rw [hat r.1 hr2.1, List.take_of_length_le (by have := h.b3 r hr; omega)]
  have : r.2.map ofLt = r.2 := (List.map_congr_left fun b hb => show ofLt b = b from by unfold ofLt; rw [hat b.2 (hr2.2 b hb)]).trans (List.map_id _)
  rw [this]
theorem ofF_val {l : List RRule} {fs : List RAt} (h : ValR l fs) : ofF fs = fs := by
  unfold ofF
  rw [List.take_of_length_le (by have := h.f20; omega)]
  refine (List.map_congr_left fun f hf => ?_).trans (List.map_id _)
  unfold ofA
  rw [List.take_of_length_le (by have := (h.fcs f hf).2.1.2; omega)]
  rfl
section
open Go.ChangeShapes Go.WideShapes Go.ChangeAt Go.Deep Go.Joins
variable {H : Type} {enc : TypeId × Value → H} {P : Program} {W : World}
/-- a fact by value -/
theorem fct_arg {r : Reach} {b0 : Nat} {e i0 s0 : TypeId} {f0 f1 : Field} {v : Value} {d : DataW H} {ps : List MemPlace} {sp : Nat → Bool} (he : P.underlying e = some (.struct #[f0, f1])) (h0 : f0.type = i0 ∧ f0.offset = 0) (h1 : f1.type = s0 ∧ f1.offset = 1)
    (hi0 : P.underlying i0 = some (.int .i64)) (hs0 : P.underlying s0 = some (.slice i0)) (c0 : P.cellsOf i0 = 1) (c1 : P.cellsOf s0 = 1) (hc : P.cellsOf e = 2)
    (hv : Value.okWide P W r b0 e v) (h : DataW.Trod enc P W 0 sp true e v d ps) : ∃ a : HAt, ∃ u, v = .agg #[.int .i64 a.1, u] ∧ Ints W u a.2 := by
  obtain ⟨cs, rfl, hsz⟩ := okWide_struct he hv
  obtain ⟨fuel, hf⟩ := h
  obtain ⟨y, hy, hi⟩ := atom_of_trod he h0 h1 hi0 hs0 c0 c1 hc hf
  simp only [Value.cells] at hy
  exact ⟨(y.1, y.2.2), y.2.1, by rw [← Array.toArray_toList (xs := cs), hy], hi⟩
end
set_option maxRecDepth 100000 in
set_option maxHeartbeats 16000000 in
theorem more_any (l : List RRule) (fs : List RAt) (r : Int) (A : List Int) (rl fv u : Value) (w : World) (hrl : Rules w rl l) (hfv : Atoms w fv fs) (hu : Ints w u A) :
    Calls Try.prog 10 #[rl, fv, .agg #[.int .i64 r, u]] w fun e w' => e = .returned (.bool true) ∧ Below w.heap.size w w' := by
  obtain ⟨a, cap, rfl⟩ := RdS.slice hrl
  obtain ⟨fa, fc, rfl⟩ := atoms_slice hfv
  obtain ⟨ua, uc, rfl⟩ := ints_slice hu
  obtain ⟨n, hn⟩ : ∃ x, x = l.length := ⟨_, rfl⟩
  obtain ⟨fn, hfn⟩ : ∃ x, x = fs.length := ⟨_, rfl⟩
  obtain ⟨un, hun⟩ : ∃ x, x = A.length := ⟨_, rfl⟩
  rw [← hn] at hrl ⊢
  rw [← hfn] at hfv ⊢
  rw [← hun] at hu ⊢
  obtain ⟨w1, hw1⟩ : ∃ x, x = w.alloc (.cells #[.int .i64 r, .slice ua un uc] 50) := ⟨_, rfl⟩
  have hb1 : Below w.heap.size w w1 := by rw [hw1]; exact below_alloc _ _
  obtain ⟨b5, hb5⟩ : ∃ x, x = w.heap.size := ⟨_, rfl⟩
  have HX := Lib.hid (show w1.heap[b5]? = some (.cells #[.int .i64 r, .slice ua un uc] 50 (0, 0)) from by rw [hw1, hb5]; exact heap_alloc_new _ _)
  have HR := Lib.hid hrl
  have HF := Lib.hid hfv
  have HU := Lib.hid hu
  have HB1 := Lib.hid hb1
  have Hw1 := Lib.hid hw1
  have Hb5 := Lib.hid hb5
  clear hn hfn hun hrl hfv hu hw1 hb1 hb5
  go_enter Try.func10, Try.ntmps10
  go_upto_region 1 with fail
  rw [← Hw1.out, ← Hb5.out]
  clear Hw1
  by_cases hp : PlainR l
  · have HPl := Lib.hid hp
    have HC := Lib.hid (Plain_any l _ w1 (HR.out.keep HB1.out) true ⟨fun _ => hp, fun _ => rfl⟩)
    clear hp
    go_wp2_with fail
    refine HC.out.mono ?_
    clear HC
    rintro e w2 ⟨rfl, hb2⟩
    have HB2 := Lib.hid (Below.tr HB1.out hb2)
    have HX2 := Lib.hid (blk_keep2 HX.out hb2)
    clear hb2 HX
    by_cases hv : ValR l fs
    · have HV := Lib.hid hv
      have HC := Lib.hid (ValidR_any l fs _ _ w2 (HR.out.keep HB2.out) (HF.out.keep HB2.out) true ⟨fun _ => hv, fun _ => rfl⟩)
      clear hv
      go_wp2_with fail
      refine HC.out.mono ?_
      clear HC
      rintro e w3 ⟨rfl, hb3⟩
      have HB3 := Lib.hid (Below.tr HB2.out hb3)
      have HX3 := Lib.hid (blk_keep2 HX2.out hb3)
      clear hb3 HX2
      have HC := Lib.hid (OfL_any l _ w3 (HR.out.keep HB3.out))
      rw [ofRl_val HV.out] at HC
      go_wp2_with fail
      refine HC.out.mono ?_
      clear HC
      rintro e w4 ⟨a4, n4, c4, rfl, ho4, hb4⟩
      have HB4 := Lib.hid (Below.tr HB3.out hb4)
      have HX4 := Lib.hid (blk_keep2 HX3.out hb4)
      have HR4 := Lib.hid ho4.rules
      have HC := Lib.hid (factsL_any fs _ w4 (HF.out.keep HB4.out))
      rw [ofF_val HV.out] at HC
      clear ho4 hb4 HX3
      go_wp2_with fail
      refine HC.out.mono ?_
      clear HC
      rintro e w5 ⟨v5, rfl, ho5, hb5⟩
      obtain ⟨a5, c5, hv5⟩ := Atoms.own ho5
      obtain ⟨n5, hn5⟩ : ∃ x, x = fs.length := ⟨_, rfl⟩
      rw [← hn5] at hv5
      subst hv5
      have HB5 := Lib.hid (Below.tr HB4.out hb5)
      have HX5 := Lib.hid (blk_keep2 HX4.out hb5)
      have HC := Lib.hid (Model_any l fs _ _ w5 (HR4.out.keep hb5) ho5.atoms)
      clear ho5 hb5 hn5 HX4
      go_wp2_with fail
      refine HC.out.mono ?_
      clear HC
      rintro e w6 ⟨hm, hb6⟩
      have HB6 := Lib.hid (Below.tr HB5.out hb6)
      have HX6 := Lib.hid (blk_keep2 HX5.out hb6)
      have hm : ∃ (L : List Int) (a : Option Addr) (n c : Nat) (cs : List RAt), Str l L ∧ e = .returned (.tuple #[.slice a n c, .int .i64 0]) ∧ Atoms w6 (.slice a n c) cs ∧ SrtF cs (ModP l fs L) := by
        rcases hm with ⟨h, _⟩ | ⟨_, h, _⟩ | ⟨_, L, a, n, c, cs, h1, h2, h3, h4⟩
        · exact absurd HV.out h
        · exact absurd h (plain_str HV.out.ats HPl.out)
        · exact ⟨L, a, n, c, cs, h1, h2, h3.atoms, h4⟩
      obtain ⟨L, a6, n6, c6, cs, hst, rfl, ha6, hsr⟩ := hm
      have HSt := Lib.hid hst
      have HA6 := Lib.hid ha6
      have HSr := Lib.hid hsr
      clear hb6 hst ha6 hsr HX5 HR4
      go_upto_region 4 with fail
      have HB0d := Lib.hid (show Below w6.heap.size w6 w6.drew from (Below.refl _ _).drew)
      have HS0d := Lib.hid (show w6.drew.heap[b5]? = some (.cells #[.int .i64 r, .slice ua un uc] 50 (0, 0)) from HX6.out)
      refine wp_region_held (S := fun w' => w'.heap[b5]? = some (.cells #[.int .i64 r, .slice ua un uc] 50 (0, 0))) wideK ?_
      change wpAnyH _ _ _ _ _ _ _ _ (World.drew _)
      generalize w6.drew = wd0 at *
      refine wpAnyH_take (i := 0) (v := ?_) rfl (by kernel_rfl) (by kernel_rfl) (by kernel_rfl) (fun _ _ _ h => h) (Or.inl ⟨by rfl, ?_⟩) HS0d.out ?_
      rotate_left
      focus (intro w hS; clear hS; first | (go_simp; done) | (go_simp; with_reducible rfl))
      simp only [Act.put, List.getElem_toArray, List.getElem_cons_zero, List.setIfInBounds_toArray, List.set_cons_zero, List.set_cons_succ]
      refine wpAnyH_take (i := 2) (v := ?_) rfl (by kernel_rfl) (by kernel_rfl) (by kernel_rfl) (fun _ _ _ h => h) (Or.inl ⟨by rfl, ?_⟩) HS0d.out ?_
      rotate_left
      focus (intro w hS; clear hS; first | (go_simp; done) | (go_simp; with_reducible rfl))
      simp only [Act.put, List.getElem_toArray, List.getElem_cons_zero, List.getElem_cons_succ, List.setIfInBounds_toArray, List.set_cons_zero, List.set_cons_succ]
      refine wpAnyH_take (i := 4) (v := ?_) rfl (by kernel_rfl) (by kernel_rfl) (by kernel_rfl) (fun _ _ _ h => h) (Or.inl ⟨by rfl, ?_⟩) HS0d.out ?_
      rotate_left
      focus (intro w hS; have s0 := aCell hS 0 rfl; have s1 := aCell hS 1 rfl; clear hS; first | (go_simp; done) | (go_simp; with_reducible rfl))
      simp only [Act.put, List.getElem_toArray, List.getElem_cons_zero, List.getElem_cons_succ, List.setIfInBounds_toArray, List.set_cons_zero, List.set_cons_succ]
      refine wpAnyH_ready (rs := [1]) (by kernel_rfl) (by simp) ?_
      refine RdyH.cons rfl (fun K2 hK => ?_) RdyH.nil
      have HC := Lib.hid (OfL_any l _ wd0 ((HR.out.keep HB6.out).keep HB0d.out))
      rw [ofRl_val HV.out] at HC
      go_simp
      go_at_call 19
      refine HC.out.mono ?_
      clear HC
      rintro e wd1 ⟨p1, p2, p3, rfl, ho, hb⟩
      have HRd := Lib.hid ho.rules
      have HB1d := Lib.hid (Below.tr HB0d.out hb)
      have HS1d := Lib.hid (blk_keep2 HS0d.out hb)
      clear ho hb
      go_simp
      refine hK _ _ HS1d.out ?_
      clear hK K2
      refine wpAnyH_ready (rs := [3]) (by kernel_rfl) (by simp) ?_
      refine RdyH.cons rfl (fun K2 hK => ?_) RdyH.nil
      have HC := Lib.hid (factsL_any fs _ wd1 ((HF.out.keep HB6.out).keep HB1d.out))
      rw [ofF_val HV.out] at HC
      go_simp
      go_at_call 29
      refine HC.out.mono ?_
      clear HC
      rintro e wd2 ⟨v7, rfl, ho, hb⟩
      obtain ⟨a7, c7, hv7⟩ := Atoms.own ho
      subst hv7
      have HB12a := Lib.hid hb
      have HFd := Lib.hid ho
      have HRd2 := Lib.hid (HRd.out.keep hb)
      have HB2d := Lib.hid (Below.tr HB1d.out hb)
      have HS2d := Lib.hid (blk_keep2 HS1d.out hb)
      clear ho hb
      go_simp
      refine hK _ _ HS2d.out ?_
      clear hK K2
      refine wpAnyH_ready (rs := [5]) (by kernel_rfl) (by simp) ?_
      refine RdyH.cons rfl (fun K2 hK => ?_) RdyH.nil
      have HC := Lib.hid (factC_any r A (.slice ua un uc) wd2 ((HU.out.keep HB6.out).keep HB2d.out))
      go_simp
      go_at_call 34
      refine HC.out.mono ?_
      clear HC
      rintro e wd3 ⟨y1, y2, y3, rfl, hy, hb⟩
      have HFd2 := Lib.hid (HFd.out.keep hb)
      have HRd3 := Lib.hid (HRd2.out.keep hb)
      have HB12 := Lib.hid (show Below wd1.heap.size wd1 wd3 from HB12a.out.trans (hb.mono HB12a.out.size))
      have HYd := Lib.hid (hy.base HB12a.out.size)
      have HB3d := Lib.hid (Below.tr HB2d.out hb)
      have HS3d := Lib.hid (blk_keep2 HS2d.out hb)
      clear hy hb
      go_simp
      refine hK _ _ HS3d.out ?_
      clear hK K2
      refine wpAnyH_ready (rs := [6]) (by kernel_rfl) (by simp) ?_
      refine RdyH.cons rfl (fun K2 hK => ?_) RdyH.nil
      obtain ⟨wd4, hwd⟩ : ∃ x, x = wd3.alloc (.cells #[.int .i64 r, .slice y1 y2 y3] 50) := ⟨_, rfl⟩
      have hb : Below wd3.heap.size wd3 wd4 := by rw [hwd]; exact below_alloc _ _
      obtain ⟨bm, hbm⟩ : ∃ x, x = wd3.heap.size := ⟨_, rfl⟩
      have HK := Lib.hid (show wd4.heap[bm]? = some (.cells #[.int .i64 r, .slice y1 y2 y3] 50 (0, 0)) from by rw [hwd, hbm]; exact heap_alloc_new _ _)
      have HFd3 := Lib.hid (HFd2.out.keep hb)
      have HRd4 := Lib.hid (HRd3.out.keep hb)
      have HYd2 := Lib.hid (HYd.out.keep hb)
      have HB14 := Lib.hid (show Below wd1.heap.size wd1 wd4 from HB12.out.trans (hb.mono HB12.out.size))
      have HB4d := Lib.hid (Below.tr HB3d.out hb)
      have HS4d := Lib.hid (blk_keep2 HS3d.out hb)
      go_simp
      rw [← hwd, ← hbm]
      clear hwd hbm hb
      refine hK _ _ HS4d.out ?_
      clear hK K2
      refine wpAnyH_ready (rs := [7]) (by kernel_rfl) (by simp) ?_
      refine RdyH.cons rfl (fun K2 hK => ?_) RdyH.nil
      obtain ⟨vs, s1, s2, s3⟩ := HFd3.out
      have hl2 : fs.length + 1 ≤ 100000000000 := by have := HV.out.f20; omega
      refine step_append_own_g rfl (.tmp 35) (.tmp 38) 39 rfl elemFacts rfl s2 (m := 1) [.int .i64 r, .slice y1 y2 y3] rfl rfl (fun k y hk => aCell HK.out k (by simpa using hk)) (by intro u hu; simp at hu; rcases hu with rfl | rfl <;> rfl) hl2 HB14.out.size ?_
      intro v9 wd5 h1 h2 h3
      have HGd := Lib.hid (show OwnAtoms 50 wd1.heap.size wd5 v9 (fs ++ [(r, A.take 5)]) from OwnAtoms.snoc factNotInt s1 s2 s3 HYd2.out h3 h1)
      have HRd5 := Lib.hid (show Rules wd5 (.slice p1 p2 p3) l from HRd.out.keep (show Below wd1.heap.size wd1 wd5 from HB14.out.trans h2))
      have HB5d := Lib.hid (show Below w6.heap.size w6 wd5 from HB1d.out.trans ((HB14.out.trans h2).mono HB1d.out.size))
      have hb5' := (HB14.out.trans h2).block b5 (Array.getElem?_eq_some_iff.1 HS1d.out).1
      have HS5d := Lib.hid (hb5'.trans HS1d.out)
      obtain ⟨z1, z2, z3, rfl⟩ := row_slice h1
      clear s1 s2 s3 h1 h2 h3 hb5' hl2
      refine hK _ _ HS5d.out ?_
      clear hK K2
      refine wpAnyH_ready (rs := [8]) (by kernel_rfl) (by simp) ?_
      refine RdyH.cons rfl (fun K2 hK => ?_) RdyH.nil
      have HC := Lib.hid (Model_any l (fs ++ [(r, A.take 5)]) _ _ wd5 HRd5.out HGd.out.atoms)
      go_simp
      go_at_call 28
      refine HC.out.mono ?_
      clear HC
      rintro e wd6 ⟨hm, hb⟩
      have HB6d := Lib.hid (Below.tr HB5d.out hb)
      have HS6d := Lib.hid (blk_keep2 HS5d.out hb)
      have hm : (e = .returned (.tuple #[.slice none 0 0, .int .i64 2])) ∨ ∃ (a : Option Addr) (n c : Nat) (ds : List RAt), e = .returned (.tuple #[.slice a n c, .int .i64 0]) ∧ Atoms wd6 (.slice a n c) ds ∧ (∀ f, f ∈ cs → f ∈ ds) ∧ ((r, A) : RAt) ∈ ds := by
        rcases hm with ⟨_, h⟩ | ⟨_, h, _⟩ | ⟨hv2, L2, a, n, c, ds, h1, h2, h3, h4⟩
        · exact .inl h
        · exact absurd h (plain_str HV.out.ats HPl.out)
        · have hL := str_unique h1 HSt.out
          subst hL
          refine .inr ⟨a, n, c, ds, h2, h3.atoms, fun f hf => (h4.mem f).2 (mlv_more HPl.out (fun g hg => List.mem_append_left _ hg) 6 f ((HSr.out.mem f).1 hf)), ?_⟩
          have hfr := hv2.fcs (r, A.take 5) (by simp)
          have hA : A.take 5 = A := List.take_of_length_le (by
            have h1 : (A.take 5).length ≤ 2 := hfr.2.1.2
            rw [List.length_take] at h1
            omega)
          rw [← hA]
          exact (h4.mem _).2 (mlv_le (s := 0) (show (r, A.take 5) ∈ fs ++ [(r, A.take 5)] from by simp) 6)
      clear hb
      rcases hm with rfl | ⟨qa, qn, qc, ds, rfl, had, hsub, hmem⟩
      · go_simp
        refine hK _ _ HS6d.out ?_
        clear hK K2
        refine wpAnyH_take (i := 9) (v := ?_) rfl (by kernel_rfl) (by kernel_rfl) (by kernel_rfl) (fun _ _ _ h => h) (Or.inl ⟨by rfl, ?_⟩) HS6d.out ?_
        rotate_left
        focus (intro w hS; clear hS; first | (go_simp; done) | (go_simp; with_reducible rfl))
        simp only [Act.put, List.getElem_toArray, List.getElem_cons_zero, List.getElem_cons_succ, List.setIfInBounds_toArray, List.set_cons_zero, List.set_cons_succ]
        refine wpAnyH_take (i := 10) (v := ?_) rfl (by kernel_rfl) (by kernel_rfl) (by kernel_rfl) (fun _ _ _ h => h) (Or.inl ⟨by rfl, ?_⟩) HS6d.out ?_
        rotate_left
        focus (intro w hS; clear hS; first | (go_simp; done) | (go_simp; with_reducible rfl))
        simp only [Act.put, List.getElem_toArray, List.getElem_cons_zero, List.getElem_cons_succ, List.setIfInBounds_toArray, List.set_cons_zero, List.set_cons_succ]
        refine wpAnyH_take (i := 11) (v := ?_) rfl (by kernel_rfl) (by kernel_rfl) (by kernel_rfl) (fun _ _ _ h => h) (Or.inl ⟨by rfl, ?_⟩) HS6d.out ?_
        rotate_left
        focus (intro w hS; clear hS; first | (go_simp; done) | (go_simp; with_reducible rfl))
        simp only [Act.put, List.getElem_toArray, List.getElem_cons_zero, List.getElem_cons_succ, List.setIfInBounds_toArray, List.set_cons_zero, List.set_cons_succ]
        refine wpAnyH_take (i := 12) (v := ?_) rfl (by kernel_rfl) (by kernel_rfl) (by kernel_rfl) (fun _ _ _ h => h) (Or.inl ⟨by rfl, ?_⟩) HS6d.out ?_
        rotate_left
        focus (intro w hS; clear hS; first | (go_simp; done) | (go_simp; with_reducible rfl))
        simp only [Act.put, List.getElem_toArray, List.getElem_cons_zero, List.getElem_cons_succ, List.setIfInBounds_toArray, List.set_cons_zero, List.set_cons_succ]
        refine wpAnyH_take (i := 13) (v := ?_) rfl (by kernel_rfl) (by kernel_rfl) (by kernel_rfl) (fun _ _ _ h => h) (Or.inl ⟨by rfl, ?_⟩) HS6d.out ?_
        rotate_left
        focus (intro w hS; clear hS; first | (go_simp; done) | (go_simp; with_reducible rfl))
        simp only [Act.put, List.getElem_toArray, List.getElem_cons_zero, List.getElem_cons_succ, List.setIfInBounds_toArray, List.set_cons_zero, List.set_cons_succ]
        refine wpAnyH_done (by kernel_rfl) ?_ _
        go_wp2_with fail
        refine (awake_any _).mono ?_
        rintro e w9 ⟨rfl, hb9⟩
        have HB9 := Lib.hid (show Below w.heap.size w w9 from Below.tr (Below.tr HB6.out HB6d.out) hb9)
        clear hb9
        go_wp2_with fail
        go_ret
        exact ⟨rfl, HB9.out⟩
      · have HAd := Lib.hid had
        have HSub := Lib.hid hsub
        have HMem := Lib.hid hmem
        clear had hsub hmem
        go_simp
        refine hK _ _ HS6d.out ?_
        clear hK K2
        refine wpAnyH_take (i := 9) (v := ?_) rfl (by kernel_rfl) (by kernel_rfl) (by kernel_rfl) (fun _ _ _ h => h) (Or.inl ⟨by rfl, ?_⟩) HS6d.out ?_
        rotate_left
        focus (intro w hS; clear hS; first | (go_simp; done) | (go_simp; with_reducible rfl))
        simp only [Act.put, List.getElem_toArray, List.getElem_cons_zero, List.getElem_cons_succ, List.setIfInBounds_toArray, List.set_cons_zero, List.set_cons_succ]
        refine wpAnyH_take (i := 10) (v := ?_) rfl (by kernel_rfl) (by kernel_rfl) (by kernel_rfl) (fun _ _ _ h => h) (Or.inl ⟨by rfl, ?_⟩) HS6d.out ?_
        rotate_left
        focus (intro w hS; clear hS; first | (go_simp; done) | (go_simp; with_reducible rfl))
        simp only [Act.put, List.getElem_toArray, List.getElem_cons_zero, List.getElem_cons_succ, List.setIfInBounds_toArray, List.set_cons_zero, List.set_cons_succ]
        refine wpAnyH_take (i := 11) (v := ?_) rfl (by kernel_rfl) (by kernel_rfl) (by kernel_rfl) (fun _ _ _ h => h) (Or.inl ⟨by rfl, ?_⟩) HS6d.out ?_
        rotate_left
        focus (intro w hS; clear hS; first | (go_simp; done) | (go_simp; with_reducible rfl))
        simp only [Act.put, List.getElem_toArray, List.getElem_cons_zero, List.getElem_cons_succ, List.setIfInBounds_toArray, List.set_cons_zero, List.set_cons_succ]
        refine wpAnyH_take (i := 12) (v := ?_) rfl (by kernel_rfl) (by kernel_rfl) (by kernel_rfl) (fun _ _ _ h => h) (Or.inl ⟨by rfl, ?_⟩) HS6d.out ?_
        rotate_left
        focus (intro w hS; clear hS; first | (go_simp; done) | (go_simp; with_reducible rfl))
        simp only [Act.put, List.getElem_toArray, List.getElem_cons_zero, List.getElem_cons_succ, List.setIfInBounds_toArray, List.set_cons_zero, List.set_cons_succ]
        refine wpAnyH_take (i := 13) (v := ?_) rfl (by kernel_rfl) (by kernel_rfl) (by kernel_rfl) (fun _ _ _ h => h) (Or.inl ⟨by rfl, ?_⟩) HS6d.out ?_
        rotate_left
        focus (intro w hS; clear hS; first | (go_simp; done) | (go_simp; with_reducible rfl))
        simp only [Act.put, List.getElem_toArray, List.getElem_cons_zero, List.getElem_cons_succ, List.setIfInBounds_toArray, List.set_cons_zero, List.set_cons_succ]
        refine wpAnyH_done (by kernel_rfl) ?_ _
        have HA9 := Lib.hid (HA6.out.keep HB6d.out)
        obtain ⟨ga, gb, goff, gcap, gvs, hge, _, hgi, _, hgc⟩ := Atoms.get HA9.out
        injection hge with e1 e2 e3
        subst e1 e3
        have Hgn := Lib.hid e2
        have HixG := Lib.hid (run_ix (P := Try.prog) (t := 39) (a := a6) (len := n6) (cap := c6) (b := gb) (off := goff) (s := 2) Try.underlying39 (by intro w; kernel_rfl) (by rw [e2]; exact hgi))
        have HcG := Lib.hid hgc
        have hn6 : n6 ≤ 9223372036854775807 := by
          obtain ⟨_, _, _, _, _, h1, h2, _⟩ := Atoms.get HA9.out
          rw [e2]; exact h2
        have hs9 := HS6d.out
        have HBw := Lib.hid (Below.tr HB6.out HB6d.out)
        clear hgi hgc e2
        generalize wd6 = w9 at *
        go_wp2_with fail
        go_loopw [60] (fun vi wr => ∃ i : Nat, vi = .int .i64 i ∧ i ≤ n6 ∧ Below w9.heap.size w9 wr) (fun vi _ => n6 - (intOf vi).toNat)
        case atStart => exact ⟨0, rfl, Nat.zero_le _, Below.refl _ _⟩
        case round =>
          generalize wr = wx at *
          obtain ⟨i, rfl, hi, hb⟩ := hrel
          have HBx := Lib.hid hb
          clear hb
          by_cases hlt : i < n6
          · have hlt2 : i < cs.length := by rw [← Hgn.out]; exact hlt
            obtain ⟨q0, q1, q2⟩ := HcG.out i hlt2
            have q0 := Below.keep HBx.out q0
            have q1 := Below.keep HBx.out q1
            have q2 := Ints.keep q2 HBx.out
            have hixi := HixG.out i
            have HMf := Lib.hid (show cs.getD i (0, []) ∈ cs from getA_mem hlt2)
            unfold aR at q0
            unfold aA at q2
            obtain ⟨⟨s, C⟩, hf⟩ : ∃ x, x = cs.getD i (0, []) := ⟨_, rfl⟩
            rw [← hf] at q0 q2 HMf
            simp only at q0 q2
            obtain ⟨xa, xc, hxs⟩ := ints_slice q2
            rw [hxs] at q1 q2
            obtain ⟨xn, hxn⟩ : ∃ x, x = C.length := ⟨_, rfl⟩
            rw [← hxn] at q1 q2
            obtain ⟨w3, hw3⟩ : ∃ x, x = wx.alloc (.cells #[.int .i64 s, .slice xa xn xc] 50) := ⟨_, rfl⟩
            have hb3 : Below wx.heap.size wx w3 := by rw [hw3]; exact below_alloc _ _
            obtain ⟨bx, hbx⟩ : ∃ x, x = wx.heap.size := ⟨_, rfl⟩
            have HXx := Lib.hid (show w3.heap[bx]? = some (.cells #[.int .i64 s, .slice xa xn xc] 50 (0, 0)) from by rw [hw3, hbx]; exact heap_alloc_new _ _)
            have HB3 := Lib.hid (Below.tr HBx.out hb3)
            have HC := Lib.hid (within_any s C (.slice xa xn xc) ds (.slice qa qn qc) w3 (q2.keep hb3) (HAd.out.keep (Below.tr HBx.out hb3)) true ⟨fun _ => HSub.out _ HMf.out, fun _ => rfl⟩)
            have Hw3 := Lib.hid hw3
            have Hbx := Lib.hid hbx
            clear hf hxs hxn hw3 hb3 hbx hlt2 q2
            go_upto_region 10 with fail
            rw [← Hw3.out, ← Hbx.out]
            clear Hw3 q0 q1 hixi
            have g0 := aCell HXx.out 0 rfl
            have g1 := aCell HXx.out 1 rfl
            go_wp2_with fail
            refine HC.out.mono ?_
            clear HC
            rintro e w4 ⟨rfl, hb4⟩
            have HB4 := Lib.hid (Below.tr HB3.out hb4)
            clear hb4 g0 g1
            go_wp2_with fail
            go_roundw
            case rel => exact ⟨i + 1, by go_num, by omega, HB4.out⟩
            case measure => simp [intOf]; omega
          · obtain rfl : n6 = i := by omega
            have hX9 := blk_keep2 hs9 HBx.out
            have g0 := aCell hX9 0 rfl
            have g1 := aCell hX9 1 rfl
            have HC := Lib.hid (within_any r A (.slice ua un uc) ds (.slice qa qn qc) wx ((HU.out.keep HBw.out).keep HBx.out) (HAd.out.keep HBx.out) true ⟨fun _ => HMem.out, fun _ => rfl⟩)
            clear hX9
            go_wp2_with fail
            refine HC.out.mono ?_
            clear HC
            rintro e w4 ⟨rfl, hb4⟩
            have HB4 := Lib.hid (Below.tr (Below.tr HBw.out HBx.out) hb4)
            clear hb4 g0 g1
            go_wp2_with fail
            refine (awake_any _).mono ?_
            rintro e w5 ⟨rfl, hb5⟩
            have HB5 := Lib.hid (Below.tr HB4.out hb5)
            clear hb5
            go_wp2_with fail
            go_ret
            exact ⟨rfl, HB5.out⟩
    · have HC := Lib.hid (ValidR_any l fs _ _ w2 (HR.out.keep HB2.out) (HF.out.keep HB2.out) false ⟨fun h => (by cases h), fun h => absurd h hv⟩)
      clear hv
      go_wp2_with fail
      refine HC.out.mono ?_
      clear HC
      rintro e w3 ⟨rfl, hb3⟩
      have HB3 := Lib.hid (Below.tr HB2.out hb3)
      clear hb3
      go_wp2_with fail
      refine (awake_any _).mono ?_
      rintro e w4 ⟨rfl, hb4⟩
      have HB4 := Lib.hid (Below.tr HB3.out hb4)
      clear hb4
      go_wp2_with fail
      go_ret
      exact ⟨rfl, HB4.out⟩
  · have HC := Lib.hid (Plain_any l _ w1 (HR.out.keep HB1.out) false ⟨fun h => (by cases h), fun h => absurd h hp⟩)
    clear hp
    go_wp2_with fail
    refine HC.out.mono ?_
    clear HC
    rintro e w2 ⟨rfl, hb2⟩
    have HB2 := Lib.hid (Below.tr HB1.out hb2)
    clear hb2
    go_wp2_with fail
    refine (awake_any _).mono ?_
    rintro e w3 ⟨rfl, hb3⟩
    have HB3 := Lib.hid (Below.tr HB2.out hb3)
    clear hb3
    go_wp2_with fail
    go_ret
    exact ⟨rfl, HB3.out⟩
#print axioms more_any
namespace rulesMore
open Go.ChangeShapes Go.WideShapes Go.ChangeAt
set_option maxRecDepth 100000 in
theorem lifted (os : Os) (started : os.Started) (H : Type) (enc : TypeId × Value → H) :
    ReturnsInHanded {} Try.checked os 10 .any (Rows.rulesMoreSpec.pre6 enc Try.prog Try.f10 Rows.rulesMoreRow.domain false) (Rows.rulesMoreSpec.post enc Try.prog Try.f10 false true false false) := by
  refine returnsInHanded_of_change (C := Try.checked) Try.own started (by kernel_rfl) Try.func10
    (ChangeSpec.witness6 (enc := enc) (C := Try.checked) false ⟨#[], #[.slice none 0 0, .slice none 0 0, .agg #[.int .i64 0, .slice none 0 0]], []⟩ 8 (by kernel_rfl) (by kernel_rfl) (by kernel_rfl) (by kernel_rfl)) ?_
  intro W base args ds gs before hval0 hW _ _
  have hval : ∀ (j : Nat) t v, Try.f10.params[j]? = some t → args[j]? = some v → Value.okWide Try.prog W .any base t v := hval0
  clear hval0
  obtain rfl : gs = [] := by obtain ⟨p, q, _, hV, _⟩ := hW; exact (trodVars_none hV).1
  have hW' := hW
  obtain ⟨p, q, hA0, hV, rfl, hfz, hnd⟩ := hW
  have hA : DataW.TrodAll enc Try.prog W 0 (fun _ => true) true Try.f10.params.toList args.toList ds p := hA0
  rw [Try.params10] at hA hval
  obtain ⟨v0, vs0, d0, ds0, p0, q0, hv0, hd0, hp0, h0, r0⟩ := trodAll_cons hA
  obtain ⟨v1, vs1, d1, ds1, p1, q1, hv1, hd1, hp1, h1, r1⟩ := trodAll_cons r0
  obtain ⟨v2, vs2, d2, ds2, p2, q2, hv2, hd2, hp2, h2, r2⟩ := trodAll_cons r1
  obtain ⟨hvn, hdn, hpn⟩ := trodAll_nil r2
  have ha : args = #[v0, v1, v2] := by cases args; simp_all
  have hdd : ds = [d0, d1, d2] := by simp_all
  rw [ha] at hval
  obtain ⟨a0, k0⟩ := rules_of_trod Try.underlying22 Try.underlying86 ⟨rfl, rfl⟩ ⟨rfl, rfl⟩ Try.underlying84 (by kernel_rfl) Try.underlying88 ⟨rfl, rfl⟩ ⟨rfl, rfl⟩ Try.underlying4 (by kernel_rfl) Try.underlying83 ⟨rfl, rfl⟩ ⟨rfl, rfl⟩ Try.underlying3 Try.underlying23 (by kernel_rfl) (by kernel_rfl) (by kernel_rfl) (by kernel_rfl) (by kernel_rfl) (okWide_slice Try.underlying22 (hval 0 22 v0 rfl rfl)) h0
  obtain ⟨a1, k1⟩ := atoms_of_trod Try.underlying39 Try.underlying50 ⟨rfl, rfl⟩ ⟨rfl, rfl⟩ Try.underlying3 Try.underlying23 (by kernel_rfl) (by kernel_rfl) (by kernel_rfl) (okWide_slice Try.underlying39 (hval 1 39 v1 rfl rfl)) h1
  obtain ⟨a2, u2, e2, k2⟩ := fct_arg Try.underlying50 ⟨rfl, rfl⟩ ⟨rfl, rfl⟩ Try.underlying3 Try.underlying23 (by kernel_rfl) (by kernel_rfl) (by kernel_rfl) (hval 2 50 v2 rfl rfl) h2
  have hw : Calls Try.prog 10 args W (fun e W' => e = .returned (.bool true) ∧ Below W.heap.size W W') := by
    rw [ha, e2]; exact more_any a0 a1 a2.1 a2.2 v0 v1 u2 W k0 k1 k2
  exact hw.mono fun e W' ⟨he, hb⟩ => ⟨_, he, law_post Try.laidOut hW' rfl rfl Try.underlying4 (by rw [hdd]; rfl)
    (by kernel_rfl) hb⟩

theorem holds : Rows.RulesMoreSaid :=
  OpenClaim.holds_of_wide 10 Try.f10 rfl rfl rfl rfl rfl rfl rfl ⟨rfl, rfl, rfl, rfl, rfl⟩ rfl rfl rfl rfl rfl (by kernel_rfl) Try.func10 (by kernel_rfl)
    (of_decide_eq_true (by kernel_rfl)) (by unfold Func.isWrapper; first | (rw [if_pos (by decide +kernel)]; kernel_rfl) | (rw [if_neg (by decide +kernel)]; exact ⟨rfl, rfl⟩))
    (fun os started H enc _ => lifted os started H enc)
end rulesMore

