/- Contract of Facts of the laws: facts are copied (match's text over the seat of rules). -/
import Derived.Test.YthndplkjhbmfmaaRls
import Derived.Test.YthndplkjhbmfmaaFew
import Derived.Test.YthndplkjhbmfmaaRws
import Derived.Test.YthndplkjhbmfmaaHeld
namespace Go.Proofs.Ythndplkjhbmfmaa
open Go.RowKit
/-- what Facts copies -/
def ofA (a : HAt) : HAt := (a.1, a.2.take 9)
def ofF (l : List HAt) : List HAt := (l.take 26).map ofA
set_option maxRecDepth 100000 in
set_option maxHeartbeats 16000000 in
theorem factsL_any (l : List HAt) (v : Value) (w : World) (hu : Atoms w v l) :
    Calls Try.prog 29 #[v] w fun e w' => ∃ v', e = .returned v' ∧ OwnAtoms 50 w.heap.size w' v' (ofF l) ∧ Below w.heap.size w w' := by
  obtain ⟨a, b, off, cap, vs, rfl, hle, ha, hcap, hc⟩ := Atoms.get hu
  have Hix := Lib.hid (run_ix (P := Try.prog) (t := 39) (a := a) (len := l.length) (cap := cap) (b := b) (off := off) (s := 2) Try.underlying39 (by intro w; kernel_rfl) ha)
  have Hc := Lib.hid hc
  have HFa := Lib.hid (fun (l : List Int) (u : Value) (w : World) (hu : Ints w u l) => fewQ_any l u w hu)
  clear hu ha hc hcap
  go_enter Try.func29, Try.ntmps29
  go_wp2_with fail
  go_loopw [3, 8] (fun o vi wr => ∃ k : Nat, vi = .int .i64 k ∧ k ≤ l.length ∧ k ≤ 26 ∧ Below w.heap.size w wr ∧ OwnAtoms 50 w.heap.size wr o ((l.take k).map ofA)) (fun _ vi _ => l.length - (intOf vi).toNat)
  case atStart => exact ⟨0, rfl, Nat.zero_le _, by omega, Below.refl _ _, ownAtoms_nil _ _ _⟩
  case round =>
    obtain ⟨k, rfl, hk, hk26, hb, ho⟩ := hrel
    have Hb := Lib.hid hb
    have HO := Lib.hid ho
    clear hb ho
    obtain ⟨oa, oc, rfl⟩ := Atoms.own HO.out
    by_cases hlt : k < l.length
    · have hc1 := Below.keep Hb.out (Hc.out k hlt).1
      have hc2 := Below.keep Hb.out (Hc.out k hlt).2.1
      have hi := Ints.keep (Hc.out k hlt).2.2 Hb.out
      have hixk := Hix.out k
      obtain ⟨ua, uc, hu⟩ := ints_slice hi
      rw [hu] at hc2 hi
      clear hu
      have HT := Lib.hid (show (l.take (k + 1)).map ofA = (l.take k).map ofA ++ [(aR l k, (aA l k).take 9)] from by rw [List.take_succ_eq_append_getElem hlt, List.map_append, at_get hlt]; rfl)
      obtain ⟨r, hr⟩ : ∃ t, t = aR l k := ⟨_, rfl⟩
      obtain ⟨A, hA⟩ : ∃ t, t = aA l k := ⟨_, rfl⟩
      rw [← hr, ← hA] at HT
      rw [← hr] at hc1
      rw [← hA] at hc2 hi
      clear hr hA
      have hml := hi.2.1
      have hcp := Ints.cap hi
      obtain ⟨w4, hw4⟩ : ∃ w4, w4 = wr.alloc (.cells #[.int .i64 r, .slice ua A.length uc] 50) := ⟨_, rfl⟩
      have hb4 : Below wr.heap.size wr w4 := by rw [hw4]; exact below_alloc _ _
      by_cases h7 : k < 26
      · have q7 : ¬ (k : Int) > 25 := by omega
        have hlen : ((l.take k).map ofA).length ≤ 26 := by rw [List.length_map, List.length_take]; omega
        obtain ⟨xs, hxs⟩ : ∃ xs, xs = (l.take k).map ofA := ⟨_, rfl⟩
        rw [← hxs] at HO HT hlen ⊢
        clear hxs
        obtain ⟨bb, hbb⟩ : ∃ bb, bb = wr.heap.size := ⟨_, rfl⟩
        have HS := Lib.hid (show w4.drew.heap[bb]? = some (.cells #[.int .i64 r, .slice ua A.length uc] 50 (0, 0)) from by rw [hw4, hbb]; exact heap_alloc_new wr _)
        have HB4 := Lib.hid (show Below w.heap.size w w4.drew from (Below.tr Hb.out hb4).drew)
        have HO4 := Lib.hid (show OwnAtoms 50 w.heap.size w4.drew (.slice oa xs.length oc) xs from (HO.out.keep hb4).keep (Below.refl _ _).drew)
        have Hi4 := Lib.hid (show Ints w4.drew (.slice ua A.length uc) A from (hi.keep hb4).keep (Below.refl _ _).drew)
        have HNB := Lib.hid (show ∀ g, (Value.slice oa xs.length oc).ownBlock = some g → g < bb from fun g hg => by
          obtain ⟨vs1, e1, e2, e3⟩ := HO.out
          rw [hbb]; exact (own_lt e2 hg).2)
        have Hw4 := Lib.hid hw4
        clear hw4 hi hb4 HO
        go_upto_region 6 with fail
        rw [← Hw4.out, ← hbb]
        clear Hw4 hc1 hc2 hixk hbb
        refine wp_region_held (S := fun w' => w'.heap[bb]? = some (.cells #[.int .i64 r, .slice ua A.length uc] 50 (0, 0))) wideK ?_
        change wpAnyH _ _ _ _ _ _ _ _ (World.drew _)
        generalize w4.drew = w5 at *
        refine wpAnyH_take (i := 0) (v := ?_) rfl (by kernel_rfl) (by kernel_rfl) (by kernel_rfl) (fun _ _ _ h => h) (Or.inl ⟨by rfl, ?_⟩) HS.out ?_
        rotate_left
        focus (intro w hS; clear hS; first | (go_simp; done) | (go_simp; with_reducible rfl))
        simp only [Act.put, List.getElem_toArray, List.getElem_cons_zero, List.setIfInBounds_toArray, List.set_cons_zero, List.set_cons_succ]
        refine wpAnyH_take (i := 1) (v := ?_) rfl (by kernel_rfl) (by kernel_rfl) (by kernel_rfl) (fun _ _ _ h => h) (Or.inl ⟨by rfl, ?_⟩) HS.out ?_
        rotate_left
        focus (intro w hS; clear hS; first | (go_simp; done) | (go_simp; with_reducible rfl))
        simp only [Act.put, List.getElem_toArray, List.getElem_cons_zero, List.getElem_cons_succ, List.setIfInBounds_toArray, List.set_cons_zero, List.set_cons_succ]
        refine wpAnyH_take (i := 2) (v := ?_) rfl (by kernel_rfl) (by kernel_rfl) (by kernel_rfl) (fun _ _ _ h => h) (Or.inl ⟨by rfl, ?_⟩) HS.out ?_
        rotate_left
        focus (intro w hS; have s0 := aCell hS 0 rfl; clear hS; first | (go_simp; done) | (go_simp; with_reducible rfl))
        simp only [Act.put, List.getElem_toArray, List.getElem_cons_zero, List.getElem_cons_succ, List.setIfInBounds_toArray, List.set_cons_zero, List.set_cons_succ]
        refine wpAnyH_take (i := 3) (v := ?_) rfl (by kernel_rfl) (by kernel_rfl) (by kernel_rfl) (fun _ _ _ h => h) (Or.inl ⟨by rfl, ?_⟩) HS.out ?_
        rotate_left
        focus (intro w hS; clear hS; first | (go_simp; done) | (go_simp; with_reducible rfl))
        simp only [Act.put, List.getElem_toArray, List.getElem_cons_zero, List.getElem_cons_succ, List.setIfInBounds_toArray, List.set_cons_zero, List.set_cons_succ]
        refine wpAnyH_take (i := 4) (v := ?_) rfl (by kernel_rfl) (by kernel_rfl) (by kernel_rfl) (fun _ _ _ h => h) (Or.inl ⟨by rfl, ?_⟩) HS.out ?_
        rotate_left
        focus (intro w hS; have s0 := aCell hS 1 rfl; clear hS; first | (go_simp; done) | (go_simp; with_reducible rfl))
        simp only [Act.put, List.getElem_toArray, List.getElem_cons_zero, List.getElem_cons_succ, List.setIfInBounds_toArray, List.set_cons_zero, List.set_cons_succ]
        refine wpAnyH_ready (rs := [5]) (by kernel_rfl) (by simp) ?_
        refine RdyH.cons rfl (fun K2 hK => ?_) RdyH.nil
        go_simp
        go_at_call 76
        refine (HFa.out A (.slice ua A.length uc) _ Hi4.out).mono ?_
        rintro e w6 ⟨u, rfl, hu, hb⟩
        obtain ⟨na, nn, nc, rfl⟩ := own_slice hu
        have HO6 := Lib.hid (HO4.out.keep hb)
        have HS6 := Lib.hid (blk_keep2 HS.out hb)
        have HB6 := Lib.hid (Below.tr HB4.out hb)
        have HU := Lib.hid (OwnInts.base hu HB4.out.size)
        clear hu hb
        go_simp
        refine hK _ _ HS6.out ?_
        clear hK K2
        refine wpAnyH_take (i := 6) (v := ?_) rfl (by kernel_rfl) (by kernel_rfl) (by kernel_rfl) (fun _ _ _ h => h) (Or.inl ⟨by rfl, ?_⟩) HS6.out ?_
        rotate_left
        focus (intro w hS; clear hS; first | (go_simp; done) | (go_simp; with_reducible rfl))
        simp only [Act.put, List.getElem_toArray, List.getElem_cons_zero, List.getElem_cons_succ, List.setIfInBounds_toArray, List.set_cons_zero, List.set_cons_succ]
        refine wpAnyH_ready (rs := [7]) (by kernel_rfl) (by simp) ?_
        refine RdyH.cons rfl (fun K2 hK => ?_) RdyH.nil
        have bn := below_alloc w6 (.cells #[.int .i64 r, .slice na nn nc] 50)
        have HO7 := Lib.hid (HO6.out.keep bn)
        have HS7 := Lib.hid (blk_keep2 HS6.out bn)
        have HB7 := Lib.hid (Below.tr HB6.out bn)
        have HU2 := Lib.hid (HU.out.keep bn)
        clear bn
        go_simp
        refine hK _ _ HS7.out ?_
        clear hK K2
        refine wpAnyH_ready (rs := [8]) (by kernel_rfl) (by simp) ?_
        refine RdyH.cons rfl (fun K2 hK => ?_) RdyH.nil
        obtain ⟨vs1, e1, e2, e3⟩ := HO7.out
        refine step_append_own_g rfl (.tmp 15) (.tmp 22) 39 rfl elemFacts rfl e2 [.int .i64 r, .slice na nn nc] rfl rfl ?c1 ?c2 ?c3 ?c4 ?_
        case c1 => intro j u hj; rw [cell_new]; simpa using hj
        case c2 => intro u hu; simp at hu; rcases hu with rfl | rfl <;> rfl
        case c3 => omega
        case c4 => exact HB7.out.size
        intro v' w8 h1 h2 hg
        have HO8 := Lib.hid (OwnAtoms.snoc factNotInt e1 e2 e3 HU2.out hg h1)
        have HB8 := Lib.hid (HB7.out.trans h2)
        have HS8 := Lib.hid ((hg.block bb (Array.getElem?_eq_some_iff.1 HS7.out).1 (fun e => Nat.lt_irrefl _ (HNB.out bb e.symm))).trans HS7.out)
        clear h1 h2 hg e1 e2 e3
        go_simp
        refine hK _ _ HS8.out ?_
        clear hK K2
        refine wpAnyH_take (i := 9) (v := ?_) rfl (by kernel_rfl) (by kernel_rfl) (by kernel_rfl) (fun _ _ _ h => h) (Or.inl ⟨by rfl, ?_⟩) HS8.out ?_
        rotate_left
        focus (intro w hS; clear hS; first | (go_simp; done) | (go_simp; with_reducible rfl))
        simp only [Act.put, List.getElem_toArray, List.getElem_cons_zero, List.getElem_cons_succ, List.setIfInBounds_toArray, List.set_cons_zero, List.set_cons_succ]
        refine wpAnyH_done (by kernel_rfl) ?_ _
        go_wp2_with fail
        go_roundw
        case rel => exact ⟨k + 1, by go_num, by omega, by omega, HB8.out, by rw [HT.out]; exact HO8.out⟩
        case measure => simp [intOf]; omega
      · have R := Lib.hid (show OwnAtoms 50 w.heap.size w4 (.slice oa ((l.take k).map ofA).length oc) (ofF l) from by
          have e : (l.take k).map ofA = ofF l := by unfold ofF; rw [show k = 26 by omega]
          have := HO.out.keep hb4
          rw [e] at this ⊢; exact this)
        have q7 : (k : Int) > 25 := by omega
        have HB := Lib.hid (Below.tr Hb.out hb4)
        have Hw4 := Lib.hid hw4
        clear hb4 hw4 hi HO
        go_upto_region 8 with fail
        rw [← Hw4.out]
        clear Hw4 hc1 hc2 hixk
        go_wp2_with fail
        go_ret
        exact ⟨_, rfl, R.out, HB.out⟩
    · obtain rfl : k = l.length := by omega
      have R := Lib.hid (show OwnAtoms 50 w.heap.size wr (.slice oa ((l.take l.length).map ofA).length oc) (ofF l) from by
        have e : (l.take l.length).map ofA = ofF l := by unfold ofF; rw [List.take_length, List.take_of_length_le hk26]
        have := HO.out
        rw [e] at this ⊢; exact this)
      go_wp2_with fail
      go_ret
      exact ⟨_, rfl, R.out, Hb.out⟩
#print axioms factsL_any
end Go.Proofs.Ythndplkjhbmfmaa
