/- Contract of SnapshotOrder. -/
import Derived.Test.YtpehbffkplmfjaaSnh
namespace Go.Proofs.Ytpehbffkplmfjaa
open Go.RowKit
/-- the edges under snapshots -/
def snEd (h : List NOp) : Nat → Nat := seT h (snW h h.length) (snR h h.length) (comN h 7) (comN h 7).length
/-- the first order under snapshots -/
def snOrd (h : List NOp) : Option (List Nat) := fo (snEd h) (comN h 7).length (comN h 7) []
set_option maxRecDepth 100000 in
set_option maxHeartbeats 4000000 in
theorem snOrder_bad {l : List HOp} (hn : ¬ ValidH l) (v : Value) (w : World) (hv : Ops w v l) :
    Calls Try.prog 33 #[v] w fun e w' => e = .returned (.tuple #[.slice none 0 0, .int .i64 2]) ∧ Below w.heap.size w w' := by
  have HV := Lib.hid (valid_any l v w hv)
  rw [decide_eq_false hn] at HV
  obtain ⟨a, c, rfl⟩ := ops_slice hv
  clear hv hn
  go_enter Try.func33, Try.ntmps33
  go_wp2_with fail
  refine HV.out.mono ?_
  rintro e w1 ⟨rfl, hb1⟩
  have Hb1 := Lib.hid hb1
  clear hb1
  go_wp2_with fail
  go_ret2
  exact ⟨rfl, Hb1.out⟩
set_option maxRecDepth 100000 in
set_option maxHeartbeats 8000000 in
theorem snOrder_not {h : List NOp} (hh : VH h) (hP : ¬ AllP h) (v : Value) (w : World) (hv : Ops w v (castO h)) :
    Calls Try.prog 33 #[v] w fun e w' => e = .returned (.tuple #[.slice none 0 0, .int .i64 7]) ∧ Below w.heap.size w w' := by
  have HV := Lib.hid (valid_any (castO h) v w hv)
  rw [decide_eq_true (valid_of hh)] at HV
  have HS := Lib.hid (fun (w' : World) (hb : Below w.heap.size w w') => snapshotsOf_any hh v w' (Ops.keep hv hb))
  have HW := Lib.hid (snW_lt hh h.length (Nat.le_refl _))
  have HR := Lib.hid (snR_lt hh h.length (Nat.le_refl _))
  have Hl := Lib.hid (comN_le h 7)
  have HF := Lib.hid (fun (be : Nat) (v : Value) (w : World) (hE : EdB w be (snEd h)) (hv : Ints w v (castN (comN h 7))) => firstOrder_any (seT_lt (fun x hx => comN_lt hx) _) (fun x hx => comN_lt hx) (by have := Hl.out; omega) v w hE hv)
  obtain ⟨a, c, rfl⟩ := ops_slice hv
  clear hv hh
  go_enter Try.func33, Try.ntmps33
  go_wp2_with fail
  refine HV.out.mono ?_
  rintro e w1 ⟨rfl, hb1⟩
  have Hb1 := Lib.hid hb1
  have HS1 := Lib.hid (HS.out w1 hb1)
  clear hb1 HV HS
  go_wp2_with fail
  refine HS1.out.mono ?_
  rintro e w2 ⟨b, u, rfl, _, hs, hi, hb2⟩
  have HA := Lib.hid (allowed_any hs hi (fun x hx => comN_lt hx) Hl.out HW.out)
  have Hb2 := Lib.hid (Below.tr Hb1.out hb2)
  have Hs := Lib.hid hs
  have Hi := Lib.hid hi
  clear hs hi hb2 HS1
  go_wp2_with fail
  refine HA.out.mono ?_
  rintro e w3 ⟨B, rfl, hB, hb3⟩
  have HB := Lib.hid hB
  have Hb3 := Lib.hid (Below.tr Hb2.out hb3)
  have Hs3 := Lib.hid (show SnB w3 b h _ _ u from Blk.keep Hs.out hb3)
  have Hi3 := Lib.hid (Ints.keep Hi.out hb3)
  clear hB hb3 HA
  cases B with
  | true => exact absurd (HB.out.1 rfl) hP
  | false =>
    go_wp2_with fail
    go_ret2
    exact ⟨rfl, Hb3.out⟩
set_option maxRecDepth 100000 in
set_option maxHeartbeats 8000000 in
theorem snOrder_all {h : List NOp} (hh : VH h) (hP : AllP h) (v : Value) (w : World) (hv : Ops w v (castO h)) :
    Calls Try.prog 33 #[v] w fun e w' => ∃ v', e = .returned (.tuple #[v', .int .i64 (if (snOrd h).isSome then 0 else 5)]) ∧ Ints w' v' (castN ((snOrd h).getD [])) ∧ Below w.heap.size w w' := by
  obtain ⟨E, hE⟩ : ∃ E : Int, E = if (snOrd h).isSome then (0 : Int) else 5 := ⟨_, rfl⟩
  rw [← hE]
  have HE := Lib.hid hE
  clear hE
  have HV := Lib.hid (valid_any (castO h) v w hv)
  rw [decide_eq_true (valid_of hh)] at HV
  have HS := Lib.hid (fun (w' : World) (hb : Below w.heap.size w w') => snapshotsOf_any hh v w' (Ops.keep hv hb))
  have HW := Lib.hid (snW_lt hh h.length (Nat.le_refl _))
  have HR := Lib.hid (snR_lt hh h.length (Nat.le_refl _))
  have Hl := Lib.hid (comN_le h 7)
  have HF := Lib.hid (fun (be : Nat) (v : Value) (w : World) (hE : EdB w be (snEd h)) (hv : Ints w v (castN (comN h 7))) => firstOrder_any (seT_lt (fun x hx => comN_lt hx) _) (fun x hx => comN_lt hx) (by have := Hl.out; omega) v w hE hv)
  obtain ⟨a, c, rfl⟩ := ops_slice hv
  clear hv hh
  go_enter Try.func33, Try.ntmps33
  go_wp2_with fail
  refine HV.out.mono ?_
  rintro e w1 ⟨rfl, hb1⟩
  have Hb1 := Lib.hid hb1
  have HS1 := Lib.hid (HS.out w1 hb1)
  clear hb1 HV HS
  go_wp2_with fail
  refine HS1.out.mono ?_
  rintro e w2 ⟨b, u, rfl, _, hs, hi, hb2⟩
  have HA := Lib.hid (allowed_any hs hi (fun x hx => comN_lt hx) Hl.out HW.out)
  have Hb2 := Lib.hid (Below.tr Hb1.out hb2)
  have Hs := Lib.hid hs
  have Hi := Lib.hid hi
  clear hs hi hb2 HS1
  go_wp2_with fail
  refine HA.out.mono ?_
  rintro e w3 ⟨B, rfl, hB, hb3⟩
  have HB := Lib.hid hB
  have Hb3 := Lib.hid (Below.tr Hb2.out hb3)
  have Hs3 := Lib.hid (show SnB w3 b h _ _ u from Blk.keep Hs.out hb3)
  have Hi3 := Lib.hid (Ints.keep Hi.out hb3)
  clear hB hb3 HA
  cases B with
  | false => exact absurd (HB.out.2 hP) (by decide)
  | true =>
    clear hP
    obtain ⟨ua, uc, hu⟩ : ∃ a c, u = .slice a (comN h 7).length c := by
      obtain ⟨a, c, e⟩ := ints_slice Hi3.out
      rw [castN_length] at e
      exact ⟨a, c, e⟩
    subst hu
    have Hli := Lib.hid (Hs3.out.li)
    have Hb3d := Lib.hid (show Below w.heap.size w w3.drew from Hb3.out.drew)
    have HEg := Lib.hid (snEdges_any (w := w3.drew) (show SnB w3.drew b h _ _ _ from Hs3.out) (show Ints w3.drew _ _ from Hi3.out) (fun x hx => comN_lt hx) Hl.out HW.out HR.out)
    go_upto_region 6 with fail
    go_cut [5, 6] from 15 to 24 (fun o5 o6 wx => ∃ v6, o5 = v6 ∧ o6 = .bool (snOrd h).isSome ∧ Ints wx v6 (castN ((snOrd h).getD [])) ∧ Below w.heap.size w wx)
    case first =>
      refine wp_region_any (by kernel_rfl) ?_
      change wpAny _ _ _ _ _ _ _ (World.drew _)
      refine wpAny_take (i := 0) (v := ?_) rfl (by kernel_rfl) (by kernel_rfl) (by kernel_rfl) (fun _ _ _ h => h) (Or.inl ⟨by rfl, ?_⟩) ?_
      rotate_left
      focus (first | (intro w; go_simp; done) | (intro w; go_simp; with_reducible rfl))
      simp only [Act.put, List.getElem_toArray, List.getElem_cons_zero, List.setIfInBounds_toArray, List.set_cons_zero, List.set_cons_succ]
      refine wpAny_take (i := 2) (v := ?_) rfl (by kernel_rfl) (by kernel_rfl) (by kernel_rfl) (fun _ _ _ h => h) (Or.inl ⟨by rfl, ?_⟩) ?_
      rotate_left
      focus (first | (intro w; go_simp; done) | (intro w; go_simp; with_reducible rfl))
      simp only [Act.put, List.getElem_toArray, List.getElem_cons_zero, List.getElem_cons_succ, List.setIfInBounds_toArray, List.set_cons_zero, List.set_cons_succ]
      refine wpAny_take (i := 3) (v := ?_) rfl (by kernel_rfl) (by kernel_rfl) (by kernel_rfl) (fun _ _ _ h => h) (Or.inl ⟨by rfl, ?_⟩) ?_
      rotate_left
      focus (first | (intro w; go_simp; done) | (intro w; go_simp; with_reducible rfl))
      simp only [Act.put, List.getElem_toArray, List.getElem_cons_zero, List.getElem_cons_succ, List.setIfInBounds_toArray, List.set_cons_zero, List.set_cons_succ]
      refine wpAny_take (i := 4) (v := ?_) rfl (by kernel_rfl) (by kernel_rfl) (by kernel_rfl) (fun _ _ _ h => h) (Or.inl ⟨by rfl, ?_⟩) ?_
      rotate_left
      focus (first | (intro w; go_simp; done) | (intro w; go_simp; with_reducible rfl))
      simp only [Act.put, List.getElem_toArray, List.getElem_cons_zero, List.getElem_cons_succ, List.setIfInBounds_toArray, List.set_cons_zero, List.set_cons_succ]
      refine wpAny_ready (rs := [1, 5]) (by kernel_rfl) (by simp) ?_
      refine AllReady.cons rfl (fun K hK => ?_) ?_
      · go_simp
        go_at_call 68
        refine (HEg.out).mono ?_
        rintro e w5 ⟨rfl, hE5, hb5⟩
        have hli := Below.keep hb5 Hli.out
        have HF5 := Lib.hid (HF.out _ _ _ hE5 (Ints.keep (show Ints w3.drew _ _ from Hi3.out) hb5))
        have Hb5 := Lib.hid (Below.tr Hb3d.out hb5)
        clear hb5 hE5
        go_simp
        refine hK _ _ ?_
        clear hK K
        refine wpAny_ready (rs := [5]) (by kernel_rfl) (by simp) ?_
        refine AllReady.cons rfl (fun K hK => ?_) AllReady.nil
        go_simp
        refine hK _ _ ?_
        clear hK K
        refine wpAny_ready (rs := [6]) (by kernel_rfl) (by simp) ?_
        refine AllReady.cons rfl (fun K hK => ?_) AllReady.nil
        go_simp
        go_at_call 54
        refine HF5.out.mono ?_
        rintro e w6 ⟨v6, rfl, hi6, hb6⟩
        have H6 := Lib.hid (And.intro hi6 (Below.tr Hb5.out hb6))
        clear hi6 hb6
        go_simp
        refine hK _ _ ?_
        clear hK K
        refine wpAny_take (i := 7) (v := ?_) rfl (by kernel_rfl) (by kernel_rfl) (by kernel_rfl) (fun _ _ _ h => h) (Or.inl ⟨by rfl, ?_⟩) ?_
        rotate_left
        focus (first | (intro w; go_simp; done) | (intro w; go_simp; with_reducible rfl))
        simp only [Act.put, List.getElem_toArray, List.getElem_cons_zero, List.getElem_cons_succ, List.setIfInBounds_toArray, List.set_cons_zero, List.set_cons_succ]
        refine wpAny_take (i := 8) (v := ?_) rfl (by kernel_rfl) (by kernel_rfl) (by kernel_rfl) (fun _ _ _ h => h) (Or.inl ⟨by rfl, ?_⟩) ?_
        rotate_left
        focus (first | (intro w; go_simp; done) | (intro w; go_simp; with_reducible rfl))
        simp only [Act.put, List.getElem_toArray, List.getElem_cons_zero, List.getElem_cons_succ, List.setIfInBounds_toArray, List.set_cons_zero, List.set_cons_succ]
        refine wpAny_take (i := 9) (v := ?_) rfl (by kernel_rfl) (by kernel_rfl) (by kernel_rfl) (fun _ _ _ h => h) (Or.inl ⟨by rfl, ?_⟩) ?_
        rotate_left
        focus (first | (intro w; go_simp; done) | (intro w; go_simp; with_reducible rfl))
        simp only [Act.put, List.getElem_toArray, List.getElem_cons_zero, List.getElem_cons_succ, List.setIfInBounds_toArray, List.set_cons_zero, List.set_cons_succ]
        refine wpAny_take (i := 10) (v := ?_) rfl (by kernel_rfl) (by kernel_rfl) (by kernel_rfl) (fun _ _ _ h => h) (Or.inl ⟨by rfl, ?_⟩) ?_
        rotate_left
        focus (first | (intro w; go_simp; done) | (intro w; go_simp; with_reducible rfl))
        simp only [Act.put, List.getElem_toArray, List.getElem_cons_zero, List.getElem_cons_succ, List.setIfInBounds_toArray, List.set_cons_zero, List.set_cons_succ]
        refine wpAny_take (i := 11) (v := ?_) rfl (by kernel_rfl) (by kernel_rfl) (by kernel_rfl) (fun _ _ _ h => h) (Or.inl ⟨by rfl, ?_⟩) ?_
        rotate_left
        focus (first | (intro w; go_simp; done) | (intro w; go_simp; with_reducible rfl))
        simp only [Act.put, List.getElem_toArray, List.getElem_cons_zero, List.getElem_cons_succ, List.setIfInBounds_toArray, List.set_cons_zero, List.set_cons_succ]
        refine wpAny_done (by kernel_rfl) ?_ _
        go_wp2_with fail
        go_meet
        exact ⟨_, rfl, rfl, H6.out.1, H6.out.2⟩
      · refine AllReady.cons rfl (fun K hK => ?_) AllReady.nil
        have hli := Hli.out
        go_simp
        refine hK _ _ ?_
        clear hK K
        clear hli
        refine wpAny_ready (rs := [1]) (by kernel_rfl) (by simp) ?_
        refine AllReady.cons rfl (fun K hK => ?_) AllReady.nil
        go_simp
        go_at_call 68
        refine (HEg.out).mono ?_
        rintro e w5 ⟨rfl, hE5, hb5⟩
        have hli := Below.keep hb5 Hli.out
        have HF5 := Lib.hid (HF.out _ _ _ hE5 (Ints.keep (show Ints w3.drew _ _ from Hi3.out) hb5))
        have Hb5 := Lib.hid (Below.tr Hb3d.out hb5)
        clear hb5 hE5
        go_simp
        refine hK _ _ ?_
        clear hK K
        refine wpAny_ready (rs := [6]) (by kernel_rfl) (by simp) ?_
        refine AllReady.cons rfl (fun K hK => ?_) AllReady.nil
        go_simp
        go_at_call 54
        refine HF5.out.mono ?_
        rintro e w6 ⟨v6, rfl, hi6, hb6⟩
        have H6 := Lib.hid (And.intro hi6 (Below.tr Hb5.out hb6))
        clear hi6 hb6
        go_simp
        refine hK _ _ ?_
        clear hK K
        refine wpAny_take (i := 7) (v := ?_) rfl (by kernel_rfl) (by kernel_rfl) (by kernel_rfl) (fun _ _ _ h => h) (Or.inl ⟨by rfl, ?_⟩) ?_
        rotate_left
        focus (first | (intro w; go_simp; done) | (intro w; go_simp; with_reducible rfl))
        simp only [Act.put, List.getElem_toArray, List.getElem_cons_zero, List.getElem_cons_succ, List.setIfInBounds_toArray, List.set_cons_zero, List.set_cons_succ]
        refine wpAny_take (i := 8) (v := ?_) rfl (by kernel_rfl) (by kernel_rfl) (by kernel_rfl) (fun _ _ _ h => h) (Or.inl ⟨by rfl, ?_⟩) ?_
        rotate_left
        focus (first | (intro w; go_simp; done) | (intro w; go_simp; with_reducible rfl))
        simp only [Act.put, List.getElem_toArray, List.getElem_cons_zero, List.getElem_cons_succ, List.setIfInBounds_toArray, List.set_cons_zero, List.set_cons_succ]
        refine wpAny_take (i := 9) (v := ?_) rfl (by kernel_rfl) (by kernel_rfl) (by kernel_rfl) (fun _ _ _ h => h) (Or.inl ⟨by rfl, ?_⟩) ?_
        rotate_left
        focus (first | (intro w; go_simp; done) | (intro w; go_simp; with_reducible rfl))
        simp only [Act.put, List.getElem_toArray, List.getElem_cons_zero, List.getElem_cons_succ, List.setIfInBounds_toArray, List.set_cons_zero, List.set_cons_succ]
        refine wpAny_take (i := 10) (v := ?_) rfl (by kernel_rfl) (by kernel_rfl) (by kernel_rfl) (fun _ _ _ h => h) (Or.inl ⟨by rfl, ?_⟩) ?_
        rotate_left
        focus (first | (intro w; go_simp; done) | (intro w; go_simp; with_reducible rfl))
        simp only [Act.put, List.getElem_toArray, List.getElem_cons_zero, List.getElem_cons_succ, List.setIfInBounds_toArray, List.set_cons_zero, List.set_cons_succ]
        refine wpAny_take (i := 11) (v := ?_) rfl (by kernel_rfl) (by kernel_rfl) (by kernel_rfl) (fun _ _ _ h => h) (Or.inl ⟨by rfl, ?_⟩) ?_
        rotate_left
        focus (first | (intro w; go_simp; done) | (intro w; go_simp; with_reducible rfl))
        simp only [Act.put, List.getElem_toArray, List.getElem_cons_zero, List.getElem_cons_succ, List.setIfInBounds_toArray, List.set_cons_zero, List.set_cons_succ]
        refine wpAny_done (by kernel_rfl) ?_ _
        go_wp2_with fail
        go_meet
        exact ⟨_, rfl, rfl, H6.out.1, H6.out.2⟩
    case rest =>
      obtain ⟨v6, rfl, rfl, hi, hb⟩ := hcut
      have Hix := Lib.hid hi
      have Hbx := Lib.hid hb
      clear hi hb
      cases hO : snOrd h with
      | some x =>
        have HEz := Lib.hid (show E = 0 by rw [HE.out, hO]; rfl)
        have HO := Lib.hid hO
        go_wp2_with fail
        go_ret2
        exact ⟨_, by rw [HEz.out]; rfl, by exact Hix.out, Hbx.out⟩
      | none =>
        have HEz := Lib.hid (show E = 5 by rw [HE.out, hO]; rfl)
        have HO := Lib.hid hO
        go_wp2_with fail
        go_ret2
        exact ⟨_, by rw [HEz.out]; rfl, by rw [HO.out]; exact ints_nil _, Hbx.out⟩
#print axioms snOrder_all
#print axioms snOrder_not
end Go.Proofs.Ytpehbffkplmfjaa
