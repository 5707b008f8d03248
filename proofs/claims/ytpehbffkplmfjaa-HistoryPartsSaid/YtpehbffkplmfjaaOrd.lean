/- Contract of Order. -/
import Derived.Test.YtpehbffkplmfjaaFst
namespace Go.Proofs.Ytpehbffkplmfjaa
open Go.RowKit

theorem comN_lt {h : List NOp} {n x : Nat} (hx : x ∈ comN h n) : x < n := by
  unfold comN at hx; simpa using (List.mem_filter.1 hx).1
def ordN (h : List NOp) : Option (List Nat) := fo (ed h h.length) (comN h 7).length (comN h 7) []
set_option maxRecDepth 100000 in
set_option maxHeartbeats 4000000 in
theorem order_bad {l : List HOp} (hn : ¬ ValidH l) (v : Value) (w : World) (hv : Ops w v l) :
    Calls Try.prog 24 #[v] w fun e w' => e = .returned (.tuple #[.slice none 0 0, .int .i64 2]) ∧ Below w.heap.size w w' := by
  have HV := Lib.hid (valid_any l v w hv)
  rw [decide_eq_false hn] at HV
  obtain ⟨a, c, rfl⟩ := ops_slice hv
  clear hv hn
  go_enter Try.func24, Try.ntmps24
  go_wp2_with fail
  refine HV.out.mono ?_
  rintro e w1 ⟨rfl, hb1⟩
  have Hb1 := Lib.hid hb1
  clear hb1
  go_wp2_with fail
  go_ret2
  exact ⟨rfl, Hb1.out⟩
set_option maxRecDepth 100000 in
set_option maxHeartbeats 8000000 in
theorem order_any {h : List NOp} (hh : VH h) (v : Value) (w : World) (hv : Ops w v (castO h)) :
    Calls Try.prog 24 #[v] w fun e w' => ∃ v', e = .returned (.tuple #[v', .int .i64 (if (ordN h).isSome then 0 else 8)]) ∧ Ints w' v' (castN ((ordN h).getD [])) ∧ Below w.heap.size w w' := by
  have HV := Lib.hid (valid_any (castO h) v w hv)
  rw [decide_eq_true (valid_of hh)] at HV
  obtain ⟨a, c, rfl⟩ := ops_slice hv
  rw [castO_length] at hv HV ⊢
  have HL := Lib.hid (fun w' (hb : Below w.heap.size w w') => livesOf_any hh (.slice a h.length c) w' (Ops.keep hv hb))
  have Hv := Lib.hid hv
  have HH := Lib.hid hh
  obtain ⟨E, hE⟩ : ∃ E : Int, E = if (ordN h).isSome then (0 : Int) else 8 := ⟨_, rfl⟩
  rw [← hE]
  have HE := Lib.hid hE
  clear hv hh hE
  go_enter Try.func24, Try.ntmps24
  go_wp2_with fail
  refine HV.out.mono ?_
  rintro e w1 ⟨rfl, hb1⟩
  have Hb1 := Lib.hid hb1
  have HL1 := Lib.hid (HL.out w1 hb1)
  clear hb1 HL HV
  go_wp2_with fail
  refine HL1.out.mono ?_
  rintro e w2 ⟨rfl, hb2⟩
  have Hb2 := Lib.hid (Below.tr Hb1.out hb2)
  clear hb2 HL1
  have hla : livA h = row 21 (lvF h h.length) := rfl
  rw [hla]
  have hLs : (Try.prog.info? 70).map (·.size) = some (row 21 (lvF h h.length)).size := by rw [row_size]; exact sizeLives
  have hL1 := row_one h h.length
  have hZ : #[Value.int .i64 0, .int .i64 0, .int .i64 0, .int .i64 0, .int .i64 0, .int .i64 0, .int .i64 0, .int .i64 0, .int .i64 0, .int .i64 0, .int .i64 0, .int .i64 0, .int .i64 0, .int .i64 0, .int .i64 0, .int .i64 0, .int .i64 0, .int .i64 0, .int .i64 0, .int .i64 0, .int .i64 0].size = (row 21 (lvF h h.length)).size := by rw [row_size]; rfl
  have HBk := Lib.hid (fun w : World => show Blk ((w.alloc (.cells #[.int .i64 0, .int .i64 0, .int .i64 0, .int .i64 0, .int .i64 0, .int .i64 0, .int .i64 0, .int .i64 0, .int .i64 0, .int .i64 0, .int .i64 0, .int .i64 0, .int .i64 0, .int .i64 0, .int .i64 0, .int .i64 0, .int .i64 0, .int .i64 0, .int .i64 0, .int .i64 0, .int .i64 0] 70)).setRow w.heap.size (row 21 (lvF h h.length))) w.heap.size 70 21 (lvF h h.length) from (blk_new w 70 21 fun _ => .int .i64 0).setRow _)
  have HLs := Lib.hid hLs
  have HL1 := Lib.hid hL1
  have HZ := Lib.hid hZ
  generalize hL : row 21 (lvF h h.length) = L at *
  have HLe := Lib.hid hL
  clear hL hLs hL1 hZ hla
  go_upto_region 4 with (refine wpList_store_row rfl 70 (.tmp 4) (.tmp 11) rfl w2.heap.size L rfl rfl 70 _ (heap_alloc_new _ _) HLs.out HZ.out HL1.out ?_; have HB3 := Lib.hid (HBk.out w2); have Hb3 := Lib.hid (show Below w.heap.size w ((w2.alloc (.cells #[.int .i64 0, .int .i64 0, .int .i64 0, .int .i64 0, .int .i64 0, .int .i64 0, .int .i64 0, .int .i64 0, .int .i64 0, .int .i64 0, .int .i64 0, .int .i64 0, .int .i64 0, .int .i64 0, .int .i64 0, .int .i64 0, .int .i64 0, .int .i64 0, .int .i64 0, .int .i64 0, .int .i64 0] 70)).setRow w2.heap.size L) from below_setRow (Below.tr Hb2.out (below_alloc _ _)) Hb2.out.size _); generalize (w2.alloc (.cells #[.int .i64 0, .int .i64 0, .int .i64 0, .int .i64 0, .int .i64 0, .int .i64 0, .int .i64 0, .int .i64 0, .int .i64 0, .int .i64 0, .int .i64 0, .int .i64 0, .int .i64 0, .int .i64 0, .int .i64 0, .int .i64 0, .int .i64 0, .int .i64 0, .int .i64 0, .int .i64 0, .int .i64 0] 70)).setRow w2.heap.size L = w3 at *)
  clear HBk HLs HL1 HZ
  generalize w2.heap.size = pb at *
  have HC := Lib.hid (fun w' (hb : Below w3.heap.size w3 w') => conflictsOf_any HH.out (.slice a h.length c) w' (Ops.keep Hv.out (Below.tr Hb3.out hb)))
  have HM := Lib.hid (fun w' => committed_any h w')
  rw [show livA h = L from HLe.out] at HC HM
  have Hlt := Lib.hid (ed_lt HH.out h.length (Nat.le_refl _))
  have Hdr := Lib.hid (show Below w3.heap.size w3 w3.drew from (Below.refl _ _).drew)
  refine wp_region_any (by kernel_rfl) ?_
  change wpAny _ _ _ _ _ _ _ (World.drew _)
  refine wpAny_take (i := 0) (v := ?_) rfl (by kernel_rfl) (by kernel_rfl) (by kernel_rfl) (fun _ _ _ h => h) (Or.inl ⟨by rfl, ?_⟩) ?_
  rotate_left
  focus (first | (intro w; go_simp; done) | (intro w; go_simp; with_reducible rfl))
  simp only [Act.put, List.getElem_toArray, List.getElem_cons_zero, List.setIfInBounds_toArray, List.set_cons_zero, List.set_cons_succ]
  refine wpAny_ready (rs := [1, 3]) (by kernel_rfl) (by simp) ?_
  refine AllReady.cons rfl (fun K hK => ?_) ?_
  · skip
    refine step_load_row rfl 70 (.tmp 4) rfl pb rfl 70 L (0, 0) _ (by rw [← HLe.out]; exact HB3.out) Try.underlying70 rfl (by rw [← HLe.out, row_size]; exact sizeLives) ?_
    simp only [Act.put, List.getElem_toArray, List.getElem_cons_zero, List.getElem_cons_succ, List.setIfInBounds_toArray, List.set_cons_zero, List.set_cons_succ]
    refine hK _ _ ?_
    clear hK K
    refine wpAny_ready (rs := [2, 3]) (by kernel_rfl) (by simp) ?_
    refine AllReady.cons rfl (fun K hK => ?_) ?_
    · skip
      go_simp
      go_at_call 53
      refine (HC.out _ (by exact Hdr.out)).mono ?_
      rintro e w5 ⟨rfl, hE5, hb5⟩
      have HB5 := Lib.hid (show Blk w5 pb 70 21 (lvF h h.length) from Blk.keep (by exact HB3.out) hb5)
      have HE5 := Lib.hid hE5
      have Hb5 := Lib.hid (Below.tr (Below.tr Hb3.out Hdr.out) hb5)
      clear hb5 hE5
      go_simp
      refine hK _ _ ?_
      clear hK K
      refine wpAny_ready (rs := [3]) (by kernel_rfl) (by simp) ?_
      refine AllReady.cons rfl (fun K hK => ?_) AllReady.nil
      refine step_load_row rfl 70 (.tmp 4) rfl pb rfl 70 L (0, 0) _ (by rw [← HLe.out]; exact HB5.out) Try.underlying70 rfl (by rw [← HLe.out, row_size]; exact sizeLives) ?_
      simp only [Act.put, List.getElem_toArray, List.getElem_cons_zero, List.getElem_cons_succ, List.setIfInBounds_toArray, List.set_cons_zero, List.set_cons_succ]
      refine hK _ _ ?_
      clear hK K
      refine wpAny_ready (rs := [4]) (by kernel_rfl) (by simp) ?_
      refine AllReady.cons rfl (fun K hK => ?_) AllReady.nil
      go_simp
      go_at_call 55
      refine (HM.out _).mono ?_
      rintro e w6 ⟨v6, rfl, hI6, hb6⟩
      have HE6 := Lib.hid (Blk.keep HE5.out hb6)
      have HF := Lib.hid (firstOrder_any Hlt.out (fun x hx => comN_lt hx) (by have := comN_le h 7; omega) v6 w6 HE6.out hI6.ints)
      have Hb6 := Lib.hid (Below.tr Hb5.out hb6)
      clear hb6 hI6
      go_simp
      refine hK _ _ ?_
      clear hK K
      refine wpAny_ready (rs := [5]) (by kernel_rfl) (by simp) ?_
      refine AllReady.cons rfl (fun K hK => ?_) AllReady.nil
      go_simp
      go_at_call 54
      refine HF.out.mono ?_
      rintro e w7 ⟨v7, rfl, hI7, hb7⟩
      have HI7 := Lib.hid hI7
      have Hb7 := Lib.hid (Below.tr Hb6.out hb7)
      clear hb7 hI7
      go_simp
      refine hK _ _ ?_
      clear hK K
      refine wpAny_take (i := 6) (v := ?_) rfl (by kernel_rfl) (by kernel_rfl) (by kernel_rfl) (fun _ _ _ h => h) (Or.inl ⟨by rfl, ?_⟩) ?_
      rotate_left
      focus (first | (intro w; go_simp; done) | (intro w; go_simp; with_reducible rfl))
      simp only [Act.put, List.getElem_toArray, List.getElem_cons_zero, List.getElem_cons_succ, List.setIfInBounds_toArray, List.set_cons_zero, List.set_cons_succ]
      refine wpAny_take (i := 7) (v := ?_) rfl (by kernel_rfl) (by kernel_rfl) (by kernel_rfl) (fun _ _ _ h => h) (Or.inl ⟨by rfl, ?_⟩) ?_
      rotate_left
      focus (first | (intro w; go_simp; done) | (intro w; go_simp; with_reducible rfl))
      simp only [Act.put, List.getElem_toArray, List.getElem_cons_zero, List.getElem_cons_succ, List.setIfInBounds_toArray, List.set_cons_zero, List.set_cons_succ]
      refine wpAny_take (i := 8) (v := ?_) rfl (by kernel_rfl) (by kernel_rfl) (by kernel_rfl) (fun _ _ _ h => h) (Or.inl ⟨by rfl, ?_⟩) ?_
      rotate_left
      focus (first | (intro w; go_simp; done) | (intro w; go_simp; with_reducible rfl))
      simp only [Act.put, List.getElem_toArray, List.getElem_cons_zero, List.getElem_cons_succ, List.setIfInBounds_toArray, List.set_cons_zero, List.set_cons_succ]
      refine wpAny_take (i := 9) (v := ?_) rfl (by kernel_rfl) (by kernel_rfl) (by kernel_rfl) (fun _ _ _ h => h) (Or.inl ⟨by rfl, ?_⟩) ?_
      rotate_left
      focus (first | (intro w; go_simp; done) | (intro w; go_simp; with_reducible rfl))
      simp only [Act.put, List.getElem_toArray, List.getElem_cons_zero, List.getElem_cons_succ, List.setIfInBounds_toArray, List.set_cons_zero, List.set_cons_succ]
      refine wpAny_take (i := 10) (v := ?_) rfl (by kernel_rfl) (by kernel_rfl) (by kernel_rfl) (fun _ _ _ h => h) (Or.inl ⟨by rfl, ?_⟩) ?_
      rotate_left
      focus (first | (intro w; go_simp; done) | (intro w; go_simp; with_reducible rfl))
      simp only [Act.put, List.getElem_toArray, List.getElem_cons_zero, List.getElem_cons_succ, List.setIfInBounds_toArray, List.set_cons_zero, List.set_cons_succ]
      refine wpAny_done (by kernel_rfl) ?_ _
      have Hc := Lib.hid (show Ints w7 v7 (castN ((ordN h).getD [])) from HI7.out)
      have hio : (fo (ed h h.length) (comN h 7).length (comN h 7) []).isSome = (ordN h).isSome := rfl
      rw [hio]
      obtain ⟨io, hO⟩ : ∃ io, io = (ordN h).isSome := ⟨_, rfl⟩
      rw [← hO]
      have HO := Lib.hid hO
      clear hO hio HI7
      cases io with
      | true =>
        have Hr := Lib.hid (show E = 0 by rw [HE.out, ← HO.out]; rfl)
        go_wp2_with fail
        go_ret2
        exact ⟨_, by rw [Hr.out]; rfl, Hc.out, Hb7.out⟩
      | false =>
        have HN := Lib.hid (show castN ((ordN h).getD []) = [] from by
          have h1 := HO.out
          cases hn : ordN h with
          | none => rfl
          | some x => rw [hn] at h1; cases h1)
        have Hr := Lib.hid (show E = 8 by rw [HE.out, ← HO.out]; rfl)
        go_wp2_with fail
        go_ret2
        exact ⟨_, by rw [Hr.out]; rfl, by rw [HN.out]; exact ints_nil _, Hb7.out⟩
    · refine AllReady.cons rfl (fun K hK => ?_) AllReady.nil
      refine step_load_row rfl 70 (.tmp 4) rfl pb rfl 70 L (0, 0) _ (by rw [← HLe.out]; exact HB3.out) Try.underlying70 rfl (by rw [← HLe.out, row_size]; exact sizeLives) ?_
      simp only [Act.put, List.getElem_toArray, List.getElem_cons_zero, List.getElem_cons_succ, List.setIfInBounds_toArray, List.set_cons_zero, List.set_cons_succ]
      refine hK _ _ ?_
      clear hK K
      refine wpAny_ready (rs := [2]) (by kernel_rfl) (by simp) ?_
      refine AllReady.cons rfl (fun K hK => ?_) AllReady.nil
      go_simp
      go_at_call 53
      refine (HC.out _ (by exact Hdr.out)).mono ?_
      rintro e w5 ⟨rfl, hE5, hb5⟩
      have HB5 := Lib.hid (show Blk w5 pb 70 21 (lvF h h.length) from Blk.keep (by exact HB3.out) hb5)
      have HE5 := Lib.hid hE5
      have Hb5 := Lib.hid (Below.tr (Below.tr Hb3.out Hdr.out) hb5)
      clear hb5 hE5
      go_simp
      refine hK _ _ ?_
      clear hK K
      refine wpAny_ready (rs := [4]) (by kernel_rfl) (by simp) ?_
      refine AllReady.cons rfl (fun K hK => ?_) AllReady.nil
      go_simp
      go_at_call 55
      refine (HM.out _).mono ?_
      rintro e w6 ⟨v6, rfl, hI6, hb6⟩
      have HE6 := Lib.hid (Blk.keep HE5.out hb6)
      have HF := Lib.hid (firstOrder_any Hlt.out (fun x hx => comN_lt hx) (by have := comN_le h 7; omega) v6 w6 HE6.out hI6.ints)
      have Hb6 := Lib.hid (Below.tr Hb5.out hb6)
      clear hb6 hI6
      go_simp
      refine hK _ _ ?_
      clear hK K
      refine wpAny_ready (rs := [5]) (by kernel_rfl) (by simp) ?_
      refine AllReady.cons rfl (fun K hK => ?_) AllReady.nil
      go_simp
      go_at_call 54
      refine HF.out.mono ?_
      rintro e w7 ⟨v7, rfl, hI7, hb7⟩
      have HI7 := Lib.hid hI7
      have Hb7 := Lib.hid (Below.tr Hb6.out hb7)
      clear hb7 hI7
      go_simp
      refine hK _ _ ?_
      clear hK K
      refine wpAny_take (i := 6) (v := ?_) rfl (by kernel_rfl) (by kernel_rfl) (by kernel_rfl) (fun _ _ _ h => h) (Or.inl ⟨by rfl, ?_⟩) ?_
      rotate_left
      focus (first | (intro w; go_simp; done) | (intro w; go_simp; with_reducible rfl))
      simp only [Act.put, List.getElem_toArray, List.getElem_cons_zero, List.getElem_cons_succ, List.setIfInBounds_toArray, List.set_cons_zero, List.set_cons_succ]
      refine wpAny_take (i := 7) (v := ?_) rfl (by kernel_rfl) (by kernel_rfl) (by kernel_rfl) (fun _ _ _ h => h) (Or.inl ⟨by rfl, ?_⟩) ?_
      rotate_left
      focus (first | (intro w; go_simp; done) | (intro w; go_simp; with_reducible rfl))
      simp only [Act.put, List.getElem_toArray, List.getElem_cons_zero, List.getElem_cons_succ, List.setIfInBounds_toArray, List.set_cons_zero, List.set_cons_succ]
      refine wpAny_take (i := 8) (v := ?_) rfl (by kernel_rfl) (by kernel_rfl) (by kernel_rfl) (fun _ _ _ h => h) (Or.inl ⟨by rfl, ?_⟩) ?_
      rotate_left
      focus (first | (intro w; go_simp; done) | (intro w; go_simp; with_reducible rfl))
      simp only [Act.put, List.getElem_toArray, List.getElem_cons_zero, List.getElem_cons_succ, List.setIfInBounds_toArray, List.set_cons_zero, List.set_cons_succ]
      refine wpAny_take (i := 9) (v := ?_) rfl (by kernel_rfl) (by kernel_rfl) (by kernel_rfl) (fun _ _ _ h => h) (Or.inl ⟨by rfl, ?_⟩) ?_
      rotate_left
      focus (first | (intro w; go_simp; done) | (intro w; go_simp; with_reducible rfl))
      simp only [Act.put, List.getElem_toArray, List.getElem_cons_zero, List.getElem_cons_succ, List.setIfInBounds_toArray, List.set_cons_zero, List.set_cons_succ]
      refine wpAny_take (i := 10) (v := ?_) rfl (by kernel_rfl) (by kernel_rfl) (by kernel_rfl) (fun _ _ _ h => h) (Or.inl ⟨by rfl, ?_⟩) ?_
      rotate_left
      focus (first | (intro w; go_simp; done) | (intro w; go_simp; with_reducible rfl))
      simp only [Act.put, List.getElem_toArray, List.getElem_cons_zero, List.getElem_cons_succ, List.setIfInBounds_toArray, List.set_cons_zero, List.set_cons_succ]
      refine wpAny_done (by kernel_rfl) ?_ _
      have Hc := Lib.hid (show Ints w7 v7 (castN ((ordN h).getD [])) from HI7.out)
      have hio : (fo (ed h h.length) (comN h 7).length (comN h 7) []).isSome = (ordN h).isSome := rfl
      rw [hio]
      obtain ⟨io, hO⟩ : ∃ io, io = (ordN h).isSome := ⟨_, rfl⟩
      rw [← hO]
      have HO := Lib.hid hO
      clear hO hio HI7
      cases io with
      | true =>
        have Hr := Lib.hid (show E = 0 by rw [HE.out, ← HO.out]; rfl)
        go_wp2_with fail
        go_ret2
        exact ⟨_, by rw [Hr.out]; rfl, Hc.out, Hb7.out⟩
      | false =>
        have HN := Lib.hid (show castN ((ordN h).getD []) = [] from by
          have h1 := HO.out
          cases hn : ordN h with
          | none => rfl
          | some x => rw [hn] at h1; cases h1)
        have Hr := Lib.hid (show E = 8 by rw [HE.out, ← HO.out]; rfl)
        go_wp2_with fail
        go_ret2
        exact ⟨_, by rw [Hr.out]; rfl, by rw [HN.out]; exact ints_nil _, Hb7.out⟩
  · refine AllReady.cons rfl (fun K hK => ?_) AllReady.nil
    refine step_load_row rfl 70 (.tmp 4) rfl pb rfl 70 L (0, 0) _ (by rw [← HLe.out]; exact HB3.out) Try.underlying70 rfl (by rw [← HLe.out, row_size]; exact sizeLives) ?_
    simp only [Act.put, List.getElem_toArray, List.getElem_cons_zero, List.getElem_cons_succ, List.setIfInBounds_toArray, List.set_cons_zero, List.set_cons_succ]
    refine hK _ _ ?_
    clear hK K
    refine wpAny_ready (rs := [1]) (by kernel_rfl) (by simp) ?_
    refine AllReady.cons rfl (fun K hK => ?_) AllReady.nil
    refine step_load_row rfl 70 (.tmp 4) rfl pb rfl 70 L (0, 0) _ (by rw [← HLe.out]; exact HB3.out) Try.underlying70 rfl (by rw [← HLe.out, row_size]; exact sizeLives) ?_
    simp only [Act.put, List.getElem_toArray, List.getElem_cons_zero, List.getElem_cons_succ, List.setIfInBounds_toArray, List.set_cons_zero, List.set_cons_succ]
    refine hK _ _ ?_
    clear hK K
    refine wpAny_ready (rs := [2]) (by kernel_rfl) (by simp) ?_
    refine AllReady.cons rfl (fun K hK => ?_) AllReady.nil
    go_simp
    go_at_call 53
    refine (HC.out _ (by exact Hdr.out)).mono ?_
    rintro e w5 ⟨rfl, hE5, hb5⟩
    have HB5 := Lib.hid (show Blk w5 pb 70 21 (lvF h h.length) from Blk.keep (by exact HB3.out) hb5)
    have HE5 := Lib.hid hE5
    have Hb5 := Lib.hid (Below.tr (Below.tr Hb3.out Hdr.out) hb5)
    clear hb5 hE5
    go_simp
    refine hK _ _ ?_
    clear hK K
    refine wpAny_ready (rs := [4]) (by kernel_rfl) (by simp) ?_
    refine AllReady.cons rfl (fun K hK => ?_) AllReady.nil
    go_simp
    go_at_call 55
    refine (HM.out _).mono ?_
    rintro e w6 ⟨v6, rfl, hI6, hb6⟩
    have HE6 := Lib.hid (Blk.keep HE5.out hb6)
    have HF := Lib.hid (firstOrder_any Hlt.out (fun x hx => comN_lt hx) (by have := comN_le h 7; omega) v6 w6 HE6.out hI6.ints)
    have Hb6 := Lib.hid (Below.tr Hb5.out hb6)
    clear hb6 hI6
    go_simp
    refine hK _ _ ?_
    clear hK K
    refine wpAny_ready (rs := [5]) (by kernel_rfl) (by simp) ?_
    refine AllReady.cons rfl (fun K hK => ?_) AllReady.nil
    go_simp
    go_at_call 54
    refine HF.out.mono ?_
    rintro e w7 ⟨v7, rfl, hI7, hb7⟩
    have HI7 := Lib.hid hI7
    have Hb7 := Lib.hid (Below.tr Hb6.out hb7)
    clear hb7 hI7
    go_simp
    refine hK _ _ ?_
    clear hK K
    refine wpAny_take (i := 6) (v := ?_) rfl (by kernel_rfl) (by kernel_rfl) (by kernel_rfl) (fun _ _ _ h => h) (Or.inl ⟨by rfl, ?_⟩) ?_
    rotate_left
    focus (first | (intro w; go_simp; done) | (intro w; go_simp; with_reducible rfl))
    simp only [Act.put, List.getElem_toArray, List.getElem_cons_zero, List.getElem_cons_succ, List.setIfInBounds_toArray, List.set_cons_zero, List.set_cons_succ]
    refine wpAny_take (i := 7) (v := ?_) rfl (by kernel_rfl) (by kernel_rfl) (by kernel_rfl) (fun _ _ _ h => h) (Or.inl ⟨by rfl, ?_⟩) ?_
    rotate_left
    focus (first | (intro w; go_simp; done) | (intro w; go_simp; with_reducible rfl))
    simp only [Act.put, List.getElem_toArray, List.getElem_cons_zero, List.getElem_cons_succ, List.setIfInBounds_toArray, List.set_cons_zero, List.set_cons_succ]
    refine wpAny_take (i := 8) (v := ?_) rfl (by kernel_rfl) (by kernel_rfl) (by kernel_rfl) (fun _ _ _ h => h) (Or.inl ⟨by rfl, ?_⟩) ?_
    rotate_left
    focus (first | (intro w; go_simp; done) | (intro w; go_simp; with_reducible rfl))
    simp only [Act.put, List.getElem_toArray, List.getElem_cons_zero, List.getElem_cons_succ, List.setIfInBounds_toArray, List.set_cons_zero, List.set_cons_succ]
    refine wpAny_take (i := 9) (v := ?_) rfl (by kernel_rfl) (by kernel_rfl) (by kernel_rfl) (fun _ _ _ h => h) (Or.inl ⟨by rfl, ?_⟩) ?_
    rotate_left
    focus (first | (intro w; go_simp; done) | (intro w; go_simp; with_reducible rfl))
    simp only [Act.put, List.getElem_toArray, List.getElem_cons_zero, List.getElem_cons_succ, List.setIfInBounds_toArray, List.set_cons_zero, List.set_cons_succ]
    refine wpAny_take (i := 10) (v := ?_) rfl (by kernel_rfl) (by kernel_rfl) (by kernel_rfl) (fun _ _ _ h => h) (Or.inl ⟨by rfl, ?_⟩) ?_
    rotate_left
    focus (first | (intro w; go_simp; done) | (intro w; go_simp; with_reducible rfl))
    simp only [Act.put, List.getElem_toArray, List.getElem_cons_zero, List.getElem_cons_succ, List.setIfInBounds_toArray, List.set_cons_zero, List.set_cons_succ]
    refine wpAny_done (by kernel_rfl) ?_ _
    have Hc := Lib.hid (show Ints w7 v7 (castN ((ordN h).getD [])) from HI7.out)
    have hio : (fo (ed h h.length) (comN h 7).length (comN h 7) []).isSome = (ordN h).isSome := rfl
    rw [hio]
    obtain ⟨io, hO⟩ : ∃ io, io = (ordN h).isSome := ⟨_, rfl⟩
    rw [← hO]
    have HO := Lib.hid hO
    clear hO hio HI7
    cases io with
    | true =>
      have Hr := Lib.hid (show E = 0 by rw [HE.out, ← HO.out]; rfl)
      go_wp2_with fail
      go_ret2
      exact ⟨_, by rw [Hr.out]; rfl, Hc.out, Hb7.out⟩
    | false =>
      have HN := Lib.hid (show castN ((ordN h).getD []) = [] from by
        have h1 := HO.out
        cases hn : ordN h with
        | none => rfl
        | some x => rw [hn] at h1; cases h1)
      have Hr := Lib.hid (show E = 8 by rw [HE.out, ← HO.out]; rfl)
      go_wp2_with fail
      go_ret2
      exact ⟨_, by rw [Hr.out]; rfl, by rw [HN.out]; exact ints_nil _, Hb7.out⟩
#print axioms order_any
end Go.Proofs.Ytpehbffkplmfjaa
