/- Contract of Cycle. -/
import Derived.Test.YtpehbffkplmfjaaCya
import Derived.Test.YtpehbffkplmfjaaOrd
namespace Go.Proofs.Ytpehbffkplmfjaa
open Go.RowKit
/-- the first cycle of k transactions -/
def cyK (h : List NOp) (k : Nat) : Option (List Nat) := cycF (bitE (ed h h.length)) (comN h 7) k []
/-- the first of the shortest cycles -/
def cycN (h : List NOp) : Option (List Nat) := (List.range ((comN h 7).length + 1)).findSome? (cyK h)
theorem range_getD {m q : Nat} (h : q < m) : (List.range m).getD q 0 = q := by
  rw [List.getD_eq_getElem?_getD, List.getElem?_eq_getElem (by simpa using h)]; simp
theorem cycN_at {h : List NOp} {k : Nat} (hno : ∀ q, q < k → cyK h q = none) (hk : k < (comN h 7).length + 1) {c : List Nat} (hc : cyK h k = some c) : cycN h = some c :=
  findSome_at (j := k) (fun q hq => by rw [range_getD (by omega)]; exact hno q hq) (by simpa using hk) (by rw [range_getD hk]; exact hc)
theorem cycN_none {h : List NOp} (hno : ∀ q, q < (comN h 7).length + 1 → cyK h q = none) : cycN h = none :=
  findSome_all fun q hq => by
    rw [List.length_range] at hq
    rw [range_getD hq]; exact hno q hq
set_option maxRecDepth 100000 in
set_option maxHeartbeats 4000000 in
theorem cycle_bad {l : List HOp} (hn : ¬ ValidH l) (v : Value) (w : World) (hv : Ops w v l) :
    Calls Try.prog 25 #[v] w fun e w' => e = .returned (.tuple #[.slice none 0 0, .int .i64 2]) ∧ Below w.heap.size w w' := by
  have HV := Lib.hid (valid_any l v w hv)
  rw [decide_eq_false hn] at HV
  obtain ⟨a, c, rfl⟩ := ops_slice hv
  clear hv hn
  go_enter Try.func25, Try.ntmps25
  go_wp2_with fail
  refine HV.out.mono ?_
  rintro e w1 ⟨rfl, hb1⟩
  have Hb1 := Lib.hid hb1
  clear hb1
  go_wp2_with fail
  go_ret2
  exact ⟨rfl, Hb1.out⟩
set_option maxRecDepth 100000 in
set_option maxHeartbeats 8000000 in
theorem cycleP_any {h : List NOp} (hh : VH h) (v : Value) (w : World) (hv : Ops w v (castO h)) :
    Calls Try.prog 25 #[v] w fun e w' => ∃ v', e = .returned (.tuple #[v', .int .i64 (if (cycN h).isSome then 0 else 5)]) ∧ Ints w' v' (castN ((cycN h).getD [])) ∧ Below w.heap.size w w' := by
  have HV := Lib.hid (valid_any (castO h) v w hv)
  rw [decide_eq_true (valid_of hh)] at HV
  obtain ⟨a, c, rfl⟩ := ops_slice hv
  rw [castO_length] at hv HV ⊢
  have HL := Lib.hid (fun w' (hb : Below w.heap.size w w') => livesOf_any hh (.slice a h.length c) w' (Ops.keep hv hb))
  have Hv := Lib.hid hv
  have HH := Lib.hid hh
  obtain ⟨E, hE⟩ : ∃ E : Int, E = if (cycN h).isSome then (0 : Int) else 5 := ⟨_, rfl⟩
  rw [← hE]
  have HE := Lib.hid hE
  clear hv hh hE
  go_enter Try.func25, Try.ntmps25
  go_wp2_with fail
  refine HV.out.mono ?_
  rintro e w1 ⟨rfl, hb1⟩
  have Hb1 := Lib.hid hb1
  have HL1 := Lib.hid (HL.out w1 hb1)
  clear hb1 HL HV
  go_wp2_with fail
  refine HL1.out.mono ?_
  rintro e w2 ⟨rfl, hb2⟩
  have Hb2 := Lib.hid (Below.tr Hb1.out hb2)
  clear hb2 HL1
  have hla : livA h = row 21 (lvF h h.length) := rfl
  rw [hla]
  have hLs : (Try.prog.info? 70).map (·.size) = some (row 21 (lvF h h.length)).size := by rw [row_size]; exact sizeLives
  have hL1 := row_one h h.length
  have hZ : #[Value.int .i64 0, .int .i64 0, .int .i64 0, .int .i64 0, .int .i64 0, .int .i64 0, .int .i64 0, .int .i64 0, .int .i64 0, .int .i64 0, .int .i64 0, .int .i64 0, .int .i64 0, .int .i64 0, .int .i64 0, .int .i64 0, .int .i64 0, .int .i64 0, .int .i64 0, .int .i64 0, .int .i64 0].size = (row 21 (lvF h h.length)).size := by rw [row_size]; rfl
  have HBk := Lib.hid (fun w : World => show Blk ((w.alloc (.cells #[.int .i64 0, .int .i64 0, .int .i64 0, .int .i64 0, .int .i64 0, .int .i64 0, .int .i64 0, .int .i64 0, .int .i64 0, .int .i64 0, .int .i64 0, .int .i64 0, .int .i64 0, .int .i64 0, .int .i64 0, .int .i64 0, .int .i64 0, .int .i64 0, .int .i64 0, .int .i64 0, .int .i64 0] 70)).setRow w.heap.size (row 21 (lvF h h.length))) w.heap.size 70 21 (lvF h h.length) from (blk_new w 70 21 fun _ => .int .i64 0).setRow _)
  have HLs := Lib.hid hLs
  have HL1 := Lib.hid hL1
  have HZ := Lib.hid hZ
  generalize hL : row 21 (lvF h h.length) = L at *
  have HLe := Lib.hid hL
  clear hL hLs hL1 hZ hla
  go_upto_region 4 with (refine wpList_store_row rfl 70 (.tmp 4) (.tmp 13) rfl w2.heap.size L rfl rfl 70 _ (heap_alloc_new _ _) HLs.out HZ.out HL1.out ?_; have HB3 := Lib.hid (HBk.out w2); have Hb3 := Lib.hid (show Below w.heap.size w ((w2.alloc (.cells #[.int .i64 0, .int .i64 0, .int .i64 0, .int .i64 0, .int .i64 0, .int .i64 0, .int .i64 0, .int .i64 0, .int .i64 0, .int .i64 0, .int .i64 0, .int .i64 0, .int .i64 0, .int .i64 0, .int .i64 0, .int .i64 0, .int .i64 0, .int .i64 0, .int .i64 0, .int .i64 0, .int .i64 0] 70)).setRow w2.heap.size L) from below_setRow (Below.tr Hb2.out (below_alloc _ _)) Hb2.out.size _); generalize (w2.alloc (.cells #[.int .i64 0, .int .i64 0, .int .i64 0, .int .i64 0, .int .i64 0, .int .i64 0, .int .i64 0, .int .i64 0, .int .i64 0, .int .i64 0, .int .i64 0, .int .i64 0, .int .i64 0, .int .i64 0, .int .i64 0, .int .i64 0, .int .i64 0, .int .i64 0, .int .i64 0, .int .i64 0, .int .i64 0] 70)).setRow w2.heap.size L = w3 at *)
  clear HBk HLs HL1 HZ
  generalize w2.heap.size = pb at *
  have HC := Lib.hid (fun w' (hb : Below w3.heap.size w3 w') => conflictsOf_any HH.out (.slice a h.length c) w' (Ops.keep Hv.out (Below.tr Hb3.out hb)))
  have HM := Lib.hid (fun w' => committed_any h w')
  rw [show livA h = L from HLe.out] at HC HM
  simp only [Act.put]
  go_cut [5, 6] from 14 to 18 (fun o5 o6 wx => ∃ be v6, o5 = .pointer (some ⟨be, 0, none⟩) ∧ o6 = v6 ∧ EdB wx be (ed h h.length) ∧ Ints wx v6 (castN (comN h 7)) ∧ Below w.heap.size w wx)
  case first =>
    have Hlt := Lib.hid (ed_lt HH.out h.length (Nat.le_refl _))
    have Hdr := Lib.hid (show Below w3.heap.size w3 w3.drew from (Below.refl _ _).drew)
    refine wp_region_any (by kernel_rfl) ?_
    change wpAny _ _ _ _ _ _ _ (World.drew _)
    refine wpAny_take (i := 0) (v := ?_) rfl (by kernel_rfl) (by kernel_rfl) (by kernel_rfl) (fun _ _ _ h => h) (Or.inl ⟨by rfl, ?_⟩) ?_
    rotate_left
    focus (first | (intro w; go_simp; done) | (intro w; go_simp; with_reducible rfl))
    simp only [Act.put, List.getElem_toArray, List.getElem_cons_zero, List.setIfInBounds_toArray, List.set_cons_zero, List.set_cons_succ]
    refine wpAny_ready (rs := [1, 3]) (by kernel_rfl) (by simp) ?_
    refine AllReady.cons rfl (fun K hK => ?_) ?_
    · skip
      refine step_load_row rfl 70 (.tmp 4) rfl pb rfl 70 L (0, 0) _ (by rw [← HLe.out]; exact HB3.out) Try.underlying70 rfl (by rw [← HLe.out, row_size]; exact sizeLives) ?_
      simp only [Act.put, List.getElem_toArray, List.getElem_cons_zero, List.getElem_cons_succ, List.setIfInBounds_toArray, List.set_cons_zero, List.set_cons_succ]
      refine hK _ _ ?_
      clear hK K
      refine wpAny_ready (rs := [2, 3]) (by kernel_rfl) (by simp) ?_
      refine AllReady.cons rfl (fun K hK => ?_) ?_
      · skip
        go_simp
        go_at_call 53
        refine (HC.out _ (by exact Hdr.out)).mono ?_
        rintro e w5 ⟨rfl, hE5, hb5⟩
        have HB5 := Lib.hid (show Blk w5 pb 70 21 (lvF h h.length) from Blk.keep (by exact HB3.out) hb5)
        have HE5 := Lib.hid hE5
        have Hb5 := Lib.hid (Below.tr (Below.tr Hb3.out Hdr.out) hb5)
        clear hb5 hE5
        go_simp
        refine hK _ _ ?_
        clear hK K
        refine wpAny_ready (rs := [3]) (by kernel_rfl) (by simp) ?_
        refine AllReady.cons rfl (fun K hK => ?_) AllReady.nil
        refine step_load_row rfl 70 (.tmp 4) rfl pb rfl 70 L (0, 0) _ (by rw [← HLe.out]; exact HB5.out) Try.underlying70 rfl (by rw [← HLe.out, row_size]; exact sizeLives) ?_
        simp only [Act.put, List.getElem_toArray, List.getElem_cons_zero, List.getElem_cons_succ, List.setIfInBounds_toArray, List.set_cons_zero, List.set_cons_succ]
        refine hK _ _ ?_
        clear hK K
        refine wpAny_ready (rs := [4]) (by kernel_rfl) (by simp) ?_
        refine AllReady.cons rfl (fun K hK => ?_) AllReady.nil
        go_simp
        go_at_call 55
        refine (HM.out _).mono ?_
        rintro e w6 ⟨v6, rfl, hI6, hb6⟩
        have HE6 := Lib.hid (Blk.keep HE5.out hb6)
        have HI6 := Lib.hid hI6.ints
        have Hb6 := Lib.hid (Below.tr Hb5.out hb6)
        clear hb6 hI6
        go_simp
        refine hK _ _ ?_
        clear hK K
        refine wpAny_take (i := 5) (v := ?_) rfl (by kernel_rfl) (by kernel_rfl) (by kernel_rfl) (fun _ _ _ h => h) (Or.inl ⟨by rfl, ?_⟩) ?_
        rotate_left
        focus (first | (intro w; go_simp; done) | (intro w; go_simp; with_reducible rfl))
        simp only [Act.put, List.getElem_toArray, List.getElem_cons_zero, List.getElem_cons_succ, List.setIfInBounds_toArray, List.set_cons_zero, List.set_cons_succ]
        refine wpAny_take (i := 6) (v := ?_) rfl (by kernel_rfl) (by kernel_rfl) (by kernel_rfl) (fun _ _ _ h => h) (Or.inl ⟨by rfl, ?_⟩) ?_
        rotate_left
        focus (first | (intro w; go_simp; done) | (intro w; go_simp; with_reducible rfl))
        simp only [Act.put, List.getElem_toArray, List.getElem_cons_zero, List.getElem_cons_succ, List.setIfInBounds_toArray, List.set_cons_zero, List.set_cons_succ]
        refine wpAny_done (by kernel_rfl) ?_ _
        go_wp2_with fail
        go_meet
        exact ⟨_, _, rfl, rfl, HE6.out, HI6.out, Hb6.out⟩
      · skip
        refine AllReady.cons rfl (fun K hK => ?_) AllReady.nil
        refine step_load_row rfl 70 (.tmp 4) rfl pb rfl 70 L (0, 0) _ (by rw [← HLe.out]; exact HB3.out) Try.underlying70 rfl (by rw [← HLe.out, row_size]; exact sizeLives) ?_
        simp only [Act.put, List.getElem_toArray, List.getElem_cons_zero, List.getElem_cons_succ, List.setIfInBounds_toArray, List.set_cons_zero, List.set_cons_succ]
        refine hK _ _ ?_
        clear hK K
        refine wpAny_ready (rs := [2]) (by kernel_rfl) (by simp) ?_
        refine AllReady.cons rfl (fun K hK => ?_) AllReady.nil
        go_simp
        go_at_call 53
        refine (HC.out _ (by exact Hdr.out)).mono ?_
        rintro e w5 ⟨rfl, hE5, hb5⟩
        have HB5 := Lib.hid (show Blk w5 pb 70 21 (lvF h h.length) from Blk.keep (by exact HB3.out) hb5)
        have HE5 := Lib.hid hE5
        have Hb5 := Lib.hid (Below.tr (Below.tr Hb3.out Hdr.out) hb5)
        clear hb5 hE5
        go_simp
        refine hK _ _ ?_
        clear hK K
        refine wpAny_ready (rs := [4]) (by kernel_rfl) (by simp) ?_
        refine AllReady.cons rfl (fun K hK => ?_) AllReady.nil
        go_simp
        go_at_call 55
        refine (HM.out _).mono ?_
        rintro e w6 ⟨v6, rfl, hI6, hb6⟩
        have HE6 := Lib.hid (Blk.keep HE5.out hb6)
        have HI6 := Lib.hid hI6.ints
        have Hb6 := Lib.hid (Below.tr Hb5.out hb6)
        clear hb6 hI6
        go_simp
        refine hK _ _ ?_
        clear hK K
        refine wpAny_take (i := 5) (v := ?_) rfl (by kernel_rfl) (by kernel_rfl) (by kernel_rfl) (fun _ _ _ h => h) (Or.inl ⟨by rfl, ?_⟩) ?_
        rotate_left
        focus (first | (intro w; go_simp; done) | (intro w; go_simp; with_reducible rfl))
        simp only [Act.put, List.getElem_toArray, List.getElem_cons_zero, List.getElem_cons_succ, List.setIfInBounds_toArray, List.set_cons_zero, List.set_cons_succ]
        refine wpAny_take (i := 6) (v := ?_) rfl (by kernel_rfl) (by kernel_rfl) (by kernel_rfl) (fun _ _ _ h => h) (Or.inl ⟨by rfl, ?_⟩) ?_
        rotate_left
        focus (first | (intro w; go_simp; done) | (intro w; go_simp; with_reducible rfl))
        simp only [Act.put, List.getElem_toArray, List.getElem_cons_zero, List.getElem_cons_succ, List.setIfInBounds_toArray, List.set_cons_zero, List.set_cons_succ]
        refine wpAny_done (by kernel_rfl) ?_ _
        go_wp2_with fail
        go_meet
        exact ⟨_, _, rfl, rfl, HE6.out, HI6.out, Hb6.out⟩
    · skip
      refine AllReady.cons rfl (fun K hK => ?_) AllReady.nil
      refine step_load_row rfl 70 (.tmp 4) rfl pb rfl 70 L (0, 0) _ (by rw [← HLe.out]; exact HB3.out) Try.underlying70 rfl (by rw [← HLe.out, row_size]; exact sizeLives) ?_
      simp only [Act.put, List.getElem_toArray, List.getElem_cons_zero, List.getElem_cons_succ, List.setIfInBounds_toArray, List.set_cons_zero, List.set_cons_succ]
      refine hK _ _ ?_
      clear hK K
      refine wpAny_ready (rs := [1]) (by kernel_rfl) (by simp) ?_
      refine AllReady.cons rfl (fun K hK => ?_) AllReady.nil
      refine step_load_row rfl 70 (.tmp 4) rfl pb rfl 70 L (0, 0) _ (by rw [← HLe.out]; exact HB3.out) Try.underlying70 rfl (by rw [← HLe.out, row_size]; exact sizeLives) ?_
      simp only [Act.put, List.getElem_toArray, List.getElem_cons_zero, List.getElem_cons_succ, List.setIfInBounds_toArray, List.set_cons_zero, List.set_cons_succ]
      refine hK _ _ ?_
      clear hK K
      refine wpAny_ready (rs := [2]) (by kernel_rfl) (by simp) ?_
      refine AllReady.cons rfl (fun K hK => ?_) AllReady.nil
      go_simp
      go_at_call 53
      refine (HC.out _ (by exact Hdr.out)).mono ?_
      rintro e w5 ⟨rfl, hE5, hb5⟩
      have HB5 := Lib.hid (show Blk w5 pb 70 21 (lvF h h.length) from Blk.keep (by exact HB3.out) hb5)
      have HE5 := Lib.hid hE5
      have Hb5 := Lib.hid (Below.tr (Below.tr Hb3.out Hdr.out) hb5)
      clear hb5 hE5
      go_simp
      refine hK _ _ ?_
      clear hK K
      refine wpAny_ready (rs := [4]) (by kernel_rfl) (by simp) ?_
      refine AllReady.cons rfl (fun K hK => ?_) AllReady.nil
      go_simp
      go_at_call 55
      refine (HM.out _).mono ?_
      rintro e w6 ⟨v6, rfl, hI6, hb6⟩
      have HE6 := Lib.hid (Blk.keep HE5.out hb6)
      have HI6 := Lib.hid hI6.ints
      have Hb6 := Lib.hid (Below.tr Hb5.out hb6)
      clear hb6 hI6
      go_simp
      refine hK _ _ ?_
      clear hK K
      refine wpAny_take (i := 5) (v := ?_) rfl (by kernel_rfl) (by kernel_rfl) (by kernel_rfl) (fun _ _ _ h => h) (Or.inl ⟨by rfl, ?_⟩) ?_
      rotate_left
      focus (first | (intro w; go_simp; done) | (intro w; go_simp; with_reducible rfl))
      simp only [Act.put, List.getElem_toArray, List.getElem_cons_zero, List.getElem_cons_succ, List.setIfInBounds_toArray, List.set_cons_zero, List.set_cons_succ]
      refine wpAny_take (i := 6) (v := ?_) rfl (by kernel_rfl) (by kernel_rfl) (by kernel_rfl) (fun _ _ _ h => h) (Or.inl ⟨by rfl, ?_⟩) ?_
      rotate_left
      focus (first | (intro w; go_simp; done) | (intro w; go_simp; with_reducible rfl))
      simp only [Act.put, List.getElem_toArray, List.getElem_cons_zero, List.getElem_cons_succ, List.setIfInBounds_toArray, List.set_cons_zero, List.set_cons_succ]
      refine wpAny_done (by kernel_rfl) ?_ _
      go_wp2_with fail
      go_meet
      exact ⟨_, _, rfl, rfl, HE6.out, HI6.out, Hb6.out⟩
  case rest =>
    obtain ⟨be, v6, rfl, rfl, hE, hI, hb⟩ := hcut
    have hl7 := comN_le h 7
    have Hat := Lib.hid (fun (k : Nat) (hno : ∀ q, q < k → cyK h q = none) (hk : k < (comN h 7).length + 1) (c : List Nat) (hc : cyK h k = some c) => cycN_at hno hk hc)
    have Hnn := Lib.hid (fun (hno : ∀ q, q < (comN h 7).length + 1 → cyK h q = none) => cycN_none hno)
    obtain ⟨N, hN⟩ : ∃ N, N = (comN h 7).length := ⟨_, rfl⟩
    have HCy := Lib.hid (fun (k : Nat) (hk : k ≤ N) (w' : World) (hb : Below wc.heap.size wc w') => cycle_any (size := k) (ed_lt HH.out h.length (Nat.le_refl _)) (fun x hx => comN_lt hx) hl7 hE hI (by omega) k [] (by simp) (fun x hx => by simp at hx) (.slice none 0 0) w' hb (ownInts_nil _ _))
    obtain ⟨a6, b6, off6, cap6, hv6, _⟩ := IntsN.get hI
    rw [← hN] at Hat Hnn hv6 hl7
    subst hv6
    obtain ⟨F, hF⟩ : ∃ F, F = cyK h := ⟨_, rfl⟩
    have HFe := Lib.hid (show ∀ k, cycF (bitE (ed h h.length)) (comN h 7) k [] = F k from fun k => by rw [hF]; rfl)
    rw [← hF] at Hat Hnn
    have Hb := Lib.hid hb
    have hNM : IntKind.i64.wrap ((N : Int) + 1) = (N : Int) + 1 := by rw [IntWalk.i64_in _ ⟨by omega, by omega⟩]
    clear hF hN hb hE hI
    go_wp2_with fail
    go_loopw [22] (fun vi wr => ∃ k : Nat, vi = .int .i64 k ∧ k ≤ N + 1 ∧ Below wc.heap.size wc wr ∧ ∀ q, q < k → F q = none) (fun vi _ => N + 1 - (intOf vi).toNat)
    case atStart => exact ⟨0, rfl, Nat.zero_le _, Below.refl _ _, fun q hq => by omega⟩
    case round =>
      obtain ⟨k, rfl, hk, hb, hno⟩ := hrel
      have Hbr := Lib.hid hb
      have Hno := Lib.hid hno
      clear hb hno
      by_cases hlt : k < N + 1
      · have HCk := Lib.hid (HCy.out k (by omega) wr Hbr.out)
        rw [HFe.out] at HCk
        have hatk := Hat.out k Hno.out hlt
        have Hno1 := Lib.hid (fun (e : F k = none) => show ∀ q, q < k + 1 → F q = none from fun q hq => by
          by_cases e2 : q = k
          · subst e2; exact e
          · exact Hno.out q (by omega))
        have Hatk := Lib.hid hatk
        clear hatk
        go_wp2_with fail
        refine HCk.out.mono ?_
        rintro e w7 ⟨v7, rfl, hR7, _, hb7, _⟩
        have Hb7 := Lib.hid hb7
        clear hb7
        cases hc : F k with
        | none =>
          rw [hc] at hR7
          obtain rfl : v7 = .slice none 0 0 := hR7
          have hneN := fun w' => run_neq_slice_nil_any (P := Try.prog) w' 24 3 none 0 0 0 0 Try.underlying24
          have HN1 := Lib.hid (Hno1.out hc)
          clear hc
          go_wp2_with fail
          go_roundw
          case rel => exact ⟨k + 1, by go_num, by omega, Hb7.out, HN1.out⟩
          case measure => simp [intOf]; omega
        | some c7 =>
          rw [hc] at hR7
          obtain ⟨⟨a7, n7, k7, rfl⟩, ho7⟩ := hR7
          have hneS := fun w' => run_neq_slice_nil_any (P := Try.prog) w' 24 3 (some a7) n7 k7 0 0 Try.underlying24
          have HRc := Lib.hid (Hatk.out c7 hc)
          have Hi7 := Lib.hid ho7.ints
          have HEz := Lib.hid (show E = 0 by rw [HE.out, HRc.out]; rfl)
          clear hc ho7
          go_wp2_with fail
          go_ret2
          exact ⟨_, by rw [HEz.out]; rfl, by rw [HRc.out]; exact Hi7.out, Below.tr Hb.out Hb7.out⟩
      · obtain rfl : k = N + 1 := by omega
        have HRc := Lib.hid (Hnn.out Hno.out)
        have HEz := Lib.hid (show E = 5 by rw [HE.out, HRc.out]; rfl)
        go_wp2_with fail
        go_ret2
        exact ⟨_, by rw [HEz.out]; rfl, by rw [HRc.out]; exact ints_nil _, Below.tr Hb.out Hbr.out⟩
#print axioms cycleP_any
end Go.Proofs.Ytpehbffkplmfjaa
