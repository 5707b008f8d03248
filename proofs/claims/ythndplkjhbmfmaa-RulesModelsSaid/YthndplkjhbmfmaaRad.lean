/- Contract of (*program).add: an instance is added. -/
import Derived.Test.YthndplkjhbmfmaaRac
namespace Go.Proofs.Ythndplkjhbmfmaa
open Go.RowKit
set_option maxRecDepth 100000 in
set_option maxHeartbeats 16000000 in
theorem add_any {base bnd : Nat} {w w0 : World} {bp : Nat} {rl : Value} {M : PMem} {S : PSt} (h : PG base bnd w bp rl M S) (l : List RRule) (hat : RuV l) (hl3 : ∀ r, r ∈ l → r.2.length ≤ 3) (hb0 : base = w0.heap.size) (hw0 : Below base w0 w) (hrl : Rules w0 rl l) (i : Nat) (hi : i < l.length) (m : List Int) (hm8 : m.length = 8) (hm : Num6 (rR l i) m) (hsh : Short S) :
    Calls Try.prog 121 #[.pointer (some ⟨bp, 0, none⟩), .int .i64 (i : Int), .agg (vrow m)] w fun e w' => PgE base w'.heap.size w w' bp rl M (addS S i (rR l i) m) e := by
  have hbl := h.bl
  have hsz := hw0.size
  obtain ⟨a, b, off, cap, rfl, hle, hia, _, hcs⟩ := Rules.get hrl
  obtain ⟨ua, uc, va, vc, hc0, hc1, hc2, hui, hvi⟩ := hcs i hi
  have hMr : rR l i ∈ l := by rw [rR_get hi]; exact List.getElem_mem hi
  obtain ⟨hat1, hat2⟩ := hat _ hMr
  have hl3 := hl3 _ hMr
  have hix := run_ix (P := Try.prog) (t := 27) (a := a) (len := l.length) (cap := cap) (b := b) (off := off) (s := 3) Try.underlying27 (by intro w; kernel_rfl) hia i
  obtain ⟨r, hr⟩ : ∃ x, x = rR l i := ⟨_, rfl⟩
  rw [← hr] at hc0 hc1 hc2 hui hvi hat1 hat2 hl3 hm ⊢
  have Hix := Lib.hid (fun w => hix w hi)
  obtain ⟨n, hn⟩ : ∃ x, x = l.length := ⟨_, rfl⟩
  rw [← hn] at Hix h ⊢
  obtain ⟨un, hun⟩ : ∃ x, x = r.1.2.length := ⟨_, rfl⟩
  obtain ⟨vn, hvn⟩ : ∃ x, x = r.2.length := ⟨_, rfl⟩
  have Hvn := Lib.hid hvn
  rw [← hun] at hc1 hui
  rw [← hvn] at hc2 hvi hl3
  have HCs := Lib.hid (fun (w' : World) (hb : Below base w0 w') => show w'.cell? ⟨b, off + i * 3, none⟩ = some (.int .i64 r.1.1) ∧ w'.cell? ⟨b, off + i * 3 + 1, none⟩ = some (.slice ua un uc) ∧ w'.cell? ⟨b, off + i * 3 + 2, none⟩ = some (.slice va vn vc) ∧ Ints w' (.slice ua un uc) r.1.2 ∧ Lits w' (.slice va vn vc) r.2 from by
    have hb' : Below w0.heap.size w0 w' := hb0 ▸ hb
    exact ⟨Below.keep hb' hc0, Below.keep hb' hc1, Below.keep hb' hc2, hui.keep hb', hvi.keep hb'⟩)
  have Hg1 := Lib.hid (show FcR (gnd m r.1) from gnd_fc hat1 fun t ht => hm t (.inl ht))
  have Hg2 := Lib.hid (show ∀ b, b ∈ r.2 → FcR (gnd m b.2) from fun b hb => gnd_fc (hat2 b hb) fun t ht => hm t (.inr ⟨b, hb, ht⟩))
  have Hat1 := Lib.hid hat1
  have Hat2 := Lib.hid hat2
  have Hm8 := Lib.hid hm8
  have Hsh := Lib.hid hsh
  have HX := Lib.hid (vrow_one m)
  have Hh := Lib.hid h
  obtain ⟨w1, hw1⟩ : ∃ x, x = w.alloc (.cells (vrow m) 200) := ⟨_, rfl⟩
  have hb1 : Below w.heap.size w w1 := by rw [hw1]; exact below_alloc _ _
  obtain ⟨B, hB⟩ : ∃ x, x = w.heap.size := ⟨_, rfl⟩
  have HVb := Lib.hid (show w1.heap[B]? = some (.cells (vrow m) 200 (0, 0)) from by rw [hw1, hB]; exact heap_alloc_new _ _)
  have H1 := Lib.hid (h.keep hb1)
  have HW1 := Lib.hid (show Below base w0 w1 from hw0.trans (hb1.mono (by omega)))
  have HM1 := Lib.hid (show Mv w w1 (Lv bp M) (Lv bp M) from Mv.of_below hb1)
  have Hz1 := Lib.hid (show w1.heap.size = B + 1 from by rw [hw1, hB]; simp)
  have Hw1 := Lib.hid hw1
  have HBe := Lib.hid hB
  have Hbb := Lib.hid (show base ≤ w.heap.size from by omega)
  have HSx := Lib.hid (show (Try.prog.info? 200).map (·.size) = some (vrow m).size from by rw [vrow_size, hm8]; exact sizeVals)
  obtain ⟨X, hX⟩ : ∃ X, X = vrow m := ⟨_, rfl⟩
  have HXe := Lib.hid hX
  have HBC := Lib.hid (fun (f : RAt) (h1 : AtR f) (h2 : FcR (gnd m f)) (v : Value) (w' : World) (h3 : Ints w' v f.2) => show Calls Try.prog 142 #[.agg X, .agg #[.int .i64 f.1, v]] w' (fun e w2 => e = .returned (.int .i64 (pcd (gnd m f))) ∧ Below w'.heap.size w' w2) from by
    rw [hX]
    exact bcode_any m Hm8.out f h1 h2 v w' h3)
  rw [← hX] at HX HVb HSx Hw1 ⊢
  clear h hr hat hc0 hc1 hc2 hui hvi hMr hat1 hat2 hm8 hm hsh hw1 hb1 hB hrl hcs hia hix hw0 hX hn hun hvn hbl
  go_enter Try.func121, Try.ntmps121
  go_upto_region 1 with fail
  rw [← Hw1.out, ← HBe.out]
  clear Hw1
  try simp only [Act.put]
  go_cut [6] (fun o wc => ∃ bi, o = .pointer (some ⟨bi, 0, none⟩) ∧ wc.heap[bi]? = some (.cells #[.int .i64 (i : Int), .int .i64 (pcd (gnd m r.1)), .slice none 0 0, .slice none 0 0] 207 (0, 0)) ∧ w1.heap.size ≤ bi ∧ Below w1.heap.size w1 wc)
  case first =>
    have hixi := Hix.out
    obtain ⟨q0, q1, q2, q3, q4⟩ := HCs.out w1 HW1.out
    have HIu := Lib.hid q3
    have qr := H1.out.cell (j := 0) (by omega)
    rw [if_pos rfl] at qr
    have HSk := Lib.hid (fun (w' : World) (hb : Below w1.heap.size w1 w') => show w'.heap[B]? = some (.cells X 200 (0, 0)) ∧ w'.cell? ⟨bp, 0, none⟩ = some (.slice a n cap) ∧ w'.cell? ⟨b, off + i * 3, none⟩ = some (.int .i64 r.1.1) ∧ w'.cell? ⟨b, off + i * 3 + 1, none⟩ = some (.slice ua un uc) from ⟨blk_keep2 HVb.out hb, Below.keep hb qr, Below.keep hb q0, Below.keep hb q1⟩)
    have HS0 := Lib.hid (show w1.drew.heap[B]? = some (.cells X 200 (0, 0)) ∧ w1.drew.cell? ⟨bp, 0, none⟩ = some (.slice a n cap) ∧ w1.drew.cell? ⟨b, off + i * 3, none⟩ = some (.int .i64 r.1.1) ∧ w1.drew.cell? ⟨b, off + i * 3 + 1, none⟩ = some (.slice ua un uc) from ⟨HVb.out, qr, q0, q1⟩)
    have HW0 := Lib.hid (show Below w1.heap.size w1 w1.drew from (Below.refl _ _).drew)
    clear q0 q1 q2 q3 q4 qr
    refine wp_region_held (S := fun w' => w'.heap[B]? = some (.cells X 200 (0, 0)) ∧ w'.cell? ⟨bp, 0, none⟩ = some (.slice a n cap) ∧ w'.cell? ⟨b, off + i * 3, none⟩ = some (.int .i64 r.1.1) ∧ w'.cell? ⟨b, off + i * 3 + 1, none⟩ = some (.slice ua un uc)) wideK ?_
    change wpAnyH _ _ _ _ _ _ _ _ (World.drew _)
    generalize w1.drew = wd0 at *
    refine wpAnyH_take (i := 0) (v := ?_) rfl (by kernel_rfl) (by kernel_rfl) (by kernel_rfl) (fun _ _ _ h => h) (Or.inl ⟨by rfl, ?_⟩) HS0.out ?_
    rotate_left
    focus (intro w hS; clear hS; first | (go_simp; done) | (go_simp; with_reducible rfl))
    simp only [Act.put, List.getElem_toArray, List.getElem_cons_zero, List.setIfInBounds_toArray, List.set_cons_zero, List.set_cons_succ]
    refine wpAnyH_take (i := 2) (v := ?_) rfl (by kernel_rfl) (by kernel_rfl) (by kernel_rfl) (fun _ _ _ h => h) (Or.inl ⟨by rfl, ?_⟩) HS0.out ?_
    rotate_left
    focus (intro w hS; clear hS; first | (go_simp; done) | (go_simp; with_reducible rfl))
    simp only [Act.put, List.getElem_toArray, List.getElem_cons_zero, List.getElem_cons_succ, List.setIfInBounds_toArray, List.set_cons_zero, List.set_cons_succ]
    refine wpAnyH_take (i := 3) (v := ?_) rfl (by kernel_rfl) (by kernel_rfl) (by kernel_rfl) (fun _ _ _ h => h) (Or.inl ⟨by rfl, ?_⟩) HS0.out ?_
    rotate_left
    focus (intro w hS; clear hS; first | (go_simp; done) | (go_simp; with_reducible rfl))
    simp only [Act.put, List.getElem_toArray, List.getElem_cons_zero, List.getElem_cons_succ, List.setIfInBounds_toArray, List.set_cons_zero, List.set_cons_succ]
    refine wpAnyH_take (i := 4) (v := ?_) rfl (by kernel_rfl) (by kernel_rfl) (by kernel_rfl) (fun _ _ _ h => h) (Or.inl ⟨by rfl, ?_⟩) HS0.out ?_
    rotate_left
    focus (intro w hS; clear hS; first | (go_simp; done) | (go_simp; with_reducible rfl))
    simp only [Act.put, List.getElem_toArray, List.getElem_cons_zero, List.getElem_cons_succ, List.setIfInBounds_toArray, List.set_cons_zero, List.set_cons_succ]
    refine wpAnyH_take (i := 5) (v := ?_) rfl (by kernel_rfl) (by kernel_rfl) (by kernel_rfl) (fun _ _ _ h => h) (Or.inl ⟨by rfl, ?_⟩) HS0.out ?_
    rotate_left
    focus (intro w hS; have s0 := hS.2.1; clear hS; first | (go_simp; done) | (go_simp; with_reducible rfl))
    simp only [Act.put, List.getElem_toArray, List.getElem_cons_zero, List.getElem_cons_succ, List.setIfInBounds_toArray, List.set_cons_zero, List.set_cons_succ]
    refine wpAnyH_take (i := 6) (v := ?_) rfl (by kernel_rfl) (by kernel_rfl) (by kernel_rfl) (fun _ _ _ h => h) (Or.inl ⟨by rfl, ?_⟩) HS0.out ?_
    rotate_left
    focus (intro w hS; clear hS; first | (go_simp; done) | (go_simp; with_reducible rfl))
    simp only [Act.put, List.getElem_toArray, List.getElem_cons_zero, List.getElem_cons_succ, List.setIfInBounds_toArray, List.set_cons_zero, List.set_cons_succ]
    refine wpAnyH_take (i := 7) (v := ?_) rfl (by kernel_rfl) (by kernel_rfl) (by kernel_rfl) (fun _ _ _ h => h) (Or.inl ⟨by rfl, ?_⟩) HS0.out ?_
    rotate_left
    focus (intro w hS; clear hS; first | (go_simp; done) | (go_simp; with_reducible rfl))
    simp only [Act.put, List.getElem_toArray, List.getElem_cons_zero, List.getElem_cons_succ, List.setIfInBounds_toArray, List.set_cons_zero, List.set_cons_succ]
    refine wpAnyH_take (i := 8) (v := ?_) rfl (by kernel_rfl) (by kernel_rfl) (by kernel_rfl) (fun _ _ _ h => h) (Or.inl ⟨by rfl, ?_⟩) HS0.out ?_
    rotate_left
    focus (intro w hS; clear hS; first | (go_simp; done) | (go_simp; with_reducible rfl))
    simp only [Act.put, List.getElem_toArray, List.getElem_cons_zero, List.getElem_cons_succ, List.setIfInBounds_toArray, List.set_cons_zero, List.set_cons_succ]
    refine wpAnyH_take (i := 9) (v := ?_) rfl (by kernel_rfl) (by kernel_rfl) (by kernel_rfl) (fun _ _ _ h => h) (Or.inl ⟨by rfl, ?_⟩) HS0.out ?_
    rotate_left
    focus (intro w hS; have s0 := hS.2.2.1; have s1 := hS.2.2.2; clear hS; first | (go_simp; done) | (go_simp; with_reducible rfl))
    simp only [Act.put, List.getElem_toArray, List.getElem_cons_zero, List.getElem_cons_succ, List.setIfInBounds_toArray, List.set_cons_zero, List.set_cons_succ]
    refine wpAnyH_ready (rs := [1, 12]) (by kernel_rfl) (by simp) ?_
    refine RdyH.cons rfl (fun K2 hK => ?_) ?_
    · refine step_load_row rfl 200 (.tmp 5) rfl B rfl 200 X (0, 0) _ HS0.out.1 undVals rfl HSx.out ?_
      refine hK _ _ HS0.out ?_
      clear hK K2
      refine wpAnyH_ready (rs := [10, 12]) (by kernel_rfl) (by simp) ?_
      refine RdyH.cons rfl (fun K2 hK => ?_) ?_
      · go_simp
        go_at_call 142
        have hbc := HBC.out r.1 Hat1.out Hg1.out (.slice ua un uc) wd0 (HIu.out.keep HW0.out)
        refine hbc.mono ?_
        clear hbc
        rintro e wd1 ⟨rfl, hb⟩
        have HS1 := Lib.hid (show wd1.heap[B]? = some (.cells X 200 (0, 0)) ∧ wd1.cell? ⟨bp, 0, none⟩ = some (.slice a n cap) ∧ wd1.cell? ⟨b, off + i * 3, none⟩ = some (.int .i64 r.1.1) ∧ wd1.cell? ⟨b, off + i * 3 + 1, none⟩ = some (.slice ua un uc) from ⟨blk_keep2 HS0.out.1 hb, Below.keep hb HS0.out.2.1, Below.keep hb HS0.out.2.2.1, Below.keep hb HS0.out.2.2.2⟩)
        have HW1 := Lib.hid (Below.tr HW0.out hb)
        clear hb
        go_simp
        refine hK _ _ HS1.out ?_
        clear hK K2
        refine wpAnyH_take (i := 11) (v := ?_) rfl (by kernel_rfl) (by kernel_rfl) (by kernel_rfl) (fun _ _ _ h => h) (Or.inl ⟨by rfl, ?_⟩) HS1.out ?_
        rotate_left
        focus (intro w hS; clear hS; first | (go_simp; done) | (go_simp; with_reducible rfl))
        simp only [Act.put, List.getElem_toArray, List.getElem_cons_zero, List.getElem_cons_succ, List.setIfInBounds_toArray, List.set_cons_zero, List.set_cons_succ]
        refine wpAnyH_ready (rs := [12]) (by kernel_rfl) (by simp) ?_
        refine RdyH.cons rfl (fun K2 hK => ?_) RdyH.nil
        obtain ⟨wd2, hwd⟩ : ∃ x, x = wd1.alloc (.cells #[.int .i64 0, .int .i64 0, .slice none 0 0, .slice none 0 0] 207) := ⟨_, rfl⟩
        have hb : Below wd1.heap.size wd1 wd2 := by rw [hwd]; exact below_alloc _ _
        obtain ⟨bi, hbi⟩ : ∃ x, x = wd1.heap.size := ⟨_, rfl⟩
        have HI2 := Lib.hid (show wd2.heap[bi]? = some (.cells #[.int .i64 0, .int .i64 0, .slice none 0 0, .slice none 0 0] 207 (0, 0)) from by rw [hwd, hbi]; exact heap_alloc_new _ _)
        have HS2 := Lib.hid (show wd2.heap[B]? = some (.cells X 200 (0, 0)) ∧ wd2.cell? ⟨bp, 0, none⟩ = some (.slice a n cap) ∧ wd2.cell? ⟨b, off + i * 3, none⟩ = some (.int .i64 r.1.1) ∧ wd2.cell? ⟨b, off + i * 3 + 1, none⟩ = some (.slice ua un uc) from ⟨blk_keep2 HS1.out.1 hb, Below.keep hb HS1.out.2.1, Below.keep hb HS1.out.2.2.1, Below.keep hb HS1.out.2.2.2⟩)
        have HW2 := Lib.hid (Below.tr HW1.out hb)
        have Hbi := Lib.hid (show w1.heap.size ≤ bi from by rw [hbi]; exact HW1.out.size)
        go_simp
        rw [← hwd, ← hbi]
        clear hwd hbi hb
        refine hK _ _ HS2.out ?_
        clear hK K2
        refine wpAnyH_ready (rs := [13]) (by kernel_rfl) (by simp) ?_
        refine RdyH.cons rfl (fun K2 hK => ?_) RdyH.nil
        refine step_store_row rfl 207 (.tmp 6) (.tmp 21) rfl bi #[.int .i64 (i : Int), .int .i64 (pcd (gnd m r.1)), .slice none 0 0, .slice none 0 0] rfl rfl 207 _ HI2.out sizeIns rfl (oneIns _ _) ?_
        have HI3 := Lib.hid (setRow_heap wd2 bi _ #[.int .i64 (i : Int), .int .i64 (pcd (gnd m r.1)), .slice none 0 0, .slice none 0 0] _ _ HI2.out)
        have HW3 := Lib.hid (below_setRow (b := bi) HW2.out Hbi.out #[.int .i64 (i : Int), .int .i64 (pcd (gnd m r.1)), .slice none 0 0, .slice none 0 0])
        generalize wd2.setRow bi #[.int .i64 (i : Int), .int .i64 (pcd (gnd m r.1)), .slice none 0 0, .slice none 0 0] = wd3 at *
        refine hK _ _ (HSk.out _ HW3.out) ?_
        clear hK K2
        refine wpAnyH_done (by kernel_rfl) ?_ _
        go_wp2_with fail
        go_meet
        exact ⟨bi, rfl, HI3.out, Hbi.out, HW3.out⟩
      · refine RdyH.cons rfl (fun K2 hK => ?_) RdyH.nil
        obtain ⟨wd1, hwd⟩ : ∃ x, x = wd0.alloc (.cells #[.int .i64 0, .int .i64 0, .slice none 0 0, .slice none 0 0] 207) := ⟨_, rfl⟩
        have hb : Below wd0.heap.size wd0 wd1 := by rw [hwd]; exact below_alloc _ _
        obtain ⟨bi, hbi⟩ : ∃ x, x = wd0.heap.size := ⟨_, rfl⟩
        have HI1 := Lib.hid (show wd1.heap[bi]? = some (.cells #[.int .i64 0, .int .i64 0, .slice none 0 0, .slice none 0 0] 207 (0, 0)) from by rw [hwd, hbi]; exact heap_alloc_new _ _)
        have HS1 := Lib.hid (show wd1.heap[B]? = some (.cells X 200 (0, 0)) ∧ wd1.cell? ⟨bp, 0, none⟩ = some (.slice a n cap) ∧ wd1.cell? ⟨b, off + i * 3, none⟩ = some (.int .i64 r.1.1) ∧ wd1.cell? ⟨b, off + i * 3 + 1, none⟩ = some (.slice ua un uc) from ⟨blk_keep2 HS0.out.1 hb, Below.keep hb HS0.out.2.1, Below.keep hb HS0.out.2.2.1, Below.keep hb HS0.out.2.2.2⟩)
        have HW1 := Lib.hid (Below.tr HW0.out hb)
        have Hbi := Lib.hid (show w1.heap.size ≤ bi from by rw [hbi]; exact HW0.out.size)
        go_simp
        rw [← hwd, ← hbi]
        clear hwd hbi hb
        refine hK _ _ HS1.out ?_
        clear hK K2
        refine wpAnyH_ready (rs := [10]) (by kernel_rfl) (by simp) ?_
        refine RdyH.cons rfl (fun K2 hK => ?_) RdyH.nil
        go_simp
        go_at_call 142
        have hbc := HBC.out r.1 Hat1.out Hg1.out (.slice ua un uc) wd1 (HIu.out.keep HW1.out)
        refine hbc.mono ?_
        clear hbc
        rintro e wd2 ⟨rfl, hb⟩
        have HS2 := Lib.hid (show wd2.heap[B]? = some (.cells X 200 (0, 0)) ∧ wd2.cell? ⟨bp, 0, none⟩ = some (.slice a n cap) ∧ wd2.cell? ⟨b, off + i * 3, none⟩ = some (.int .i64 r.1.1) ∧ wd2.cell? ⟨b, off + i * 3 + 1, none⟩ = some (.slice ua un uc) from ⟨blk_keep2 HS1.out.1 hb, Below.keep hb HS1.out.2.1, Below.keep hb HS1.out.2.2.1, Below.keep hb HS1.out.2.2.2⟩)
        have HW2 := Lib.hid (Below.tr HW1.out hb)
        have HI2 := Lib.hid (blk_keep2 HI1.out hb)
        clear hb
        go_simp
        refine hK _ _ HS2.out ?_
        clear hK K2
        refine wpAnyH_take (i := 11) (v := ?_) rfl (by kernel_rfl) (by kernel_rfl) (by kernel_rfl) (fun _ _ _ h => h) (Or.inl ⟨by rfl, ?_⟩) HS2.out ?_
        rotate_left
        focus (intro w hS; clear hS; first | (go_simp; done) | (go_simp; with_reducible rfl))
        simp only [Act.put, List.getElem_toArray, List.getElem_cons_zero, List.getElem_cons_succ, List.setIfInBounds_toArray, List.set_cons_zero, List.set_cons_succ]
        refine wpAnyH_ready (rs := [13]) (by kernel_rfl) (by simp) ?_
        refine RdyH.cons rfl (fun K2 hK => ?_) RdyH.nil
        refine step_store_row rfl 207 (.tmp 6) (.tmp 21) rfl bi #[.int .i64 (i : Int), .int .i64 (pcd (gnd m r.1)), .slice none 0 0, .slice none 0 0] rfl rfl 207 _ HI2.out sizeIns rfl (oneIns _ _) ?_
        have HI3 := Lib.hid (setRow_heap wd2 bi _ #[.int .i64 (i : Int), .int .i64 (pcd (gnd m r.1)), .slice none 0 0, .slice none 0 0] _ _ HI2.out)
        have HW3 := Lib.hid (below_setRow (b := bi) HW2.out Hbi.out #[.int .i64 (i : Int), .int .i64 (pcd (gnd m r.1)), .slice none 0 0, .slice none 0 0])
        generalize wd2.setRow bi #[.int .i64 (i : Int), .int .i64 (pcd (gnd m r.1)), .slice none 0 0, .slice none 0 0] = wd3 at *
        refine hK _ _ (HSk.out _ HW3.out) ?_
        clear hK K2
        refine wpAnyH_done (by kernel_rfl) ?_ _
        go_wp2_with fail
        go_meet
        exact ⟨bi, rfl, HI3.out, Hbi.out, HW3.out⟩
    · refine RdyH.cons rfl (fun K2 hK => ?_) RdyH.nil
      obtain ⟨wd1, hwd⟩ : ∃ x, x = wd0.alloc (.cells #[.int .i64 0, .int .i64 0, .slice none 0 0, .slice none 0 0] 207) := ⟨_, rfl⟩
      have hb : Below wd0.heap.size wd0 wd1 := by rw [hwd]; exact below_alloc _ _
      obtain ⟨bi, hbi⟩ : ∃ x, x = wd0.heap.size := ⟨_, rfl⟩
      have HI1 := Lib.hid (show wd1.heap[bi]? = some (.cells #[.int .i64 0, .int .i64 0, .slice none 0 0, .slice none 0 0] 207 (0, 0)) from by rw [hwd, hbi]; exact heap_alloc_new _ _)
      have HS1 := Lib.hid (show wd1.heap[B]? = some (.cells X 200 (0, 0)) ∧ wd1.cell? ⟨bp, 0, none⟩ = some (.slice a n cap) ∧ wd1.cell? ⟨b, off + i * 3, none⟩ = some (.int .i64 r.1.1) ∧ wd1.cell? ⟨b, off + i * 3 + 1, none⟩ = some (.slice ua un uc) from ⟨blk_keep2 HS0.out.1 hb, Below.keep hb HS0.out.2.1, Below.keep hb HS0.out.2.2.1, Below.keep hb HS0.out.2.2.2⟩)
      have HW1 := Lib.hid (Below.tr HW0.out hb)
      have Hbi := Lib.hid (show w1.heap.size ≤ bi from by rw [hbi]; exact HW0.out.size)
      go_simp
      rw [← hwd, ← hbi]
      clear hwd hbi hb
      refine hK _ _ HS1.out ?_
      clear hK K2
      refine wpAnyH_ready (rs := [1]) (by kernel_rfl) (by simp) ?_
      refine RdyH.cons rfl (fun K2 hK => ?_) RdyH.nil
      refine step_load_row rfl 200 (.tmp 5) rfl B rfl 200 X (0, 0) _ HS1.out.1 undVals rfl HSx.out ?_
      refine hK _ _ HS1.out ?_
      clear hK K2
      refine wpAnyH_ready (rs := [10]) (by kernel_rfl) (by simp) ?_
      refine RdyH.cons rfl (fun K2 hK => ?_) RdyH.nil
      go_simp
      go_at_call 142
      have hbc := HBC.out r.1 Hat1.out Hg1.out (.slice ua un uc) wd1 (HIu.out.keep HW1.out)
      refine hbc.mono ?_
      clear hbc
      rintro e wd2 ⟨rfl, hb⟩
      have HS2 := Lib.hid (show wd2.heap[B]? = some (.cells X 200 (0, 0)) ∧ wd2.cell? ⟨bp, 0, none⟩ = some (.slice a n cap) ∧ wd2.cell? ⟨b, off + i * 3, none⟩ = some (.int .i64 r.1.1) ∧ wd2.cell? ⟨b, off + i * 3 + 1, none⟩ = some (.slice ua un uc) from ⟨blk_keep2 HS1.out.1 hb, Below.keep hb HS1.out.2.1, Below.keep hb HS1.out.2.2.1, Below.keep hb HS1.out.2.2.2⟩)
      have HW2 := Lib.hid (Below.tr HW1.out hb)
      have HI2 := Lib.hid (blk_keep2 HI1.out hb)
      clear hb
      go_simp
      refine hK _ _ HS2.out ?_
      clear hK K2
      refine wpAnyH_take (i := 11) (v := ?_) rfl (by kernel_rfl) (by kernel_rfl) (by kernel_rfl) (fun _ _ _ h => h) (Or.inl ⟨by rfl, ?_⟩) HS2.out ?_
      rotate_left
      focus (intro w hS; clear hS; first | (go_simp; done) | (go_simp; with_reducible rfl))
      simp only [Act.put, List.getElem_toArray, List.getElem_cons_zero, List.getElem_cons_succ, List.setIfInBounds_toArray, List.set_cons_zero, List.set_cons_succ]
      refine wpAnyH_ready (rs := [13]) (by kernel_rfl) (by simp) ?_
      refine RdyH.cons rfl (fun K2 hK => ?_) RdyH.nil
      refine step_store_row rfl 207 (.tmp 6) (.tmp 21) rfl bi #[.int .i64 (i : Int), .int .i64 (pcd (gnd m r.1)), .slice none 0 0, .slice none 0 0] rfl rfl 207 _ HI2.out sizeIns rfl (oneIns _ _) ?_
      have HI3 := Lib.hid (setRow_heap wd2 bi _ #[.int .i64 (i : Int), .int .i64 (pcd (gnd m r.1)), .slice none 0 0, .slice none 0 0] _ _ HI2.out)
      have HW3 := Lib.hid (below_setRow (b := bi) HW2.out Hbi.out #[.int .i64 (i : Int), .int .i64 (pcd (gnd m r.1)), .slice none 0 0, .slice none 0 0])
      generalize wd2.setRow bi #[.int .i64 (i : Int), .int .i64 (pcd (gnd m r.1)), .slice none 0 0, .slice none 0 0] = wd3 at *
      refine hK _ _ (HSk.out _ HW3.out) ?_
      clear hK K2
      refine wpAnyH_done (by kernel_rfl) ?_ _
      go_wp2_with fail
      go_meet
      exact ⟨bi, rfl, HI3.out, Hbi.out, HW3.out⟩
  case rest =>
    obtain ⟨bi, rfl, hI, hbi, hb⟩ := hcut
    have HA0 := Lib.hid (show Ad base bnd B w1 wc bp bi (.slice a n cap) M M ⟨S.I, addU (S.I.length : Int) S.R (needC r m 0), S.rch⟩ X i (pcd (gnd m r.1)) (.slice none 0 0) (.slice none 0 0) (needC r m 0) (avoidC r m 0) from by
      have hz := Hz1.out
      have hbl := Hh.out.bl
      have hBb := HBe.out
      have hnl : ∀ k, w.heap.size ≤ k → ¬ Lv bp M k := fun k hk e => by have := Hh.out.lvLt e; omega
      exact ⟨H1.out.keep hb, Mv.of_below hb, hI, blk_keep2 HVb.out hb, ownInts_nil _ _, ownInts_nil _ _, hnl bi (by omega), hnl B (by omega), fun g hg => (by cases hg), fun g hg => (by cases hg), ⟨by omega, by omega, hz⟩, .refl _⟩)
    have HWc := Lib.hid (show Below base w0 wc from HW1.out.trans (hb.mono (by have := Hz1.out; have := HBe.out; have := Hbb.out; omega)))
    clear hI hbi hb
    have hixi := Hix.out
    have q0 := HA0.out.p.cell (j := 0) (by omega)
    rw [if_pos rfl] at q0
    obtain ⟨p0, p1, p2, p3, p4⟩ := HCs.out wc HWc.out
    obtain ⟨a5, b5, off5, cap5, he5, hvl, hia5, _, hcs5⟩ := Lits.get (HCs.out w0 (Below.refl _ _)).2.2.2.2
    rw [← Hvn.out] at he5 hia5 hcs5 hvl
    injection he5 with e1 e2 e3
    subst e1 e3
    have Hix5 := Lib.hid (run_ix (P := Try.prog) (t := 96) (a := va) (len := vn) (cap := vc) (b := b5) (off := off5) (s := 3) Try.underlying96 (by intro w; kernel_rfl) hia5)
    have Hc5 := Lib.hid hcs5
    clear hia5 hcs5 e2 p0 p1 p3 p4
    go_wp2_with fail
    clear q0 p2
    go_loopw [31] (fun vi wr => ∃ (k : Nat) (M' : PMem) (xna : Option Addr) (xnn xnk : Nat) (xaa : Option Addr) (xan xak : Nat), vi = .int .i64 k ∧ k ≤ vn ∧ Ad base bnd B w1 wr bp bi (.slice a n cap) M M' ⟨S.I, addU (S.I.length : Int) S.R (needC r m k), S.rch⟩ X i (pcd (gnd m r.1)) (.slice xna xnn xnk) (.slice xaa xan xak) (needC r m k) (avoidC r m k)) (fun vi _ => vn - (intOf vi).toNat)
    case atStart => exact ⟨0, M, none, 0, 0, none, 0, 0, rfl, Nat.zero_le _, HA0.out⟩
    case round =>
      generalize wr = wx at *
      clear HA0
      obtain ⟨k, M', xna, xnn, xnk, xaa, xan, xak, rfl, hk, hA⟩ := hrel
      have HA := Lib.hid hA
      clear hA
      by_cases hlt : k < vn
      · have HWx := Lib.hid (show Below base w0 wx from HW1.out.trans (HA.out.m.below (by have := Hz1.out; have := HBe.out; have := Hbb.out; omega) Hh.out.ge))
        obtain ⟨za, zc, hc0, hc1, hc2, hzi⟩ := Hc5.out k hlt
        have hWx : Below w0.heap.size w0 wx := hb0 ▸ HWx.out
        have hc0 := Below.keep hWx hc0
        have hc1 := Below.keep hWx hc1
        have hc2 := Below.keep hWx hc2
        have hzi := Ints.keep hzi hWx
        have hixk := Hix5.out k
        have hlt2 : k < r.2.length := by rw [← Hvn.out]; exact hlt
        have HMb := Lib.hid (show lL r.2 k ∈ r.2 from by rw [lL_get hlt2]; exact List.getElem_mem hlt2)
        have HN1 := Lib.hid (fun h => code_not (r := r) (m := m) hlt2 h)
        have HY1 := Lib.hid (fun h => code_yes (r := r) (m := m) hlt2 h)
        obtain ⟨⟨N, s, Z⟩, hx⟩ : ∃ x, x = lL r.2 k := ⟨_, rfl⟩
        rw [← hx] at hc0 hc1 hc2 hzi HMb HN1 HY1
        simp only at hc0 hc1 hc2 hzi HN1 HY1
        have Hat3 := Lib.hid (Hat2.out _ HMb.out)
        have Hg3 := Lib.hid (Hg2.out _ HMb.out)
        obtain ⟨c, hcd⟩ : ∃ c, c = pcd (gnd m (s, Z)) := ⟨_, rfl⟩
        have Hcd := Lib.hid hcd
        have Hck := Lib.hid (show KOk c from by rw [hcd]; exact pcd_range Hg3.out)
        rw [← hcd] at HN1 HY1
        obtain ⟨zn, hzn⟩ : ∃ x, x = Z.length := ⟨_, rfl⟩
        rw [← hzn] at hc2 hzi
        obtain ⟨w3, hw3⟩ : ∃ x, x = wx.alloc (.cells #[.bool N, .int .i64 s, .slice za zn zc] 100) := ⟨_, rfl⟩
        have hb3 : Below wx.heap.size wx w3 := by rw [hw3]; exact below_alloc _ _
        obtain ⟨bl, hbl⟩ : ∃ x, x = wx.heap.size := ⟨_, rfl⟩
        have HL := Lib.hid (show w3.heap[bl]? = some (.cells #[.bool N, .int .i64 s, .slice za zn zc] 100 (0, 0)) from by rw [hw3, hbl]; exact heap_alloc_new _ _)
        have HA3 := Lib.hid (HA.out.keep hb3)
        have Hz3 := Lib.hid (Ints.keep hzi hb3)
        have Hw3 := Lib.hid hw3
        have Hbl := Lib.hid hbl
        have hcl := codes_len r m k
        clear hx hcd hzn hzi hw3 hb3 hbl hlt2 hWx HA
        go_upto_region 5 with fail
        rw [← Hw3.out, ← Hbl.out]
        clear Hw3 hc0 hc1 hc2 hixk
        have g0 := aCell HL.out 0 rfl
        have g1 := aCell HL.out 1 rfl
        have g2 := aCell HL.out 2 rfl
        have HBq := Lib.hid (HBC.out (s, Z) Hat3.out Hg3.out (.slice za zn zc) w3 Hz3.out)
        rw [← Hcd.out] at HBq
        go_wp2_with (first | (refine wpList_load_row rfl 200 (.tmp 5) rfl B rfl 200 X (0, 0) _ HA3.out.x undVals rfl HSx.out ?_))
        refine HBq.out.mono ?_
        rintro e w4 ⟨rfl, hb⟩
        have HA4 := Lib.hid (HA3.out.keep hb)
        have HL4 := Lib.hid (blk_keep2 HL.out hb)
        clear hb g0 g1 g2 HBq HA3 HL Hz3
        have g0 := aCell HL4.out 0 rfl
        have gb2 := aCell HA4.out.b 2 rfl
        have gb3 := aCell HA4.out.b 3 rfl
        obtain ⟨w5, hw5⟩ : ∃ x, x = w4.alloc (.cells #[.int .i64 c] 3) := ⟨_, rfl⟩
        have hb5 : Below w4.heap.size w4 w5 := by rw [hw5]; exact below_alloc _ _
        obtain ⟨bk, hbk⟩ : ∃ x, x = w4.heap.size := ⟨_, rfl⟩
        have HK := Lib.hid (show w5.heap[bk]? = some (.cells #[.int .i64 c] 3 (0, 0)) from by rw [hw5, hbk]; exact heap_alloc_new _ _)
        have HA5 := Lib.hid (HA4.out.keep hb5)
        have Hw5 := Lib.hid hw5
        have Hbk := Lib.hid hbk
        have hB5 : B + 1 ≤ w5.heap.size := by have := (Array.getElem?_eq_some_iff.1 HA5.out.x).1; omega
        clear hw5 hb5 hbk
        cases N
        · have HY := Lib.hid (HY1.out rfl)
          have hnl : (needC r m k).length ≤ 1000000 := by omega
          go_upto_region 9 with (first | (at_builtin; rw [← Hw5.out, ← Hbk.out]; refine append_at rfl (.tmp 48) (.tmp 50) 23 rfl elemInts rfl HA5.out.n (news := [.int .i64 c]) rfl rfl (fun k y hk => aCell HK.out k (by simpa using hk)) (ints_oneCell [c]) hnl hB5 ?_; intro v9 w9 h91 h92 h93 h94; obtain ⟨pa, pn, pk, rfl⟩ := row_slice h91; have H91 := Lib.hid (HA5.out.putN h93 (OwnInts.snoc h91) h94); have hbq := (h93.block bi (Array.getElem?_eq_some_iff.1 HA5.out.b).1 HA5.out.bi_ne.1.symm).trans HA5.out.b; have x1 := cell_of_row w9 bi 2 _ _ _ hbq; have x2 := frozen_of_row w9 bi 2 _ _ hbq; clear hbq h91 h92 h93 h94 gb2 gb3))
          clear x1 x2 g0 HL4 HN1 HA5 HA4
          obtain ⟨ws, hws⟩ : ∃ x, x = w9.setCell ⟨bi, 2, none⟩ (.slice pa pn pk) := ⟨_, rfl⟩
          rw [← hws] at H91 ⊢
          clear hws
          obtain ⟨cn, hcn⟩ : ∃ cn : Nat, c = (cn : Int) := ⟨c.toNat, by have := Hck.out.1; omega⟩
          have hc29 : cn < 294 := by have := Hck.out.2; omega
          subst hcn
          have hc30 : (cn : Int) < 294 := by omega
          have Hrow := Lib.hid (show rowJ (2 + cn) from .inl ⟨by omega, by omega⟩)
          obtain ⟨ya, yn, yc, hy⟩ := oq_form (H91.out.p.rows _ Hrow.out)
          have Hy := Lib.hid hy
          obtain ⟨us, hx1, h2, hx2⟩ := H91.out.p.ins
          obtain ⟨hx3, hx4, ia, ib, ioff, ic, hv, hx5⟩ := owns_rd h2
          have Hv := Lib.hid hv
          clear hx1 hx2 hx3 hx4 hx5
          have HL9 := Lib.hid (show (addU (S.I.length : Int) S.R (needC r m k) (2 + cn)).length ≤ 10000000000 from by
            have q1 := addU_len (S.I.length : Int) (needC r m k) S.R (2 + cn)
            have q2 := Hsh.out.2 (2 + cn)
            have q3 := (codes_len r m k).1
            omega)
          clear h2 hy hv
          obtain ⟨sn, hsn⟩ : ∃ x, x = S.I.length := ⟨_, rfl⟩
          have Hsn := Lib.hid hsn
          have HW0 := Lib.hid (show Below ws.heap.size ws ws.drew from (Below.refl _ _).drew)
          have HA0 := Lib.hid (H91.out.keep HW0.out)
          have HS0 := Lib.hid (show ws.drew.cell? ⟨bp, 1, none⟩ = some (.slice ia sn ic) from by
            have q := HA0.out.p.cell (j := 1) (by omega)
            rw [if_neg (by omega), if_pos rfl, Hv.out] at q
            rw [hsn]; exact q)
          clear hsn H91 HW0
          refine wp_region_held (S := fun w' => w'.cell? ⟨bp, 1, none⟩ = some (.slice ia sn ic)) wideK ?_
          change wpAnyH _ _ _ _ _ _ _ _ (World.drew _)
          generalize ws.drew = wd0 at *
          refine wpAnyH_take (i := 0) (v := ?_) rfl (by kernel_rfl) (by kernel_rfl) (by kernel_rfl) (fun _ _ _ h => h) (Or.inl ⟨by rfl, ?_⟩) HS0.out ?_
          rotate_left
          focus (intro w hS; clear hS; first | (go_simp; done) | (go_simp; with_reducible rfl))
          simp only [Act.put, List.getElem_toArray, List.getElem_cons_zero, List.setIfInBounds_toArray, List.set_cons_zero, List.set_cons_succ]
          refine wpAnyH_take (i := 1) (v := ?_) rfl (by kernel_rfl) (by kernel_rfl) (by kernel_rfl) (fun _ _ _ h => h) (Or.inl ⟨by rfl, ?_⟩) HS0.out ?_
          rotate_left
          focus (intro w hS; clear hS; first | (go_simp; done) | (go_simp; with_reducible rfl))
          simp only [Act.put, List.getElem_toArray, List.getElem_cons_zero, List.getElem_cons_succ, List.setIfInBounds_toArray, List.set_cons_zero, List.set_cons_succ]
          refine wpAnyH_take (i := 2) (v := ?_) rfl (by kernel_rfl) (by kernel_rfl) (by kernel_rfl) (fun _ _ _ h => h) (Or.inl ⟨by rfl, ?_⟩) HS0.out ?_
          rotate_left
          focus (intro w hS; clear hS; first | (go_simp; done) | (go_simp; with_reducible rfl))
          simp only [Act.put, List.getElem_toArray, List.getElem_cons_zero, List.getElem_cons_succ, List.setIfInBounds_toArray, List.set_cons_zero, List.set_cons_succ]
          refine wpAnyH_take (i := 3) (v := ?_) rfl (by kernel_rfl) (by kernel_rfl) (by kernel_rfl) (fun _ _ _ h => h) (Or.inl ⟨by rfl, ?_⟩) HS0.out ?_
          rotate_left
          focus (intro w hS; clear hS; first | (go_simp; done) | (go_simp; with_reducible rfl))
          simp only [Act.put, List.getElem_toArray, List.getElem_cons_zero, List.getElem_cons_succ, List.setIfInBounds_toArray, List.set_cons_zero, List.set_cons_succ]
          refine wpAnyH_take (i := 4) (v := ?_) rfl (by kernel_rfl) (by kernel_rfl) (by kernel_rfl) (fun _ _ _ h => h) (Or.inl ⟨by rfl, ?_⟩) HS0.out ?_
          rotate_left
          focus (intro w hS; clear hS; first | (go_simp; done) | (go_simp; with_reducible rfl))
          simp only [Act.put, List.getElem_toArray, List.getElem_cons_zero, List.getElem_cons_succ, List.setIfInBounds_toArray, List.set_cons_zero, List.set_cons_succ]
          refine wpAnyH_take (i := 5) (v := ?_) rfl (by kernel_rfl) (by kernel_rfl) (by kernel_rfl) (fun _ _ _ h => h) (Or.inl ⟨by rfl, ?_⟩) HS0.out ?_
          rotate_left
          focus (intro w hS; clear hS; first | (go_simp; done) | (go_simp; with_reducible rfl))
          simp only [Act.put, List.getElem_toArray, List.getElem_cons_zero, List.getElem_cons_succ, List.setIfInBounds_toArray, List.set_cons_zero, List.set_cons_succ]
          refine wpAnyH_take (i := 6) (v := ?_) rfl (by kernel_rfl) (by kernel_rfl) (by kernel_rfl) (fun _ _ _ h => h) (Or.inl ⟨by rfl, ?_⟩) HS0.out ?_
          rotate_left
          focus (intro w hS; clear hS; first | (go_simp; done) | (go_simp; with_reducible rfl))
          simp only [Act.put, List.getElem_toArray, List.getElem_cons_zero, List.getElem_cons_succ, List.setIfInBounds_toArray, List.set_cons_zero, List.set_cons_succ]
          refine wpAnyH_take (i := 8) (v := ?_) rfl (by kernel_rfl) (by kernel_rfl) (by kernel_rfl) (fun _ _ _ h => h) (Or.inl ⟨by rfl, ?_⟩) HS0.out ?_
          rotate_left
          focus (intro w hS; clear hS; first | (go_simp; done) | (go_simp; with_reducible rfl))
          simp only [Act.put, List.getElem_toArray, List.getElem_cons_zero, List.getElem_cons_succ, List.setIfInBounds_toArray, List.set_cons_zero, List.set_cons_succ]
          refine wpAnyH_take (i := 9) (v := ?_) rfl (by kernel_rfl) (by kernel_rfl) (by kernel_rfl) (fun _ _ _ h => h) (Or.inl ⟨by rfl, ?_⟩) HS0.out ?_
          rotate_left
          focus (intro w hS; clear hS; first | (go_simp; done) | (go_simp; with_reducible rfl))
          simp only [Act.put, List.getElem_toArray, List.getElem_cons_zero, List.getElem_cons_succ, List.setIfInBounds_toArray, List.set_cons_zero, List.set_cons_succ]
          refine wpAnyH_take (i := 10) (v := ?_) rfl (by kernel_rfl) (by kernel_rfl) (by kernel_rfl) (fun _ _ _ h => h) (Or.inl ⟨by rfl, ?_⟩) HS0.out ?_
          rotate_left
          focus (intro w hS; clear hS; first | (go_simp; done) | (go_simp; with_reducible rfl))
          simp only [Act.put, List.getElem_toArray, List.getElem_cons_zero, List.getElem_cons_succ, List.setIfInBounds_toArray, List.set_cons_zero, List.set_cons_succ]
          refine wpAnyH_take (i := 11) (v := ?_) rfl (by kernel_rfl) (by kernel_rfl) (by kernel_rfl) (fun _ _ _ h => h) (Or.inl ⟨by rfl, ?_⟩) HS0.out ?_
          rotate_left
          focus (intro w hS; have s0 := hS; clear hS; first | (go_simp; done) | (go_simp; with_reducible rfl))
          simp only [Act.put, List.getElem_toArray, List.getElem_cons_zero, List.getElem_cons_succ, List.setIfInBounds_toArray, List.set_cons_zero, List.set_cons_succ]
          refine wpAnyH_take (i := 12) (v := ?_) rfl (by kernel_rfl) (by kernel_rfl) (by kernel_rfl) (fun _ _ _ h => h) (Or.inl ⟨by rfl, ?_⟩) HS0.out ?_
          rotate_left
          focus (intro w hS; clear hS; first | (go_simp; done) | (go_simp; with_reducible rfl))
          simp only [Act.put, List.getElem_toArray, List.getElem_cons_zero, List.getElem_cons_succ, List.setIfInBounds_toArray, List.set_cons_zero, List.set_cons_succ]
          refine wpAnyH_take (i := 15) (v := ?_) rfl (by kernel_rfl) (by kernel_rfl) (by kernel_rfl) (fun _ _ _ h => h) (Or.inl ⟨by rfl, ?_⟩) HS0.out ?_
          rotate_left
          focus (intro w hS; clear hS; first | (go_simp; done) | (go_simp; with_reducible rfl))
          simp only [Act.put, List.getElem_toArray, List.getElem_cons_zero, List.getElem_cons_succ, List.setIfInBounds_toArray, List.set_cons_zero, List.set_cons_succ]
          refine wpAnyH_take (i := 16) (v := ?_) rfl (by kernel_rfl) (by kernel_rfl) (by kernel_rfl) (fun _ _ _ h => h) (Or.inl ⟨by rfl, ?_⟩) HS0.out ?_
          rotate_left
          focus (intro w hS; clear hS; first | (go_simp; done) | (go_simp; with_reducible rfl))
          simp only [Act.put, List.getElem_toArray, List.getElem_cons_zero, List.getElem_cons_succ, List.setIfInBounds_toArray, List.set_cons_zero, List.set_cons_succ]
          refine wpAnyH_ready (rs := [7, 13]) (by kernel_rfl) (by simp) ?_
          refine RdyH.cons rfl (fun K2 hK => ?_) ?_
          · have gu := HA0.out.p.cellR Hrow.out
            rw [Hy.out] at gu
            go_simp
            refine hK _ _ HS0.out ?_
            clear hK K2 gu
            refine wpAnyH_ready (rs := [13]) (by kernel_rfl) (by simp) ?_
            refine RdyH.cons rfl (fun K2 hK => ?_) RdyH.nil
            obtain ⟨wd1, hwd⟩ : ∃ x, x = wd0.alloc (.cells #[.int .i64 (sn : Int)] 3) := ⟨_, rfl⟩
            have hb : Below wd0.heap.size wd0 wd1 := by rw [hwd]; exact below_alloc _ _
            obtain ⟨bm, hbm⟩ : ∃ x, x = wd0.heap.size := ⟨_, rfl⟩
            have HK1 := Lib.hid (show wd1.heap[bm]? = some (.cells #[.int .i64 (sn : Int)] 3 (0, 0)) from by rw [hwd, hbm]; exact heap_alloc_new _ _)
            have HA1 := Lib.hid (HA0.out.keep hb)
            have HS1 := Lib.hid (Below.keep hb HS0.out)
            go_simp
            rw [← hwd, ← hbm]
            clear hwd hbm hb
            refine hK _ _ HS1.out ?_
            clear hK K2
            refine wpAnyH_ready (rs := [14]) (by kernel_rfl) (by simp) ?_
            refine RdyH.cons rfl (fun K2 hK => ?_) RdyH.nil
            have hq := HA1.out.p.rows _ Hrow.out
            rw [Hy.out] at hq
            have hbs : base ≤ wd1.heap.size := Nat.le_trans (HA1.out.p.ge bp (.inl rfl)) (Nat.le_of_lt HA1.out.p.bpLt)
            refine step_app_q rfl (.tmp 60) (.tmp 66) rfl rfl hq HL9.out hbs rfl (aCell HK1.out 0 rfl) ?_
            intro v9 wd2 h1 h2 h3
            have hS : wd2.cell? ⟨bp, 1, none⟩ = some (.slice ia sn ic) := (World.cell?_of_block (h2.block bp HA1.out.p.bpLt fun e => (HA1.out.p.kinds Hrow.out (by rw [Hy.out]; exact e.symm)).1 rfl)).trans HS1.out
            have HS2 := Lib.hid hS
            obtain ⟨za, zn, zc, rfl⟩ := oq_form h1
            have hbk := (h2.block bp HA1.out.p.bpLt (fun e => (HA1.out.p.kinds Hrow.out (by rw [Hy.out]; exact e.symm)).1 rfl)).trans HA1.out.p.blk
            have x1 := cell_of_row wd2 bp (2 + cn) _ _ _ hbk
            rw [pcs_at _ _ (by omega)] at x1
            have x2 := frozen_of_row wd2 bp (2 + cn) _ _ hbk
            have X1 := Lib.hid x1
            have X2 := Lib.hid x2
            rw [← Hy.out] at h2 h3
            have HP := Lib.hid (HA1.out.p.put Hrow.out h2 h1 h3)
            have HA2 := Lib.hid (HA1.out.step HP.out.1 HP.out.2 fun j h1 h2 => upd_other _ _ (by omega))
            clear hS hbk x1 x2 h1 h2 h3 HP hq hbs
            refine hK _ _ HS2.out ?_
            clear hK K2
            refine wpAnyH_take (i := 17) (v := ?_) rfl (by kernel_rfl) (by kernel_rfl) (by kernel_rfl) (fun _ _ _ h => h) (Or.inl ⟨by rfl, ?_⟩) HS2.out ?_
            rotate_left
            focus (intro w hS; clear hS; first | (go_simp; done) | (go_simp; with_reducible rfl))
            simp only [Act.put, List.getElem_toArray, List.getElem_cons_zero, List.getElem_cons_succ, List.setIfInBounds_toArray, List.set_cons_zero, List.set_cons_succ]
            refine wpAnyH_ready (rs := [18]) (by kernel_rfl) (by simp) ?_
            refine RdyH.cons rfl (fun K2 hK => ?_) RdyH.nil
            have x1 := X1.out
            have x2 := X2.out
            have hS := HA2.out.p.cell (j := 1) (by omega)
            rw [if_neg (by omega), if_pos rfl] at hS
            rw [show ∀ x, (PMem.mk M'.vi M'.mb x).vi = .slice ia sn ic from fun x => by rw [Hsn.out]; exact Hv.out] at hS
            go_simp
            refine hK _ _ hS ?_
            clear hK K2 x1 x2 hS
            have H9 := HA2
            refine wpAnyH_done (by kernel_rfl) ?_ _
            go_wp2_with fail
            go_roundw
            case rel => exact ⟨k + 1, _, pa, pn, pk, xaa, xan, xak, by go_num, by omega, by rw [HY.out.1, HY.out.2, addU_snoc]; unfold useR; rw [Int.toNat_natCast]; rw [Hsn.out] at H9; exact H9.out⟩
            case measure => simp [intOf]; omega
          · refine RdyH.cons rfl (fun K2 hK => ?_) RdyH.nil
            obtain ⟨wd1, hwd⟩ : ∃ x, x = wd0.alloc (.cells #[.int .i64 (sn : Int)] 3) := ⟨_, rfl⟩
            have hb : Below wd0.heap.size wd0 wd1 := by rw [hwd]; exact below_alloc _ _
            obtain ⟨bm, hbm⟩ : ∃ x, x = wd0.heap.size := ⟨_, rfl⟩
            have HK1 := Lib.hid (show wd1.heap[bm]? = some (.cells #[.int .i64 (sn : Int)] 3 (0, 0)) from by rw [hwd, hbm]; exact heap_alloc_new _ _)
            have HA1 := Lib.hid (HA0.out.keep hb)
            have HS1 := Lib.hid (Below.keep hb HS0.out)
            go_simp
            rw [← hwd, ← hbm]
            clear hwd hbm hb
            refine hK _ _ HS1.out ?_
            clear hK K2
            refine wpAnyH_ready (rs := [7]) (by kernel_rfl) (by simp) ?_
            refine RdyH.cons rfl (fun K2 hK => ?_) RdyH.nil
            have gu := HA1.out.p.cellR Hrow.out
            rw [Hy.out] at gu
            go_simp
            refine hK _ _ HS1.out ?_
            clear hK K2 gu
            refine wpAnyH_ready (rs := [14]) (by kernel_rfl) (by simp) ?_
            refine RdyH.cons rfl (fun K2 hK => ?_) RdyH.nil
            have hq := HA1.out.p.rows _ Hrow.out
            rw [Hy.out] at hq
            have hbs : base ≤ wd1.heap.size := Nat.le_trans (HA1.out.p.ge bp (.inl rfl)) (Nat.le_of_lt HA1.out.p.bpLt)
            refine step_app_q rfl (.tmp 60) (.tmp 66) rfl rfl hq HL9.out hbs rfl (aCell HK1.out 0 rfl) ?_
            intro v9 wd2 h1 h2 h3
            have hS : wd2.cell? ⟨bp, 1, none⟩ = some (.slice ia sn ic) := (World.cell?_of_block (h2.block bp HA1.out.p.bpLt fun e => (HA1.out.p.kinds Hrow.out (by rw [Hy.out]; exact e.symm)).1 rfl)).trans HS1.out
            have HS2 := Lib.hid hS
            obtain ⟨za, zn, zc, rfl⟩ := oq_form h1
            have hbk := (h2.block bp HA1.out.p.bpLt (fun e => (HA1.out.p.kinds Hrow.out (by rw [Hy.out]; exact e.symm)).1 rfl)).trans HA1.out.p.blk
            have x1 := cell_of_row wd2 bp (2 + cn) _ _ _ hbk
            rw [pcs_at _ _ (by omega)] at x1
            have x2 := frozen_of_row wd2 bp (2 + cn) _ _ hbk
            have X1 := Lib.hid x1
            have X2 := Lib.hid x2
            rw [← Hy.out] at h2 h3
            have HP := Lib.hid (HA1.out.p.put Hrow.out h2 h1 h3)
            have HA2 := Lib.hid (HA1.out.step HP.out.1 HP.out.2 fun j h1 h2 => upd_other _ _ (by omega))
            clear hS hbk x1 x2 h1 h2 h3 HP hq hbs
            refine hK _ _ HS2.out ?_
            clear hK K2
            refine wpAnyH_take (i := 17) (v := ?_) rfl (by kernel_rfl) (by kernel_rfl) (by kernel_rfl) (fun _ _ _ h => h) (Or.inl ⟨by rfl, ?_⟩) HS2.out ?_
            rotate_left
            focus (intro w hS; clear hS; first | (go_simp; done) | (go_simp; with_reducible rfl))
            simp only [Act.put, List.getElem_toArray, List.getElem_cons_zero, List.getElem_cons_succ, List.setIfInBounds_toArray, List.set_cons_zero, List.set_cons_succ]
            refine wpAnyH_ready (rs := [18]) (by kernel_rfl) (by simp) ?_
            refine RdyH.cons rfl (fun K2 hK => ?_) RdyH.nil
            have x1 := X1.out
            have x2 := X2.out
            have hS := HA2.out.p.cell (j := 1) (by omega)
            rw [if_neg (by omega), if_pos rfl] at hS
            rw [show ∀ x, (PMem.mk M'.vi M'.mb x).vi = .slice ia sn ic from fun x => by rw [Hsn.out]; exact Hv.out] at hS
            go_simp
            refine hK _ _ hS ?_
            clear hK K2 x1 x2 hS
            have H9 := HA2
            refine wpAnyH_done (by kernel_rfl) ?_ _
            go_wp2_with fail
            go_roundw
            case rel => exact ⟨k + 1, _, pa, pn, pk, xaa, xan, xak, by go_num, by omega, by rw [HY.out.1, HY.out.2, addU_snoc]; unfold useR; rw [Int.toNat_natCast]; rw [Hsn.out] at H9; exact H9.out⟩
            case measure => simp [intOf]; omega
        · have HN := Lib.hid (HN1.out rfl)
          have hnl : (avoidC r m k).length ≤ 1000000 := by omega
          go_wp2_with (first | (at_builtin; rw [← Hw5.out, ← Hbk.out]; refine append_at rfl (.tmp 42) (.tmp 44) 23 rfl elemInts rfl HA5.out.a (news := [.int .i64 c]) rfl rfl (fun k y hk => aCell HK.out k (by simpa using hk)) (ints_oneCell [c]) hnl hB5 ?_; intro v9 w9 h91 h92 h93 h94; obtain ⟨pa, pn, pk, rfl⟩ := row_slice h91; have H91 := Lib.hid (HA5.out.putA h93 (OwnInts.snoc h91) h94); have hbq := (h93.block bi (Array.getElem?_eq_some_iff.1 HA5.out.b).1 HA5.out.bi_ne.2.1.symm).trans HA5.out.b; have x1 := cell_of_row w9 bi 3 _ _ _ hbq; have x2 := frozen_of_row w9 bi 3 _ _ hbq; clear hbq h91 h92 h93 h94 gb2 gb3))
          have H9 := Lib.hid (show Ad base bnd B w1 (w9.setCell ⟨bi, 3, none⟩ (.slice pa pn pk)) bp bi (.slice a n cap) M M' ⟨S.I, addU (S.I.length : Int) S.R (needC r m (k + 1)), S.rch⟩ X i (pcd (gnd m r.1)) (.slice xna xnn xnk) (.slice pa pn pk) (needC r m (k + 1)) (avoidC r m (k + 1)) from by
            rw [HN.out.1, HN.out.2]; exact H91.out)
          go_roundw
          case rel => exact ⟨k + 1, M', xna, xnn, xnk, pa, pn, pk, by go_num, by omega, H9.out⟩
          case measure => simp [intOf]; omega
      · obtain rfl : vn = k := by omega
        go_upto_region 11 with fail
        obtain ⟨us, hu1, hu2, hu3⟩ := HA.out.p.up (Nat.le_trans HA.out.p.bl (Nat.le_refl _)) (Nat.le_refl _) |>.ins
        obtain ⟨hx3, hx4, ia, ib, ioff, ic, hv, hx5⟩ := owns_rd hu2
        have Hv := Lib.hid hv
        clear hx3 hx4 hx5
        obtain ⟨sn, hsn⟩ : ∃ x, x = S.I.length := ⟨_, rfl⟩
        have Hsn := Lib.hid hsn
        clear hv hsn hu1 hu2 hu3
        have HW0 := Lib.hid (show Below wx.heap.size wx wx.drew from (Below.refl _ _).drew)
        have HA0 := Lib.hid (HA.out.keep HW0.out)
        have HS0 := Lib.hid HA0.out.b
        have HB0 := Lib.hid (show wx.drew.heap.size = wx.drew.heap.size from rfl)
        clear HA HW0
        refine wp_region_held (S := fun w' => w'.heap[bi]? = some (.cells #[.int .i64 (i : Int), .int .i64 (pcd (gnd m r.1)), .slice xna xnn xnk, .slice xaa xan xak] 207 (0, 0))) wideK ?_
        change wpAnyH _ _ _ _ _ _ _ _ (World.drew _)
        generalize wx.drew = wd0 at *
        refine wpAnyH_take (i := 0) (v := ?_) rfl (by kernel_rfl) (by kernel_rfl) (by kernel_rfl) (fun _ _ _ h => h) (Or.inl ⟨by rfl, ?_⟩) HS0.out ?_
        rotate_left
        focus (intro w hS; clear hS; first | (go_simp; done) | (go_simp; with_reducible rfl))
        simp only [Act.put, List.getElem_toArray, List.getElem_cons_zero, List.setIfInBounds_toArray, List.set_cons_zero, List.set_cons_succ]
        refine wpAnyH_take (i := 1) (v := ?_) rfl (by kernel_rfl) (by kernel_rfl) (by kernel_rfl) (fun _ _ _ h => h) (Or.inl ⟨by rfl, ?_⟩) HS0.out ?_
        rotate_left
        focus (intro w hS; clear hS; first | (go_simp; done) | (go_simp; with_reducible rfl))
        simp only [Act.put, List.getElem_toArray, List.getElem_cons_zero, List.getElem_cons_succ, List.setIfInBounds_toArray, List.set_cons_zero, List.set_cons_succ]
        refine wpAnyH_take (i := 2) (v := ?_) rfl (by kernel_rfl) (by kernel_rfl) (by kernel_rfl) (fun _ _ _ h => h) (Or.inl ⟨by rfl, ?_⟩) HS0.out ?_
        rotate_left
        focus (intro w hS; clear hS; first | (go_simp; done) | (go_simp; with_reducible rfl))
        simp only [Act.put, List.getElem_toArray, List.getElem_cons_zero, List.getElem_cons_succ, List.setIfInBounds_toArray, List.set_cons_zero, List.set_cons_succ]
        refine wpAnyH_take (i := 3) (v := ?_) rfl (by kernel_rfl) (by kernel_rfl) (by kernel_rfl) (fun _ _ _ h => h) (Or.inl ⟨by rfl, ?_⟩) HS0.out ?_
        rotate_left
        focus (intro w hS; clear hS; first | (go_simp; done) | (go_simp; with_reducible rfl))
        simp only [Act.put, List.getElem_toArray, List.getElem_cons_zero, List.getElem_cons_succ, List.setIfInBounds_toArray, List.set_cons_zero, List.set_cons_succ]
        refine wpAnyH_take (i := 5) (v := ?_) rfl (by kernel_rfl) (by kernel_rfl) (by kernel_rfl) (fun _ _ _ h => h) (Or.inl ⟨by rfl, ?_⟩) HS0.out ?_
        rotate_left
        focus (intro w hS; have s0 := aCell hS 0 rfl; have s1 := aCell hS 1 rfl; have s2 := aCell hS 2 rfl; have s3 := aCell hS 3 rfl; clear hS; first | (go_simp; done) | (go_simp; with_reducible rfl))
        simp only [Act.put, List.getElem_toArray, List.getElem_cons_zero, List.getElem_cons_succ, List.setIfInBounds_toArray, List.set_cons_zero, List.set_cons_succ]
        refine wpAnyH_ready (rs := [4, 6]) (by kernel_rfl) (by simp) ?_
        refine RdyH.cons rfl (fun K2 hK => ?_) ?_
        · have gu := HA0.out.p.cell (j := 1) (by omega)
          rw [if_neg (by omega), if_pos rfl, Hv.out] at gu
          go_simp
          refine hK _ _ HS0.out ?_
          clear hK K2 gu
          refine wpAnyH_ready (rs := [6]) (by kernel_rfl) (by simp) ?_
          refine RdyH.cons rfl (fun K2 hK => ?_) RdyH.nil
          obtain ⟨wd1, hwd⟩ : ∃ x, x = wd0.alloc (.cells #[.int .i64 (i : Int), .int .i64 (pcd (gnd m r.1)), .slice xna xnn xnk, .slice xaa xan xak] 207) := ⟨_, rfl⟩
          have hb : Below wd0.heap.size wd0 wd1 := by rw [hwd]; exact below_alloc _ _
          obtain ⟨bm, hbm⟩ : ∃ x, x = wd0.heap.size := ⟨_, rfl⟩
          have HK1 := Lib.hid (show wd1.heap[bm]? = some (.cells #[.int .i64 (i : Int), .int .i64 (pcd (gnd m r.1)), .slice xna xnn xnk, .slice xaa xan xak] 207 (0, 0)) from by rw [hwd, hbm]; exact heap_alloc_new _ _)
          have HA1 := Lib.hid (HA0.out.keep hb)
          have HS1 := Lib.hid HA1.out.b
          go_simp
          rw [← hwd, ← hbm]
          clear hwd hbm hb
          refine hK _ _ HS1.out ?_
          clear hK K2
          refine wpAnyH_ready (rs := [7]) (by kernel_rfl) (by simp) ?_
          refine RdyH.cons rfl (fun K2 hK => ?_) RdyH.nil
          have hbs : base ≤ wd1.heap.size := Nat.le_trans (HA1.out.p.ge bp (.inl rfl)) (Nat.le_of_lt HA1.out.p.bpLt)
          have hup := HA1.out.p.up HA1.out.p.bl (Nat.le_refl _)
          obtain ⟨us, hu1, hu2, hu3⟩ := hup.ins
          have hu2' := hu2
          rw [Hv.out] at hu2'
          refine step_app_i rfl (.tmp 76) (.tmp 78) rfl rfl hu2' Hsh.out.1 hbs rfl (news := (#[.int .i64 (i : Int), .int .i64 (pcd (gnd m r.1)), .slice xna xnn xnk, .slice xaa xan xak] : Array Value).toList) rfl (fun j y hj => aCell HK1.out j (by simpa using hj)) (by intro u hu; simp at hu; rcases hu with rfl | rfl | rfl | rfl <;> rfl) ?_
          intro v9 wd2 h1 h2 h3
          obtain ⟨za, zn, zc, rfl⟩ := row_slice h1
          have hbk := (h2.block bp HA1.out.p.bpLt (fun e => HA1.out.p.mbNe.2.2 (by rw [Hv.out]; exact e.symm))).trans HA1.out.p.blk
          have x1 := cell_of_row wd2 bp 1 _ _ _ hbk
          rw [pcs_at _ _ (by omega), if_neg (by omega), if_pos rfl] at x1
          have x2 := frozen_of_row wd2 bp 1 _ _ hbk
          have X1 := Lib.hid x1
          have X2 := Lib.hid x2
          have hvv : M'.vi = .slice ia S.I.length ic := Hv.out
          rw [← hvv] at h2 h3
          have HP := Lib.hid (hup.putIns hu1 hu3 (a := ⟨i, pcd (gnd m r.1), needC r m vn, avoidC r m vn⟩) ⟨HA1.out.n.ints, fun g hg => ⟨(HA1.out.nn g hg).1, (own_lt HA1.out.n hg).2⟩⟩ ⟨HA1.out.a.ints, fun g hg => ⟨HA1.out.na g hg, (own_lt HA1.out.a hg).2⟩⟩ h2 h1 h3)
          have Hb2 := Lib.hid (HP.out.2.keep HA1.out.b HA1.out.nb)
          have HS2 := Lib.hid (show wd2.heap[bi]? = some (.cells #[.int .i64 (i : Int), .int .i64 (pcd (gnd m r.1)), .slice xna xnn xnk, .slice xaa xan xak] 207 (0, 0)) from (h2.block bi (Array.getElem?_eq_some_iff.1 HA1.out.b).1 fun e => HA1.out.nb (.inr (.inr (.inl e.symm)))).trans HA1.out.b)
          have Hm2 := Lib.hid (HA1.out.m.trans HP.out.2)
          have Hk2 := Lib.hid HA1.out.k
          clear hbk x1 x2 h1 h2 h3 hup hu1 hu2 hu2' hu3 hbs hvv
          refine hK _ _ HS2.out ?_
          clear hK K2
          refine wpAnyH_take (i := 8) (v := ?_) rfl (by kernel_rfl) (by kernel_rfl) (by kernel_rfl) (fun _ _ _ h => h) (Or.inl ⟨by rfl, ?_⟩) HS2.out ?_
          rotate_left
          focus (intro w hS; clear hS; first | (go_simp; done) | (go_simp; with_reducible rfl))
          simp only [Act.put, List.getElem_toArray, List.getElem_cons_zero, List.getElem_cons_succ, List.setIfInBounds_toArray, List.set_cons_zero, List.set_cons_succ]
          refine wpAnyH_take (i := 9) (v := ?_) rfl (by kernel_rfl) (by kernel_rfl) (by kernel_rfl) (fun _ _ _ h => h) (Or.inl ⟨by rfl, ?_⟩) HS2.out ?_
          rotate_left
          focus (intro w hS; clear hS; first | (go_simp; done) | (go_simp; with_reducible rfl))
          simp only [Act.put, List.getElem_toArray, List.getElem_cons_zero, List.getElem_cons_succ, List.setIfInBounds_toArray, List.set_cons_zero, List.set_cons_succ]
          refine wpAnyH_ready (rs := [10]) (by kernel_rfl) (by simp) ?_
          refine RdyH.cons rfl (fun K2 hK => ?_) RdyH.nil
          have x1 := X1.out
          have x2 := X2.out
          go_simp
          refine hK _ _ Hb2.out.1 ?_
          clear hK K2 x1 x2 X1 X2
          refine wpAnyH_done (by kernel_rfl) ?_ _
          have HP2 := HP
          clear HP
          have hvv := Hvn.out
          subst hvv
          have g1 := aCell Hb2.out.1 1 rfl
          obtain ⟨wy, hwy⟩ : ∃ x, x = wd2.setCell ⟨bp, 1, none⟩ (.slice za zn zc) := ⟨_, rfl⟩
          rw [← hwy] at g1 Hb2 HP2 Hm2 ⊢
          clear hwy
          have hR := Lib.hid (reach_any HP2.out.1 (Nat.le_trans (HP2.out.1.ge bp (.inl rfl)) (Nat.le_of_lt HP2.out.1.bpLt)) (pcd (gnd m r.1)) (pcd_range Hg1.out) (by
            have q1 := addU_len (S.I.length : Int) (needC r m r.2.length) S.R 303
            have q2 := Hsh.out.2 303
            have q3 := (codes_len r m r.2.length).1
            have q4 : r.2.length ≤ 3 := hl3
            show (addU (S.I.length : Int) S.R (needC r m r.2.length) 303).length ≤ _
            omega))
          go_wp2_with fail
          refine hR.out.mono ?_
          rintro e wz ⟨rfl, M9, h91, h92, h94⟩
          go_wp2_with fail
          go_end0
          refine ⟨rfl, M9, ?_, HM1.out.trans (Hm2.out.trans h92), Hk2.out.trans h94⟩
          have h93 := h91.up h91.bl (Nat.le_refl _)
          unfold addS
          rw [insOf_eq]
          exact h93
        · refine RdyH.cons rfl (fun K2 hK => ?_) RdyH.nil
          obtain ⟨wd1, hwd⟩ : ∃ x, x = wd0.alloc (.cells #[.int .i64 (i : Int), .int .i64 (pcd (gnd m r.1)), .slice xna xnn xnk, .slice xaa xan xak] 207) := ⟨_, rfl⟩
          have hb : Below wd0.heap.size wd0 wd1 := by rw [hwd]; exact below_alloc _ _
          obtain ⟨bm, hbm⟩ : ∃ x, x = wd0.heap.size := ⟨_, rfl⟩
          have HK1 := Lib.hid (show wd1.heap[bm]? = some (.cells #[.int .i64 (i : Int), .int .i64 (pcd (gnd m r.1)), .slice xna xnn xnk, .slice xaa xan xak] 207 (0, 0)) from by rw [hwd, hbm]; exact heap_alloc_new _ _)
          have HA1 := Lib.hid (HA0.out.keep hb)
          have HS1 := Lib.hid HA1.out.b
          go_simp
          rw [← hwd, ← hbm]
          clear hwd hbm hb
          refine hK _ _ HS1.out ?_
          clear hK K2
          refine wpAnyH_ready (rs := [4]) (by kernel_rfl) (by simp) ?_
          refine RdyH.cons rfl (fun K2 hK => ?_) RdyH.nil
          have gu := HA1.out.p.cell (j := 1) (by omega)
          rw [if_neg (by omega), if_pos rfl, Hv.out] at gu
          go_simp
          refine hK _ _ HS1.out ?_
          clear hK K2 gu
          refine wpAnyH_ready (rs := [7]) (by kernel_rfl) (by simp) ?_
          refine RdyH.cons rfl (fun K2 hK => ?_) RdyH.nil
          have hbs : base ≤ wd1.heap.size := Nat.le_trans (HA1.out.p.ge bp (.inl rfl)) (Nat.le_of_lt HA1.out.p.bpLt)
          have hup := HA1.out.p.up HA1.out.p.bl (Nat.le_refl _)
          obtain ⟨us, hu1, hu2, hu3⟩ := hup.ins
          have hu2' := hu2
          rw [Hv.out] at hu2'
          refine step_app_i rfl (.tmp 76) (.tmp 78) rfl rfl hu2' Hsh.out.1 hbs rfl (news := (#[.int .i64 (i : Int), .int .i64 (pcd (gnd m r.1)), .slice xna xnn xnk, .slice xaa xan xak] : Array Value).toList) rfl (fun j y hj => aCell HK1.out j (by simpa using hj)) (by intro u hu; simp at hu; rcases hu with rfl | rfl | rfl | rfl <;> rfl) ?_
          intro v9 wd2 h1 h2 h3
          obtain ⟨za, zn, zc, rfl⟩ := row_slice h1
          have hbk := (h2.block bp HA1.out.p.bpLt (fun e => HA1.out.p.mbNe.2.2 (by rw [Hv.out]; exact e.symm))).trans HA1.out.p.blk
          have x1 := cell_of_row wd2 bp 1 _ _ _ hbk
          rw [pcs_at _ _ (by omega), if_neg (by omega), if_pos rfl] at x1
          have x2 := frozen_of_row wd2 bp 1 _ _ hbk
          have X1 := Lib.hid x1
          have X2 := Lib.hid x2
          have hvv : M'.vi = .slice ia S.I.length ic := Hv.out
          rw [← hvv] at h2 h3
          have HP := Lib.hid (hup.putIns hu1 hu3 (a := ⟨i, pcd (gnd m r.1), needC r m vn, avoidC r m vn⟩) ⟨HA1.out.n.ints, fun g hg => ⟨(HA1.out.nn g hg).1, (own_lt HA1.out.n hg).2⟩⟩ ⟨HA1.out.a.ints, fun g hg => ⟨HA1.out.na g hg, (own_lt HA1.out.a hg).2⟩⟩ h2 h1 h3)
          have Hb2 := Lib.hid (HP.out.2.keep HA1.out.b HA1.out.nb)
          have HS2 := Lib.hid (show wd2.heap[bi]? = some (.cells #[.int .i64 (i : Int), .int .i64 (pcd (gnd m r.1)), .slice xna xnn xnk, .slice xaa xan xak] 207 (0, 0)) from (h2.block bi (Array.getElem?_eq_some_iff.1 HA1.out.b).1 fun e => HA1.out.nb (.inr (.inr (.inl e.symm)))).trans HA1.out.b)
          have Hm2 := Lib.hid (HA1.out.m.trans HP.out.2)
          have Hk2 := Lib.hid HA1.out.k
          clear hbk x1 x2 h1 h2 h3 hup hu1 hu2 hu2' hu3 hbs hvv
          refine hK _ _ HS2.out ?_
          clear hK K2
          refine wpAnyH_take (i := 8) (v := ?_) rfl (by kernel_rfl) (by kernel_rfl) (by kernel_rfl) (fun _ _ _ h => h) (Or.inl ⟨by rfl, ?_⟩) HS2.out ?_
          rotate_left
          focus (intro w hS; clear hS; first | (go_simp; done) | (go_simp; with_reducible rfl))
          simp only [Act.put, List.getElem_toArray, List.getElem_cons_zero, List.getElem_cons_succ, List.setIfInBounds_toArray, List.set_cons_zero, List.set_cons_succ]
          refine wpAnyH_take (i := 9) (v := ?_) rfl (by kernel_rfl) (by kernel_rfl) (by kernel_rfl) (fun _ _ _ h => h) (Or.inl ⟨by rfl, ?_⟩) HS2.out ?_
          rotate_left
          focus (intro w hS; clear hS; first | (go_simp; done) | (go_simp; with_reducible rfl))
          simp only [Act.put, List.getElem_toArray, List.getElem_cons_zero, List.getElem_cons_succ, List.setIfInBounds_toArray, List.set_cons_zero, List.set_cons_succ]
          refine wpAnyH_ready (rs := [10]) (by kernel_rfl) (by simp) ?_
          refine RdyH.cons rfl (fun K2 hK => ?_) RdyH.nil
          have x1 := X1.out
          have x2 := X2.out
          go_simp
          refine hK _ _ Hb2.out.1 ?_
          clear hK K2 x1 x2 X1 X2
          refine wpAnyH_done (by kernel_rfl) ?_ _
          have HP2 := HP
          clear HP
          have hvv := Hvn.out
          subst hvv
          have g1 := aCell Hb2.out.1 1 rfl
          obtain ⟨wy, hwy⟩ : ∃ x, x = wd2.setCell ⟨bp, 1, none⟩ (.slice za zn zc) := ⟨_, rfl⟩
          rw [← hwy] at g1 Hb2 HP2 Hm2 ⊢
          clear hwy
          have hR := Lib.hid (reach_any HP2.out.1 (Nat.le_trans (HP2.out.1.ge bp (.inl rfl)) (Nat.le_of_lt HP2.out.1.bpLt)) (pcd (gnd m r.1)) (pcd_range Hg1.out) (by
            have q1 := addU_len (S.I.length : Int) (needC r m r.2.length) S.R 303
            have q2 := Hsh.out.2 303
            have q3 := (codes_len r m r.2.length).1
            have q4 : r.2.length ≤ 3 := hl3
            show (addU (S.I.length : Int) S.R (needC r m r.2.length) 303).length ≤ _
            omega))
          go_wp2_with fail
          refine hR.out.mono ?_
          rintro e wz ⟨rfl, M9, h91, h92, h94⟩
          go_wp2_with fail
          go_end0
          refine ⟨rfl, M9, ?_, HM1.out.trans (Hm2.out.trans h92), Hk2.out.trans h94⟩
          have h93 := h91.up h91.bl (Nat.le_refl _)
          unfold addS
          rw [insOf_eq]
          exact h93
#print axioms add_any
end Go.Proofs.Ythndplkjhbmfmaa
