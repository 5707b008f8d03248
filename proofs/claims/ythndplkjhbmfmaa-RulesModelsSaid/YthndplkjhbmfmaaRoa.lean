/- Contracts of the laws' atom and Of. -/
import Derived.Test.YthndplkjhbmfmaaRmd
import Derived.WalkSpells
namespace Go.Proofs.Ythndplkjhbmfmaa
open Go.RowKit
theorem oneAt (x : Int) {a : Option Addr} {n c : Nat} : (#[Value.int .i64 x, .slice a n c] : Array Value).all (·.oneCell') = true := by
  rw [Array.all_eq_true_iff_forall_mem]
  intro u hu
  simp at hu
  rcases hu with rfl | rfl <;> rfl
theorem sizeAt : (Try.prog.info? 94).map (·.size) = some 2 := by kernel_rfl
/-- an atom with its arguments cut to five -/
def ofAt (a : RAt) : RAt := (a.1, a.2.take 5)
set_option maxRecDepth 100000 in
set_option maxHeartbeats 8000000 in
theorem atomL_any (r : Int) (A : List Int) (u : Value) (w : World) (hu : Ints w u A) :
    Calls Try.prog 64 #[.agg #[.int .i64 r, u]] w fun e w' => ∃ a n c, e = .returned (.agg #[.int .i64 r, .slice a n c]) ∧ OwnInts w.heap.size w' (.slice a n c) (A.take 5) ∧ Below w.heap.size w w' := by
  obtain ⟨ua, uc, rfl⟩ := ints_slice hu
  have hle := (Rd.cap hu).1
  have hm : A.length ≤ maxLen := hu.2.1
  unfold maxLen at hm
  have hsl := run_to (P := Try.prog) (t := 23) (a := ua) (len := A.length) (cap := uc) (s := 1) Try.underlying23 (by intro w; kernel_rfl) hle
  obtain ⟨n, hn⟩ : ∃ x, x = A.length := ⟨_, rfl⟩
  have Hn := Lib.hid hn
  have Hv := Lib.hid hu
  obtain ⟨wa, hwa⟩ : ∃ x, x = w.alloc (.cells #[.int .i64 r, .slice ua n uc] 83) := ⟨_, rfl⟩
  obtain ⟨w1, hw1⟩ : ∃ x, x = wa.alloc (.cells #[.int .i64 0, .slice none 0 0] 94) := ⟨_, rfl⟩
  obtain ⟨b1, hb1⟩ : ∃ x, x = w.heap.size := ⟨_, rfl⟩
  obtain ⟨b2, hb2⟩ : ∃ x, x = w.heap.size + 1 := ⟨_, rfl⟩
  have hba : Below w.heap.size w wa := by rw [hwa]; exact below_alloc _ _
  have hbb : Below wa.heap.size wa w1 := by rw [hw1]; exact below_alloc _ _
  have hsa : wa.heap.size = w.heap.size + 1 := by rw [hwa]; exact Array.size_push _
  have HB1 := Lib.hid (Below.tr hba hbb)
  have HX1 := Lib.hid (show w1.heap[b1]? = some (.cells #[.int .i64 r, .slice ua n uc] 83 (0, 0)) from blk_keep2 (by rw [hwa, hb1]; exact heap_alloc_new _ _) hbb)
  have HX2 := Lib.hid (show w1.heap[b2]? = some (.cells #[.int .i64 0, .slice none 0 0] 94 (0, 0)) from by rw [hw1, hb2, ← hsa]; exact heap_alloc_new _ _)
  have Hwa := Lib.hid hwa
  have Hw1 := Lib.hid hw1
  have Hb1 := Lib.hid hb1
  have Hb2 := Lib.hid hb2
  have Hb2l := Lib.hid (show w.heap.size ≤ b2 from by omega)
  rw [← hn] at hle hm hsl Hv ⊢
  have key : ∃ K : Nat, (A.take 5).length = K ∧ K ≤ n ∧ (if (5 : Int) < (n : Int) then (5 : Int) else (n : Int)) = (K : Int) ∧ (min (n : Int) 5) = (K : Int) := ⟨min 5 n, by rw [List.length_take, hn], by omega, by split <;> omega, by omega⟩
  obtain ⟨K, hK1, hK2, hK3, hK4⟩ := key
  have hslK := fun w => hsl K w hK2
  have HI := Lib.hid (show Ints w1 (.slice ua K uc) (A.take 5) from by
    have h1 := (Hv.out.keep (Below.tr hba hbb))
    rw [Hn.out] at h1
    have := Ints.to h1 K (by rw [← Hn.out]; exact hK2)
    rwa [show A.take K = A.take 5 from by rw [← hK1, List.length_take]; rcases Nat.le_total 5 A.length with h | h <;> simp [Nat.min_eq_left, Nat.min_eq_right, h, List.take_of_length_le]] at this)
  have HKl := Lib.hid hK1
  have hKs : (A.take 5).length ≤ 5 := by rw [List.length_take]; omega
  clear hu hn hwa hw1 hb1 hb2 hba hbb hsa hsl hK1 hle
  go_enter Try.func64, Try.ntmps64
  go_upto_region 1 with fail
  rw [← Hwa.out, ← Hw1.out, ← Hb2.out, ← Hb1.out]
  clear Hwa Hw1
  have HB0 := Lib.hid (show Below w.heap.size w w1.drew from HB1.out.drew)
  have HI0 := Lib.hid (show Ints w1.drew (.slice ua K uc) (A.take 5) from HI.out)
  have HS0 := Lib.hid (show w1.drew.heap[b1]? = some (.cells #[.int .i64 r, .slice ua n uc] 83 (0, 0)) from HX1.out)
  have HX0 := Lib.hid (show w1.drew.heap[b2]? = some (.cells #[.int .i64 0, .slice none 0 0] 94 (0, 0)) from HX2.out)
  refine wp_region_held (S := fun w' => w'.heap[b1]? = some (.cells #[.int .i64 r, .slice ua n uc] 83 (0, 0))) wideK ?_
  change wpAnyH _ _ _ _ _ _ _ _ (World.drew _)
  generalize w1.drew = wd0 at *
  refine wpAnyH_take (i := 0) (v := ?_) rfl (by kernel_rfl) (by kernel_rfl) (by kernel_rfl) (fun _ _ _ h => h) (Or.inl ⟨by rfl, ?_⟩) HS0.out ?_
  rotate_left
  focus (intro w hS; clear hS; first | (go_simp; done) | (go_simp; with_reducible rfl))
  simp only [Act.put, List.getElem_toArray, List.getElem_cons_zero, List.setIfInBounds_toArray, List.set_cons_zero, List.set_cons_succ]
  refine wpAnyH_take (i := 1) (v := ?_) rfl (by kernel_rfl) (by kernel_rfl) (by kernel_rfl) (fun _ _ _ h => h) (Or.inl ⟨by rfl, ?_⟩) HS0.out ?_
  rotate_left
  focus (intro w hS; have s0 := aCell hS 0 rfl; clear hS; first | (go_simp; done) | (go_simp; with_reducible rfl))
  simp only [Act.put, List.getElem_toArray, List.getElem_cons_zero, List.getElem_cons_succ, List.setIfInBounds_toArray, List.set_cons_zero, List.set_cons_succ]
  refine wpAnyH_take (i := 2) (v := ?_) rfl (by kernel_rfl) (by kernel_rfl) (by kernel_rfl) (fun _ _ _ h => h) (Or.inl ⟨by rfl, ?_⟩) HS0.out ?_
  rotate_left
  focus (intro w hS; clear hS; first | (go_simp; done) | (go_simp; with_reducible rfl))
  simp only [Act.put, List.getElem_toArray, List.getElem_cons_zero, List.getElem_cons_succ, List.setIfInBounds_toArray, List.set_cons_zero, List.set_cons_succ]
  refine wpAnyH_take (i := 3) (v := ?_) rfl (by kernel_rfl) (by kernel_rfl) (by kernel_rfl) (fun _ _ _ h => h) (Or.inl ⟨by rfl, ?_⟩) HS0.out ?_
  rotate_left
  focus (intro w hS; have s1 := aCell hS 1 rfl; clear hS; first | (go_simp; done) | (go_simp; with_reducible rfl))
  simp only [Act.put, List.getElem_toArray, List.getElem_cons_zero, List.getElem_cons_succ, List.setIfInBounds_toArray, List.set_cons_zero, List.set_cons_succ]
  refine wpAnyH_take (i := 4) (v := ?_) rfl (by kernel_rfl) (by kernel_rfl) (by kernel_rfl) (fun _ _ _ h => h) (Or.inl ⟨by rfl, ?_⟩) HS0.out ?_
  rotate_left
  focus (intro w hS; clear hS; first | (go_simp; done) | (go_simp; with_reducible rfl))
  simp only [Act.put, List.getElem_toArray, List.getElem_cons_zero, List.getElem_cons_succ, List.setIfInBounds_toArray, List.set_cons_zero, List.set_cons_succ]
  refine wpAnyH_take (i := 5) (v := ?_) rfl (by kernel_rfl) (by kernel_rfl) (by kernel_rfl) (fun _ _ _ h => h) (Or.inl ⟨by rfl, ?_⟩) HS0.out ?_
  rotate_left
  focus (intro w hS; have s1 := aCell hS 1 rfl; clear hS; first | (go_simp; done) | (go_simp; with_reducible rfl))
  simp only [Act.put, List.getElem_toArray, List.getElem_cons_zero, List.getElem_cons_succ, List.setIfInBounds_toArray, List.set_cons_zero, List.set_cons_succ]
  refine wpAnyH_take (i := 6) (v := ?_) rfl (by kernel_rfl) (by kernel_rfl) (by kernel_rfl) (fun _ _ _ h => h) (Or.inl ⟨by rfl, ?_⟩) HS0.out ?_
  rotate_left
  focus (intro w hS; clear hS; first | (go_simp; done) | (go_simp; with_reducible rfl))
  simp only [Act.put, List.getElem_toArray, List.getElem_cons_zero, List.getElem_cons_succ, List.setIfInBounds_toArray, List.set_cons_zero, List.set_cons_succ]
  refine wpAnyH_take (i := 7) (v := ?_) rfl (by kernel_rfl) (by kernel_rfl) (by kernel_rfl) (fun _ _ _ h => h) (Or.inl ⟨by rfl, ?_⟩) HS0.out ?_
  rotate_left
  focus (intro w hS; clear hS; first | (go_simp; done) | (go_simp; with_reducible rfl))
  simp only [Act.put, List.getElem_toArray, List.getElem_cons_zero, List.getElem_cons_succ, List.setIfInBounds_toArray, List.set_cons_zero, List.set_cons_succ]
  refine wpAnyH_take (i := 8) (v := ?_) rfl (by kernel_rfl) (by kernel_rfl) (by kernel_rfl) (fun _ _ _ h => h) (Or.inl ⟨by rfl, ?_⟩) HS0.out ?_
  rotate_left
  focus (intro w hS; clear hS; first | (go_simp; done) | (go_simp; with_reducible rfl))
  simp only [Act.put, List.getElem_toArray, List.getElem_cons_zero, List.getElem_cons_succ, List.setIfInBounds_toArray, List.set_cons_zero, List.set_cons_succ]
  refine wpAnyH_ready (rs := [9]) (by kernel_rfl) (by simp) ?_
  refine RdyH.cons rfl (fun K2 hK => ?_) RdyH.nil
  go_simp
  go_at_call 90
  refine (cloneI_any _ _ _ (by omega) HI0.out).mono ?_
  rintro e w6 ⟨v1, rfl, ho, hb⟩
  obtain ⟨x, y, z, rfl⟩ := own_slice ho
  have Ho := Lib.hid ho
  have HS1 := Lib.hid (blk_keep2 HS0.out hb)
  have HX6 := Lib.hid (blk_keep2 HX0.out hb)
  have HB6 := Lib.hid (Below.tr HB0.out hb)
  have Hz0 := Lib.hid HB0.out.size
  have Hlt := Lib.hid (show b2 < wd0.heap.size from (Array.getElem?_eq_some_iff.1 HX0.out).1)
  clear ho hb
  go_simp
  refine hK _ _ HS1.out ?_
  clear hK K2
  refine wpAnyH_take (i := 10) (v := ?_) rfl (by kernel_rfl) (by kernel_rfl) (by kernel_rfl) (fun _ _ _ h => h) (Or.inl ⟨by rfl, ?_⟩) HS1.out ?_
  rotate_left
  focus (intro w hS; clear hS; first | (go_simp; done) | (go_simp; with_reducible rfl))
  simp only [Act.put, List.getElem_toArray, List.getElem_cons_zero, List.getElem_cons_succ, List.setIfInBounds_toArray, List.set_cons_zero, List.set_cons_succ]
  refine wpAnyH_ready (rs := [11]) (by kernel_rfl) (by simp) ?_
  refine RdyH.cons rfl (fun K2 hK => ?_) RdyH.nil
  refine step_store_row rfl 94 (.tmp 2) (.tmp 13) rfl b2 #[.int .i64 r, .slice x y z] rfl rfl 94 _ HX6.out sizeAt rfl (oneAt _) ?_
  have HX9 := Lib.hid (setRow_heap w6 b2 _ #[.int .i64 r, .slice x y z] _ _ HX6.out)
  have HB9 := Lib.hid (below_setRow (b := b2) HB6.out Hb2l.out #[.int .i64 r, .slice x y z])
  have HO9 := Lib.hid (show OwnInts w.heap.size (w6.setRow b2 #[.int .i64 r, .slice x y z]) (.slice x y z) (A.take 5) from by
    refine own_block (owns_mono Ho.out Hz0.out) fun k hk => ?_
    have := (own_lt Ho.out hk).1
    exact setRow_other w6 b2 k _ (by have := Hlt.out; omega))
  have HS9 := Lib.hid (show (w6.setRow b2 #[.int .i64 r, .slice x y z]).heap[b1]? = some (.cells #[.int .i64 r, .slice ua n uc] 83 (0, 0)) from (setRow_other w6 b2 b1 _ (by have := Hb1.out; have := Hb2.out; omega)).trans HS1.out)
  generalize w6.setRow b2 #[.int .i64 r, .slice x y z] = w9 at *
  refine hK _ _ HS9.out ?_
  clear hK K2
  refine wpAnyH_done (by kernel_rfl) ?_ _
  go_wp2_with fail
  refine bodyPost_ret (results_cell_row Try.results64 _ _ b2 94 _ (0, 0) _ rfl HX9.out Try.underlying94 rfl (by kernel_rfl)) rfl ?_
  exact ⟨x, y, z, rfl, HO9.out, HB9.out⟩
#print axioms atomL_any
end Go.Proofs.Ythndplkjhbmfmaa
