/- Contracts of the laws' fact and within. -/
import Derived.Test.YthndplkjhbmfmaaRoa
import Derived.Test.YthndplkjhbmfmaaEqq
import Derived.WalkSpells
namespace Go.Proofs.Ythndplkjhbmfmaa
open Go.RowKit
theorem sizeFc : (Try.prog.info? 50).map (·.size) = some 2 := by kernel_rfl
set_option maxRecDepth 100000 in
set_option maxHeartbeats 8000000 in
theorem factC_any (r : Int) (A : List Int) (u : Value) (w : World) (hu : Ints w u A) :
    Calls Try.prog 34 #[.agg #[.int .i64 r, u]] w fun e w' => ∃ a n c, e = .returned (.agg #[.int .i64 r, .slice a n c]) ∧ OwnInts w.heap.size w' (.slice a n c) (A.take 5) ∧ Below w.heap.size w w' := by
  obtain ⟨ua, uc, rfl⟩ := ints_slice hu
  have hle := (Rd.cap hu).1
  have hm : A.length ≤ maxLen := hu.2.1
  unfold maxLen at hm
  have hsl := run_to (P := Try.prog) (t := 23) (a := ua) (len := A.length) (cap := uc) (s := 1) Try.underlying23 (by intro w; kernel_rfl) hle
  obtain ⟨n, hn⟩ : ∃ x, x = A.length := ⟨_, rfl⟩
  have Hn := Lib.hid hn
  have Hv := Lib.hid hu
  obtain ⟨wa, hwa⟩ : ∃ x, x = w.alloc (.cells #[.int .i64 r, .slice ua n uc] 50) := ⟨_, rfl⟩
  obtain ⟨w1, hw1⟩ : ∃ x, x = wa.alloc (.cells #[.int .i64 0, .slice none 0 0] 50) := ⟨_, rfl⟩
  obtain ⟨b1, hb1⟩ : ∃ x, x = w.heap.size := ⟨_, rfl⟩
  obtain ⟨b2, hb2⟩ : ∃ x, x = w.heap.size + 1 := ⟨_, rfl⟩
  have hba : Below w.heap.size w wa := by rw [hwa]; exact below_alloc _ _
  have hbb : Below wa.heap.size wa w1 := by rw [hw1]; exact below_alloc _ _
  have hsa : wa.heap.size = w.heap.size + 1 := by rw [hwa]; exact Array.size_push _
  have HB1 := Lib.hid (Below.tr hba hbb)
  have HX1 := Lib.hid (show w1.heap[b1]? = some (.cells #[.int .i64 r, .slice ua n uc] 50 (0, 0)) from blk_keep2 (by rw [hwa, hb1]; exact heap_alloc_new _ _) hbb)
  have HX2 := Lib.hid (show w1.heap[b2]? = some (.cells #[.int .i64 0, .slice none 0 0] 50 (0, 0)) from by rw [hw1, hb2, ← hsa]; exact heap_alloc_new _ _)
  have Hwa := Lib.hid hwa
  have Hw1 := Lib.hid hw1
  have Hb1 := Lib.hid hb1
  have Hb2 := Lib.hid hb2
  have Hb2l := Lib.hid (show w.heap.size ≤ b2 from by omega)
  rw [← hn] at hle hm hsl Hv ⊢
  have key : ∃ K : Nat, (A.take 5).length = K ∧ K ≤ n ∧ (if (5 : Int) < (n : Int) then (5 : Int) else (n : Int)) = (K : Int) ∧ (min (n : Int) 5) = (K : Int) := ⟨min 5 n, by rw [List.length_take, hn], by omega, by split <;> omega, by omega⟩
  obtain ⟨K, hK1, hK2, hK3, hK4⟩ := key
  have hslK := fun w => hsl K w hK2
  have HI := Lib.hid (show Ints w1 (.slice ua K uc) (A.take 5) from by
    have h1 := (Hv.out.keep (Below.tr hba hbb))
    rw [Hn.out] at h1
    have := Ints.to h1 K (by rw [← Hn.out]; exact hK2)
    rwa [show A.take K = A.take 5 from by rw [← hK1, List.length_take]; rcases Nat.le_total 5 A.length with h | h <;> simp [Nat.min_eq_left, Nat.min_eq_right, h, List.take_of_length_le]] at this)
  have HKl := Lib.hid hK1
  have hKs : (A.take 5).length ≤ 5 := by rw [List.length_take]; omega
  clear hu hn hwa hw1 hb1 hb2 hba hbb hsa hsl hK1 hle
  go_enter Try.func34, Try.ntmps34
  go_upto_region 1 with fail
  rw [← Hwa.out, ← Hw1.out, ← Hb2.out, ← Hb1.out]
  clear Hwa Hw1
  have HB0 := Lib.hid (show Below w.heap.size w w1.drew from HB1.out.drew)
  have HI0 := Lib.hid (show Ints w1.drew (.slice ua K uc) (A.take 5) from HI.out)
  have HS0 := Lib.hid (show w1.drew.heap[b1]? = some (.cells #[.int .i64 r, .slice ua n uc] 50 (0, 0)) from HX1.out)
  have HX0 := Lib.hid (show w1.drew.heap[b2]? = some (.cells #[.int .i64 0, .slice none 0 0] 50 (0, 0)) from HX2.out)
  refine wp_region_held (S := fun w' => w'.heap[b1]? = some (.cells #[.int .i64 r, .slice ua n uc] 50 (0, 0))) wideK ?_
  change wpAnyH _ _ _ _ _ _ _ _ (World.drew _)
  generalize w1.drew = wd0 at *
  refine wpAnyH_take (i := 0) (v := ?_) rfl (by kernel_rfl) (by kernel_rfl) (by kernel_rfl) (fun _ _ _ h => h) (Or.inl ⟨by rfl, ?_⟩) HS0.out ?_
  rotate_left
  focus (intro w hS; clear hS; first | (go_simp; done) | (go_simp; with_reducible rfl))
  simp only [Act.put, List.getElem_toArray, List.getElem_cons_zero, List.setIfInBounds_toArray, List.set_cons_zero, List.set_cons_succ]
  refine wpAnyH_take (i := 1) (v := ?_) rfl (by kernel_rfl) (by kernel_rfl) (by kernel_rfl) (fun _ _ _ h => h) (Or.inl ⟨by rfl, ?_⟩) HS0.out ?_
  rotate_left
  focus (intro w hS; have s0 := aCell hS 0 rfl; clear hS; first | (go_simp; done) | (go_simp; with_reducible rfl))
  simp only [Act.put, List.getElem_toArray, List.getElem_cons_zero, List.getElem_cons_succ, List.setIfInBounds_toArray, List.set_cons_zero, List.set_cons_succ]
  refine wpAnyH_take (i := 2) (v := ?_) rfl (by kernel_rfl) (by kernel_rfl) (by kernel_rfl) (fun _ _ _ h => h) (Or.inl ⟨by rfl, ?_⟩) HS0.out ?_
  rotate_left
  focus (intro w hS; clear hS; first | (go_simp; done) | (go_simp; with_reducible rfl))
  simp only [Act.put, List.getElem_toArray, List.getElem_cons_zero, List.getElem_cons_succ, List.setIfInBounds_toArray, List.set_cons_zero, List.set_cons_succ]
  refine wpAnyH_take (i := 3) (v := ?_) rfl (by kernel_rfl) (by kernel_rfl) (by kernel_rfl) (fun _ _ _ h => h) (Or.inl ⟨by rfl, ?_⟩) HS0.out ?_
  rotate_left
  focus (intro w hS; have s1 := aCell hS 1 rfl; clear hS; first | (go_simp; done) | (go_simp; with_reducible rfl))
  simp only [Act.put, List.getElem_toArray, List.getElem_cons_zero, List.getElem_cons_succ, List.setIfInBounds_toArray, List.set_cons_zero, List.set_cons_succ]
  refine wpAnyH_take (i := 4) (v := ?_) rfl (by kernel_rfl) (by kernel_rfl) (by kernel_rfl) (fun _ _ _ h => h) (Or.inl ⟨by rfl, ?_⟩) HS0.out ?_
  rotate_left
  focus (intro w hS; clear hS; first | (go_simp; done) | (go_simp; with_reducible rfl))
  simp only [Act.put, List.getElem_toArray, List.getElem_cons_zero, List.getElem_cons_succ, List.setIfInBounds_toArray, List.set_cons_zero, List.set_cons_succ]
  refine wpAnyH_take (i := 5) (v := ?_) rfl (by kernel_rfl) (by kernel_rfl) (by kernel_rfl) (fun _ _ _ h => h) (Or.inl ⟨by rfl, ?_⟩) HS0.out ?_
  rotate_left
  focus (intro w hS; have s1 := aCell hS 1 rfl; clear hS; first | (go_simp; done) | (go_simp; with_reducible rfl))
  simp only [Act.put, List.getElem_toArray, List.getElem_cons_zero, List.getElem_cons_succ, List.setIfInBounds_toArray, List.set_cons_zero, List.set_cons_succ]
  refine wpAnyH_take (i := 6) (v := ?_) rfl (by kernel_rfl) (by kernel_rfl) (by kernel_rfl) (fun _ _ _ h => h) (Or.inl ⟨by rfl, ?_⟩) HS0.out ?_
  rotate_left
  focus (intro w hS; clear hS; first | (go_simp; done) | (go_simp; with_reducible rfl))
  simp only [Act.put, List.getElem_toArray, List.getElem_cons_zero, List.getElem_cons_succ, List.setIfInBounds_toArray, List.set_cons_zero, List.set_cons_succ]
  refine wpAnyH_take (i := 7) (v := ?_) rfl (by kernel_rfl) (by kernel_rfl) (by kernel_rfl) (fun _ _ _ h => h) (Or.inl ⟨by rfl, ?_⟩) HS0.out ?_
  rotate_left
  focus (intro w hS; clear hS; first | (go_simp; done) | (go_simp; with_reducible rfl))
  simp only [Act.put, List.getElem_toArray, List.getElem_cons_zero, List.getElem_cons_succ, List.setIfInBounds_toArray, List.set_cons_zero, List.set_cons_succ]
  refine wpAnyH_take (i := 8) (v := ?_) rfl (by kernel_rfl) (by kernel_rfl) (by kernel_rfl) (fun _ _ _ h => h) (Or.inl ⟨by rfl, ?_⟩) HS0.out ?_
  rotate_left
  focus (intro w hS; clear hS; first | (go_simp; done) | (go_simp; with_reducible rfl))
  simp only [Act.put, List.getElem_toArray, List.getElem_cons_zero, List.getElem_cons_succ, List.setIfInBounds_toArray, List.set_cons_zero, List.set_cons_succ]
  refine wpAnyH_ready (rs := [9]) (by kernel_rfl) (by simp) ?_
  refine RdyH.cons rfl (fun K2 hK => ?_) RdyH.nil
  go_simp
  go_at_call 90
  refine (cloneI_any _ _ _ (by omega) HI0.out).mono ?_
  rintro e w6 ⟨v1, rfl, ho, hb⟩
  obtain ⟨x, y, z, rfl⟩ := own_slice ho
  have Ho := Lib.hid ho
  have HS1 := Lib.hid (blk_keep2 HS0.out hb)
  have HX6 := Lib.hid (blk_keep2 HX0.out hb)
  have HB6 := Lib.hid (Below.tr HB0.out hb)
  have Hz0 := Lib.hid HB0.out.size
  have Hlt := Lib.hid (show b2 < wd0.heap.size from (Array.getElem?_eq_some_iff.1 HX0.out).1)
  clear ho hb
  go_simp
  refine hK _ _ HS1.out ?_
  clear hK K2
  refine wpAnyH_take (i := 10) (v := ?_) rfl (by kernel_rfl) (by kernel_rfl) (by kernel_rfl) (fun _ _ _ h => h) (Or.inl ⟨by rfl, ?_⟩) HS1.out ?_
  rotate_left
  focus (intro w hS; clear hS; first | (go_simp; done) | (go_simp; with_reducible rfl))
  simp only [Act.put, List.getElem_toArray, List.getElem_cons_zero, List.getElem_cons_succ, List.setIfInBounds_toArray, List.set_cons_zero, List.set_cons_succ]
  refine wpAnyH_ready (rs := [11]) (by kernel_rfl) (by simp) ?_
  refine RdyH.cons rfl (fun K2 hK => ?_) RdyH.nil
  refine step_store_row rfl 50 (.tmp 2) (.tmp 13) rfl b2 #[.int .i64 r, .slice x y z] rfl rfl 50 _ HX6.out sizeFc rfl (oneAt _) ?_
  have HX9 := Lib.hid (setRow_heap w6 b2 _ #[.int .i64 r, .slice x y z] _ _ HX6.out)
  have HB9 := Lib.hid (below_setRow (b := b2) HB6.out Hb2l.out #[.int .i64 r, .slice x y z])
  have HO9 := Lib.hid (show OwnInts w.heap.size (w6.setRow b2 #[.int .i64 r, .slice x y z]) (.slice x y z) (A.take 5) from by
    refine own_block (owns_mono Ho.out Hz0.out) fun k hk => ?_
    have := (own_lt Ho.out hk).1
    exact setRow_other w6 b2 k _ (by have := Hlt.out; omega))
  have HS9 := Lib.hid (show (w6.setRow b2 #[.int .i64 r, .slice x y z]).heap[b1]? = some (.cells #[.int .i64 r, .slice ua n uc] 50 (0, 0)) from (setRow_other w6 b2 b1 _ (by have := Hb1.out; have := Hb2.out; omega)).trans HS1.out)
  generalize w6.setRow b2 #[.int .i64 r, .slice x y z] = w9 at *
  refine hK _ _ HS9.out ?_
  clear hK K2
  refine wpAnyH_done (by kernel_rfl) ?_ _
  go_wp2_with fail
  refine bodyPost_ret (results_cell_row Try.results34 _ _ b2 50 _ (0, 0) _ rfl HX9.out Try.underlying50 rfl (by kernel_rfl)) rfl ?_
  exact ⟨x, y, z, rfl, HO9.out, HB9.out⟩
/-- is it this fact -/
theorem cloW_any (r s : Int) (A C : List Int) (u v : Value) (bf : Nat) (w : World) (hf : w.heap[bf]? = some (.cells #[.int .i64 r, u] 50 (0, 0))) (hu : Ints w u A) (hv : Ints w v C) (B : Bool) (hB : B = true ↔ (((r, A) : RAt) = (s, C))) :
    Calls Try.prog 109 #[.agg #[.int .i64 s, v], .pointer (some ⟨bf, 0, none⟩)] w fun e w' => e = .returned (.bool B) ∧ Below w.heap.size w w' := by
  obtain ⟨ua, uc, rfl⟩ := ints_slice hu
  obtain ⟨va, vc, rfl⟩ := ints_slice hv
  obtain ⟨un, hun⟩ : ∃ x, x = A.length := ⟨_, rfl⟩
  obtain ⟨vn, hvn⟩ : ∃ x, x = C.length := ⟨_, rfl⟩
  rw [← hun] at hf hu
  rw [← hvn] at hv ⊢
  obtain ⟨w1, hw1⟩ : ∃ x, x = w.alloc (.cells #[.int .i64 s, .slice va vn vc] 50) := ⟨_, rfl⟩
  have hb1 : Below w.heap.size w w1 := by rw [hw1]; exact below_alloc _ _
  obtain ⟨bg, hbg⟩ : ∃ x, x = w.heap.size := ⟨_, rfl⟩
  have hG : w1.heap[bg]? = some (.cells #[.int .i64 s, .slice va vn vc] 50 (0, 0)) := by rw [hw1, hbg]; exact heap_alloc_new _ _
  have hF := blk_keep2 hf hb1
  have HC := Lib.hid (equal_any A C _ _ w1 (hu.keep hb1) (hv.keep hb1))
  have Hb1 := Lib.hid hb1
  have Hw1 := Lib.hid hw1
  have Hbg := Lib.hid hbg
  have f0 := aCell hF 0 rfl
  have f1 := aCell hF 1 rfl
  have g0 := aCell hG 0 rfl
  have g1 := aCell hG 1 rfl
  have HBe := Lib.hid hB
  clear hu hv hf hun hvn hw1 hb1 hbg hG hF hB
  go_enter Try.func109, Try.ntmps109
  go_upto_region 1 with fail
  rw [← Hw1.out, ← Hbg.out]
  clear Hw1
  by_cases e1 : r = s
  · have q1 : (r == s) = true := by rw [e1]; simp
    have HE := Lib.hid (show B = decide (A = C) from by
      have := HBe.out
      rw [e1] at this
      cases B
      · exact (decide_eq_false fun h => by have := this.2 (by rw [h]); cases this).symm
      · have h := this.1 rfl
        injection h with _ h
        exact (decide_eq_true h).symm)
    clear e1
    go_wp2_with fail
    refine HC.out.mono ?_
    rintro e w5 ⟨rfl, m, hm⟩
    have Hm := Lib.hid hm
    clear hm f0 f1 g0 g1
    go_wp2_with fail
    go_ret
    exact ⟨by rw [HE.out]; rfl, by rw [Hm.out]; exact bdrewN2 Hb1.out m⟩
  · have q1 : (r == s) = false := by rw [beq_eq_false_iff_ne]; exact e1
    have HE := Lib.hid (show B = false from by
      have := HBe.out
      cases B
      · rfl
      · have h := this.1 rfl
        injection h with h _
        exact absurd h e1)
    clear e1
    go_wp2_with fail
    go_ret
    exact ⟨by rw [HE.out]; rfl, Hb1.out⟩
set_option maxRecDepth 100000 in
set_option maxHeartbeats 8000000 in
theorem idxW_any (r : Int) (A : List Int) (bf : Nat) (u : Value) (L : List RAt) (v : Value) (w : World) (hf : w.heap[bf]? = some (.cells #[.int .i64 r, u] 50 (0, 0))) (hu : Ints w u A) (hv : Atoms w v L) :
    Calls Try.prog 111 #[v, .func (.func 109) #[] #[.pointer (some ⟨bf, 0, none⟩)]] w fun e w' => ∃ c : Int, e = .returned (.int .i64 c) ∧ (0 ≤ c ↔ ((r, A) : RAt) ∈ L) ∧ Below w.heap.size w w' := by
  obtain ⟨a, b, off, cap, vs, rfl, hle, hia, _, hcs⟩ := Atoms.get hv
  obtain ⟨n, hn⟩ : ∃ x, x = L.length := ⟨_, rfl⟩
  have Hn := Lib.hid hn
  rw [← hn] at hle hia hcs ⊢
  have Hix := Lib.hid (run_ix (P := Try.prog) (t := 39) (a := a) (len := n) (cap := cap) (b := b) (off := off) (s := 2) Try.underlying39 (by intro w; kernel_rfl) hia)
  have Hc := Lib.hid hcs
  have HFb := Lib.hid hf
  have Hu := Lib.hid hu
  clear hv hia hcs hn hf hu
  go_enter Try.func111, Try.ntmps111
  go_wp2_with fail
  go_loopw [8] (fun vi wr => ∃ k : Nat, vi = .int .i64 k ∧ k ≤ n ∧ Below w.heap.size w wr ∧ ∀ f, f ∈ L.take k → ¬ ((r, A) : RAt) = f) (fun vi _ => n - (intOf vi).toNat)
  case atStart => exact ⟨0, rfl, Nat.zero_le _, Below.refl _ _, fun f hf => by rw [List.take_zero] at hf; cases hf⟩
  case round =>
    generalize wr = wx at *
    obtain ⟨k, rfl, hk, hb, hq⟩ := hrel
    have HB := Lib.hid hb
    have HQ := Lib.hid hq
    clear hb hq
    by_cases hlt : k < n
    · obtain ⟨q0, q1, q2⟩ := Hc.out k hlt
      have q0 := Below.keep HB.out q0
      have q1 := Below.keep HB.out q1
      have q2 := Ints.keep q2 HB.out
      have hixk := Hix.out k
      have hlt2 : k < L.length := by rw [← Hn.out]; exact hlt
      have HTk := Lib.hid (show L.take (k + 1) = L.take k ++ [L.getD k (0, [])] from take_get hlt2)
      have HMf := Lib.hid (show L.getD k (0, []) ∈ L from getA_mem hlt2)
      unfold aR at q0
      unfold aA at q2
      obtain ⟨⟨s, C⟩, hf⟩ : ∃ x, x = L.getD k (0, []) := ⟨_, rfl⟩
      rw [← hf] at q0 q2 HTk HMf
      simp only at q0 q2
      obtain ⟨xa, xc, hxs⟩ := ints_slice q2
      rw [hxs] at q1 q2
      have Hq2 := Lib.hid q2
      obtain ⟨xn, hxn⟩ : ∃ x, x = C.length := ⟨_, rfl⟩
      rw [← hxn] at q1 Hq2
      have hfk := blk_keep2 HFb.out HB.out
      by_cases c : ((r, A) : RAt) = (s, C)
      · have HC := Lib.hid (cloW_any r s A C u _ bf wx hfk (Hu.out.keep HB.out) Hq2.out true ⟨fun _ => c, fun _ => rfl⟩)
        have HM := Lib.hid (show ((r, A) : RAt) ∈ L from c ▸ HMf.out)
        clear c q2 hxs hf hxn hlt2 hfk
        go_wp2_with fail
        refine HC.out.mono ?_
        rintro e w5 ⟨rfl, hb5⟩
        have HB5 := Lib.hid (Below.tr HB.out hb5)
        clear hb5
        go_wp2_with fail
        go_ret
        exact ⟨k, rfl, ⟨fun _ => HM.out, fun _ => by omega⟩, HB5.out⟩
      · have HC := Lib.hid (cloW_any r s A C u _ bf wx hfk (Hu.out.keep HB.out) Hq2.out false ⟨fun h => (by cases h), fun h => absurd h c⟩)
        have HN := Lib.hid (show ∀ f, f ∈ L.take (k + 1) → ¬ ((r, A) : RAt) = f from fun f hf => by
          rw [HTk.out] at hf
          rcases List.mem_append.1 hf with hf | hf
          · exact HQ.out f hf
          · rw [List.mem_singleton] at hf; subst hf; exact c)
        clear c q2 hxs hf hxn hlt2 hfk
        go_wp2_with fail
        refine HC.out.mono ?_
        rintro e w5 ⟨rfl, hb5⟩
        have HB5 := Lib.hid (Below.tr HB.out hb5)
        clear hb5
        go_wp2_with fail
        go_roundw
        case rel => exact ⟨k + 1, by go_num, by omega, HB5.out, HN.out⟩
        case measure => simp [intOf]; omega
    · have HN := Lib.hid (show ¬ ((r, A) : RAt) ∈ L from fun h => HQ.out (r, A) (by rw [List.take_of_length_le (by rw [← Hn.out]; omega)]; exact h) rfl)
      go_wp2_with fail
      go_ret
      exact ⟨-1, rfl, ⟨fun h => by omega, fun h => absurd h HN.out⟩, HB.out⟩
set_option maxRecDepth 100000 in
/-- within -/
theorem within_any (r : Int) (A : List Int) (u : Value) (L : List RAt) (v : Value) (w : World) (hu : Ints w u A) (hv : Atoms w v L) (B : Bool) (hB : B = true ↔ ((r, A) : RAt) ∈ L) :
    Calls Try.prog 49 #[v, .agg #[.int .i64 r, u]] w fun e w' => e = .returned (.bool B) ∧ Below w.heap.size w w' := by
  obtain ⟨w1, hw1⟩ : ∃ x, x = w.alloc (.cells #[.int .i64 r, u] 50) := ⟨_, rfl⟩
  have hb1 : Below w.heap.size w w1 := by rw [hw1]; exact below_alloc _ _
  obtain ⟨bf, hbf⟩ : ∃ x, x = w.heap.size := ⟨_, rfl⟩
  have hF : w1.heap[bf]? = some (.cells #[.int .i64 r, u] 50 (0, 0)) := by rw [hw1, hbf]; exact heap_alloc_new _ _
  have HC := Lib.hid (idxW_any r A bf u L v w1 hF (hu.keep hb1) (hv.keep hb1))
  have HCc : Calls Try.prog 108 #[v, .func (.func 109) #[] #[.pointer (some ⟨bf, 0, none⟩)]] w1 fun e w' => e = .returned (.bool B) ∧ Below w1.heap.size w1 w' := by
    obtain ⟨va, vc, rfl⟩ := atoms_slice hv
    have HB := Lib.hid hB
    clear hu hv hB hF hb1 hw1 hbf
    go_enter Try.func108, Try.ntmps108
    go_wp2_with fail
    refine HC.out.mono ?_
    rintro e w5 ⟨x, rfl, hx, hm⟩
    have Hm := Lib.hid hm
    clear hm
    have HB2 := Lib.hid (show B = decide (0 ≤ x) from by
      have := HB.out.trans hx.symm
      cases B
      · exact (decide_eq_false fun h => by have := this.2 h; cases this).symm
      · exact (decide_eq_true (this.1 rfl)).symm)
    clear hx
    go_wp2_with fail
    go_ret
    exact ⟨by rw [HB2.out]; rfl, Hm.out⟩
  have HCc := Lib.hid HCc
  have Hb1 := Lib.hid hb1
  have Hw1 := Lib.hid hw1
  have Hbf := Lib.hid hbf
  obtain ⟨ua, uc, rfl⟩ := ints_slice hu
  obtain ⟨va, vc, rfl⟩ := atoms_slice hv
  clear hu hv hB hF hw1 hb1 hbf HC
  go_enter Try.func49, Try.ntmps49
  go_upto_region 1 with fail
  rw [← Hw1.out, ← Hbf.out]
  clear Hw1
  go_wp2_with fail
  refine HCc.out.mono ?_
  rintro e w5 ⟨rfl, hb5⟩
  have HB5 := Lib.hid (Below.tr Hb1.out hb5)
  clear hb5
  go_wp2_with fail
  go_ret
  exact ⟨rfl, HB5.out⟩
#print axioms within_any
end Go.Proofs.Ythndplkjhbmfmaa
