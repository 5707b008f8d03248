/- RulesNeeded: the facts of a Rel in the model are the same with the needed rules alone. For every input. -/
import Derived.Test.YthndplkjhbmfmaaRnv
import Derived.Test.YthndplkjhbmfmaaRnz
import Derived.Test.YthndplkjhbmfmaaRdf
import Derived.Test.YthndplkjhbmfmaaRaw
import Derived.Test.YthndplkjhbmfmaaFrame
import Derived.Test.YthndplkjhbmfmaaRows
namespace Go.Proofs.Ythndplkjhbmfmaa
open Go.RowKit
theorem by_small6 (x : Int) : ∃ B : Nat, B < 6 ∧ wrap64 ((IntKind.u64.wrap x).tmod 6) = B := by
  have h : 0 ≤ IntKind.u64.wrap x := by rw [IntKind.wrap_u64]; omega
  refine ⟨(IntKind.u64.wrap x % 6).toNat, by omega, ?_⟩
  rw [Int.tmod_eq_emod_of_nonneg h, IntWalk.wrap64_in _ (by omega)]; omega
theorem modW_any (l : List RRule) (fs : List RAt) (rl u : Value) (w : World) (hrl : Rules w rl l) (hu : Atoms w u fs) :
    Calls Try.prog 28 #[rl, u] w fun e w' => (∃ (a : Option Addr) (n c : Nat) (k : Int), e = .returned (.tuple #[.slice a n c, .int .i64 k])) ∧ Below w.heap.size w w' := by
  refine (Model_any l fs rl u w hrl hu).mono ?_
  rintro e w' ⟨hm, hb⟩
  refine ⟨?_, hb⟩
  rcases hm with ⟨_, rfl⟩ | ⟨_, _, rfl⟩ | ⟨_, _, a, n, c, _, _, rfl, _⟩
  · exact ⟨_, _, _, _, rfl⟩
  · exact ⟨_, _, _, _, rfl⟩
  · exact ⟨_, _, _, _, rfl⟩
theorem grown_belowB {w w' : World} {B : Nat} {r : Option Nat} (hg : w.grownBy w' r) (h : ∀ g, r = some g → B ≤ g) (hB : B ≤ w.heap.size) : Below B w w' :=
  ⟨hg.os, hg.tape, hg.output, hg.size, fun k hk => hg.block k (by omega) (fun e => by have := h k e.symm; omega)⟩
theorem ownA_grown {base base2 : Nat} {w w' : World} {v v2 : Value} {l l2 : List RAt} (h : OwnAtoms 50 base w v l) (k : OwnAtoms 50 base2 w v2 l2) (hg : w.grownBy w' v2.ownBlock) (hne : v.ownBlock = none ∨ v.ownBlock ≠ v2.ownBlock) : OwnAtoms 50 base w' v l := by
  obtain ⟨vs, e1, e2, e3⟩ := h
  obtain ⟨_, _, k2, _⟩ := k
  exact ⟨vs, e1, World.ownsRow.kept e2 hg hne, fun i hi => World.ownsRow.kept (e3 i hi) hg (rows_apart (e3 i hi) k2 (by decide))⟩
theorem ownA_lt {base : Nat} {w : World} {v : Value} {l : List RAt} (h : OwnAtoms 50 base w v l) {g : Nat} (hg : v.ownBlock = some g) : base ≤ g ∧ g < w.heap.size := by
  obtain ⟨_, _, k2, _⟩ := h
  exact own_lt k2 hg
theorem srtF_len {cs : List RAt} {P : RAt → Prop} (h : SrtF cs P) : cs.length ≤ 294 := by
  have h1 : (cs.map pcd).Nodup := by
    have : (cs.map pcd).Pairwise (fun a b => a < b) := List.pairwise_map.2 h.asc
    exact this.imp fun q => by omega
  have := len_le h1 (m := (List.range 294).map fun i : Nat => (i : Int)) fun x hx => by
    obtain ⟨f, hf, rfl⟩ := List.mem_map.1 hx
    have := pcd_range (h.fcs f hf)
    exact List.mem_map.2 ⟨(pcd f).toNat, List.mem_range.2 (by omega), by omega⟩
  simpa using this
set_option maxRecDepth 100000 in
set_option maxHeartbeats 16000000 in
theorem needed_any (l : List RRule) (fs : List RAt) (x : Int) (rl fv : Value) (w : World) (hrl : Rules w rl l) (hfv : Atoms w fv fs) :
    Calls Try.prog 16 #[rl, fv, .int .i64 x] w fun e w' => e = .returned (.bool true) ∧ Below w.heap.size w w' := by
  have HR := Lib.hid hrl
  have HF := Lib.hid hfv
  obtain ⟨a, cap, rfl⟩ := RdS.slice hrl
  obtain ⟨ua, uc, rfl⟩ := atoms_slice hfv
  obtain ⟨n, hn⟩ : ∃ x, x = l.length := ⟨_, rfl⟩
  obtain ⟨fn, hfn⟩ : ∃ x, x = fs.length := ⟨_, rfl⟩
  rw [← hn] at HR ⊢
  rw [← hfn] at HF ⊢
  have Hn := Lib.hid hn
  clear hn hfn hrl hfv
  obtain ⟨w1, hw1⟩ : ∃ y, y = w.alloc (.cells #[.int .i64 x] 3) := ⟨_, rfl⟩
  obtain ⟨bq, hbq⟩ : ∃ y, y = w.heap.size := ⟨_, rfl⟩
  have HI1 := Lib.hid (show w1.heap[bq]? = some (.cells #[.int .i64 x] 3 (0, 0)) from by rw [hw1, hbq]; exact heap_alloc_new _ _)
  have HB1 := Lib.hid (show Below w.heap.size w w1 from by rw [hw1]; exact below_alloc _ _)
  have Hw1 := Lib.hid hw1
  have Hbq := Lib.hid hbq
  clear hw1 hbq
  go_enter Try.func16, Try.ntmps16
  go_upto_region 1 with fail
  rw [← Hw1.out, ← Hbq.out]
  clear Hw1
  have g2 := aCell HI1.out 0 rfl
  have gf := frozen_of_row w1 _ 0 _ _ HI1.out
  obtain ⟨q, hq, hqe⟩ := by_small6 x
  have HI2 := Lib.hid (show (w1.setCell ⟨bq, 0, none⟩ (.int .i64 (q : Nat))).heap[bq]? = some (.cells #[.int .i64 (q : Nat)] 3 (0, 0)) from by rw [heap_setCell_same w1 _ 0 _ _ _ HI1.out]; rfl)
  have HB2 := Lib.hid (show Below w.heap.size w (w1.setCell ⟨bq, 0, none⟩ (.int .i64 (q : Nat))) from HB1.out.setCell (show w.heap.size ≤ bq from by rw [Hbq.out]; exact Nat.le_refl _) _)
  clear HI1 HB1
  go_upto_region 2 with fail
  rw [hqe]
  clear g2 gf hqe
  generalize w1.setCell ⟨bq, 0, none⟩ (.int .i64 (q : Nat)) = w2 at *
  have Hbql := Lib.hid (show bq < w2.heap.size from (Array.getElem?_eq_some_iff.1 HI2.out).1)
  have HB0 := Lib.hid (show Below w.heap.size w w2.drew from HB2.out.drew)
  have HS0 := Lib.hid (show w2.drew.heap[bq]? = some (.cells #[.int .i64 (q : Nat)] 3 (0, 0)) from HI2.out)
  refine wp_region_held (S := fun w' => w'.heap[bq]? = some (.cells #[.int .i64 (q : Nat)] 3 (0, 0))) wideK ?_
  change wpAnyH _ _ _ _ _ _ _ _ (World.drew _)
  clear HI2 HB2 Hbql
  generalize w2.drew = wd0 at *
  refine wpAnyH_take (i := 0) (v := ?_) rfl (by kernel_rfl) (by kernel_rfl) (by kernel_rfl) (fun _ _ _ h => h) (Or.inl ⟨by rfl, ?_⟩) HS0.out ?_
  rotate_left
  focus (intro w hS; clear hS; first | (go_simp; done) | (go_simp; with_reducible rfl))
  simp only [Act.put, List.getElem_toArray, List.getElem_cons_zero, List.setIfInBounds_toArray, List.set_cons_zero, List.set_cons_succ]
  refine wpAnyH_take (i := 2) (v := ?_) rfl (by kernel_rfl) (by kernel_rfl) (by kernel_rfl) (fun _ _ _ h => h) (Or.inl ⟨by rfl, ?_⟩) HS0.out ?_
  rotate_left
  focus (intro w hS; have s0 := aCell hS 0 rfl; clear hS; first | (go_simp; done) | (go_simp; with_reducible rfl))
  simp only [Act.put, List.getElem_toArray, List.getElem_cons_zero, List.getElem_cons_succ, List.setIfInBounds_toArray, List.set_cons_zero, List.set_cons_succ]
  refine wpAnyH_ready (rs := [1]) (by kernel_rfl) (by simp) ?_
  refine RdyH.cons rfl (fun K2 hK => ?_) RdyH.nil
  go_simp
  go_at_call 19
  refine (OfL_any l _ wd0 (HR.out.keep HB0.out)).mono ?_
  rintro e wd1 ⟨o1, o2, o3, rfl, ho, hb⟩
  have HB1 := Lib.hid (Below.tr HB0.out hb)
  have HS1 := Lib.hid (blk_keep2 HS0.out hb)
  have HR1 := Lib.hid ho.rules
  clear ho hb
  go_simp
  refine hK _ _ HS1.out ?_
  clear hK K2
  refine wpAnyH_ready (rs := [3]) (by kernel_rfl) (by simp) ?_
  refine RdyH.cons rfl (fun K2 hK => ?_) RdyH.nil
  go_simp
  go_at_call 20
  refine (Needed_any (ofRl l) (q : Int) _ wd1 HR1.out).mono ?_
  rintro e wd2 ⟨hN, hb⟩
  have HB2 := Lib.hid (Below.tr HB1.out hb)
  have HS2 := Lib.hid (blk_keep2 HS1.out hb)
  have Hbql := Lib.hid (show bq < wd2.heap.size from (Array.getElem?_eq_some_iff.1 HS2.out).1)
  clear hb
  rcases hN with ⟨hN, rfl⟩ | ⟨hN, R, s1, s2, s3, hS, rfl, ho⟩
  · go_simp
    refine hK _ _ HS2.out ?_
    clear hK K2
    refine wpAnyH_take (i := 4) (v := ?_) rfl (by kernel_rfl) (by kernel_rfl) (by kernel_rfl) (fun _ _ _ h => h) (Or.inl ⟨by rfl, ?_⟩) HS2.out ?_
    rotate_left
    focus (intro w hS; clear hS; first | (go_simp; done) | (go_simp; with_reducible rfl))
    simp only [Act.put, List.getElem_toArray, List.getElem_cons_zero, List.getElem_cons_succ, List.setIfInBounds_toArray, List.set_cons_zero, List.set_cons_succ]
    refine wpAnyH_take (i := 5) (v := ?_) rfl (by kernel_rfl) (by kernel_rfl) (by kernel_rfl) (fun _ _ _ h => h) (Or.inl ⟨by rfl, ?_⟩) HS2.out ?_
    rotate_left
    focus (intro w hS; clear hS; first | (go_simp; done) | (go_simp; with_reducible rfl))
    simp only [Act.put, List.getElem_toArray, List.getElem_cons_zero, List.getElem_cons_succ, List.setIfInBounds_toArray, List.set_cons_zero, List.set_cons_succ]
    refine wpAnyH_take (i := 6) (v := ?_) rfl (by kernel_rfl) (by kernel_rfl) (by kernel_rfl) (fun _ _ _ h => h) (Or.inl ⟨by rfl, ?_⟩) HS2.out ?_
    rotate_left
    focus (intro w hS; clear hS; first | (go_simp; done) | (go_simp; with_reducible rfl))
    simp only [Act.put, List.getElem_toArray, List.getElem_cons_zero, List.getElem_cons_succ, List.setIfInBounds_toArray, List.set_cons_zero, List.set_cons_succ]
    refine wpAnyH_take (i := 7) (v := ?_) rfl (by kernel_rfl) (by kernel_rfl) (by kernel_rfl) (fun _ _ _ h => h) (Or.inl ⟨by rfl, ?_⟩) HS2.out ?_
    rotate_left
    focus (intro w hS; clear hS; first | (go_simp; done) | (go_simp; with_reducible rfl))
    simp only [Act.put, List.getElem_toArray, List.getElem_cons_zero, List.getElem_cons_succ, List.setIfInBounds_toArray, List.set_cons_zero, List.set_cons_succ]
    refine wpAnyH_take (i := 8) (v := ?_) rfl (by kernel_rfl) (by kernel_rfl) (by kernel_rfl) (fun _ _ _ h => h) (Or.inl ⟨by rfl, ?_⟩) HS2.out ?_
    rotate_left
    focus (intro w hS; clear hS; first | (go_simp; done) | (go_simp; with_reducible rfl))
    simp only [Act.put, List.getElem_toArray, List.getElem_cons_zero, List.getElem_cons_succ, List.setIfInBounds_toArray, List.set_cons_zero, List.set_cons_succ]
    refine wpAnyH_done (by kernel_rfl) ?_ _
    clear HS0 HS1 HB0 HB1 HR1
    generalize wd2 = w2 at *
    have HC := Lib.hid (OfL_any l _ w2 (HR.out.keep HB2.out))
    go_wp2_with fail
    refine HC.out.mono ?_
    clear HC
    rintro e w3 ⟨a3, n3, c3, rfl, ho3, hb3⟩
    have HB3 := Lib.hid (Below.tr HB2.out hb3)
    have HR3 := Lib.hid ho3.rules
    clear ho3 hb3
    have HC := Lib.hid (factsL_any fs _ w3 (HF.out.keep HB3.out))
    go_wp2_with fail
    refine HC.out.mono ?_
    clear HC
    rintro e w4 ⟨v4, rfl, ho4, hb4⟩
    obtain ⟨a4, c4, hv4⟩ := Atoms.own ho4
    obtain ⟨n4, hn4⟩ : ∃ x, x = (ofF fs).length := ⟨_, rfl⟩
    rw [← hn4] at hv4
    subst hv4
    have HB4 := Lib.hid (Below.tr HB3.out hb4)
    have HFa4 := Lib.hid ho4.atoms
    clear ho4 hn4
    have HC := Lib.hid (modW_any (ofRl l) (ofF fs) _ _ w4 (HR3.out.keep hb4) HFa4.out)
    clear hb4
    go_wp2_with fail
    refine HC.out.mono ?_
    clear HC
    rintro e w5 ⟨⟨m1, m2, m3, mk, rfl⟩, hb5⟩
    have HB5 := Lib.hid (Below.tr HB4.out hb5)
    clear hb5
    have HC := Lib.hid (factsL_any fs _ w5 (HF.out.keep HB5.out))
    go_wp2_with fail
    refine HC.out.mono ?_
    clear HC
    rintro e w6 ⟨v6, rfl, ho6, hb6⟩
    obtain ⟨a6, c6, hv6⟩ := Atoms.own ho6
    obtain ⟨n6, hn6⟩ : ∃ x, x = (ofF fs).length := ⟨_, rfl⟩
    rw [← hn6] at hv6
    subst hv6
    have HB6 := Lib.hid (Below.tr HB5.out hb6)
    have HFa6 := Lib.hid ho6.atoms
    clear ho6 hn6
    clear hb6
    have HC := Lib.hid (modW_any [] (ofF fs) (.slice none 0 0) _ w6 (rdS_nil _ _ _) HFa6.out)
    go_wp2_with fail
    refine HC.out.mono ?_
    clear HC
    rintro e w7 ⟨⟨p1, p2, p3, pk, rfl⟩, hb7⟩
    have HB7 := Lib.hid (Below.tr HB6.out hb7)
    clear hb7
    go_wp2_with fail
    refine (awake_any _).mono ?_
    rintro e wA ⟨rfl, hbA⟩
    have HBA := Lib.hid (Below.tr HB7.out hbA)
    clear hbA
    go_wp2_with fail
    go_ret
    exact ⟨rfl, HBA.out⟩
  · have HO2 := Lib.hid ho
    have HN := Lib.hid (show NeedS (ofRl l) q (bitS R) from by rw [Int.toNat_natCast] at hS; exact hS)
    clear hS hN ho
    go_simp
    refine hK _ _ HS2.out ?_
    clear hK K2
    refine wpAnyH_take (i := 4) (v := ?_) rfl (by kernel_rfl) (by kernel_rfl) (by kernel_rfl) (fun _ _ _ h => h) (Or.inl ⟨by rfl, ?_⟩) HS2.out ?_
    rotate_left
    focus (intro w hS; clear hS; first | (go_simp; done) | (go_simp; with_reducible rfl))
    simp only [Act.put, List.getElem_toArray, List.getElem_cons_zero, List.getElem_cons_succ, List.setIfInBounds_toArray, List.set_cons_zero, List.set_cons_succ]
    refine wpAnyH_take (i := 5) (v := ?_) rfl (by kernel_rfl) (by kernel_rfl) (by kernel_rfl) (fun _ _ _ h => h) (Or.inl ⟨by rfl, ?_⟩) HS2.out ?_
    rotate_left
    focus (intro w hS; clear hS; first | (go_simp; done) | (go_simp; with_reducible rfl))
    simp only [Act.put, List.getElem_toArray, List.getElem_cons_zero, List.getElem_cons_succ, List.setIfInBounds_toArray, List.set_cons_zero, List.set_cons_succ]
    refine wpAnyH_take (i := 6) (v := ?_) rfl (by kernel_rfl) (by kernel_rfl) (by kernel_rfl) (fun _ _ _ h => h) (Or.inl ⟨by rfl, ?_⟩) HS2.out ?_
    rotate_left
    focus (intro w hS; clear hS; first | (go_simp; done) | (go_simp; with_reducible rfl))
    simp only [Act.put, List.getElem_toArray, List.getElem_cons_zero, List.getElem_cons_succ, List.setIfInBounds_toArray, List.set_cons_zero, List.set_cons_succ]
    refine wpAnyH_take (i := 7) (v := ?_) rfl (by kernel_rfl) (by kernel_rfl) (by kernel_rfl) (fun _ _ _ h => h) (Or.inl ⟨by rfl, ?_⟩) HS2.out ?_
    rotate_left
    focus (intro w hS; clear hS; first | (go_simp; done) | (go_simp; with_reducible rfl))
    simp only [Act.put, List.getElem_toArray, List.getElem_cons_zero, List.getElem_cons_succ, List.setIfInBounds_toArray, List.set_cons_zero, List.set_cons_succ]
    refine wpAnyH_take (i := 8) (v := ?_) rfl (by kernel_rfl) (by kernel_rfl) (by kernel_rfl) (fun _ _ _ h => h) (Or.inl ⟨by rfl, ?_⟩) HS2.out ?_
    rotate_left
    focus (intro w hS; clear hS; first | (go_simp; done) | (go_simp; with_reducible rfl))
    simp only [Act.put, List.getElem_toArray, List.getElem_cons_zero, List.getElem_cons_succ, List.setIfInBounds_toArray, List.set_cons_zero, List.set_cons_succ]
    refine wpAnyH_done (by kernel_rfl) ?_ _
    clear HS0 HS1 HB0 HB1 HR1
    generalize wd2 = w2 at *
    have HC := Lib.hid (OfL_any l _ w2 (HR.out.keep HB2.out))
    go_wp2_with fail
    refine HC.out.mono ?_
    clear HC
    rintro e w3 ⟨a3, n3, c3, rfl, ho3, hb3⟩
    have HB3 := Lib.hid (Below.tr HB2.out hb3)
    have HR3 := Lib.hid ho3.rules
    have Hb23 := Lib.hid hb3
    clear ho3 hb3
    have HC := Lib.hid (factsL_any fs _ w3 (HF.out.keep HB3.out))
    go_wp2_with fail
    refine HC.out.mono ?_
    clear HC
    rintro e w4 ⟨v4, rfl, ho4, hb4⟩
    obtain ⟨a4, c4, hv4⟩ := Atoms.own ho4
    obtain ⟨n4, hn4⟩ : ∃ x, x = (ofF fs).length := ⟨_, rfl⟩
    rw [← hn4] at hv4
    subst hv4
    have HB4 := Lib.hid (Below.tr HB3.out hb4)
    have HFa4 := Lib.hid ho4.atoms
    clear ho4 hn4
    have Hb24 := Lib.hid (Below.tr Hb23.out hb4)
    have HC := Lib.hid (Model_any (ofRl l) (ofF fs) _ _ w4 (HR3.out.keep hb4) HFa4.out)
    clear hb4
    go_wp2_with fail
    refine HC.out.mono ?_
    clear HC
    rintro e w5 ⟨hm, hb5⟩
    have HB5 := Lib.hid (Below.tr HB4.out hb5)
    have Hb35 := Lib.hid (Below.tr Hb24.out hb5)
    clear hb5
    rcases hm with ⟨_, rfl⟩ | ⟨_, _, rfl⟩ | ⟨hv, L, m1, m2, m3, cs, hs, rfl, ho5, hsr⟩
    · have HC := Lib.hid (factsL_any fs _ w5 (HF.out.keep HB5.out))
      go_wp2_with fail
      refine HC.out.mono ?_
      clear HC
      rintro e w6 ⟨v6, rfl, ho6, hb6⟩
      obtain ⟨a6, c6, hv6⟩ := Atoms.own ho6
      obtain ⟨n6, hn6⟩ : ∃ x, x = (ofF fs).length := ⟨_, rfl⟩
      rw [← hn6] at hv6
      subst hv6
      have HB6 := Lib.hid (Below.tr HB5.out hb6)
      have HFa6 := Lib.hid ho6.atoms
      clear ho6 hn6
      have HC := Lib.hid (modW_any (ndR R (ofRl l)) (ofF fs) _ _ w6 ((HO2.out.keep (Below.tr Hb35.out hb6)).rules) HFa6.out)
      clear hb6
      go_wp2_with fail
      refine HC.out.mono ?_
      clear HC
      rintro e w7 ⟨⟨p1, p2, p3, pk, rfl⟩, hb7⟩
      have HB7 := Lib.hid (Below.tr HB6.out hb7)
      clear hb7
      go_wp2_with fail
      refine (awake_any _).mono ?_
      rintro e wA ⟨rfl, hbA⟩
      have HBA := Lib.hid (Below.tr HB7.out hbA)
      clear hbA
      go_wp2_with fail
      go_ret
      exact ⟨rfl, HBA.out⟩
    · have HC := Lib.hid (factsL_any fs _ w5 (HF.out.keep HB5.out))
      go_wp2_with fail
      refine HC.out.mono ?_
      clear HC
      rintro e w6 ⟨v6, rfl, ho6, hb6⟩
      obtain ⟨a6, c6, hv6⟩ := Atoms.own ho6
      obtain ⟨n6, hn6⟩ : ∃ x, x = (ofF fs).length := ⟨_, rfl⟩
      rw [← hn6] at hv6
      subst hv6
      have HB6 := Lib.hid (Below.tr HB5.out hb6)
      have HFa6 := Lib.hid ho6.atoms
      clear ho6 hn6
      have HC := Lib.hid (modW_any (ndR R (ofRl l)) (ofF fs) _ _ w6 ((HO2.out.keep (Below.tr Hb35.out hb6)).rules) HFa6.out)
      clear hb6
      go_wp2_with fail
      refine HC.out.mono ?_
      clear HC
      rintro e w7 ⟨⟨p1, p2, p3, pk, rfl⟩, hb7⟩
      have HB7 := Lib.hid (Below.tr HB6.out hb7)
      clear hb7
      go_wp2_with fail
      refine (awake_any _).mono ?_
      rintro e wA ⟨rfl, hbA⟩
      have HBA := Lib.hid (Below.tr HB7.out hbA)
      clear hbA
      go_wp2_with fail
      go_ret
      exact ⟨rfl, HBA.out⟩
    · have HV := Lib.hid hv
      have HSt := Lib.hid hs
      have HSr := Lib.hid hsr
      have HM5 := Lib.hid ho5
      clear hv hs hsr ho5
      have HC := Lib.hid (factsL_any fs _ w5 (HF.out.keep HB5.out))
      go_wp2_with fail
      refine HC.out.mono ?_
      clear HC
      rintro e w6 ⟨v6, rfl, ho6, hb6⟩
      obtain ⟨a6, c6, hv6⟩ := Atoms.own ho6
      obtain ⟨n6, hn6⟩ : ∃ x, x = (ofF fs).length := ⟨_, rfl⟩
      rw [← hn6] at hv6
      subst hv6
      have HB6 := Lib.hid (Below.tr HB5.out hb6)
      have HFa6 := Lib.hid ho6.atoms
      clear ho6 hn6
      have HM6 := Lib.hid (HM5.out.keep hb6)
      have Hb56 := Lib.hid hb6
      have HC := Lib.hid (Model_any (ndR R (ofRl l)) (ofF fs) _ _ w6 ((HO2.out.keep (Below.tr Hb35.out hb6)).rules) HFa6.out)
      clear hb6
      go_wp2_with fail
      refine HC.out.mono ?_
      clear HC
      rintro e w7 ⟨hm, hb7⟩
      have HB7 := Lib.hid (Below.tr HB6.out hb7)
      have HM7 := Lib.hid (HM6.out.keep hb7)
      have Hb67 := Lib.hid hb7
      clear hb7
      rcases hm with ⟨h, _⟩ | ⟨_, h, _⟩ | ⟨_, L2, p1, p2, p3, ds, hs2, rfl, ho7, hsr2⟩
      · exact absurd (nd_val HV.out) h
      · exact absurd h (nd_str HSt.out)
      · have HP7 := Lib.hid ho7
        have HEq := Lib.hid (nd_same HV.out (q := q) HN.out HSt.out hs2 HSr.out hsr2)
        have HL1 := Lib.hid (show cs.length ≤ 1000000 from by have := srtF_len HSr.out; omega)
        have HL2 := Lib.hid (show ds.length ≤ 1000000 from by have := srtF_len hsr2; omega)
        have HI7 := Lib.hid (show w7.heap[bq]? = some (.cells #[.int .i64 (q : Nat)] 3 (0, 0)) from blk_keep2 HS2.out (Below.tr Hb35.out (Below.tr Hb56.out Hb67.out)))
        clear hs2 ho7 hsr2
        have HC := Lib.hid (delF_any (q : Int) bq w4.heap.size cs HL1.out (.slice m1 m2 m3) w7 HI7.out HM7.out)
        have hle : ¬ (s2 : Int) > (n : Int) := by
          have h1 := orul_len HO2.out
          have h2 : (ndR R (ofRl l)).length ≤ (ofRl l).length := List.length_filter_le _ _
          have h3 : (ofRl l).length ≤ l.length := by unfold ofRl; rw [List.length_map, List.length_take]; omega
          have := Hn.out
          omega
        go_wp2_with fail
        refine HC.out.mono ?_
        clear HC hle
        rintro e w8 ⟨f1, f2, f3, rfl, hF1, hob, hg⟩
        have hbelow : Below w.heap.size w7 w8 := grown_belowB hg (fun g e => by have := (ownA_lt HM7.out e).1; have := HB4.out.size; omega) HB7.out.size
        have HB8 := Lib.hid (HB7.out.trans hbelow)
        have hne : (Value.slice p1 p2 p3).ownBlock = none ∨ (Value.slice p1 p2 p3).ownBlock ≠ (Value.slice m1 m2 m3).ownBlock := by
          cases hp : (Value.slice p1 p2 p3).ownBlock with
          | none => exact .inl rfl
          | some g2 =>
            refine .inr fun e => ?_
            have k1 := (ownA_lt HP7.out hp).1
            have k2 := (ownA_lt HM6.out e.symm).2
            omega
        have HP8 := Lib.hid (ownA_grown HP7.out HM7.out hg hne)
        have HF8 := Lib.hid hF1
        have HI8 := Lib.hid (show w8.heap[bq]? = some (.cells #[.int .i64 (q : Nat)] 3 (0, 0)) from by
          rw [hg.block bq (Array.getElem?_eq_some_iff.1 HI7.out).1 fun e => ?_]
          · exact HI7.out
          · have := (ownA_lt HM7.out e.symm).1
            have := Hb24.out.size
            have := Hbql.out
            omega)
        have Hob := Lib.hid hob
        have Hne := Lib.hid hne
        clear hF1 hob hg hbelow hne
        have HC := Lib.hid (delF_any (q : Int) bq w6.heap.size ds HL2.out (.slice p1 p2 p3) w8 HI8.out HP8.out)
        go_wp2_with fail
        refine HC.out.mono ?_
        clear HC
        rintro e w9 ⟨h1, h2, h3, rfl, hF2, _, hg⟩
        have hbelow : Below w.heap.size w8 w9 := grown_belowB hg (fun g e => by have := (ownA_lt HP8.out e).1; have := HB6.out.size; omega) HB8.out.size
        have HB9 := Lib.hid (HB8.out.trans hbelow)
        have hF1 := ownA_grown HF8.out HP8.out hg (by
          rcases Hne.out with e | e
          · cases hf : (Value.slice f1 f2 f3).ownBlock with
            | none => exact .inl rfl
            | some g => exact .inr (by rw [e]; simp)
          · rw [Hob.out]; exact .inr fun q => e q.symm)
        have HC := Lib.hid (same_any (cs.filter fun f => decide (f.1 = (q : Int))) (ds.filter fun f => decide (f.1 = (q : Int))) _ _ w9 hF1.atoms hF2.atoms true (decide_eq_true HEq.out))
        clear hF1 hF2 hg hbelow
        go_wp2_with fail
        refine HC.out.mono ?_
        clear HC
        rintro e wB ⟨rfl, hbB⟩
        have HBB := Lib.hid (Below.tr HB9.out hbB)
        clear hbB
        go_wp2_with fail
        refine (awake_any _).mono ?_
        rintro e wA ⟨rfl, hbA⟩
        have HBA := Lib.hid (Below.tr HBB.out hbA)
        clear hbA
        go_wp2_with fail
        go_ret
        exact ⟨rfl, HBA.out⟩
#print axioms needed_any
namespace rulesNeeded
open Go.ChangeShapes Go.WideShapes Go.ChangeAt
set_option maxRecDepth 100000 in
theorem lifted (os : Os) (started : os.Started) (H : Type) (enc : TypeId × Value → H) :
    ReturnsInHanded {} Try.checked os 16 .any (Rows.rulesNeededSpec.pre6 enc Try.prog Try.f16 Rows.rulesNeededRow.domain false) (Rows.rulesNeededSpec.post enc Try.prog Try.f16 false true false false) := by
  refine returnsInHanded_of_change (C := Try.checked) Try.own started (by kernel_rfl) Try.func16
    (ChangeSpec.witness6 (enc := enc) (C := Try.checked) false ⟨#[], #[.slice none 0 0, .slice none 0 0, .int .i64 0], []⟩ 8 (by kernel_rfl) (by kernel_rfl) (by kernel_rfl) (by kernel_rfl)) ?_
  intro W base args ds gs before hval0 hW _ _
  have hval : ∀ (j : Nat) t v, Try.f16.params[j]? = some t → args[j]? = some v → Value.okWide Try.prog W .any base t v := hval0
  clear hval0
  obtain rfl : gs = [] := by obtain ⟨p, q, _, hV, _⟩ := hW; exact (trodVars_none hV).1
  have hW' := hW
  obtain ⟨p, q, hA0, hV, rfl, hfz, hnd⟩ := hW
  have hA : DataW.TrodAll enc Try.prog W 0 (fun _ => true) true Try.f16.params.toList args.toList ds p := hA0
  rw [Try.params16] at hA hval
  obtain ⟨v0, vs0, d0, ds0, p0, q0, hv0, hd0, hp0, h0, r0⟩ := trodAll_cons hA
  obtain ⟨v1, vs1, d1, ds1, p1, q1, hv1, hd1, hp1, h1, r1⟩ := trodAll_cons r0
  obtain ⟨v2, vs2, d2, ds2, p2, q2, hv2, hd2, hp2, h2, r2⟩ := trodAll_cons r1
  obtain ⟨hvn, hdn, hpn⟩ := trodAll_nil r2
  have ha : args = #[v0, v1, v2] := by cases args; simp_all
  have hdd : ds = [d0, d1, d2] := by simp_all
  rw [ha] at hval
  obtain ⟨a0, k0⟩ := rules_of_trod Try.underlying22 Try.underlying86 ⟨rfl, rfl⟩ ⟨rfl, rfl⟩ Try.underlying84 (by kernel_rfl) Try.underlying88 ⟨rfl, rfl⟩ ⟨rfl, rfl⟩ Try.underlying4 (by kernel_rfl) Try.underlying83 ⟨rfl, rfl⟩ ⟨rfl, rfl⟩ Try.underlying3 Try.underlying23 (by kernel_rfl) (by kernel_rfl) (by kernel_rfl) (by kernel_rfl) (by kernel_rfl) (okWide_slice Try.underlying22 (hval 0 22 v0 rfl rfl)) h0
  obtain ⟨a1, k1⟩ := atoms_of_trod Try.underlying39 Try.underlying50 ⟨rfl, rfl⟩ ⟨rfl, rfl⟩ Try.underlying3 Try.underlying23 (by kernel_rfl) (by kernel_rfl) (by kernel_rfl) (okWide_slice Try.underlying39 (hval 1 39 v1 rfl rfl)) h1
  obtain ⟨a2, e2, -, -, wf2⟩ := open_int Try.underlying3 (hval 2 3 v2 rfl rfl) h2
  have hw : Calls Try.prog 16 args W (fun e W' => e = .returned (.bool true) ∧ Below W.heap.size W W') := by
    rw [ha, e2]; exact needed_any a0 a1 a2 v0 v1 W k0 k1
  exact hw.mono fun e W' ⟨he, hb⟩ => ⟨_, he, law_post Try.laidOut hW' rfl rfl Try.underlying4 (by rw [hdd]; rfl)
    (by kernel_rfl) hb⟩

theorem holds : Rows.RulesNeededSaid :=
  OpenClaim.holds_of_wide 16 Try.f16 rfl rfl rfl rfl rfl rfl rfl ⟨rfl, rfl, rfl, rfl, rfl⟩ rfl rfl rfl rfl rfl (by kernel_rfl) Try.func16 (by kernel_rfl)
    (of_decide_eq_true (by kernel_rfl)) (by unfold Func.isWrapper; first | (rw [if_pos (by decide +kernel)]; kernel_rfl) | (rw [if_neg (by decide +kernel)]; exact ⟨rfl, rfl⟩))
    (fun os started H enc _ => lifted os started H enc)
end rulesNeeded

end Go.Proofs.Ythndplkjhbmfmaa
