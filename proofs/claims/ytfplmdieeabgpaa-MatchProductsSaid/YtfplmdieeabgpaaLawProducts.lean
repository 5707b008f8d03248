/- MatchProducts: for every input the law returns true. -/
import Derived.Test.YtfplmdieeabgpaaApp
import Derived.Test.YtfplmdieeabgpaaPrd
import Derived.Test.YtfplmdieeabgpaaRq
import Derived.Test.YtfplmdieeabgpaaFrame
import Derived.Test.YtfplmdieeabgpaaRows
import Derived.BigQuiet
namespace Go.Proofs.Ytfplmdieeabgpaa
open Go.RowKit
/-- a box of a query of the program -/
def Mx (w : World) (b : Nat) (x y : Value) : Prop := w.heap[b]? = some (.cells #[x, y] 33 (0, 0))
theorem Mx.keep {w w' : World} {b : Nat} {x y : Value} (h : Mx w b x y) (hb : Below w.heap.size w w') : Mx w' b x y := blk_keep2 h hb
structure Bel (w w' : World) : Prop where
  b : Below w.heap.size w w'
theorem Bel.keep {w wr w' : World} (h : Bel w wr) (hb : Below wr.heap.size wr w') : Bel w w' := ⟨Below.tr h.b hb⟩
theorem own_set {w : World} {base size n bo j : Nat} {e t : TypeId} {v x : Value} {xs : List Value} {cs : Array Value} {fr : Nat × Nat} (h : w.ownsRow base e size v n xs) (hb : w.heap[bo]? = some (.cells cs t fr)) (hne : t ≠ e) : (w.setCell ⟨bo, j, none⟩ x).ownsRow base e size v n xs :=
  own_block h fun g hg => heap_setCell_other w ⟨bo, j, none⟩ g x fun q => by
    rcases h.2 with ⟨rfl, _⟩ | ⟨g', cap, cur, rfl, _, hh, _⟩
    · cases hg
    · cases hg
      have q' : g' = bo := q
      subst q'
      rw [hb] at hh
      injection hh with hh
      injection hh with _ hh _
      exact hne hh
set_option maxRecDepth 100000 in
set_option maxHeartbeats 16000000 in
theorem prod_any (p q : HQ) (l : List HAt) (v u x : Value) (w : World) (hp : Qr w v p) (hq : Qr w u q) (hl : Atoms w x l) :
    Calls Try.prog 14 #[v, u, x] w fun e w' => e = .returned (.bool true) ∧ Below w.heap.size w w' := by
  obtain ⟨h0, b0, rfl, hh, hb⟩ := hp
  obtain ⟨h1, b1, rfl, hh1, hb1⟩ := hq
  have Hp := Lib.hid (show Qr w (.agg #[h0, b0]) p from ⟨_, _, rfl, hh, hb⟩)
  have Hq := Lib.hid (show Qr w (.agg #[h1, b1]) q from ⟨_, _, rfl, hh1, hb1⟩)
  obtain ⟨ha, hc, rfl⟩ := ints_slice hh
  obtain ⟨ba, bc, rfl⟩ := atoms_slice hb
  obtain ⟨ha1, hc1, rfl⟩ := ints_slice hh1
  obtain ⟨ba1, bc1, rfl⟩ := atoms_slice hb1
  obtain ⟨n0, hn0⟩ : ∃ x, x = p.1.length := ⟨_, rfl⟩
  obtain ⟨n1, hn1⟩ : ∃ x, x = p.2.length := ⟨_, rfl⟩
  obtain ⟨n2, hn2⟩ : ∃ x, x = q.1.length := ⟨_, rfl⟩
  obtain ⟨n3, hn3⟩ : ∃ x, x = q.2.length := ⟨_, rfl⟩
  rw [← hn0, ← hn1] at Hp
  rw [← hn2, ← hn3] at Hq
  rw [← hn0, ← hn1, ← hn2, ← hn3]
  obtain ⟨w1, hw1⟩ : ∃ x, x = w.alloc (.cells #[.slice ha n0 hc, .slice ba n1 bc] 25) := ⟨_, rfl⟩
  obtain ⟨w2, hw2⟩ : ∃ x, x = w1.alloc (.cells #[.slice ha1 n2 hc1, .slice ba1 n3 bc1] 25) := ⟨_, rfl⟩
  obtain ⟨bp, hbp⟩ : ∃ x, x = w.heap.size := ⟨_, rfl⟩
  obtain ⟨bq, hbq⟩ : ∃ x, x = bp + 1 := ⟨_, rfl⟩
  have HB := Lib.hid (B2.new hw1 hw2 hbp hbq)
  have Hw1 := Lib.hid hw1
  have Hw2 := Lib.hid hw2
  have Hbpe := Lib.hid hbp
  have Hbqe := Lib.hid hbq
  clear hh hb hh1 hb1 hw1 hw2 hbp hbq hn0 hn1 hn2 hn3
  obtain ⟨la, lc, rfl⟩ := atoms_slice hl
  obtain ⟨ln, hln⟩ : ∃ x, x = l.length := ⟨_, rfl⟩
  rw [← hln] at hl ⊢
  have Hl := Lib.hid hl
  clear hl hln
  go_enter Try.func14, Try.ntmps14
  go_upto_region 1 with fail
  rw [← Hw1.out, ← Hw2.out, ← Hbpe.out, ← Hbqe.out]
  clear Hw1 Hw2 Hbpe Hbqe
  obtain ⟨⟨g0, g1⟩, g2, g3⟩ := HB.out.cells
  go_wp2_with fail
  refine (ofC_any _ _ (Hp.out.keep HB.out.b)).mono ?_
  rintro e w3 ⟨a1, e1, k1, a2, e2, k2, rfl, ho, hb⟩
  have HB := Lib.hid (HB.out.keep hb)
  have HQ := Lib.hid ho.qr
  clear hb ho g0 g1 g2 g3
  go_wp2_with fail
  refine (facC_any _ _ (Hl.out.keep HB.out.b)).mono ?_
  rintro e w4 ⟨f1, f2, f3, rfl, ho, hb⟩
  have HB := Lib.hid (HB.out.keep hb)
  have HQ := Lib.hid (HQ.out.keep hb)
  have HF := Lib.hid ho.atoms
  clear hb ho
  go_wp2_with fail
  refine (cntC_any _ _ _ HQ.out HF.out).mono ?_
  rintro e w5 ⟨na, c1, rfl, hC, hb⟩
  have HB := Lib.hid (HB.out.keep hb)
  have HQ := Lib.hid (HQ.out.keep hb)
  have HF := Lib.hid (HF.out.keep hb)
  have HC1 := Lib.hid hC
  clear hb hC HQ HF
  obtain ⟨⟨g0, g1⟩, g2, g3⟩ := HB.out.cells
  go_wp2_with fail
  refine (ofC_any _ _ (Hq.out.keep HB.out.b)).mono ?_
  rintro e w6 ⟨a1, e1, k1, a2, e2, k2, rfl, ho, hb⟩
  have HB := Lib.hid (HB.out.keep hb)
  have HQ := Lib.hid ho.qr
  clear hb ho g0 g1 g2 g3
  go_wp2_with fail
  refine (facC_any _ _ (Hl.out.keep HB.out.b)).mono ?_
  rintro e w7 ⟨f1, f2, f3, rfl, ho, hb⟩
  have HB := Lib.hid (HB.out.keep hb)
  have HQ := Lib.hid (HQ.out.keep hb)
  have HF := Lib.hid ho.atoms
  clear hb ho
  go_wp2_with fail
  refine (cntC_any _ _ _ HQ.out HF.out).mono ?_
  rintro e w8 ⟨nb, c2, rfl, hC, hb⟩
  have HB := Lib.hid (HB.out.keep hb)
  have HQ := Lib.hid (HQ.out.keep hb)
  have HF := Lib.hid (HF.out.keep hb)
  have HC2 := Lib.hid hC
  clear hb hC HQ HF
  rcases HC1.out with ⟨_, rfl, rfl⟩ | ⟨_, _, _, rfl, rfl⟩ | ⟨p1, p2, p3, rfl, L, l1, l2, rfl⟩
  · clear HC1 HC2
    go_upto_region 3 with fail
    go_quiet (fail)
    generalize hwd : World.drewN _ _ = w9 at *
    have HB := Lib.hid (HB.out.keep (show Below w8.heap.size w8 w9 from by rw [← hwd]; exact ⟨rfl, rfl, rfl, Nat.le_refl _, fun _ _ => rfl⟩))
    clear hwd
    go_wp2_with fail
    refine (awake_any _).mono ?_
    rintro e w10 ⟨rfl, hb⟩
    have HB := Lib.hid (HB.out.keep hb)
    clear hb 
    go_wp2_with fail
    go_ret
    exact ⟨rfl, HB.out.b⟩
  · clear HC1 HC2
    go_upto_region 3 with fail
    go_quiet (fail)
    generalize hwd : World.drewN _ _ = w9 at *
    have HB := Lib.hid (HB.out.keep (show Below w8.heap.size w8 w9 from by rw [← hwd]; exact ⟨rfl, rfl, rfl, Nat.le_refl _, fun _ _ => rfl⟩))
    clear hwd
    go_wp2_with fail
    refine (awake_any _).mono ?_
    rintro e w10 ⟨rfl, hb⟩
    have HB := Lib.hid (HB.out.keep hb)
    clear hb 
    go_wp2_with fail
    go_ret
    exact ⟨rfl, HB.out.b⟩
  · have P1 := Lib.hid p1
    have P2 := Lib.hid p2
    have P3 := Lib.hid p3
    have L1 := Lib.hid l1
    have L2 := Lib.hid l2
    have HLe := Lib.hid (count_le p1.1.1 p3 l1 l2)
    clear p1 p2 p3 l1 l2 HC1
    obtain ⟨na, hna⟩ : ∃ x, x = L.length := ⟨_, rfl⟩
    have Hna := Lib.hid hna
    rw [← hna] at HLe ⊢
    clear hna
    rcases HC2.out with ⟨_, rfl, rfl⟩ | ⟨_, _, _, rfl, rfl⟩ | ⟨p1, _, p3, rfl, M, l1, l2, rfl⟩
    · clear HC2
      go_upto_region 3 with fail
      go_quiet (fail)
      generalize hwd : World.drewN _ _ = w9 at *
      have HB := Lib.hid (HB.out.keep (show Below w8.heap.size w8 w9 from by rw [← hwd]; exact ⟨rfl, rfl, rfl, Nat.le_refl _, fun _ _ => rfl⟩))
      clear hwd
      go_wp2_with fail
      refine (awake_any _).mono ?_
      rintro e w10 ⟨rfl, hb⟩
      have HB := Lib.hid (HB.out.keep hb)
      clear hb 
      go_wp2_with fail
      go_ret
      exact ⟨rfl, HB.out.b⟩
    · clear HC2
      go_upto_region 3 with fail
      go_quiet (fail)
      generalize hwd : World.drewN _ _ = w9 at *
      have HB := Lib.hid (HB.out.keep (show Below w8.heap.size w8 w9 from by rw [← hwd]; exact ⟨rfl, rfl, rfl, Nat.le_refl _, fun _ _ => rfl⟩))
      clear hwd
      go_wp2_with fail
      refine (awake_any _).mono ?_
      rintro e w10 ⟨rfl, hb⟩
      have HB := Lib.hid (HB.out.keep hb)
      clear hb 
      go_wp2_with fail
      go_ret
      exact ⟨rfl, HB.out.b⟩
    · have Q1 := Lib.hid p1
      have Q3 := Lib.hid p3
      have M1 := Lib.hid l1
      have M2 := Lib.hid l2
      have HMe := Lib.hid (count_le p1.1.1 p3 l1 l2)
      clear p1 p3 l1 l2 HC2
      obtain ⟨nb, hnb⟩ : ∃ x, x = M.length := ⟨_, rfl⟩
      have Hnb := Lib.hid hnb
      rw [← hnb] at HMe ⊢
      clear hnb
      have EP := Lib.hid (ofQ_valid P1.out)
      have EQ := Lib.hid (ofQ_valid Q1.out)
      have AP := Lib.hid (fun w' (hb : Below w.heap.size w w') => show Calls Try.prog 58 #[.agg #[(.slice ha n0 hc), (.slice ba n1 bc)]] w' (fun e w2 => e = .returned (.int .i64 (vsQ p.2 : Nat)) ∧ Below w'.heap.size w' w2) from by
        obtain ⟨h, b, e, k1, k2⟩ := Hp.out.keep hb
        rw [e]
        exact allR_any p.2 (fun i hi t ht => by have := P1.out.2.1 i (by rw [EP.out]; exact hi); rw [EP.out] at this; exact (this.2.2 t ht).2) _ _ w' k2)
      have AQ := Lib.hid (fun w' (hb : Below w.heap.size w w') => show Calls Try.prog 58 #[.agg #[(.slice ha1 n2 hc1), (.slice ba1 n3 bc1)]] w' (fun e w2 => e = .returned (.int .i64 (vsQ q.2 : Nat)) ∧ Below w'.heap.size w' w2) from by
        obtain ⟨h, b, e, k1, k2⟩ := Hq.out.keep hb
        rw [e]
        exact allR_any q.2 (fun i hi t ht => by have := Q1.out.2.1 i (by rw [EQ.out]; exact hi); rw [EQ.out] at this; exact (this.2.2 t ht).2) _ _ w' k2)
      obtain ⟨sp, hsp⟩ : ∃ x, x = vsQ p.2 := ⟨_, rfl⟩
      obtain ⟨sq, hsq⟩ : ∃ x, x = vsQ q.2 := ⟨_, rfl⟩
      have lp : sp < 2 ^ 63 := by have := vsB_lt p.2 p.2.length; rw [hsp]; show vsB p.2 p.2.length < _; omega
      have lq : sq < 2 ^ 63 := by have := vsB_lt q.2 q.2.length; rw [hsq]; show vsB q.2 q.2.length < _; omega
      have Hbits := Lib.hid (bits_and_nat sp sq lp lq)
      obtain ⟨sz, hsz⟩ : ∃ x, x = sp &&& sq := ⟨_, rfl⟩
      rw [← hsz] at Hbits
      rw [← hsp] at AP
      rw [← hsq] at AQ
      have Hsz := Lib.hid (show sz = vsQ p.2 &&& vsQ q.2 from by rw [hsz, hsp, hsq])
      clear lp lq hsz hsp hsq
      go_upto_region 3 with fail
      have HS0 := Lib.hid (show Bx w8.drew bp (.slice ha n0 hc) (.slice ba n1 bc) ∧ Bx w8.drew bq (.slice ha1 n2 hc1) (.slice ba1 n3 bc1) from ⟨HB.out.p, HB.out.q⟩)
      have Hw0 := Lib.hid (show Below w.heap.size w w8.drew from HB.out.b.drew)
      refine wp_region_held (S := fun w' => Bx w' bp (.slice ha n0 hc) (.slice ba n1 bc) ∧ Bx w' bq (.slice ha1 n2 hc1) (.slice ba1 n3 bc1)) wideK ?_
      change wpAnyH _ _ _ _ _ _ _ _ (World.drew _)
      generalize w8.drew = wd0 at *
      by_cases hz : sz = 0
      · subst hz
        refine wpAnyH_take (i := 0) (v := ?_) rfl (by kernel_rfl) (by kernel_rfl) (by kernel_rfl) (fun _ _ _ h => h) (Or.inl ⟨by rfl, ?_⟩) HS0.out ?_
        rotate_left
        focus (intro w hS; clear hS; first | (go_simp; done) | (go_simp; with_reducible rfl))
        simp only [Act.put, List.getElem_toArray, List.getElem_cons_zero, List.setIfInBounds_toArray, List.set_cons_zero, List.set_cons_succ]
        refine wpAnyH_take (i := 1) (v := ?_) rfl (by kernel_rfl) (by kernel_rfl) (by kernel_rfl) (fun _ _ _ h => h) (Or.inl ⟨by rfl, ?_⟩) HS0.out ?_
        rotate_left
        focus (intro w hS; clear hS; first | (go_simp; done) | (go_simp; with_reducible rfl))
        simp only [Act.put, List.getElem_toArray, List.getElem_cons_zero, List.getElem_cons_succ, List.setIfInBounds_toArray, List.set_cons_zero, List.set_cons_succ]
        refine wpAnyH_take (i := 2) (v := ?_) rfl (by kernel_rfl) (by kernel_rfl) (by kernel_rfl) (fun _ _ _ h => h) (Or.inl ⟨by rfl, ?_⟩) HS0.out ?_
        rotate_left
        focus (intro w hS; clear hS; first | (go_simp; done) | (go_simp; with_reducible rfl))
        simp only [Act.put, List.getElem_toArray, List.getElem_cons_zero, List.getElem_cons_succ, List.setIfInBounds_toArray, List.set_cons_zero, List.set_cons_succ]
        refine wpAnyH_take (i := 3) (v := ?_) rfl (by kernel_rfl) (by kernel_rfl) (by kernel_rfl) (fun _ _ _ h => h) (Or.inl ⟨by rfl, ?_⟩) HS0.out ?_
        rotate_left
        focus (intro w hS; clear hS; first | (go_simp; done) | (go_simp; with_reducible rfl))
        simp only [Act.put, List.getElem_toArray, List.getElem_cons_zero, List.getElem_cons_succ, List.setIfInBounds_toArray, List.set_cons_zero, List.set_cons_succ]
        refine wpAnyH_take (i := 4) (v := ?_) rfl (by kernel_rfl) (by kernel_rfl) (by kernel_rfl) (fun _ _ _ h => h) (Or.inl ⟨by rfl, ?_⟩) HS0.out ?_
        rotate_left
        focus (intro w hS; clear hS; first | (go_simp; done) | (go_simp; with_reducible rfl))
        simp only [Act.put, List.getElem_toArray, List.getElem_cons_zero, List.getElem_cons_succ, List.setIfInBounds_toArray, List.set_cons_zero, List.set_cons_succ]
        refine wpAnyH_take (i := 5) (v := ?_) rfl (by kernel_rfl) (by kernel_rfl) (by kernel_rfl) (fun _ _ _ h => h) (Or.inl ⟨by rfl, ?_⟩) HS0.out ?_
        rotate_left
        focus (intro w hS; clear hS; first | (go_simp; done) | (go_simp; with_reducible rfl))
        simp only [Act.put, List.getElem_toArray, List.getElem_cons_zero, List.getElem_cons_succ, List.setIfInBounds_toArray, List.set_cons_zero, List.set_cons_succ]
        refine wpAnyH_take (i := 6) (v := ?_) rfl (by kernel_rfl) (by kernel_rfl) (by kernel_rfl) (fun _ _ _ h => h) (Or.inl ⟨by rfl, ?_⟩) HS0.out ?_
        rotate_left
        focus (intro w hS; clear hS; first | (go_simp; done) | (go_simp; with_reducible rfl))
        simp only [Act.put, List.getElem_toArray, List.getElem_cons_zero, List.getElem_cons_succ, List.setIfInBounds_toArray, List.set_cons_zero, List.set_cons_succ]
        refine wpAnyH_take (i := 7) (v := ?_) rfl (by kernel_rfl) (by kernel_rfl) (by kernel_rfl) (fun _ _ _ h => h) (Or.inl ⟨by rfl, ?_⟩) HS0.out ?_
        rotate_left
        focus (intro w hS; have s0 := aCell hS.1 0 rfl; have s1 := aCell hS.1 1 rfl; clear hS; first | (go_simp; done) | (go_simp; with_reducible rfl))
        simp only [Act.put, List.getElem_toArray, List.getElem_cons_zero, List.getElem_cons_succ, List.setIfInBounds_toArray, List.set_cons_zero, List.set_cons_succ]
        refine wpAnyH_take (i := 9) (v := ?_) rfl (by kernel_rfl) (by kernel_rfl) (by kernel_rfl) (fun _ _ _ h => h) (Or.inl ⟨by rfl, ?_⟩) HS0.out ?_
        rotate_left
        focus (intro w hS; have s0 := aCell hS.2 0 rfl; have s1 := aCell hS.2 1 rfl; clear hS; first | (go_simp; done) | (go_simp; with_reducible rfl))
        simp only [Act.put, List.getElem_toArray, List.getElem_cons_zero, List.getElem_cons_succ, List.setIfInBounds_toArray, List.set_cons_zero, List.set_cons_succ]
        refine wpAnyH_ready (rs := [8]) (by kernel_rfl) (by simp) ?_
        refine RdyH.cons rfl (fun K2 hK => ?_) RdyH.nil
        go_simp
        go_at_call 58
        refine (AP.out _ Hw0.out).mono ?_
        rintro e wd1 ⟨rfl, hb⟩
        have HS1 := Lib.hid (And.intro (Bx.keep HS0.out.1 hb) (Bx.keep HS0.out.2 hb))
        have Hw1 := Lib.hid (Below.tr Hw0.out hb)
        clear hb
        go_simp
        refine hK _ _ HS1.out ?_
        clear hK K2
        refine wpAnyH_ready (rs := [10]) (by kernel_rfl) (by simp) ?_
        refine RdyH.cons rfl (fun K2 hK => ?_) RdyH.nil
        go_simp
        go_at_call 58
        refine (AQ.out _ Hw1.out).mono ?_
        rintro e wd2 ⟨rfl, hb⟩
        have HS2 := Lib.hid (And.intro (Bx.keep HS1.out.1 hb) (Bx.keep HS1.out.2 hb))
        have Hw2 := Lib.hid (Below.tr Hw1.out hb)
        clear hb
        go_simp
        refine hK _ _ HS2.out ?_
        clear hK K2
        have hbits := Hbits.out
        refine wpAnyH_take (i := 11) (v := ?_) rfl (by kernel_rfl) (by kernel_rfl) (by kernel_rfl) (fun _ _ _ h => h) (Or.inl ⟨by rfl, ?_⟩) HS2.out ?_
        rotate_left
        focus (intro w hS; clear hS; first | (go_simp; done) | (go_simp; with_reducible rfl))
        simp only [Act.put, List.getElem_toArray, List.getElem_cons_zero, List.getElem_cons_succ, List.setIfInBounds_toArray, List.set_cons_zero, List.set_cons_succ]
        refine wpAnyH_take (i := 12) (v := ?_) rfl (by kernel_rfl) (by kernel_rfl) (by kernel_rfl) (fun _ _ _ h => h) (Or.inl ⟨by rfl, ?_⟩) HS2.out ?_
        rotate_left
        focus (intro w hS; clear hS; first | (go_simp; done) | (go_simp; with_reducible rfl))
        simp only [Act.put, List.getElem_toArray, List.getElem_cons_zero, List.getElem_cons_succ, List.setIfInBounds_toArray, List.set_cons_zero, List.set_cons_succ]
        refine wpAnyH_take (i := 13) (v := ?_) rfl (by kernel_rfl) (by kernel_rfl) (by kernel_rfl) (fun _ _ _ h => h) (Or.inl ⟨by rfl, ?_⟩) HS2.out ?_
        rotate_left
        focus (intro w hS; clear hS; first | (go_simp; done) | (go_simp; with_reducible rfl))
        simp only [Act.put, List.getElem_toArray, List.getElem_cons_zero, List.getElem_cons_succ, List.setIfInBounds_toArray, List.set_cons_zero, List.set_cons_succ]
        refine wpAnyH_done (by kernel_rfl) ?_ _
        clear AP AQ hbits
        have HB := Lib.hid (B2.mk Hw2.out HS2.out.1 HS2.out.2)
        generalize wd2 = w9 at *
        have HB9 := Lib.hid HB.out
        obtain ⟨⟨g0, g1⟩, g2, g3⟩ := HB.out.cells
        go_wp2_with fail
        refine (ofC_any _ _ (Hp.out.keep HB.out.b)).mono ?_
        rintro e w10 ⟨oa, on, ok, oa2, on2, ok2, rfl, ho, hb⟩
        have HB := Lib.hid (HB.out.keep hb)
        have HO1 := Lib.hid ho
        have HE := Lib.hid (Bel.mk hb)
        clear hb ho g0 g1 g2 g3
        obtain ⟨wn, hwn⟩ : ∃ wn, wn = w10.alloc (.cells #[.slice oa on ok, .slice oa2 on2 ok2] 33) := ⟨_, rfl⟩
        obtain ⟨bo, hbo⟩ : ∃ x, x = w10.heap.size := ⟨_, rfl⟩
        have hb : Below w10.heap.size w10 wn := by rw [hwn]; exact below_alloc _ _
        have HM := Lib.hid (show Mx wn bo (.slice oa on ok) (.slice oa2 on2 ok2) from by rw [hwn, hbo]; exact heap_alloc_new _ _)
        have Hbo := Lib.hid (show w9.heap.size ≤ bo from by rw [hbo]; exact HE.out.b.size)
        have HB := Lib.hid (HB.out.keep hb)
        have HO1 := Lib.hid (HO1.out.keep hb)
        have HE := Lib.hid (HE.out.keep hb)
        have Hwn := Lib.hid hwn
        have Hbo2 := Lib.hid hbo
        clear hb hwn hbo
        go_upto_region 6 with fail
        rw [← Hwn.out, ← Hbo2.out]
        clear Hwn Hbo2
        generalize wn = w11 at *
        try simp only [Act.put]
        go_cut [] (fun wc => ∃ va vn vk, vn = ((ofQ p).2 ++ (ofQ q).2).length ∧ Mx wc bo (.slice oa on ok) (.slice va vn vk) ∧ OwnAtoms 88 w9.heap.size wc (.slice va vn vk) ((ofQ p).2 ++ (ofQ q).2) ∧ OwnInts w9.heap.size wc (.slice oa on ok) (ofQ p).1 ∧ Below w9.heap.size w9 wc)
        case first =>
          obtain ⟨xh, xb, e, hi, ha2⟩ := HO1.out
          injection e with e
          injection e with e
          injection e with e1 e
          injection e with e2 e
          subst e1 e2
          clear e
          have HI0 := Lib.hid (show OwnInts w9.heap.size w11.drew (.slice oa on ok) (ofQ p).1 from hi.keep (Below.refl _ _).drew)
          have HA0 := Lib.hid (show OwnAtoms 88 w9.heap.size w11.drew (.slice oa2 on2 ok2) (ofQ p).2 from ha2.keep (Below.refl _ _).drew)
          have HM0 := Lib.hid (show Mx w11.drew bo (.slice oa on ok) (.slice oa2 on2 ok2) from HM.out)
          have HS0 := Lib.hid (show Bx w11.drew bq (.slice ha1 n2 hc1) (.slice ba1 n3 bc1) from HB.out.q)
          have Hw0 := Lib.hid (show Below w.heap.size w w11.drew from HB.out.b.drew)
          have HW0 := Lib.hid (show Below w9.heap.size w9 w11.drew from HE.out.b.drew)
          clear hi ha2
          refine wp_region_held (S := fun w' => Bx w' bq (.slice ha1 n2 hc1) (.slice ba1 n3 bc1)) wideK ?_
          change wpAnyH _ _ _ _ _ _ _ _ (World.drew _)
          generalize w11.drew = wd0 at *
          refine wpAnyH_take (i := 0) (v := ?_) rfl (by kernel_rfl) (by kernel_rfl) (by kernel_rfl) (fun _ _ _ h => h) (Or.inl ⟨by rfl, ?_⟩) HS0.out ?_
          rotate_left
          focus (intro w hS; clear hS; first | (go_simp; done) | (go_simp; with_reducible rfl))
          simp only [Act.put, List.getElem_toArray, List.getElem_cons_zero, List.setIfInBounds_toArray, List.set_cons_zero, List.set_cons_succ]
          refine wpAnyH_take (i := 2) (v := ?_) rfl (by kernel_rfl) (by kernel_rfl) (by kernel_rfl) (fun _ _ _ h => h) (Or.inl ⟨by rfl, ?_⟩) HS0.out ?_
          rotate_left
          focus (intro w hS; have s0 := aCell hS 0 rfl; have s1 := aCell hS 1 rfl; clear hS; first | (go_simp; done) | (go_simp; with_reducible rfl))
          simp only [Act.put, List.getElem_toArray, List.getElem_cons_zero, List.getElem_cons_succ, List.setIfInBounds_toArray, List.set_cons_zero, List.set_cons_succ]
          refine wpAnyH_ready (rs := [1, 3]) (by kernel_rfl) (by simp) ?_
          refine RdyH.cons rfl (fun K2 hK => ?_) ?_
          · have g1 := aCell HM0.out 1 rfl
            go_simp
            refine hK _ _ HS0.out ?_
            clear hK K2 g1
            refine wpAnyH_ready (rs := [3]) (by kernel_rfl) (by simp) ?_
            refine RdyH.cons rfl (fun K2 hK => ?_) RdyH.nil
            go_simp
            go_at_call 20
            refine (ofC_any _ _ (Hq.out.keep Hw0.out)).mono ?_
            rintro e wd1 ⟨qa, qn, qk, qa2, qn2, qk2, rfl, ho, hb⟩
            obtain ⟨xh, xb, e, _, hq2⟩ := ho
            injection e with e
            injection e with e
            injection e with e1 e
            injection e with e2 e
            subst e1 e2
            clear e
            have HB2 := Lib.hid (show OwnAtoms 88 w9.heap.size wd1 (.slice qa2 qn2 qk2) (ofQ q).2 from by obtain ⟨vs, m1, m2, m3⟩ := hq2; exact ⟨vs, m1, owns_base m2 HW0.out.size, fun i hi => (m3 i hi).base HW0.out.size⟩)
            have HI1 := Lib.hid (HI0.out.keep hb)
            have HA1 := Lib.hid (HA0.out.keep hb)
            have HM1 := Lib.hid (Mx.keep HM0.out hb)
            have HS1 := Lib.hid (Bx.keep HS0.out hb)
            have HW1 := Lib.hid (Below.tr HW0.out hb)
            clear hq2 hb
            go_simp
            refine hK _ _ HS1.out ?_
            clear hK K2
            have hfd : ∀ w : World, (Instr.field 33 (.agg #[.slice qa qn qk, .slice qa2 qn2 qk2]) 1).run Try.prog w = .ok (.slice qa2 qn2 qk2) w := fun _ => by kernel_rfl
            refine wpAnyH_take (i := 4) (v := ?_) rfl (by kernel_rfl) (by kernel_rfl) (by kernel_rfl) (fun _ _ _ h => h) (Or.inl ⟨by rfl, ?_⟩) HS1.out ?_
            rotate_left
            focus (intro w hS; clear hS; first | (go_simp; done) | (go_simp; with_reducible rfl))
            simp only [Act.put, List.getElem_toArray, List.getElem_cons_zero, List.getElem_cons_succ, List.setIfInBounds_toArray, List.set_cons_zero, List.set_cons_succ]
            refine wpAnyH_ready (rs := [5]) (by kernel_rfl) (by simp) ?_
            refine RdyH.cons rfl (fun K2 hK => ?_) RdyH.nil
            obtain ⟨vs1, k1, k2, k3⟩ := HA1.out
            obtain ⟨vs2, m1, m2, m3⟩ := HB2.out
            refine step_append_src rfl (.tmp 60) (.tmp 63) 31 rfl elemAtoms rfl k2 rfl (owns_rd m2).src (atC_one m1 m3) (by have := P1.out.1.2.1; have := Q1.out.1.2.1; omega) HW1.out.size ?_
            intro v' wd2 h1 h2 hg
            have HC := Lib.hid (OwnAtoms.appended atomNotInt k1 k2 k3 m1 m3 rfl h1 hg)
            obtain ⟨va, vk, rfl⟩ := Atoms.own HC.out
            obtain ⟨vn, hvn⟩ : ∃ x, x = ((ofQ p).2 ++ (ofQ q).2).length := ⟨_, rfl⟩
            have Hvn := Lib.hid hvn
            rw [← hvn] at HC ⊢
            clear hvn
            have HI2 := Lib.hid (show OwnInts w9.heap.size wd2 (.slice oa on ok) (ofQ p).1 from ints_grown atomNotInt HI1.out k2 hg)
            have HM2 := Lib.hid (show Mx wd2 bo (.slice oa on ok) (.slice oa2 on2 ok2) from block_grown k2 hg HM1.out (by decide))
            have HS2 := Lib.hid (show Bx wd2 bq (.slice ha1 n2 hc1) (.slice ba1 n3 bc1) from block_grown k2 hg HS1.out (by decide))
            have HW2 := Lib.hid (HW1.out.trans h2)
            clear h1 h2 hg k1 k2 k3 m1 m2 m3
            go_simp
            refine hK _ _ HS2.out ?_
            clear hK K2
            refine wpAnyH_take (i := 6) (v := ?_) rfl (by kernel_rfl) (by kernel_rfl) (by kernel_rfl) (fun _ _ _ h => h) (Or.inl ⟨by rfl, ?_⟩) HS2.out ?_
            rotate_left
            focus (intro w hS; clear hS; first | (go_simp; done) | (go_simp; with_reducible rfl))
            simp only [Act.put, List.getElem_toArray, List.getElem_cons_zero, List.getElem_cons_succ, List.setIfInBounds_toArray, List.set_cons_zero, List.set_cons_succ]
            refine wpAnyH_ready (rs := [7]) (by kernel_rfl) (by simp) ?_
            refine RdyH.cons rfl (fun K2 hK => ?_) RdyH.nil
            have HN := Lib.hid (show Mx (wd2.setCell ⟨bo, 1, none⟩ (.slice va vn vk)) bo (.slice oa on ok) (.slice va vn vk) from by unfold Mx; rw [heap_setCell_same wd2 _ 1 _ _ _ HM2.out]; rfl)
            have HCn := Lib.hid (show OwnAtoms 88 w9.heap.size (wd2.setCell ⟨bo, 1, none⟩ (.slice va vn vk)) (.slice va vn vk) ((ofQ p).2 ++ (ofQ q).2) from by
              obtain ⟨vs, k1, k2, k3⟩ := HC.out
              exact ⟨vs, k1, own_set k2 HM2.out (by decide), fun i hi => own_set (k3 i hi) HM2.out (by decide)⟩)
            have HIn := Lib.hid (show OwnInts w9.heap.size (wd2.setCell ⟨bo, 1, none⟩ (.slice va vn vk)) (.slice oa on ok) (ofQ p).1 from own_set HI2.out HM2.out (by decide))
            have HWn := Lib.hid (show Below w9.heap.size w9 (wd2.setCell ⟨bo, 1, none⟩ (.slice va vn vk)) from HW2.out.setCell Hbo.out _)
            have HSn := Lib.hid (show Bx (wd2.setCell ⟨bo, 1, none⟩ (.slice va vn vk)) bq (.slice ha1 n2 hc1) (.slice ba1 n3 bc1) from (heap_setCell_other wd2 ⟨bo, 1, none⟩ bq _ (by
              intro e
              have h1 : wd2.heap[bq]? = some _ := HS2.out
              have h2 : wd2.heap[bo]? = some _ := HM2.out
              rw [e, h2] at h1
              injection h1 with h1
              injection h1 with _ h1 _
              exact absurd h1 (by decide))).trans HS2.out)
            have gk := aCell HM2.out 1 rfl
            have gf := frozen_of_row wd2 _ 1 _ _ HM2.out
            go_simp
            refine hK _ _ HSn.out ?_
            clear hK K2 gk gf
            refine wpAnyH_done (by kernel_rfl) ?_ _
            go_wp2_with fail
            go_meet
            exact ⟨va, vn, vk, Hvn.out, HN.out, HCn.out, HIn.out, HWn.out⟩
          · refine RdyH.cons rfl (fun K2 hK => ?_) RdyH.nil
            go_simp
            go_at_call 20
            refine (ofC_any _ _ (Hq.out.keep Hw0.out)).mono ?_
            rintro e wd1 ⟨qa, qn, qk, qa2, qn2, qk2, rfl, ho, hb⟩
            obtain ⟨xh, xb, e, _, hq2⟩ := ho
            injection e with e
            injection e with e
            injection e with e1 e
            injection e with e2 e
            subst e1 e2
            clear e
            have HB2 := Lib.hid (show OwnAtoms 88 w9.heap.size wd1 (.slice qa2 qn2 qk2) (ofQ q).2 from by obtain ⟨vs, m1, m2, m3⟩ := hq2; exact ⟨vs, m1, owns_base m2 HW0.out.size, fun i hi => (m3 i hi).base HW0.out.size⟩)
            have HI1 := Lib.hid (HI0.out.keep hb)
            have HA1 := Lib.hid (HA0.out.keep hb)
            have HM1 := Lib.hid (Mx.keep HM0.out hb)
            have HS1 := Lib.hid (Bx.keep HS0.out hb)
            have HW1 := Lib.hid (Below.tr HW0.out hb)
            clear hq2 hb
            go_simp
            refine hK _ _ HS1.out ?_
            clear hK K2
            have hfd : ∀ w : World, (Instr.field 33 (.agg #[.slice qa qn qk, .slice qa2 qn2 qk2]) 1).run Try.prog w = .ok (.slice qa2 qn2 qk2) w := fun _ => by kernel_rfl
            refine wpAnyH_take (i := 4) (v := ?_) rfl (by kernel_rfl) (by kernel_rfl) (by kernel_rfl) (fun _ _ _ h => h) (Or.inl ⟨by rfl, ?_⟩) HS1.out ?_
            rotate_left
            focus (intro w hS; clear hS; first | (go_simp; done) | (go_simp; with_reducible rfl))
            simp only [Act.put, List.getElem_toArray, List.getElem_cons_zero, List.getElem_cons_succ, List.setIfInBounds_toArray, List.set_cons_zero, List.set_cons_succ]
            refine wpAnyH_ready (rs := [1]) (by kernel_rfl) (by simp) ?_
            refine RdyH.cons rfl (fun K2 hK => ?_) RdyH.nil
            have g1 := aCell HM1.out 1 rfl
            go_simp
            refine hK _ _ HS1.out ?_
            clear hK K2 g1
            refine wpAnyH_ready (rs := [5]) (by kernel_rfl) (by simp) ?_
            refine RdyH.cons rfl (fun K2 hK => ?_) RdyH.nil
            obtain ⟨vs1, k1, k2, k3⟩ := HA1.out
            obtain ⟨vs2, m1, m2, m3⟩ := HB2.out
            refine step_append_src rfl (.tmp 60) (.tmp 63) 31 rfl elemAtoms rfl k2 rfl (owns_rd m2).src (atC_one m1 m3) (by have := P1.out.1.2.1; have := Q1.out.1.2.1; omega) HW1.out.size ?_
            intro v' wd2 h1 h2 hg
            have HC := Lib.hid (OwnAtoms.appended atomNotInt k1 k2 k3 m1 m3 rfl h1 hg)
            obtain ⟨va, vk, rfl⟩ := Atoms.own HC.out
            obtain ⟨vn, hvn⟩ : ∃ x, x = ((ofQ p).2 ++ (ofQ q).2).length := ⟨_, rfl⟩
            have Hvn := Lib.hid hvn
            rw [← hvn] at HC ⊢
            clear hvn
            have HI2 := Lib.hid (show OwnInts w9.heap.size wd2 (.slice oa on ok) (ofQ p).1 from ints_grown atomNotInt HI1.out k2 hg)
            have HM2 := Lib.hid (show Mx wd2 bo (.slice oa on ok) (.slice oa2 on2 ok2) from block_grown k2 hg HM1.out (by decide))
            have HS2 := Lib.hid (show Bx wd2 bq (.slice ha1 n2 hc1) (.slice ba1 n3 bc1) from block_grown k2 hg HS1.out (by decide))
            have HW2 := Lib.hid (HW1.out.trans h2)
            clear h1 h2 hg k1 k2 k3 m1 m2 m3
            go_simp
            refine hK _ _ HS2.out ?_
            clear hK K2
            refine wpAnyH_take (i := 6) (v := ?_) rfl (by kernel_rfl) (by kernel_rfl) (by kernel_rfl) (fun _ _ _ h => h) (Or.inl ⟨by rfl, ?_⟩) HS2.out ?_
            rotate_left
            focus (intro w hS; clear hS; first | (go_simp; done) | (go_simp; with_reducible rfl))
            simp only [Act.put, List.getElem_toArray, List.getElem_cons_zero, List.getElem_cons_succ, List.setIfInBounds_toArray, List.set_cons_zero, List.set_cons_succ]
            refine wpAnyH_ready (rs := [7]) (by kernel_rfl) (by simp) ?_
            refine RdyH.cons rfl (fun K2 hK => ?_) RdyH.nil
            have HN := Lib.hid (show Mx (wd2.setCell ⟨bo, 1, none⟩ (.slice va vn vk)) bo (.slice oa on ok) (.slice va vn vk) from by unfold Mx; rw [heap_setCell_same wd2 _ 1 _ _ _ HM2.out]; rfl)
            have HCn := Lib.hid (show OwnAtoms 88 w9.heap.size (wd2.setCell ⟨bo, 1, none⟩ (.slice va vn vk)) (.slice va vn vk) ((ofQ p).2 ++ (ofQ q).2) from by
              obtain ⟨vs, k1, k2, k3⟩ := HC.out
              exact ⟨vs, k1, own_set k2 HM2.out (by decide), fun i hi => own_set (k3 i hi) HM2.out (by decide)⟩)
            have HIn := Lib.hid (show OwnInts w9.heap.size (wd2.setCell ⟨bo, 1, none⟩ (.slice va vn vk)) (.slice oa on ok) (ofQ p).1 from own_set HI2.out HM2.out (by decide))
            have HWn := Lib.hid (show Below w9.heap.size w9 (wd2.setCell ⟨bo, 1, none⟩ (.slice va vn vk)) from HW2.out.setCell Hbo.out _)
            have HSn := Lib.hid (show Bx (wd2.setCell ⟨bo, 1, none⟩ (.slice va vn vk)) bq (.slice ha1 n2 hc1) (.slice ba1 n3 bc1) from (heap_setCell_other wd2 ⟨bo, 1, none⟩ bq _ (by
              intro e
              have h1 : wd2.heap[bq]? = some _ := HS2.out
              have h2 : wd2.heap[bo]? = some _ := HM2.out
              rw [e, h2] at h1
              injection h1 with h1
              injection h1 with _ h1 _
              exact absurd h1 (by decide))).trans HS2.out)
            have gk := aCell HM2.out 1 rfl
            have gf := frozen_of_row wd2 _ 1 _ _ HM2.out
            go_simp
            refine hK _ _ HSn.out ?_
            clear hK K2 gk gf
            refine wpAnyH_done (by kernel_rfl) ?_ _
            go_wp2_with fail
            go_meet
            exact ⟨va, vn, vk, Hvn.out, HN.out, HCn.out, HIn.out, HWn.out⟩
        case rest =>
          obtain ⟨va, vn, vk, hvn, hM, hC, hI, hb⟩ := hcut
          generalize wc = w12 at *
          have HB := Lib.hid (HB9.out.keep hb)
          have HM := Lib.hid hM
          have HC := Lib.hid hC.atoms
          have HI := Lib.hid hI.ints
          have Hvn := Lib.hid hvn
          clear hb hM hC hI hvn HE HO1 HB9 Hbo
          go_upto_region 7 with fail
          try simp only [Act.put]
          go_cut [12, 13] (fun o12 o13 wc => ∃ nn c3, (o12 = .int .i64 nn ∧ o13 = .int .i64 c3) ∧ CntC ((ofQ p).1, (ofQ p).2 ++ (ofQ q).2) (ofF l) nn c3 ∧ Mx wc bo (.slice oa on ok) (.slice va vn vk) ∧ Below w12.heap.size w12 wc)
          case first =>
            have HS0 := Lib.hid (show Mx w12.drew bo (.slice oa on ok) (.slice va vn vk) from HM.out)
            have Hw0 := Lib.hid (show Below w.heap.size w w12.drew from HB.out.b.drew)
            have HW0 := Lib.hid (show Below w12.heap.size w12 w12.drew from (Below.refl _ _).drew)
            refine wp_region_held (S := fun w' => Mx w' bo (.slice oa on ok) (.slice va vn vk)) wideK ?_
            change wpAnyH _ _ _ _ _ _ _ _ (World.drew _)
            generalize w12.drew = wd0 at *
            refine wpAnyH_take (i := 0) (v := ?_) rfl (by kernel_rfl) (by kernel_rfl) (by kernel_rfl) (fun _ _ _ h => h) (Or.inl ⟨by rfl, ?_⟩) HS0.out ?_
            rotate_left
            focus (intro w hS; have s0 := aCell hS 0 rfl; have s1 := aCell hS 1 rfl; clear hS; first | (go_simp; done) | (go_simp; with_reducible rfl))
            simp only [Act.put, List.getElem_toArray, List.getElem_cons_zero, List.setIfInBounds_toArray, List.set_cons_zero, List.set_cons_succ]
            refine wpAnyH_take (i := 1) (v := ?_) rfl (by kernel_rfl) (by kernel_rfl) (by kernel_rfl) (fun _ _ _ h => h) (Or.inl ⟨by rfl, ?_⟩) HS0.out ?_
            rotate_left
            focus (intro w hS; clear hS; first | (go_simp; done) | (go_simp; with_reducible rfl))
            simp only [Act.put, List.getElem_toArray, List.getElem_cons_zero, List.getElem_cons_succ, List.setIfInBounds_toArray, List.set_cons_zero, List.set_cons_succ]
            refine wpAnyH_ready (rs := [2]) (by kernel_rfl) (by simp) ?_
            refine RdyH.cons rfl (fun K2 hK => ?_) RdyH.nil
            go_simp
            go_at_call 21
            refine (facC_any _ _ (Hl.out.keep Hw0.out)).mono ?_
            rintro e wd1 ⟨f1, f2, f3, rfl, ho, hb⟩
            have HF := Lib.hid ho.atoms
            have HS1 := Lib.hid (Mx.keep HS0.out hb)
            have HW1 := Lib.hid (Below.tr HW0.out hb)
            clear ho hb
            go_simp
            refine hK _ _ HS1.out ?_
            clear hK K2
            refine wpAnyH_ready (rs := [3]) (by kernel_rfl) (by simp) ?_
            refine RdyH.cons rfl (fun K2 hK => ?_) RdyH.nil
            go_simp
            go_at_call 23
            refine (cntC_any (q := ((ofQ p).1, (ofQ p).2 ++ (ofQ q).2)) _ _ _ ⟨_, _, rfl, HI.out.keep HW1.out, HC.out.keep HW1.out⟩ HF.out).mono ?_
            rintro e wd2 ⟨nn, c3, rfl, hP, hb⟩
            have HP := Lib.hid hP
            have HS2 := Lib.hid (Mx.keep HS1.out hb)
            have HW2 := Lib.hid (Below.tr HW1.out hb)
            clear hP hb
            go_simp
            refine hK _ _ HS2.out ?_
            clear hK K2
            refine wpAnyH_take (i := 4) (v := ?_) rfl (by kernel_rfl) (by kernel_rfl) (by kernel_rfl) (fun _ _ _ h => h) (Or.inl ⟨by rfl, ?_⟩) HS2.out ?_
            rotate_left
            focus (intro w hS; clear hS; first | (go_simp; done) | (go_simp; with_reducible rfl))
            simp only [Act.put, List.getElem_toArray, List.getElem_cons_zero, List.getElem_cons_succ, List.setIfInBounds_toArray, List.set_cons_zero, List.set_cons_succ]
            refine wpAnyH_take (i := 5) (v := ?_) rfl (by kernel_rfl) (by kernel_rfl) (by kernel_rfl) (fun _ _ _ h => h) (Or.inl ⟨by rfl, ?_⟩) HS2.out ?_
            rotate_left
            focus (intro w hS; clear hS; first | (go_simp; done) | (go_simp; with_reducible rfl))
            simp only [Act.put, List.getElem_toArray, List.getElem_cons_zero, List.getElem_cons_succ, List.setIfInBounds_toArray, List.set_cons_zero, List.set_cons_succ]
            refine wpAnyH_take (i := 6) (v := ?_) rfl (by kernel_rfl) (by kernel_rfl) (by kernel_rfl) (fun _ _ _ h => h) (Or.inl ⟨by rfl, ?_⟩) HS2.out ?_
            rotate_left
            focus (intro w hS; clear hS; first | (go_simp; done) | (go_simp; with_reducible rfl))
            simp only [Act.put, List.getElem_toArray, List.getElem_cons_zero, List.getElem_cons_succ, List.setIfInBounds_toArray, List.set_cons_zero, List.set_cons_succ]
            refine wpAnyH_take (i := 7) (v := ?_) rfl (by kernel_rfl) (by kernel_rfl) (by kernel_rfl) (fun _ _ _ h => h) (Or.inl ⟨by rfl, ?_⟩) HS2.out ?_
            rotate_left
            focus (intro w hS; clear hS; first | (go_simp; done) | (go_simp; with_reducible rfl))
            simp only [Act.put, List.getElem_toArray, List.getElem_cons_zero, List.getElem_cons_succ, List.setIfInBounds_toArray, List.set_cons_zero, List.set_cons_succ]
            refine wpAnyH_take (i := 8) (v := ?_) rfl (by kernel_rfl) (by kernel_rfl) (by kernel_rfl) (fun _ _ _ h => h) (Or.inl ⟨by rfl, ?_⟩) HS2.out ?_
            rotate_left
            focus (intro w hS; clear hS; first | (go_simp; done) | (go_simp; with_reducible rfl))
            simp only [Act.put, List.getElem_toArray, List.getElem_cons_zero, List.getElem_cons_succ, List.setIfInBounds_toArray, List.set_cons_zero, List.set_cons_succ]
            refine wpAnyH_done (by kernel_rfl) ?_ _
            go_wp2_with fail
            go_meet
            exact ⟨nn, c3, ⟨rfl, rfl⟩, HP.out, HS2.out, HW2.out⟩
          case rest =>
            obtain ⟨nn, c3, ⟨rfl, rfl⟩, hP, hM, hb⟩ := hcut
            generalize wc = w13 at *
            have HB := Lib.hid (HB.out.keep hb)
            have HM := Lib.hid hM
            clear hM hb HC HI
            have Hd := Lib.hid (disj_of (P := (ofQ p).2) (Q := (ofQ q).2) (by rw [EP.out, EQ.out]; exact Hsz.out.symm))
            rcases hP with ⟨h1, rfl, rfl⟩ | ⟨_, _, h3, rfl, rfl⟩ | ⟨_, _, _, rfl, N, k1, k2, rfl⟩
            · have h5 : (vn : Int) > 5 := by
                have := Classical.byContradiction fun (c : ¬ 5 < vn) => h1 ⟨both_valid P1.out Q1.out (by rw [← Hvn.out]; omega), P2.out⟩
                omega
              clear h1
              have g1 := aCell HM.out 1 rfl
              go_wp2_with fail
              refine (awake_any _).mono ?_
              rintro e w14 ⟨rfl, hb⟩
              have HB := Lib.hid (HB.out.keep hb)
              clear hb 
              go_wp2_with fail
              go_ret
              exact ⟨rfl, HB.out.b⟩
            · have h0 : (na : Int) > 0 := by
                obtain ⟨v, hv⟩ := big_some (atOk_of P1.out) h3 P3.out
                have := List.length_pos_of_mem ((L2.out v).2 hv)
                rw [← Hna.out] at this
                omega
              clear h3
              go_wp2_with fail
              refine (awake_any _).mono ?_
              rintro e w14 ⟨rfl, hb⟩
              have HB := Lib.hid (HB.out.keep hb)
              clear hb 
              go_wp2_with fail
              go_ret
              exact ⟨rfl, HB.out.b⟩
            · have hn := len_app (atOk_of P1.out) (atOk_of Q1.out) Hd.out L1.out L2.out M1.out M2.out k1 k2
              obtain ⟨nn, hnn⟩ : ∃ x, x = N.length := ⟨_, rfl⟩
              rw [← hnn] at hn ⊢
              rw [← Hna.out, ← Hnb.out] at hn
              have hm : na * nb ≤ 20000 * 20000 := Nat.mul_le_mul HLe.out HMe.out
              have hw : IntKind.i64.wrap ((na : Int) * nb) = (nn : Int) := by
                rw [show (na : Int) * nb = ((na * nb : Nat) : Int) from (Int.natCast_mul na nb).symm, IntWalk.i64_in _ ⟨by omega, by omega⟩, hn]
              clear hn hnn hm k1 k2
              go_wp2_with fail
              refine (awake_any _).mono ?_
              rintro e w14 ⟨rfl, hb⟩
              have HB := Lib.hid (HB.out.keep hb)
              clear hb 
              go_wp2_with fail
              go_ret
              exact ⟨rfl, HB.out.b⟩
      · have q0 : ((sz : Int) != 0) = true := by rw [bne_iff_ne]; omega
        refine wpAnyH_take (i := 0) (v := ?_) rfl (by kernel_rfl) (by kernel_rfl) (by kernel_rfl) (fun _ _ _ h => h) (Or.inl ⟨by rfl, ?_⟩) HS0.out ?_
        rotate_left
        focus (intro w hS; clear hS; first | (go_simp; done) | (go_simp; with_reducible rfl))
        simp only [Act.put, List.getElem_toArray, List.getElem_cons_zero, List.setIfInBounds_toArray, List.set_cons_zero, List.set_cons_succ]
        refine wpAnyH_take (i := 1) (v := ?_) rfl (by kernel_rfl) (by kernel_rfl) (by kernel_rfl) (fun _ _ _ h => h) (Or.inl ⟨by rfl, ?_⟩) HS0.out ?_
        rotate_left
        focus (intro w hS; clear hS; first | (go_simp; done) | (go_simp; with_reducible rfl))
        simp only [Act.put, List.getElem_toArray, List.getElem_cons_zero, List.getElem_cons_succ, List.setIfInBounds_toArray, List.set_cons_zero, List.set_cons_succ]
        refine wpAnyH_take (i := 2) (v := ?_) rfl (by kernel_rfl) (by kernel_rfl) (by kernel_rfl) (fun _ _ _ h => h) (Or.inl ⟨by rfl, ?_⟩) HS0.out ?_
        rotate_left
        focus (intro w hS; clear hS; first | (go_simp; done) | (go_simp; with_reducible rfl))
        simp only [Act.put, List.getElem_toArray, List.getElem_cons_zero, List.getElem_cons_succ, List.setIfInBounds_toArray, List.set_cons_zero, List.set_cons_succ]
        refine wpAnyH_take (i := 3) (v := ?_) rfl (by kernel_rfl) (by kernel_rfl) (by kernel_rfl) (fun _ _ _ h => h) (Or.inl ⟨by rfl, ?_⟩) HS0.out ?_
        rotate_left
        focus (intro w hS; clear hS; first | (go_simp; done) | (go_simp; with_reducible rfl))
        simp only [Act.put, List.getElem_toArray, List.getElem_cons_zero, List.getElem_cons_succ, List.setIfInBounds_toArray, List.set_cons_zero, List.set_cons_succ]
        refine wpAnyH_take (i := 4) (v := ?_) rfl (by kernel_rfl) (by kernel_rfl) (by kernel_rfl) (fun _ _ _ h => h) (Or.inl ⟨by rfl, ?_⟩) HS0.out ?_
        rotate_left
        focus (intro w hS; clear hS; first | (go_simp; done) | (go_simp; with_reducible rfl))
        simp only [Act.put, List.getElem_toArray, List.getElem_cons_zero, List.getElem_cons_succ, List.setIfInBounds_toArray, List.set_cons_zero, List.set_cons_succ]
        refine wpAnyH_take (i := 5) (v := ?_) rfl (by kernel_rfl) (by kernel_rfl) (by kernel_rfl) (fun _ _ _ h => h) (Or.inl ⟨by rfl, ?_⟩) HS0.out ?_
        rotate_left
        focus (intro w hS; clear hS; first | (go_simp; done) | (go_simp; with_reducible rfl))
        simp only [Act.put, List.getElem_toArray, List.getElem_cons_zero, List.getElem_cons_succ, List.setIfInBounds_toArray, List.set_cons_zero, List.set_cons_succ]
        refine wpAnyH_take (i := 6) (v := ?_) rfl (by kernel_rfl) (by kernel_rfl) (by kernel_rfl) (fun _ _ _ h => h) (Or.inl ⟨by rfl, ?_⟩) HS0.out ?_
        rotate_left
        focus (intro w hS; clear hS; first | (go_simp; done) | (go_simp; with_reducible rfl))
        simp only [Act.put, List.getElem_toArray, List.getElem_cons_zero, List.getElem_cons_succ, List.setIfInBounds_toArray, List.set_cons_zero, List.set_cons_succ]
        refine wpAnyH_take (i := 7) (v := ?_) rfl (by kernel_rfl) (by kernel_rfl) (by kernel_rfl) (fun _ _ _ h => h) (Or.inl ⟨by rfl, ?_⟩) HS0.out ?_
        rotate_left
        focus (intro w hS; have s0 := aCell hS.1 0 rfl; have s1 := aCell hS.1 1 rfl; clear hS; first | (go_simp; done) | (go_simp; with_reducible rfl))
        simp only [Act.put, List.getElem_toArray, List.getElem_cons_zero, List.getElem_cons_succ, List.setIfInBounds_toArray, List.set_cons_zero, List.set_cons_succ]
        refine wpAnyH_take (i := 9) (v := ?_) rfl (by kernel_rfl) (by kernel_rfl) (by kernel_rfl) (fun _ _ _ h => h) (Or.inl ⟨by rfl, ?_⟩) HS0.out ?_
        rotate_left
        focus (intro w hS; have s0 := aCell hS.2 0 rfl; have s1 := aCell hS.2 1 rfl; clear hS; first | (go_simp; done) | (go_simp; with_reducible rfl))
        simp only [Act.put, List.getElem_toArray, List.getElem_cons_zero, List.getElem_cons_succ, List.setIfInBounds_toArray, List.set_cons_zero, List.set_cons_succ]
        refine wpAnyH_ready (rs := [8]) (by kernel_rfl) (by simp) ?_
        refine RdyH.cons rfl (fun K2 hK => ?_) RdyH.nil
        go_simp
        go_at_call 58
        refine (AP.out _ Hw0.out).mono ?_
        rintro e wd1 ⟨rfl, hb⟩
        have HS1 := Lib.hid (And.intro (Bx.keep HS0.out.1 hb) (Bx.keep HS0.out.2 hb))
        have Hw1 := Lib.hid (Below.tr Hw0.out hb)
        clear hb
        go_simp
        refine hK _ _ HS1.out ?_
        clear hK K2
        refine wpAnyH_ready (rs := [10]) (by kernel_rfl) (by simp) ?_
        refine RdyH.cons rfl (fun K2 hK => ?_) RdyH.nil
        go_simp
        go_at_call 58
        refine (AQ.out _ Hw1.out).mono ?_
        rintro e wd2 ⟨rfl, hb⟩
        have HS2 := Lib.hid (And.intro (Bx.keep HS1.out.1 hb) (Bx.keep HS1.out.2 hb))
        have Hw2 := Lib.hid (Below.tr Hw1.out hb)
        clear hb
        go_simp
        refine hK _ _ HS2.out ?_
        clear hK K2
        have hbits := Hbits.out
        refine wpAnyH_take (i := 11) (v := ?_) rfl (by kernel_rfl) (by kernel_rfl) (by kernel_rfl) (fun _ _ _ h => h) (Or.inl ⟨by rfl, ?_⟩) HS2.out ?_
        rotate_left
        focus (intro w hS; clear hS; first | (go_simp; done) | (go_simp; with_reducible rfl))
        simp only [Act.put, List.getElem_toArray, List.getElem_cons_zero, List.getElem_cons_succ, List.setIfInBounds_toArray, List.set_cons_zero, List.set_cons_succ]
        refine wpAnyH_take (i := 12) (v := ?_) rfl (by kernel_rfl) (by kernel_rfl) (by kernel_rfl) (fun _ _ _ h => h) (Or.inl ⟨by rfl, ?_⟩) HS2.out ?_
        rotate_left
        focus (intro w hS; clear hS; first | (go_simp; done) | (go_simp; with_reducible rfl))
        simp only [Act.put, List.getElem_toArray, List.getElem_cons_zero, List.getElem_cons_succ, List.setIfInBounds_toArray, List.set_cons_zero, List.set_cons_succ]
        refine wpAnyH_take (i := 13) (v := ?_) rfl (by kernel_rfl) (by kernel_rfl) (by kernel_rfl) (fun _ _ _ h => h) (Or.inl ⟨by rfl, ?_⟩) HS2.out ?_
        rotate_left
        focus (intro w hS; clear hS; first | (go_simp; done) | (go_simp; with_reducible rfl))
        simp only [Act.put, List.getElem_toArray, List.getElem_cons_zero, List.getElem_cons_succ, List.setIfInBounds_toArray, List.set_cons_zero, List.set_cons_succ]
        refine wpAnyH_done (by kernel_rfl) ?_ _
        clear AP AQ hbits
        have HB := Lib.hid (B2.mk Hw2.out HS2.out.1 HS2.out.2)
        generalize wd2 = w9 at *
        go_wp2_with fail
        refine (awake_any _).mono ?_
        rintro e w10 ⟨rfl, hb⟩
        have HB := Lib.hid (HB.out.keep hb)
        clear hb 
        go_wp2_with fail
        go_ret
        exact ⟨rfl, HB.out.b⟩
#print axioms prod_any
namespace matchProducts
open Go.ChangeShapes Go.WideShapes Go.ChangeAt
set_option maxRecDepth 100000 in
theorem lifted (os : Os) (started : os.Started) (H : Type) (enc : TypeId × Value → H) :
    ReturnsInHanded {} Try.checked os 14 .any (Rows.matchProductsSpec.pre6 enc Try.prog Try.f14 Rows.matchProductsRow.domain false) (Rows.matchProductsSpec.post enc Try.prog Try.f14 false true false false) := by
  refine returnsInHanded_of_change (C := Try.checked) Try.own started (by kernel_rfl) Try.func14
    (ChangeSpec.witness6 (enc := enc) (C := Try.checked) false ⟨#[], #[.agg #[.slice none 0 0, .slice none 0 0], .agg #[.slice none 0 0, .slice none 0 0], .slice none 0 0], []⟩ 8 (by kernel_rfl) (by kernel_rfl) (by kernel_rfl) (by kernel_rfl)) ?_
  intro W base args ds gs before hval0 hW _ _
  have hval : ∀ (j : Nat) t v, Try.f14.params[j]? = some t → args[j]? = some v → Value.okWide Try.prog W .any base t v := hval0
  clear hval0
  obtain rfl : gs = [] := by obtain ⟨p, q, _, hV, _⟩ := hW; exact (trodVars_none hV).1
  have hW' := hW
  obtain ⟨p, q, hA0, hV, rfl, hfz, hnd⟩ := hW
  have hA : DataW.TrodAll enc Try.prog W 0 (fun _ => true) true Try.f14.params.toList args.toList ds p := hA0
  rw [Try.params14] at hA hval
  obtain ⟨v0, vs0, d0, ds0, p0, q0, hv0, hd0, hp0, h0, r0⟩ := trodAll_cons hA
  obtain ⟨v1, vs1, d1, ds1, p1, q1, hv1, hd1, hp1, h1, r1⟩ := trodAll_cons r0
  obtain ⟨v2, vs2, d2, ds2, p2, q2, hv2, hd2, hp2, h2, r2⟩ := trodAll_cons r1
  obtain ⟨hvn, hdn, hpn⟩ := trodAll_nil r2
  have ha : args = #[v0, v1, v2] := by cases args; simp_all
  have hdd : ds = [d0, d1, d2] := by simp_all
  rw [ha] at hval
  obtain ⟨a0, k0⟩ := qry_arg Try.underlying25 ⟨rfl, rfl⟩ ⟨rfl, rfl⟩ Try.underlying23 Try.underlying80 ⟨rfl, rfl⟩ ⟨rfl, rfl⟩ Try.underlying3 Try.underlying22 cellsI (by kernel_rfl) (by kernel_rfl) (by kernel_rfl) (by kernel_rfl) (hval 0 25 v0 rfl rfl) h0
  obtain ⟨a1, k1⟩ := qry_arg Try.underlying25 ⟨rfl, rfl⟩ ⟨rfl, rfl⟩ Try.underlying23 Try.underlying80 ⟨rfl, rfl⟩ ⟨rfl, rfl⟩ Try.underlying3 Try.underlying22 cellsI (by kernel_rfl) (by kernel_rfl) (by kernel_rfl) (by kernel_rfl) (hval 1 25 v1 rfl rfl) h1
  obtain ⟨a2, k2⟩ := atoms_of_trod Try.underlying26 Try.underlying77 ⟨rfl, rfl⟩ ⟨rfl, rfl⟩ Try.underlying3 Try.underlying22 cellsI (by kernel_rfl) (by kernel_rfl) (okWide_slice Try.underlying26 (hval 2 26 v2 rfl rfl)) h2
  have hw : Calls Try.prog 14 args W (fun e W' => e = .returned (.bool true) ∧ Below W.heap.size W W') := by
    rw [ha]; exact prod_any a0 a1 a2 v0 v1 v2 W k0 k1 k2
  exact hw.mono fun e W' ⟨he, hb⟩ => ⟨_, he, law_post Try.laidOut hW' rfl rfl Try.underlying4 (by rw [hdd]; rfl)
    (by kernel_rfl) hb⟩

theorem holds : Rows.MatchProductsSaid :=
  OpenClaim.holds_of_wide 14 Try.f14 rfl rfl rfl rfl rfl rfl rfl ⟨rfl, rfl, rfl, rfl, rfl⟩ rfl rfl rfl rfl rfl (by kernel_rfl) Try.func14 (by kernel_rfl)
    (of_decide_eq_true (by kernel_rfl)) (by unfold Func.isWrapper; first | (rw [if_pos (by decide +kernel)]; kernel_rfl) | (rw [if_neg (by decide +kernel)]; exact ⟨rfl, rfl⟩))
    (fun os started H enc _ => lifted os started H enc)
end matchProducts
end Go.Proofs.Ytfplmdieeabgpaa
