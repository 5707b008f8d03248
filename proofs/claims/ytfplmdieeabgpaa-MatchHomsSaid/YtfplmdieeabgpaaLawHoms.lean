/- MatchHoms: for every input the law returns true. -/
import Derived.Test.YtfplmdieeabgpaaHmr
import Derived.Test.YtfplmdieeabgpaaChk
import Derived.Test.YtfplmdieeabgpaaPrd
import Derived.Test.YtfplmdieeabgpaaEqq
import Derived.Test.YtfplmdieeabgpaaFrame
import Derived.Test.YtfplmdieeabgpaaRows
namespace Go.Proofs.Ytfplmdieeabgpaa
open Go.RowKit
theorem pair_sameH {p q : HQ} : (PairV (ofQ p) (ofQ q) ∧ ofQ p = p ∧ ofQ q = q ∧ PairV p q) ∨ (¬ PairV (ofQ p) (ofQ q) ∧ ¬ PairV p q) := by
  by_cases h : PairV p q
  · have e1 := ofQ_of h.1
    have e2 := ofQ_of h.2.1
    exact .inl ⟨by rw [e1, e2]; exact h, e1, e2, h⟩
  · refine .inr ⟨fun k => h ?_, h⟩
    have e1 := ofQ_valid k.1
    have e2 := ofQ_valid k.2.1
    rw [e1, e2] at k; exact k
theorem same_homQ {p q : HQ} {b : Nat} {w w' : World} {u u' : Value} {c c' : Int} (h : HomC (ofQ p) (ofQ q) b w u c) (hb : Below w.heap.size w w') (k : HomRC p q w' u' c') : c = c' ∧ ∃ L, Ints w' u L ∧ Ints w' u' L := by
  rcases pair_sameH (p := p) (q := q) with ⟨v1, e1, e2, v2⟩ | ⟨v1, v2⟩
  · rw [e1, e2] at h
    exact same_hom h hb k
  · have hn : Ints w' (.slice none 0 0) [] := (ownInts_nil 0 w').ints
    rcases h with ⟨_, rfl, rfl⟩ | ⟨h1, _⟩ | ⟨h1, _⟩
    · rcases k with ⟨_, rfl, rfl⟩ | ⟨k1, _⟩ | ⟨k1, _⟩
      · exact ⟨rfl, [], hn, hn⟩
      · exact absurd k1 v2
      · exact absurd k1 v2
    · exact absurd h1 v1
    · exact absurd h1 v1
theorem drawH {w w' : World} {e : Ending} {B : Bool} (h : e = .returned (.bool B) ∧ ∃ n, w' = w.drewN n) : e = .returned (.bool B) ∧ Below w.heap.size w w' := ⟨h.1, by obtain ⟨n, h⟩ := h.2; rw [h]; exact drewB' _⟩
set_option maxRecDepth 100000 in
set_option maxHeartbeats 16000000 in
theorem homs_any (p q : HQ) (H : List Int) (v u y : Value) (w : World) (hp : Qr w v p) (hq : Qr w u q) (hy : Ints w y H) :
    Calls Try.prog 4 #[v, u, y] w fun e w' => e = .returned (.bool true) ∧ Below w.heap.size w w' := by
  obtain ⟨h0, b0, rfl, hh, hb⟩ := hp
  obtain ⟨h1, b1, rfl, hh1, hb1⟩ := hq
  have Hp := Lib.hid (show Qr w (.agg #[h0, b0]) p from ⟨_, _, rfl, hh, hb⟩)
  have Hq := Lib.hid (show Qr w (.agg #[h1, b1]) q from ⟨_, _, rfl, hh1, hb1⟩)
  obtain ⟨ha, hc, rfl⟩ := ints_slice hh
  obtain ⟨ba, bc, rfl⟩ := atoms_slice hb
  obtain ⟨ha1, hc1, rfl⟩ := ints_slice hh1
  obtain ⟨ba1, bc1, rfl⟩ := atoms_slice hb1
  obtain ⟨n0, hn0⟩ : ∃ x, x = p.1.length := ⟨_, rfl⟩
  obtain ⟨n1, hn1⟩ : ∃ x, x = p.2.length := ⟨_, rfl⟩
  obtain ⟨n2, hn2⟩ : ∃ x, x = q.1.length := ⟨_, rfl⟩
  obtain ⟨n3, hn3⟩ : ∃ x, x = q.2.length := ⟨_, rfl⟩
  rw [← hn0, ← hn1] at Hp
  rw [← hn2, ← hn3] at Hq
  rw [← hn0, ← hn1, ← hn2, ← hn3]
  obtain ⟨w1, hw1⟩ : ∃ x, x = w.alloc (.cells #[.slice ha n0 hc, .slice ba n1 bc] 25) := ⟨_, rfl⟩
  obtain ⟨w2, hw2⟩ : ∃ x, x = w1.alloc (.cells #[.slice ha1 n2 hc1, .slice ba1 n3 bc1] 25) := ⟨_, rfl⟩
  obtain ⟨bp, hbp⟩ : ∃ x, x = w.heap.size := ⟨_, rfl⟩
  obtain ⟨bq, hbq⟩ : ∃ x, x = bp + 1 := ⟨_, rfl⟩
  have HB := Lib.hid (B2.new hw1 hw2 hbp hbq)
  have Hw1 := Lib.hid hw1
  have Hw2 := Lib.hid hw2
  have Hbpe := Lib.hid hbp
  have Hbqe := Lib.hid hbq
  clear hh hb hh1 hb1 hw1 hw2 hbp hbq hn0 hn1 hn2 hn3
  obtain ⟨ja, jc, rfl⟩ := ints_slice hy
  obtain ⟨jn, hjn⟩ : ∃ x, x = H.length := ⟨_, rfl⟩
  rw [← hjn] at hy ⊢
  have Hy := Lib.hid hy
  clear hy hjn
  go_enter Try.func4, Try.ntmps4
  go_upto_region 1 with fail
  rw [← Hw1.out, ← Hw2.out, ← Hbpe.out, ← Hbqe.out]
  clear Hw1 Hw2
  go_upto_region 1 with fail
  try simp only [Act.put]
  go_cut [7, 8] (fun o7 o8 wc => ∃ ua un uk c1, (o7 = .slice ua un uk ∧ o8 = .int .i64 c1) ∧ (∃ z, HomC (ofQ p) (ofQ q) z wc (.slice ua un uk) c1) ∧ Below w2.heap.size w2 wc)
  case first =>
    have HS0 := Lib.hid (show Bx w2.drew bp (.slice ha n0 hc) (.slice ba n1 bc) ∧ Bx w2.drew bq (.slice ha1 n2 hc1) (.slice ba1 n3 bc1) from ⟨HB.out.p, HB.out.q⟩)
    have Hw0 := Lib.hid (show Below w.heap.size w w2.drew from HB.out.b.drew)
    have HW0 := Lib.hid (show Below w2.heap.size w2 w2.drew from (Below.refl _ _).drew)
    refine wp_region_held (S := fun w' => Bx w' bp (.slice ha n0 hc) (.slice ba n1 bc) ∧ Bx w' bq (.slice ha1 n2 hc1) (.slice ba1 n3 bc1)) wideK ?_
    change wpAnyH _ _ _ _ _ _ _ _ (World.drew _)
    generalize w2.drew = wd0 at *
    refine wpAnyH_take (i := 0) (v := ?_) rfl (by kernel_rfl) (by kernel_rfl) (by kernel_rfl) (fun _ _ _ h => h) (Or.inl ⟨by rfl, ?_⟩) HS0.out ?_
    rotate_left
    focus (intro w hS; have s0 := aCell hS.1 0 rfl; have s1 := aCell hS.1 1 rfl; clear hS; first | (go_simp; done) | (go_simp; with_reducible rfl))
    simp only [Act.put, List.getElem_toArray, List.getElem_cons_zero, List.setIfInBounds_toArray, List.set_cons_zero, List.set_cons_succ]
    refine wpAnyH_take (i := 2) (v := ?_) rfl (by kernel_rfl) (by kernel_rfl) (by kernel_rfl) (fun _ _ _ h => h) (Or.inl ⟨by rfl, ?_⟩) HS0.out ?_
    rotate_left
    focus (intro w hS; have s0 := aCell hS.2 0 rfl; have s1 := aCell hS.2 1 rfl; clear hS; first | (go_simp; done) | (go_simp; with_reducible rfl))
    simp only [Act.put, List.getElem_toArray, List.getElem_cons_zero, List.getElem_cons_succ, List.setIfInBounds_toArray, List.set_cons_zero, List.set_cons_succ]
    refine wpAnyH_ready (rs := [1]) (by kernel_rfl) (by simp) ?_
    refine RdyH.cons rfl (fun K2 hK => ?_) RdyH.nil
    go_simp
    go_at_call 20
    refine (ofC_any _ _ (Hp.out.keep Hw0.out)).mono ?_
    rintro e wd1 ⟨a1, n1, k1, b1, m1, l1, rfl, ho, hb⟩
    have HS1 := Lib.hid (And.intro (Bx.keep HS0.out.1 hb) (Bx.keep HS0.out.2 hb))
    have Hw1 := Lib.hid (Below.tr Hw0.out hb)
    have HW1 := Lib.hid (Below.tr HW0.out hb)
    have HQ1 := Lib.hid ho.qr
    clear ho hb
    go_simp
    refine hK _ _ HS1.out ?_
    clear hK K2
    refine wpAnyH_ready (rs := [3]) (by kernel_rfl) (by simp) ?_
    refine RdyH.cons rfl (fun K2 hK => ?_) RdyH.nil
    go_simp
    go_at_call 20
    refine (ofC_any _ _ (Hq.out.keep Hw1.out)).mono ?_
    rintro e wd2 ⟨a2, n2, k2, b2, m2, l2, rfl, ho, hb⟩
    have HS2 := Lib.hid (And.intro (Bx.keep HS1.out.1 hb) (Bx.keep HS1.out.2 hb))
    have Hw2 := Lib.hid (Below.tr Hw1.out hb)
    have HW2 := Lib.hid (Below.tr HW1.out hb)
    have HQ2 := Lib.hid ho.qr
    have HQ1 := Lib.hid (HQ1.out.keep hb)
    clear ho hb
    go_simp
    refine hK _ _ HS2.out ?_
    clear hK K2
    refine wpAnyH_ready (rs := [4]) (by kernel_rfl) (by simp) ?_
    refine RdyH.cons rfl (fun K2 hK => ?_) RdyH.nil
    go_simp
    go_at_call 27
    refine (homC_any _ _ _ HQ1.out HQ2.out).mono ?_
    rintro e wd3 ⟨ua, un, uk, c1, rfl, hP, hb⟩
    have HS3 := Lib.hid (And.intro (Bx.keep HS2.out.1 hb) (Bx.keep HS2.out.2 hb))
    have HW3 := Lib.hid (Below.tr HW2.out hb)
    have HP := Lib.hid hP
    clear hP hb
    go_simp
    refine hK _ _ HS3.out ?_
    clear hK K2
    refine wpAnyH_take (i := 5) (v := ?_) rfl (by kernel_rfl) (by kernel_rfl) (by kernel_rfl) (fun _ _ _ h => h) (Or.inl ⟨by rfl, ?_⟩) HS3.out ?_
    rotate_left
    focus (intro w hS; clear hS; first | (go_simp; done) | (go_simp; with_reducible rfl))
    simp only [Act.put, List.getElem_toArray, List.getElem_cons_zero, List.getElem_cons_succ, List.setIfInBounds_toArray, List.set_cons_zero, List.set_cons_succ]
    refine wpAnyH_take (i := 6) (v := ?_) rfl (by kernel_rfl) (by kernel_rfl) (by kernel_rfl) (fun _ _ _ h => h) (Or.inl ⟨by rfl, ?_⟩) HS3.out ?_
    rotate_left
    focus (intro w hS; clear hS; first | (go_simp; done) | (go_simp; with_reducible rfl))
    simp only [Act.put, List.getElem_toArray, List.getElem_cons_zero, List.getElem_cons_succ, List.setIfInBounds_toArray, List.set_cons_zero, List.set_cons_succ]
    refine wpAnyH_take (i := 7) (v := ?_) rfl (by kernel_rfl) (by kernel_rfl) (by kernel_rfl) (fun _ _ _ h => h) (Or.inl ⟨by rfl, ?_⟩) HS3.out ?_
    rotate_left
    focus (intro w hS; clear hS; first | (go_simp; done) | (go_simp; with_reducible rfl))
    simp only [Act.put, List.getElem_toArray, List.getElem_cons_zero, List.getElem_cons_succ, List.setIfInBounds_toArray, List.set_cons_zero, List.set_cons_succ]
    refine wpAnyH_take (i := 8) (v := ?_) rfl (by kernel_rfl) (by kernel_rfl) (by kernel_rfl) (fun _ _ _ h => h) (Or.inl ⟨by rfl, ?_⟩) HS3.out ?_
    rotate_left
    focus (intro w hS; clear hS; first | (go_simp; done) | (go_simp; with_reducible rfl))
    simp only [Act.put, List.getElem_toArray, List.getElem_cons_zero, List.getElem_cons_succ, List.setIfInBounds_toArray, List.set_cons_zero, List.set_cons_succ]
    refine wpAnyH_take (i := 9) (v := ?_) rfl (by kernel_rfl) (by kernel_rfl) (by kernel_rfl) (fun _ _ _ h => h) (Or.inl ⟨by rfl, ?_⟩) HS3.out ?_
    rotate_left
    focus (intro w hS; clear hS; first | (go_simp; done) | (go_simp; with_reducible rfl))
    simp only [Act.put, List.getElem_toArray, List.getElem_cons_zero, List.getElem_cons_succ, List.setIfInBounds_toArray, List.set_cons_zero, List.set_cons_succ]
    refine wpAnyH_done (by kernel_rfl) ?_ _
    go_wp2_with fail
    go_meet
    exact ⟨ua, un, uk, c1, ⟨rfl, rfl⟩, ⟨_, HP.out⟩, HW3.out⟩
  case rest =>
    obtain ⟨ua, un, uk, c1, ⟨rfl, rfl⟩, hP, hb⟩ := hcut
    generalize wc = w3 at *
    have HB := Lib.hid (HB.out.keep hb)
    clear hb
    obtain ⟨z, hP⟩ := hP
    have HC := Lib.hid hP
    clear hP
    obtain ⟨⟨g0, g1⟩, g2, g3⟩ := HB.out.cells
    go_wp2_with fail
    refine (homRef_any _ _ _ (Hp.out.keep HB.out.b) (Hq.out.keep HB.out.b)).mono ?_
    rintro e w4 ⟨ra, rn, rk, c2, rfl, hC, hb⟩
    have HB := Lib.hid (HB.out.keep hb)
    obtain ⟨rfl, L, hL, hM⟩ := same_homQ HC.out hb hC
    have HL := Lib.hid hL
    have HM := Lib.hid hM
    have HV := Lib.hid (show (¬ PairV p q ∧ c1 = 2) ∨ (PairV p q ∧ (c1 == 2) = false) from by
      rcases hC with ⟨h1, _, h2⟩ | ⟨h1, _, _, h2⟩ | ⟨h1, h2, _⟩
      · exact .inl ⟨h1, h2⟩
      · exact .inr ⟨h1, by rw [h2]; rfl⟩
      · exact .inr ⟨h1, by rw [h2]; rfl⟩)
    clear hb hC HC hL hM g0 g1 g2 g3
    go_upto_region 3 with fail
    try simp only [Act.put]
    go_cut [11, 12] (fun o11 o12 wc => ∃ B c3, (o11 = .bool B ∧ o12 = .int .i64 c3) ∧ (CheckC (ofQ p) (ofQ q) H B c3) ∧ Below w4.heap.size w4 wc)
    case first =>
      have HS0 := Lib.hid (show Bx w4.drew bp (.slice ha n0 hc) (.slice ba n1 bc) ∧ Bx w4.drew bq (.slice ha1 n2 hc1) (.slice ba1 n3 bc1) from ⟨HB.out.p, HB.out.q⟩)
      have Hw0 := Lib.hid (show Below w.heap.size w w4.drew from HB.out.b.drew)
      have HW0 := Lib.hid (show Below w4.heap.size w4 w4.drew from (Below.refl _ _).drew)
      refine wp_region_held (S := fun w' => Bx w' bp (.slice ha n0 hc) (.slice ba n1 bc) ∧ Bx w' bq (.slice ha1 n2 hc1) (.slice ba1 n3 bc1)) wideK ?_
      change wpAnyH _ _ _ _ _ _ _ _ (World.drew _)
      generalize w4.drew = wd0 at *
      refine wpAnyH_take (i := 0) (v := ?_) rfl (by kernel_rfl) (by kernel_rfl) (by kernel_rfl) (fun _ _ _ h => h) (Or.inl ⟨by rfl, ?_⟩) HS0.out ?_
      rotate_left
      focus (intro w hS; have s0 := aCell hS.1 0 rfl; have s1 := aCell hS.1 1 rfl; clear hS; first | (go_simp; done) | (go_simp; with_reducible rfl))
      simp only [Act.put, List.getElem_toArray, List.getElem_cons_zero, List.setIfInBounds_toArray, List.set_cons_zero, List.set_cons_succ]
      refine wpAnyH_take (i := 2) (v := ?_) rfl (by kernel_rfl) (by kernel_rfl) (by kernel_rfl) (fun _ _ _ h => h) (Or.inl ⟨by rfl, ?_⟩) HS0.out ?_
      rotate_left
      focus (intro w hS; have s0 := aCell hS.2 0 rfl; have s1 := aCell hS.2 1 rfl; clear hS; first | (go_simp; done) | (go_simp; with_reducible rfl))
      simp only [Act.put, List.getElem_toArray, List.getElem_cons_zero, List.getElem_cons_succ, List.setIfInBounds_toArray, List.set_cons_zero, List.set_cons_succ]
      refine wpAnyH_take (i := 4) (v := ?_) rfl (by kernel_rfl) (by kernel_rfl) (by kernel_rfl) (fun _ _ _ h => h) (Or.inl ⟨by rfl, ?_⟩) HS0.out ?_
      rotate_left
      focus (intro w hS; clear hS; first | (go_simp; done) | (go_simp; with_reducible rfl))
      simp only [Act.put, List.getElem_toArray, List.getElem_cons_zero, List.getElem_cons_succ, List.setIfInBounds_toArray, List.set_cons_zero, List.set_cons_succ]
      refine wpAnyH_ready (rs := [1]) (by kernel_rfl) (by simp) ?_
      refine RdyH.cons rfl (fun K2 hK => ?_) RdyH.nil
      go_simp
      go_at_call 20
      refine (ofC_any _ _ (Hp.out.keep Hw0.out)).mono ?_
      rintro e wd1 ⟨a1, n1, k1, b1, m1, l1, rfl, ho, hb⟩
      have HS1 := Lib.hid (And.intro (Bx.keep HS0.out.1 hb) (Bx.keep HS0.out.2 hb))
      have Hw1 := Lib.hid (Below.tr Hw0.out hb)
      have HW1 := Lib.hid (Below.tr HW0.out hb)
      have HQ1 := Lib.hid ho.qr
      clear ho hb
      go_simp
      refine hK _ _ HS1.out ?_
      clear hK K2
      refine wpAnyH_ready (rs := [3]) (by kernel_rfl) (by simp) ?_
      refine RdyH.cons rfl (fun K2 hK => ?_) RdyH.nil
      go_simp
      go_at_call 20
      refine (ofC_any _ _ (Hq.out.keep Hw1.out)).mono ?_
      rintro e wd2 ⟨a2, n2, k2, b2, m2, l2, rfl, ho, hb⟩
      have HS2 := Lib.hid (And.intro (Bx.keep HS1.out.1 hb) (Bx.keep HS1.out.2 hb))
      have Hw2 := Lib.hid (Below.tr Hw1.out hb)
      have HW2 := Lib.hid (Below.tr HW1.out hb)
      have HQ2 := Lib.hid ho.qr
      have HQ1 := Lib.hid (HQ1.out.keep hb)
      clear ho hb
      go_simp
      refine hK _ _ HS2.out ?_
      clear hK K2
      refine wpAnyH_ready (rs := [5]) (by kernel_rfl) (by simp) ?_
      refine RdyH.cons rfl (fun K2 hK => ?_) RdyH.nil
      go_simp
      go_at_call 29
      refine (checkHom_any _ _ _ _ _ HQ1.out HQ2.out (Hy.out.keep Hw2.out)).mono ?_
      rintro e wd3 ⟨B, c3, rfl, hP, hb⟩
      have HS3 := Lib.hid (And.intro (Bx.keep HS2.out.1 hb) (Bx.keep HS2.out.2 hb))
      have HW3 := Lib.hid (Below.tr HW2.out hb)
      have HP := Lib.hid hP
      clear hP hb
      go_simp
      refine hK _ _ HS3.out ?_
      clear hK K2
      refine wpAnyH_take (i := 6) (v := ?_) rfl (by kernel_rfl) (by kernel_rfl) (by kernel_rfl) (fun _ _ _ h => h) (Or.inl ⟨by rfl, ?_⟩) HS3.out ?_
      rotate_left
      focus (intro w hS; clear hS; first | (go_simp; done) | (go_simp; with_reducible rfl))
      simp only [Act.put, List.getElem_toArray, List.getElem_cons_zero, List.getElem_cons_succ, List.setIfInBounds_toArray, List.set_cons_zero, List.set_cons_succ]
      refine wpAnyH_take (i := 7) (v := ?_) rfl (by kernel_rfl) (by kernel_rfl) (by kernel_rfl) (fun _ _ _ h => h) (Or.inl ⟨by rfl, ?_⟩) HS3.out ?_
      rotate_left
      focus (intro w hS; clear hS; first | (go_simp; done) | (go_simp; with_reducible rfl))
      simp only [Act.put, List.getElem_toArray, List.getElem_cons_zero, List.getElem_cons_succ, List.setIfInBounds_toArray, List.set_cons_zero, List.set_cons_succ]
      refine wpAnyH_take (i := 8) (v := ?_) rfl (by kernel_rfl) (by kernel_rfl) (by kernel_rfl) (fun _ _ _ h => h) (Or.inl ⟨by rfl, ?_⟩) HS3.out ?_
      rotate_left
      focus (intro w hS; clear hS; first | (go_simp; done) | (go_simp; with_reducible rfl))
      simp only [Act.put, List.getElem_toArray, List.getElem_cons_zero, List.getElem_cons_succ, List.setIfInBounds_toArray, List.set_cons_zero, List.set_cons_succ]
      refine wpAnyH_take (i := 9) (v := ?_) rfl (by kernel_rfl) (by kernel_rfl) (by kernel_rfl) (fun _ _ _ h => h) (Or.inl ⟨by rfl, ?_⟩) HS3.out ?_
      rotate_left
      focus (intro w hS; clear hS; first | (go_simp; done) | (go_simp; with_reducible rfl))
      simp only [Act.put, List.getElem_toArray, List.getElem_cons_zero, List.getElem_cons_succ, List.setIfInBounds_toArray, List.set_cons_zero, List.set_cons_succ]
      refine wpAnyH_take (i := 10) (v := ?_) rfl (by kernel_rfl) (by kernel_rfl) (by kernel_rfl) (fun _ _ _ h => h) (Or.inl ⟨by rfl, ?_⟩) HS3.out ?_
      rotate_left
      focus (intro w hS; clear hS; first | (go_simp; done) | (go_simp; with_reducible rfl))
      simp only [Act.put, List.getElem_toArray, List.getElem_cons_zero, List.getElem_cons_succ, List.setIfInBounds_toArray, List.set_cons_zero, List.set_cons_succ]
      refine wpAnyH_done (by kernel_rfl) ?_ _
      go_wp2_with fail
      go_meet
      exact ⟨B, c3, ⟨rfl, rfl⟩, HP.out, HW3.out⟩
    case rest =>
      obtain ⟨B, c3, ⟨rfl, rfl⟩, hP, hb⟩ := hcut
      generalize wc = w5 at *
      have HB := Lib.hid (HB.out.keep hb)
      have HL := Lib.hid (HL.out.keep hb)
      have HM := Lib.hid (HM.out.keep hb)
      clear hb
      have HC3 := Lib.hid hP
      clear hP
      go_wp2_with fail
      refine (equal_any _ _ _ _ _ HL.out HM.out).mono ?_
      rintro e w6 hh
      obtain ⟨rfl, hb⟩ : e = .returned (.bool true) ∧ Below w5.heap.size w5 w6 := by
        obtain ⟨h1, h2⟩ := drawH hh
        exact ⟨by rw [h1]; simp, h2⟩
      have HB := Lib.hid (HB.out.keep hb)
      clear hb hh HL HM
      rcases HV.out with ⟨hn, rfl⟩ | ⟨hpq, hc2⟩
      · obtain ⟨rfl, rfl⟩ : B = false ∧ c3 = 2 := by
          rcases HC3.out with ⟨_, h1, h2⟩ | ⟨h1, _⟩
          · exact ⟨h1, h2⟩
          · rcases pair_sameH (p := p) (q := q) with ⟨_, _, _, k⟩ | ⟨k, _⟩
            · exact absurd k hn
            · exact absurd h1 k
        clear HC3 HV hn
        go_wp2_with fail
        refine (awake_any _).mono ?_
        rintro e w7 ⟨rfl, hb⟩
        have HB := Lib.hid (HB.out.keep hb)
        clear hb 
        go_wp2_with fail
        go_ret
        exact ⟨rfl, HB.out.b⟩
      · have Hpq := Lib.hid hpq
        obtain ⟨rfl, hB⟩ : c3 = 0 ∧ (B = true ↔ HomP p q H) := by
          rcases pair_sameH (p := p) (q := q) with ⟨k, e1, e2, _⟩ | ⟨_, k⟩
          · rcases HC3.out with ⟨h1, _⟩ | ⟨_, h2, h3⟩
            · exact absurd k h1
            · rw [e1, e2] at h3; exact ⟨h2, h3⟩
          · exact absurd hpq k
        have HBi := Lib.hid hB
        clear HC3 HV hpq hB
        go_wp2_with fail
        refine (awake_any _).mono ?_
        rintro e w7 ⟨rfl, hb⟩
        have HB := Lib.hid (HB.out.keep hb)
        clear hb 
        obtain ⟨⟨g0, g1⟩, g2, g3⟩ := HB.out.cells
        go_wp2_with fail
        refine (isHomR_any Hpq.out H _ _ _ _ (Hp.out.keep HB.out.b) (Hq.out.keep HB.out.b) (Hy.out.keep HB.out.b)).mono ?_
        rintro e w8 ⟨B2, rfl, hB2, hb⟩
        have HB := Lib.hid (HB.out.keep hb)
        obtain rfl : B2 = B := by rw [Bool.eq_iff_iff, hB2, HBi.out]
        clear hb hB2 g0 g1 g2 g3
        have hbb : (B2 == B2) = true := by simp
        go_wp2_with fail
        go_ret
        exact ⟨rfl, HB.out.b⟩
#print axioms homs_any
namespace matchHoms
open Go.ChangeShapes Go.WideShapes Go.ChangeAt
set_option maxRecDepth 100000 in
theorem lifted (os : Os) (started : os.Started) (H : Type) (enc : TypeId × Value → H) :
    ReturnsInHanded {} Try.checked os 4 .any (Rows.matchHomsSpec.pre6 enc Try.prog Try.f4 Rows.matchHomsRow.domain false) (Rows.matchHomsSpec.post enc Try.prog Try.f4 false true false false) := by
  refine returnsInHanded_of_change (C := Try.checked) Try.own started (by kernel_rfl) Try.func4
    (ChangeSpec.witness6 (enc := enc) (C := Try.checked) false ⟨#[], #[.agg #[.slice none 0 0, .slice none 0 0], .agg #[.slice none 0 0, .slice none 0 0], .slice none 0 0], []⟩ 8 (by kernel_rfl) (by kernel_rfl) (by kernel_rfl) (by kernel_rfl)) ?_
  intro W base args ds gs before hval0 hW _ _
  have hval : ∀ (j : Nat) t v, Try.f4.params[j]? = some t → args[j]? = some v → Value.okWide Try.prog W .any base t v := hval0
  clear hval0
  obtain rfl : gs = [] := by obtain ⟨p, q, _, hV, _⟩ := hW; exact (trodVars_none hV).1
  have hW' := hW
  obtain ⟨p, q, hA0, hV, rfl, hfz, hnd⟩ := hW
  have hA : DataW.TrodAll enc Try.prog W 0 (fun _ => true) true Try.f4.params.toList args.toList ds p := hA0
  rw [Try.params4] at hA hval
  obtain ⟨v0, vs0, d0, ds0, p0, q0, hv0, hd0, hp0, h0, r0⟩ := trodAll_cons hA
  obtain ⟨v1, vs1, d1, ds1, p1, q1, hv1, hd1, hp1, h1, r1⟩ := trodAll_cons r0
  obtain ⟨v2, vs2, d2, ds2, p2, q2, hv2, hd2, hp2, h2, r2⟩ := trodAll_cons r1
  obtain ⟨hvn, hdn, hpn⟩ := trodAll_nil r2
  have ha : args = #[v0, v1, v2] := by cases args; simp_all
  have hdd : ds = [d0, d1, d2] := by simp_all
  rw [ha] at hval
  obtain ⟨a0, k0⟩ := qry_arg Try.underlying25 ⟨rfl, rfl⟩ ⟨rfl, rfl⟩ Try.underlying23 Try.underlying80 ⟨rfl, rfl⟩ ⟨rfl, rfl⟩ Try.underlying3 Try.underlying22 cellsI (by kernel_rfl) (by kernel_rfl) (by kernel_rfl) (by kernel_rfl) (hval 0 25 v0 rfl rfl) h0
  obtain ⟨a1, k1⟩ := qry_arg Try.underlying25 ⟨rfl, rfl⟩ ⟨rfl, rfl⟩ Try.underlying23 Try.underlying80 ⟨rfl, rfl⟩ ⟨rfl, rfl⟩ Try.underlying3 Try.underlying22 cellsI (by kernel_rfl) (by kernel_rfl) (by kernel_rfl) (by kernel_rfl) (hval 1 25 v1 rfl rfl) h1
  obtain ⟨a2, k2⟩ := ints_of_trod Try.underlying22 Try.underlying3 cellsI (okWide_slice Try.underlying22 (hval 2 22 v2 rfl rfl)) h2
  have hw : Calls Try.prog 4 args W (fun e W' => e = .returned (.bool true) ∧ Below W.heap.size W W') := by
    rw [ha]; exact homs_any a0 a1 a2 v0 v1 v2 W k0 k1 k2
  exact hw.mono fun e W' ⟨he, hb⟩ => ⟨_, he, law_post Try.laidOut hW' rfl rfl Try.underlying4 (by rw [hdd]; rfl)
    (by kernel_rfl) hb⟩

theorem holds : Rows.MatchHomsSaid :=
  OpenClaim.holds_of_wide 4 Try.f4 rfl rfl rfl rfl rfl rfl rfl ⟨rfl, rfl, rfl, rfl, rfl⟩ rfl rfl rfl rfl rfl (by kernel_rfl) Try.func4 (by kernel_rfl)
    (of_decide_eq_true (by kernel_rfl)) (by unfold Func.isWrapper; first | (rw [if_pos (by decide +kernel)]; kernel_rfl) | (rw [if_neg (by decide +kernel)]; exact ⟨rfl, rfl⟩))
    (fun os started H enc _ => lifted os started H enc)
end matchHoms
end Go.Proofs.Ytfplmdieeabgpaa
