/- MatchMaps: for every input the law returns true. -/
import Derived.Test.YtfplmdieeabgpaaLbx
import Derived.Test.YtfplmdieeabgpaaCtp
import Derived.Test.YtfplmdieeabgpaaChk
import Derived.Test.YtfplmdieeabgpaaFrame
import Derived.Test.YtfplmdieeabgpaaRows
namespace Go.Proofs.Ytfplmdieeabgpaa
open Go.RowKit
/-- a box of a row -/
def Cel (w : World) (b : Nat) (x : Value) : Prop := w.heap[b]? = some (.cells #[x] 22 (0, 0))
theorem maps_sub {p q : HQ} (hpq : PairV p q) {h : List Int} (hh : HomP p q h) {l : List HAt} {R S : List (List Int)} (hR : IsRes q l R) (hS : IsRes p l S) {x : List Int} (hx : x ∈ R) : x ∈ S := by
  obtain ⟨v, hv, rfl⟩ := (hR.2 x).1 hx
  obtain ⟨v', h1, h2⟩ := hom_match hpq.2.1 hpq.1 hpq.2.2 hh hv
  exact (hS.2 _).2 ⟨v', h1, h2.symm⟩
set_option maxRecDepth 100000 in
set_option maxHeartbeats 16000000 in
theorem maps_any (p q : HQ) (H : List Int) (l : List HAt) (v u y x : Value) (w : World) (hp : Qr w v p) (hq : Qr w u q) (hy : Ints w y H) (hl : Atoms w x l) :
    Calls Try.prog 15 #[v, u, y, x] w fun e w' => e = .returned (.bool true) ∧ Below w.heap.size w w' := by
  obtain ⟨h0, b0, rfl, hh, hb⟩ := hp
  obtain ⟨h1, b1, rfl, hh1, hb1⟩ := hq
  have Hp := Lib.hid (show Qr w (.agg #[h0, b0]) p from ⟨_, _, rfl, hh, hb⟩)
  have Hq := Lib.hid (show Qr w (.agg #[h1, b1]) q from ⟨_, _, rfl, hh1, hb1⟩)
  obtain ⟨ha, hc, rfl⟩ := ints_slice hh
  obtain ⟨ba, bc, rfl⟩ := atoms_slice hb
  obtain ⟨ha1, hc1, rfl⟩ := ints_slice hh1
  obtain ⟨ba1, bc1, rfl⟩ := atoms_slice hb1
  obtain ⟨n0, hn0⟩ : ∃ x, x = p.1.length := ⟨_, rfl⟩
  obtain ⟨n1, hn1⟩ : ∃ x, x = p.2.length := ⟨_, rfl⟩
  obtain ⟨n2, hn2⟩ : ∃ x, x = q.1.length := ⟨_, rfl⟩
  obtain ⟨n3, hn3⟩ : ∃ x, x = q.2.length := ⟨_, rfl⟩
  rw [← hn0, ← hn1] at Hp
  rw [← hn2, ← hn3] at Hq
  rw [← hn0, ← hn1, ← hn2, ← hn3]
  obtain ⟨w1, hw1⟩ : ∃ x, x = w.alloc (.cells #[.slice ha n0 hc, .slice ba n1 bc] 25) := ⟨_, rfl⟩
  obtain ⟨w2, hw2⟩ : ∃ x, x = w1.alloc (.cells #[.slice ha1 n2 hc1, .slice ba1 n3 bc1] 25) := ⟨_, rfl⟩
  obtain ⟨bp, hbp⟩ : ∃ x, x = w.heap.size := ⟨_, rfl⟩
  obtain ⟨bq, hbq⟩ : ∃ x, x = bp + 1 := ⟨_, rfl⟩
  have HB := Lib.hid (B2.new hw1 hw2 hbp hbq)
  have Hw1 := Lib.hid hw1
  have Hw2 := Lib.hid hw2
  have Hbpe := Lib.hid hbp
  have Hbqe := Lib.hid hbq
  clear hh hb hh1 hb1 hw1 hw2 hbp hbq hn0 hn1 hn2 hn3
  obtain ⟨la, lc, rfl⟩ := atoms_slice hl
  obtain ⟨ln, hln⟩ : ∃ x, x = l.length := ⟨_, rfl⟩
  rw [← hln] at hl ⊢
  have Hl := Lib.hid hl
  obtain ⟨ja, jc, rfl⟩ := ints_slice hy
  obtain ⟨jn, hjn⟩ : ∃ x, x = H.length := ⟨_, rfl⟩
  rw [← hjn] at hy ⊢
  have Hy := Lib.hid hy
  clear hl hln hy hjn
  go_enter Try.func15, Try.ntmps15
  go_upto_region 1 with fail
  rw [← Hw1.out, ← Hw2.out, ← Hbpe.out, ← Hbqe.out]
  clear Hw1 Hw2
  go_upto_region 1 with fail
  try simp only [Act.put]
  go_cut [9, 10] (fun o9 o10 wc => ∃ B c1, (o9 = .bool B ∧ o10 = .int .i64 c1) ∧ (CheckC (ofQ p) (ofQ q) H B c1) ∧ Below w2.heap.size w2 wc)
  case first =>
    have HS0 := Lib.hid (show Bx w2.drew bp (.slice ha n0 hc) (.slice ba n1 bc) ∧ Bx w2.drew bq (.slice ha1 n2 hc1) (.slice ba1 n3 bc1) from ⟨HB.out.p, HB.out.q⟩)
    have Hw0 := Lib.hid (show Below w.heap.size w w2.drew from HB.out.b.drew)
    have HW0 := Lib.hid (show Below w2.heap.size w2 w2.drew from (Below.refl _ _).drew)
    refine wp_region_held (S := fun w' => Bx w' bp (.slice ha n0 hc) (.slice ba n1 bc) ∧ Bx w' bq (.slice ha1 n2 hc1) (.slice ba1 n3 bc1)) wideK ?_
    change wpAnyH _ _ _ _ _ _ _ _ (World.drew _)
    generalize w2.drew = wd0 at *
    refine wpAnyH_take (i := 0) (v := ?_) rfl (by kernel_rfl) (by kernel_rfl) (by kernel_rfl) (fun _ _ _ h => h) (Or.inl ⟨by rfl, ?_⟩) HS0.out ?_
    rotate_left
    focus (intro w hS; have s0 := aCell hS.1 0 rfl; have s1 := aCell hS.1 1 rfl; clear hS; first | (go_simp; done) | (go_simp; with_reducible rfl))
    simp only [Act.put, List.getElem_toArray, List.getElem_cons_zero, List.setIfInBounds_toArray, List.set_cons_zero, List.set_cons_succ]
    refine wpAnyH_take (i := 2) (v := ?_) rfl (by kernel_rfl) (by kernel_rfl) (by kernel_rfl) (fun _ _ _ h => h) (Or.inl ⟨by rfl, ?_⟩) HS0.out ?_
    rotate_left
    focus (intro w hS; have s0 := aCell hS.2 0 rfl; have s1 := aCell hS.2 1 rfl; clear hS; first | (go_simp; done) | (go_simp; with_reducible rfl))
    simp only [Act.put, List.getElem_toArray, List.getElem_cons_zero, List.getElem_cons_succ, List.setIfInBounds_toArray, List.set_cons_zero, List.set_cons_succ]
    refine wpAnyH_take (i := 4) (v := ?_) rfl (by kernel_rfl) (by kernel_rfl) (by kernel_rfl) (fun _ _ _ h => h) (Or.inl ⟨by rfl, ?_⟩) HS0.out ?_
    rotate_left
    focus (intro w hS; clear hS; first | (go_simp; done) | (go_simp; with_reducible rfl))
    simp only [Act.put, List.getElem_toArray, List.getElem_cons_zero, List.getElem_cons_succ, List.setIfInBounds_toArray, List.set_cons_zero, List.set_cons_succ]
    refine wpAnyH_ready (rs := [1]) (by kernel_rfl) (by simp) ?_
    refine RdyH.cons rfl (fun K2 hK => ?_) RdyH.nil
    go_simp
    go_at_call 20
    refine (ofC_any _ _ (Hp.out.keep Hw0.out)).mono ?_
    rintro e wd1 ⟨a1, n1, k1, b1, m1, l1, rfl, ho, hb⟩
    have HS1 := Lib.hid (And.intro (Bx.keep HS0.out.1 hb) (Bx.keep HS0.out.2 hb))
    have Hw1 := Lib.hid (Below.tr Hw0.out hb)
    have HW1 := Lib.hid (Below.tr HW0.out hb)
    have HQ1 := Lib.hid ho.qr
    clear ho hb
    go_simp
    refine hK _ _ HS1.out ?_
    clear hK K2
    refine wpAnyH_ready (rs := [3]) (by kernel_rfl) (by simp) ?_
    refine RdyH.cons rfl (fun K2 hK => ?_) RdyH.nil
    go_simp
    go_at_call 20
    refine (ofC_any _ _ (Hq.out.keep Hw1.out)).mono ?_
    rintro e wd2 ⟨a2, n2, k2, b2, m2, l2, rfl, ho, hb⟩
    have HS2 := Lib.hid (And.intro (Bx.keep HS1.out.1 hb) (Bx.keep HS1.out.2 hb))
    have Hw2 := Lib.hid (Below.tr Hw1.out hb)
    have HW2 := Lib.hid (Below.tr HW1.out hb)
    have HQ2 := Lib.hid ho.qr
    have HQ1 := Lib.hid (HQ1.out.keep hb)
    clear ho hb
    go_simp
    refine hK _ _ HS2.out ?_
    clear hK K2
    refine wpAnyH_ready (rs := [5]) (by kernel_rfl) (by simp) ?_
    refine RdyH.cons rfl (fun K2 hK => ?_) RdyH.nil
    go_simp
    go_at_call 29
    refine (checkHom_any _ _ _ _ _ HQ1.out HQ2.out (Hy.out.keep Hw2.out)).mono ?_
    rintro e wd3 ⟨B, c1, rfl, hP, hb⟩
    have HS3 := Lib.hid (And.intro (Bx.keep HS2.out.1 hb) (Bx.keep HS2.out.2 hb))
    have HW3 := Lib.hid (Below.tr HW2.out hb)
    have HP := Lib.hid hP
    clear hP hb
    go_simp
    refine hK _ _ HS3.out ?_
    clear hK K2
    refine wpAnyH_take (i := 6) (v := ?_) rfl (by kernel_rfl) (by kernel_rfl) (by kernel_rfl) (fun _ _ _ h => h) (Or.inl ⟨by rfl, ?_⟩) HS3.out ?_
    rotate_left
    focus (intro w hS; clear hS; first | (go_simp; done) | (go_simp; with_reducible rfl))
    simp only [Act.put, List.getElem_toArray, List.getElem_cons_zero, List.getElem_cons_succ, List.setIfInBounds_toArray, List.set_cons_zero, List.set_cons_succ]
    refine wpAnyH_take (i := 7) (v := ?_) rfl (by kernel_rfl) (by kernel_rfl) (by kernel_rfl) (fun _ _ _ h => h) (Or.inl ⟨by rfl, ?_⟩) HS3.out ?_
    rotate_left
    focus (intro w hS; clear hS; first | (go_simp; done) | (go_simp; with_reducible rfl))
    simp only [Act.put, List.getElem_toArray, List.getElem_cons_zero, List.getElem_cons_succ, List.setIfInBounds_toArray, List.set_cons_zero, List.set_cons_succ]
    refine wpAnyH_take (i := 8) (v := ?_) rfl (by kernel_rfl) (by kernel_rfl) (by kernel_rfl) (fun _ _ _ h => h) (Or.inl ⟨by rfl, ?_⟩) HS3.out ?_
    rotate_left
    focus (intro w hS; clear hS; first | (go_simp; done) | (go_simp; with_reducible rfl))
    simp only [Act.put, List.getElem_toArray, List.getElem_cons_zero, List.getElem_cons_succ, List.setIfInBounds_toArray, List.set_cons_zero, List.set_cons_succ]
    refine wpAnyH_take (i := 9) (v := ?_) rfl (by kernel_rfl) (by kernel_rfl) (by kernel_rfl) (fun _ _ _ h => h) (Or.inl ⟨by rfl, ?_⟩) HS3.out ?_
    rotate_left
    focus (intro w hS; clear hS; first | (go_simp; done) | (go_simp; with_reducible rfl))
    simp only [Act.put, List.getElem_toArray, List.getElem_cons_zero, List.getElem_cons_succ, List.setIfInBounds_toArray, List.set_cons_zero, List.set_cons_succ]
    refine wpAnyH_take (i := 10) (v := ?_) rfl (by kernel_rfl) (by kernel_rfl) (by kernel_rfl) (fun _ _ _ h => h) (Or.inl ⟨by rfl, ?_⟩) HS3.out ?_
    rotate_left
    focus (intro w hS; clear hS; first | (go_simp; done) | (go_simp; with_reducible rfl))
    simp only [Act.put, List.getElem_toArray, List.getElem_cons_zero, List.getElem_cons_succ, List.setIfInBounds_toArray, List.set_cons_zero, List.set_cons_succ]
    refine wpAnyH_done (by kernel_rfl) ?_ _
    go_wp2_with fail
    go_meet
    exact ⟨B, c1, ⟨rfl, rfl⟩, HP.out, HW3.out⟩
  case rest =>
    obtain ⟨B, c1, ⟨rfl, rfl⟩, hP, hb⟩ := hcut
    generalize wc = w3 at *
    have HB := Lib.hid (HB.out.keep hb)
    clear hb
    have HC1 := Lib.hid hP
    clear hP
    go_upto_region 2 with fail
    try simp only [Act.put]
    go_cut [11, 12] (fun o11 o12 wc => ∃ ua un uk c2, (o11 = .slice ua un uk ∧ o12 = .int .i64 c2) ∧ (∃ z, HomC (ofQ p) (ofQ q) z wc (.slice ua un uk) c2) ∧ Below w3.heap.size w3 wc)
    case first =>
      have HS0 := Lib.hid (show Bx w3.drew bp (.slice ha n0 hc) (.slice ba n1 bc) ∧ Bx w3.drew bq (.slice ha1 n2 hc1) (.slice ba1 n3 bc1) from ⟨HB.out.p, HB.out.q⟩)
      have Hw0 := Lib.hid (show Below w.heap.size w w3.drew from HB.out.b.drew)
      have HW0 := Lib.hid (show Below w3.heap.size w3 w3.drew from (Below.refl _ _).drew)
      refine wp_region_held (S := fun w' => Bx w' bp (.slice ha n0 hc) (.slice ba n1 bc) ∧ Bx w' bq (.slice ha1 n2 hc1) (.slice ba1 n3 bc1)) wideK ?_
      change wpAnyH _ _ _ _ _ _ _ _ (World.drew _)
      generalize w3.drew = wd0 at *
      refine wpAnyH_take (i := 0) (v := ?_) rfl (by kernel_rfl) (by kernel_rfl) (by kernel_rfl) (fun _ _ _ h => h) (Or.inl ⟨by rfl, ?_⟩) HS0.out ?_
      rotate_left
      focus (intro w hS; have s0 := aCell hS.1 0 rfl; have s1 := aCell hS.1 1 rfl; clear hS; first | (go_simp; done) | (go_simp; with_reducible rfl))
      simp only [Act.put, List.getElem_toArray, List.getElem_cons_zero, List.setIfInBounds_toArray, List.set_cons_zero, List.set_cons_succ]
      refine wpAnyH_take (i := 2) (v := ?_) rfl (by kernel_rfl) (by kernel_rfl) (by kernel_rfl) (fun _ _ _ h => h) (Or.inl ⟨by rfl, ?_⟩) HS0.out ?_
      rotate_left
      focus (intro w hS; have s0 := aCell hS.2 0 rfl; have s1 := aCell hS.2 1 rfl; clear hS; first | (go_simp; done) | (go_simp; with_reducible rfl))
      simp only [Act.put, List.getElem_toArray, List.getElem_cons_zero, List.getElem_cons_succ, List.setIfInBounds_toArray, List.set_cons_zero, List.set_cons_succ]
      refine wpAnyH_ready (rs := [1]) (by kernel_rfl) (by simp) ?_
      refine RdyH.cons rfl (fun K2 hK => ?_) RdyH.nil
      go_simp
      go_at_call 20
      refine (ofC_any _ _ (Hp.out.keep Hw0.out)).mono ?_
      rintro e wd1 ⟨a1, n1, k1, b1, m1, l1, rfl, ho, hb⟩
      have HS1 := Lib.hid (And.intro (Bx.keep HS0.out.1 hb) (Bx.keep HS0.out.2 hb))
      have Hw1 := Lib.hid (Below.tr Hw0.out hb)
      have HW1 := Lib.hid (Below.tr HW0.out hb)
      have HQ1 := Lib.hid ho.qr
      clear ho hb
      go_simp
      refine hK _ _ HS1.out ?_
      clear hK K2
      refine wpAnyH_ready (rs := [3]) (by kernel_rfl) (by simp) ?_
      refine RdyH.cons rfl (fun K2 hK => ?_) RdyH.nil
      go_simp
      go_at_call 20
      refine (ofC_any _ _ (Hq.out.keep Hw1.out)).mono ?_
      rintro e wd2 ⟨a2, n2, k2, b2, m2, l2, rfl, ho, hb⟩
      have HS2 := Lib.hid (And.intro (Bx.keep HS1.out.1 hb) (Bx.keep HS1.out.2 hb))
      have Hw2 := Lib.hid (Below.tr Hw1.out hb)
      have HW2 := Lib.hid (Below.tr HW1.out hb)
      have HQ2 := Lib.hid ho.qr
      have HQ1 := Lib.hid (HQ1.out.keep hb)
      clear ho hb
      go_simp
      refine hK _ _ HS2.out ?_
      clear hK K2
      refine wpAnyH_ready (rs := [4]) (by kernel_rfl) (by simp) ?_
      refine RdyH.cons rfl (fun K2 hK => ?_) RdyH.nil
      go_simp
      go_at_call 27
      refine (homC_any _ _ _ HQ1.out HQ2.out).mono ?_
      rintro e wd3 ⟨ua, un, uk, c2, rfl, hP, hb⟩
      have HS3 := Lib.hid (And.intro (Bx.keep HS2.out.1 hb) (Bx.keep HS2.out.2 hb))
      have HW3 := Lib.hid (Below.tr HW2.out hb)
      have HP := Lib.hid hP
      clear hP hb
      go_simp
      refine hK _ _ HS3.out ?_
      clear hK K2
      refine wpAnyH_take (i := 5) (v := ?_) rfl (by kernel_rfl) (by kernel_rfl) (by kernel_rfl) (fun _ _ _ h => h) (Or.inl ⟨by rfl, ?_⟩) HS3.out ?_
      rotate_left
      focus (intro w hS; clear hS; first | (go_simp; done) | (go_simp; with_reducible rfl))
      simp only [Act.put, List.getElem_toArray, List.getElem_cons_zero, List.getElem_cons_succ, List.setIfInBounds_toArray, List.set_cons_zero, List.set_cons_succ]
      refine wpAnyH_take (i := 6) (v := ?_) rfl (by kernel_rfl) (by kernel_rfl) (by kernel_rfl) (fun _ _ _ h => h) (Or.inl ⟨by rfl, ?_⟩) HS3.out ?_
      rotate_left
      focus (intro w hS; clear hS; first | (go_simp; done) | (go_simp; with_reducible rfl))
      simp only [Act.put, List.getElem_toArray, List.getElem_cons_zero, List.getElem_cons_succ, List.setIfInBounds_toArray, List.set_cons_zero, List.set_cons_succ]
      refine wpAnyH_take (i := 7) (v := ?_) rfl (by kernel_rfl) (by kernel_rfl) (by kernel_rfl) (fun _ _ _ h => h) (Or.inl ⟨by rfl, ?_⟩) HS3.out ?_
      rotate_left
      focus (intro w hS; clear hS; first | (go_simp; done) | (go_simp; with_reducible rfl))
      simp only [Act.put, List.getElem_toArray, List.getElem_cons_zero, List.getElem_cons_succ, List.setIfInBounds_toArray, List.set_cons_zero, List.set_cons_succ]
      refine wpAnyH_take (i := 8) (v := ?_) rfl (by kernel_rfl) (by kernel_rfl) (by kernel_rfl) (fun _ _ _ h => h) (Or.inl ⟨by rfl, ?_⟩) HS3.out ?_
      rotate_left
      focus (intro w hS; clear hS; first | (go_simp; done) | (go_simp; with_reducible rfl))
      simp only [Act.put, List.getElem_toArray, List.getElem_cons_zero, List.getElem_cons_succ, List.setIfInBounds_toArray, List.set_cons_zero, List.set_cons_succ]
      refine wpAnyH_take (i := 9) (v := ?_) rfl (by kernel_rfl) (by kernel_rfl) (by kernel_rfl) (fun _ _ _ h => h) (Or.inl ⟨by rfl, ?_⟩) HS3.out ?_
      rotate_left
      focus (intro w hS; clear hS; first | (go_simp; done) | (go_simp; with_reducible rfl))
      simp only [Act.put, List.getElem_toArray, List.getElem_cons_zero, List.getElem_cons_succ, List.setIfInBounds_toArray, List.set_cons_zero, List.set_cons_succ]
      refine wpAnyH_done (by kernel_rfl) ?_ _
      go_wp2_with fail
      go_meet
      exact ⟨ua, un, uk, c2, ⟨rfl, rfl⟩, ⟨_, HP.out⟩, HW3.out⟩
    case rest =>
      obtain ⟨ua, un, uk, c2, ⟨rfl, rfl⟩, hP, hb⟩ := hcut
      generalize wc = w4 at *
      have HB := Lib.hid (HB.out.keep hb)
      clear hb
      obtain ⟨z, hP⟩ := hP
      rcases HC1.out with ⟨hn, rfl, rfl⟩ | ⟨hpq, rfl, hB⟩
      · obtain rfl : c2 = 2 := by
          rcases hP with ⟨_, _, h⟩ | ⟨h, _⟩ | ⟨h, _⟩
          · exact h
          · exact absurd h hn
          · exact absurd h hn
        clear HC1 hn hP
        go_wp2_with fail
        refine (awake_any _).mono ?_
        rintro e w5 ⟨rfl, hb⟩
        have HB := Lib.hid (HB.out.keep hb)
        clear hb 
        go_wp2_with fail
        go_ret
        exact ⟨rfl, HB.out.b⟩
      · clear HC1
        have Hpq := Lib.hid hpq
        have HBi := Lib.hid hB
        clear hpq hB
        have HD := Lib.hid (show (c2 = 0 ∧ ∃ h, Ints w4 (.slice ua un uk) h ∧ HomP (ofQ p) (ofQ q) h ∧ (B = true → cmpL h H ≤ 0)) ∨ (c2 = 5 ∧ B = false) from by
          rcases hP with ⟨h1, _⟩ | ⟨_, h2, _, h3⟩ | ⟨_, h3, h, h5, h4⟩
          · exact absurd Hpq.out h1
          · refine .inr ⟨h3, ?_⟩
            cases B
            · rfl
            · exact absurd (isH_of Hpq.out.1 Hpq.out.2.1 (HBi.out.1 rfl)) (h2 H)
          · exact .inl ⟨h3, h, h5.ints, homP_of Hpq.out.1 Hpq.out.2.1 h4.1, fun k => h4.2 H (isH_of Hpq.out.1 Hpq.out.2.1 (HBi.out.1 k))⟩)
        clear hP
        rcases HD.out with ⟨rfl, h, hi, hh, hm⟩ | ⟨rfl, rfl⟩
        · have HU := Lib.hid hi
          have Hh := Lib.hid hh
          have Hm := Lib.hid hm
          clear hi hh hm HD
          go_upto_region 6 with fail
          try simp only [Act.put]
          go_cut [13, 14] (fun o13 o14 wc => ∃ B3 c3, (o13 = .bool B3 ∧ o14 = .int .i64 c3) ∧ (CheckC (ofQ p) (ofQ q) h B3 c3) ∧ Below w4.heap.size w4 wc)
          case first =>
            have HS0 := Lib.hid (show Bx w4.drew bp (.slice ha n0 hc) (.slice ba n1 bc) ∧ Bx w4.drew bq (.slice ha1 n2 hc1) (.slice ba1 n3 bc1) from ⟨HB.out.p, HB.out.q⟩)
            have Hw0 := Lib.hid (show Below w.heap.size w w4.drew from HB.out.b.drew)
            have HW0 := Lib.hid (show Below w4.heap.size w4 w4.drew from (Below.refl _ _).drew)
            refine wp_region_held (S := fun w' => Bx w' bp (.slice ha n0 hc) (.slice ba n1 bc) ∧ Bx w' bq (.slice ha1 n2 hc1) (.slice ba1 n3 bc1)) wideK ?_
            change wpAnyH _ _ _ _ _ _ _ _ (World.drew _)
            generalize w4.drew = wd0 at *
            refine wpAnyH_take (i := 0) (v := ?_) rfl (by kernel_rfl) (by kernel_rfl) (by kernel_rfl) (fun _ _ _ h => h) (Or.inl ⟨by rfl, ?_⟩) HS0.out ?_
            rotate_left
            focus (intro w hS; have s0 := aCell hS.1 0 rfl; have s1 := aCell hS.1 1 rfl; clear hS; first | (go_simp; done) | (go_simp; with_reducible rfl))
            simp only [Act.put, List.getElem_toArray, List.getElem_cons_zero, List.setIfInBounds_toArray, List.set_cons_zero, List.set_cons_succ]
            refine wpAnyH_take (i := 2) (v := ?_) rfl (by kernel_rfl) (by kernel_rfl) (by kernel_rfl) (fun _ _ _ h => h) (Or.inl ⟨by rfl, ?_⟩) HS0.out ?_
            rotate_left
            focus (intro w hS; have s0 := aCell hS.2 0 rfl; have s1 := aCell hS.2 1 rfl; clear hS; first | (go_simp; done) | (go_simp; with_reducible rfl))
            simp only [Act.put, List.getElem_toArray, List.getElem_cons_zero, List.getElem_cons_succ, List.setIfInBounds_toArray, List.set_cons_zero, List.set_cons_succ]
            refine wpAnyH_take (i := 4) (v := ?_) rfl (by kernel_rfl) (by kernel_rfl) (by kernel_rfl) (fun _ _ _ h => h) (Or.inl ⟨by rfl, ?_⟩) HS0.out ?_
            rotate_left
            focus (intro w hS; clear hS; first | (go_simp; done) | (go_simp; with_reducible rfl))
            simp only [Act.put, List.getElem_toArray, List.getElem_cons_zero, List.getElem_cons_succ, List.setIfInBounds_toArray, List.set_cons_zero, List.set_cons_succ]
            refine wpAnyH_ready (rs := [1]) (by kernel_rfl) (by simp) ?_
            refine RdyH.cons rfl (fun K2 hK => ?_) RdyH.nil
            go_simp
            go_at_call 20
            refine (ofC_any _ _ (Hp.out.keep Hw0.out)).mono ?_
            rintro e wd1 ⟨a1, n1, k1, b1, m1, l1, rfl, ho, hb⟩
            have HS1 := Lib.hid (And.intro (Bx.keep HS0.out.1 hb) (Bx.keep HS0.out.2 hb))
            have Hw1 := Lib.hid (Below.tr Hw0.out hb)
            have HW1 := Lib.hid (Below.tr HW0.out hb)
            have HQ1 := Lib.hid ho.qr
            clear ho hb
            go_simp
            refine hK _ _ HS1.out ?_
            clear hK K2
            refine wpAnyH_ready (rs := [3]) (by kernel_rfl) (by simp) ?_
            refine RdyH.cons rfl (fun K2 hK => ?_) RdyH.nil
            go_simp
            go_at_call 20
            refine (ofC_any _ _ (Hq.out.keep Hw1.out)).mono ?_
            rintro e wd2 ⟨a2, n2, k2, b2, m2, l2, rfl, ho, hb⟩
            have HS2 := Lib.hid (And.intro (Bx.keep HS1.out.1 hb) (Bx.keep HS1.out.2 hb))
            have Hw2 := Lib.hid (Below.tr Hw1.out hb)
            have HW2 := Lib.hid (Below.tr HW1.out hb)
            have HQ2 := Lib.hid ho.qr
            have HQ1 := Lib.hid (HQ1.out.keep hb)
            clear ho hb
            go_simp
            refine hK _ _ HS2.out ?_
            clear hK K2
            refine wpAnyH_ready (rs := [5]) (by kernel_rfl) (by simp) ?_
            refine RdyH.cons rfl (fun K2 hK => ?_) RdyH.nil
            go_simp
            go_at_call 29
            refine (checkHom_any _ _ _ _ _ HQ1.out HQ2.out (HU.out.keep HW2.out)).mono ?_
            rintro e wd3 ⟨B3, c3, rfl, hP, hb⟩
            have HS3 := Lib.hid (And.intro (Bx.keep HS2.out.1 hb) (Bx.keep HS2.out.2 hb))
            have HW3 := Lib.hid (Below.tr HW2.out hb)
            have HP := Lib.hid hP
            clear hP hb
            go_simp
            refine hK _ _ HS3.out ?_
            clear hK K2
            refine wpAnyH_take (i := 6) (v := ?_) rfl (by kernel_rfl) (by kernel_rfl) (by kernel_rfl) (fun _ _ _ h => h) (Or.inl ⟨by rfl, ?_⟩) HS3.out ?_
            rotate_left
            focus (intro w hS; clear hS; first | (go_simp; done) | (go_simp; with_reducible rfl))
            simp only [Act.put, List.getElem_toArray, List.getElem_cons_zero, List.getElem_cons_succ, List.setIfInBounds_toArray, List.set_cons_zero, List.set_cons_succ]
            refine wpAnyH_take (i := 7) (v := ?_) rfl (by kernel_rfl) (by kernel_rfl) (by kernel_rfl) (fun _ _ _ h => h) (Or.inl ⟨by rfl, ?_⟩) HS3.out ?_
            rotate_left
            focus (intro w hS; clear hS; first | (go_simp; done) | (go_simp; with_reducible rfl))
            simp only [Act.put, List.getElem_toArray, List.getElem_cons_zero, List.getElem_cons_succ, List.setIfInBounds_toArray, List.set_cons_zero, List.set_cons_succ]
            refine wpAnyH_take (i := 8) (v := ?_) rfl (by kernel_rfl) (by kernel_rfl) (by kernel_rfl) (fun _ _ _ h => h) (Or.inl ⟨by rfl, ?_⟩) HS3.out ?_
            rotate_left
            focus (intro w hS; clear hS; first | (go_simp; done) | (go_simp; with_reducible rfl))
            simp only [Act.put, List.getElem_toArray, List.getElem_cons_zero, List.getElem_cons_succ, List.setIfInBounds_toArray, List.set_cons_zero, List.set_cons_succ]
            refine wpAnyH_take (i := 9) (v := ?_) rfl (by kernel_rfl) (by kernel_rfl) (by kernel_rfl) (fun _ _ _ h => h) (Or.inl ⟨by rfl, ?_⟩) HS3.out ?_
            rotate_left
            focus (intro w hS; clear hS; first | (go_simp; done) | (go_simp; with_reducible rfl))
            simp only [Act.put, List.getElem_toArray, List.getElem_cons_zero, List.getElem_cons_succ, List.setIfInBounds_toArray, List.set_cons_zero, List.set_cons_succ]
            refine wpAnyH_take (i := 10) (v := ?_) rfl (by kernel_rfl) (by kernel_rfl) (by kernel_rfl) (fun _ _ _ h => h) (Or.inl ⟨by rfl, ?_⟩) HS3.out ?_
            rotate_left
            focus (intro w hS; clear hS; first | (go_simp; done) | (go_simp; with_reducible rfl))
            simp only [Act.put, List.getElem_toArray, List.getElem_cons_zero, List.getElem_cons_succ, List.setIfInBounds_toArray, List.set_cons_zero, List.set_cons_succ]
            refine wpAnyH_done (by kernel_rfl) ?_ _
            go_wp2_with fail
            go_meet
            exact ⟨B3, c3, ⟨rfl, rfl⟩, HP.out, HW3.out⟩
          case rest =>
            obtain ⟨B3, c3, ⟨rfl, rfl⟩, hP, hb⟩ := hcut
            generalize wc = w5 at *
            have HB := Lib.hid (HB.out.keep hb)
            have HU := Lib.hid (HU.out.keep hb)
            clear hb
            obtain ⟨rfl, rfl⟩ : B3 = true ∧ c3 = 0 := by
              rcases hP with ⟨h1, _⟩ | ⟨_, h2, h3⟩
              · exact absurd Hpq.out h1
              · exact ⟨h3.2 Hh.out, h2⟩
            clear hP
            cases B with
            | false =>
              clear HU
              go_wp2_with fail
              refine (awake_any _).mono ?_
              rintro e w6 ⟨rfl, hb⟩
              have HB := Lib.hid (HB.out.keep hb)
              clear hb 
              go_wp2_with fail
              go_ret
              exact ⟨rfl, HB.out.b⟩
            | true =>
              have HCm := Lib.hid (compare_any h H _ _ w5 HU.out (Hy.out.keep HB.out.b))
              have hcm := Hm.out (by first | rfl | trivial)
              obtain ⟨cc, hcc⟩ : ∃ x, x = cmpL h H := ⟨_, rfl⟩
              rw [← hcc] at HCm hcm
              have hgt : ¬ cc > 0 := by omega
              have Hhp := Lib.hid (HBi.out.1 (by first | rfl | trivial))
              clear hcc hcm HBi Hm
              go_wp2_with fail
              refine HCm.out.mono ?_
              rintro e w6 ⟨rfl, rfl⟩
              clear HU HCm
              obtain ⟨⟨g0, g1⟩, g2, g3⟩ := HB.out.cells
              go_wp2_with fail
              refine (ofC_any _ _ (Hq.out.keep HB.out.b)).mono ?_
              rintro e w7 ⟨a1, e1, k1, a2, e2, k2, rfl, ho, hb⟩
              have HB := Lib.hid (HB.out.keep hb)
              have HQ := Lib.hid ho.qr
              clear hb ho g0 g1 g2 g3
              go_wp2_with fail
              refine (facC_any _ _ (Hl.out.keep HB.out.b)).mono ?_
              rintro e w8 ⟨f1, f2, f3, rfl, ho, hb⟩
              have HB := Lib.hid (HB.out.keep hb)
              have HQ := Lib.hid (HQ.out.keep hb)
              have HF := Lib.hid ho.atoms
              clear hb ho
              go_wp2_with fail
              refine (resC_any _ _ _ HQ.out HF.out).mono ?_
              rintro e w9 ⟨ra1, rn1, rk1, c4, rfl, hR, hb⟩
              have HB := Lib.hid (HB.out.keep hb)
              have HQ := Lib.hid (HQ.out.keep hb)
              have HF := Lib.hid (HF.out.keep hb)
              have HR1 := Lib.hid hR
              clear hb hR HQ HF
              obtain ⟨⟨g0, g1⟩, g2, g3⟩ := HB.out.cells
              go_wp2_with fail
              refine (ofC_any _ _ (Hp.out.keep HB.out.b)).mono ?_
              rintro e w10 ⟨a1, e1, k1, a2, e2, k2, rfl, ho, hb⟩
              have HB := Lib.hid (HB.out.keep hb)
              have HR1 := Lib.hid (HR1.out.keep hb)
              have HQ := Lib.hid ho.qr
              clear hb ho g0 g1 g2 g3
              go_wp2_with fail
              refine (facC_any _ _ (Hl.out.keep HB.out.b)).mono ?_
              rintro e w11 ⟨f1, f2, f3, rfl, ho, hb⟩
              have HB := Lib.hid (HB.out.keep hb)
              have HR1 := Lib.hid (HR1.out.keep hb)
              have HQ := Lib.hid (HQ.out.keep hb)
              have HF := Lib.hid ho.atoms
              clear hb ho
              go_wp2_with fail
              refine (resC_any _ _ _ HQ.out HF.out).mono ?_
              rintro e w12 ⟨ra2, rn2, rk2, c5, rfl, hR, hb⟩
              have HB := Lib.hid (HB.out.keep hb)
              have HR1 := Lib.hid (HR1.out.keep hb)
              have HQ := Lib.hid (HQ.out.keep hb)
              have HF := Lib.hid (HF.out.keep hb)
              have HR2 := Lib.hid hR
              clear hb hR HQ HF
              obtain ⟨Ra, ra1_, ra2_, ra3_⟩ := HR1.out.rows
              obtain ⟨Rb, rb1_, rb2_, rb3_⟩ := HR2.out.rows
              have HRa := Lib.hid ra1_
              have HRb := Lib.hid rb1_
              have HIa := Lib.hid ra3_
              have HIb := Lib.hid rb3_
              clear HR1 HR2 ra1_ ra2_ ra3_ rb1_ rb2_ rb3_
              by_cases z4 : c4 = 0
              · subst z4
                by_cases z5 : c5 = 0
                · subst z5
                  have HSub := Lib.hid (show ∀ x, x ∈ Ra → x ∈ Rb from fun x hx => maps_sub Hpq.out Hhp.out (HIa.out rfl) (HIb.out rfl) hx)
                  clear HIa HIb
                  obtain ⟨a, b, off, cap, vs, hav, hle, hia, hvs, hcs, hrs⟩ := HRa.out.get
                  injection hav with e1 e2 e3
                  subst e1; subst e2; subst e3
                  have Hix := Lib.hid (run_ix (P := Try.prog) (t := 27) (a := ra1) (len := Ra.length) (cap := rk1) (b := b) (off := off) (s := 1) Try.underlying27 (by intro w; kernel_rfl) hia)
                  simp only [Nat.mul_one] at Hix
                  have Hc := Lib.hid (show ∀ i, i < Ra.length → w12.cell? ⟨b, off + i, none⟩ = some (vs.getD i (.bool false)) ∧ Ints w12 (vs.getD i (.bool false)) (Ra.getD i []) from fun i hi => by
                    rw [List.getD_eq_getElem?_getD, List.getElem?_eq_getElem (by omega : i < vs.length), List.getD_eq_getElem?_getD, List.getElem?_eq_getElem hi]
                    exact ⟨hcs i (by omega), hrs i hi (by omega)⟩)
                  clear hia hvs hcs hrs HRa
                  go_wp2_with fail
                  go_loopw [110] (fun vi wr => ∃ k : Nat, vi = .int .i64 k ∧ k ≤ Ra.length ∧ Below w12.heap.size w12 wr) (fun vi _ => Ra.length - (intOf vi).toNat)
                  case atStart => exact ⟨0, rfl, Nat.zero_le _, Below.refl _ _⟩
                  case round =>
                    obtain ⟨k, rfl, hk, hb⟩ := hrel
                    have Hb := Lib.hid hb
                    clear hb
                    have HB := Lib.hid (HB.out.keep Hb.out)
                    have HRb := Lib.hid (HRb.out.keep Hb.out)
                    by_cases hlt : k < Ra.length
                    · have hck := Below.keep Hb.out (Hc.out k hlt).1
                      have Hik := Lib.hid ((Hc.out k hlt).2.keep Hb.out)
                      have hixk := Hix.out k
                      have HM := Lib.hid (HSub.out (Ra.getD k []) (by rw [List.getD_eq_getElem?_getD, List.getElem?_eq_getElem hlt]; exact List.getElem_mem hlt))
                      obtain ⟨Y, hY⟩ : ∃ x, x = Ra.getD k [] := ⟨_, rfl⟩
                      rw [← hY] at Hik HM
                      obtain ⟨ya, yc, hys⟩ := ints_slice Hik.out
                      rw [hys] at hck Hik
                      obtain ⟨yn, hyn⟩ : ∃ x, x = Y.length := ⟨_, rfl⟩
                      rw [← hyn] at hck Hik
                      clear hys hY hyn
                      obtain ⟨wn, hwn⟩ : ∃ wn, wn = wr.alloc (.cells #[.slice ya yn yc] 22) := ⟨_, rfl⟩
                      have hb : Below wr.heap.size wr wn := by rw [hwn]; exact below_alloc _ _
                      have HK := Lib.hid (conP1_any Y Rb (.slice ya yn yc) (.slice ra2 rn2 rk2) wr.heap.size wn (aCell (show Cel wn wr.heap.size (.slice ya yn yc) from by rw [hwn]; exact heap_alloc_new _ _) 0 rfl) (Hik.out.keep hb) (HRb.out.keep hb) true (decide_eq_true HM.out))
                      have Hb2 := Lib.hid (Below.tr Hb.out hb)
                      have Hwn := Lib.hid hwn
                      clear hb hwn
                      go_upto_region 18 with fail
                      rw [← Hwn.out]
                      clear Hwn hck hixk
                      go_wp2_with fail
                      refine HK.out.mono ?_
                      rintro e w9 ⟨rfl, hb⟩
                      have Hb9 := Lib.hid (Below.tr Hb2.out hb)
                      clear hb
                      go_wp2_with fail
                      go_roundw
                      case rel => exact ⟨k + 1, by go_num, by omega, Hb9.out⟩
                      case measure => simp [intOf]; omega
                    · obtain rfl : k = Ra.length := by omega
                      go_wp2_with fail
                      refine (awake_any _).mono ?_
                      rintro e w21 ⟨rfl, hb⟩
                      have HB := Lib.hid (HB.out.keep hb)
                      clear hb 
                      go_wp2_with fail
                      go_ret
                      exact ⟨rfl, HB.out.b⟩
                · have q5 : (c5 != 0) = true := by rw [bne_iff_ne]; exact z5
                  go_wp2_with fail
                  refine (awake_any _).mono ?_
                  rintro e w13 ⟨rfl, hb⟩
                  have HB := Lib.hid (HB.out.keep hb)
                  have HRa := Lib.hid (HRa.out.keep hb)
                  have HRb := Lib.hid (HRb.out.keep hb)
                  clear hb 
                  go_wp2_with fail
                  go_ret
                  exact ⟨rfl, HB.out.b⟩
              · have q4 : (c4 != 0) = true := by rw [bne_iff_ne]; exact z4
                go_wp2_with fail
                refine (awake_any _).mono ?_
                rintro e w13 ⟨rfl, hb⟩
                have HB := Lib.hid (HB.out.keep hb)
                have HRa := Lib.hid (HRa.out.keep hb)
                have HRb := Lib.hid (HRb.out.keep hb)
                clear hb 
                go_wp2_with fail
                go_ret
                exact ⟨rfl, HB.out.b⟩
        · clear HD
          go_wp2_with fail
          refine (awake_any _).mono ?_
          rintro e w5 ⟨rfl, hb⟩
          have HB := Lib.hid (HB.out.keep hb)
          clear hb 
          go_wp2_with fail
          go_ret
          exact ⟨rfl, HB.out.b⟩
#print axioms maps_any
namespace matchMaps
open Go.ChangeShapes Go.WideShapes Go.ChangeAt
set_option maxRecDepth 100000 in
theorem lifted (os : Os) (started : os.Started) (H : Type) (enc : TypeId × Value → H) :
    ReturnsInHanded {} Try.checked os 15 .any (Rows.matchMapsSpec.pre6 enc Try.prog Try.f15 Rows.matchMapsRow.domain false) (Rows.matchMapsSpec.post enc Try.prog Try.f15 false true false false) := by
  refine returnsInHanded_of_change (C := Try.checked) Try.own started (by kernel_rfl) Try.func15
    (ChangeSpec.witness6 (enc := enc) (C := Try.checked) false ⟨#[], #[.agg #[.slice none 0 0, .slice none 0 0], .agg #[.slice none 0 0, .slice none 0 0], .slice none 0 0, .slice none 0 0], []⟩ 8 (by kernel_rfl) (by kernel_rfl) (by kernel_rfl) (by kernel_rfl)) ?_
  intro W base args ds gs before hval0 hW _ _
  have hval : ∀ (j : Nat) t v, Try.f15.params[j]? = some t → args[j]? = some v → Value.okWide Try.prog W .any base t v := hval0
  clear hval0
  obtain rfl : gs = [] := by obtain ⟨p, q, _, hV, _⟩ := hW; exact (trodVars_none hV).1
  have hW' := hW
  obtain ⟨p, q, hA0, hV, rfl, hfz, hnd⟩ := hW
  have hA : DataW.TrodAll enc Try.prog W 0 (fun _ => true) true Try.f15.params.toList args.toList ds p := hA0
  rw [Try.params15] at hA hval
  obtain ⟨v0, vs0, d0, ds0, p0, q0, hv0, hd0, hp0, h0, r0⟩ := trodAll_cons hA
  obtain ⟨v1, vs1, d1, ds1, p1, q1, hv1, hd1, hp1, h1, r1⟩ := trodAll_cons r0
  obtain ⟨v2, vs2, d2, ds2, p2, q2, hv2, hd2, hp2, h2, r2⟩ := trodAll_cons r1
  obtain ⟨v3, vs3, d3, ds3, p3, q3, hv3, hd3, hp3, h3, r3⟩ := trodAll_cons r2
  obtain ⟨hvn, hdn, hpn⟩ := trodAll_nil r3
  have ha : args = #[v0, v1, v2, v3] := by cases args; simp_all
  have hdd : ds = [d0, d1, d2, d3] := by simp_all
  rw [ha] at hval
  obtain ⟨a0, k0⟩ := qry_arg Try.underlying25 ⟨rfl, rfl⟩ ⟨rfl, rfl⟩ Try.underlying23 Try.underlying80 ⟨rfl, rfl⟩ ⟨rfl, rfl⟩ Try.underlying3 Try.underlying22 cellsI (by kernel_rfl) (by kernel_rfl) (by kernel_rfl) (by kernel_rfl) (hval 0 25 v0 rfl rfl) h0
  obtain ⟨a1, k1⟩ := qry_arg Try.underlying25 ⟨rfl, rfl⟩ ⟨rfl, rfl⟩ Try.underlying23 Try.underlying80 ⟨rfl, rfl⟩ ⟨rfl, rfl⟩ Try.underlying3 Try.underlying22 cellsI (by kernel_rfl) (by kernel_rfl) (by kernel_rfl) (by kernel_rfl) (hval 1 25 v1 rfl rfl) h1
  obtain ⟨a2, k2⟩ := ints_of_trod Try.underlying22 Try.underlying3 cellsI (okWide_slice Try.underlying22 (hval 2 22 v2 rfl rfl)) h2
  obtain ⟨a3, k3⟩ := atoms_of_trod Try.underlying26 Try.underlying77 ⟨rfl, rfl⟩ ⟨rfl, rfl⟩ Try.underlying3 Try.underlying22 cellsI (by kernel_rfl) (by kernel_rfl) (okWide_slice Try.underlying26 (hval 3 26 v3 rfl rfl)) h3
  have hw : Calls Try.prog 15 args W (fun e W' => e = .returned (.bool true) ∧ Below W.heap.size W W') := by
    rw [ha]; exact maps_any a0 a1 a2 a3 v0 v1 v2 v3 W k0 k1 k2 k3
  exact hw.mono fun e W' ⟨he, hb⟩ => ⟨_, he, law_post Try.laidOut hW' rfl rfl Try.underlying4 (by rw [hdd]; rfl)
    (by kernel_rfl) hb⟩

theorem holds : Rows.MatchMapsSaid :=
  OpenClaim.holds_of_wide 15 Try.f15 rfl rfl rfl rfl rfl rfl rfl ⟨rfl, rfl, rfl, rfl, rfl⟩ rfl rfl rfl rfl rfl (by kernel_rfl) Try.func15 (by kernel_rfl)
    (of_decide_eq_true (by kernel_rfl)) (by unfold Func.isWrapper; first | (rw [if_pos (by decide +kernel)]; kernel_rfl) | (rw [if_neg (by decide +kernel)]; exact ⟨rfl, rfl⟩))
    (fun os started H enc _ => lifted os started H enc)
end matchMaps
end Go.Proofs.Ytfplmdieeabgpaa
