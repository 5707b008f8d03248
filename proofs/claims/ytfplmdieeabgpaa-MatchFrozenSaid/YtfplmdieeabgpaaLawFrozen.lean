/- MatchFrozen: for every input the law returns true. -/
import Derived.Test.YtfplmdieeabgpaaLbx
import Derived.Test.YtfplmdieeabgpaaCtf
import Derived.Test.YtfplmdieeabgpaaFrh
import Derived.Test.YtfplmdieeabgpaaFrame
import Derived.Test.YtfplmdieeabgpaaRows
namespace Go.Proofs.Ytfplmdieeabgpaa
open Go.RowKit
/-- a box of a row -/
def Cel (w : World) (b : Nat) (x : Value) : Prop := w.heap[b]? = some (.cells #[x] 22 (0, 0))
theorem Cel.keep {w w' : World} {b : Nat} {x : Value} (h : Cel w b x) (hb : Below w.heap.size w w') : Cel w' b x := blk_keep2 h hb
theorem fs_frozen {p : HQ} (hp : QrV p) : FsV (p.2.map frA) := by
  refine ⟨by rw [List.length_map]; have := hp.1; omega, fun i hi => ?_⟩
  rw [List.length_map] at hi
  have e : (p.2.map frA).getD i (0, []) = frA (aR p.2 i, aA p.2 i) := by
    rw [List.getD_eq_getElem?_getD, List.getElem?_map, List.getElem?_eq_getElem hi, ← at_get hi]; rfl
  have h := hp.2.1 i hi
  unfold aR aA
  rw [e]
  refine ⟨h.1, by rw [show (frA (aR p.2 i, aA p.2 i)).2 = (aA p.2 i).map (numOf fz) from rfl, List.length_map]; exact h.2.1, fun x hx => ?_⟩
  obtain ⟨t, ht, rfl⟩ := List.mem_map.1 (show x ∈ (aA p.2 i).map (numOf fz) from hx)
  have hr := h.2.2 t ht
  obtain ⟨h1, h2⟩ := numOf_fz (t := t) hr
  by_cases c : 0 ≤ t
  · rw [h1 c]; omega
  · rw [h2 (by omega)]; omega
/-- is the frozen query's own result among the results -/
theorem frozen_mem {p q : HQ} (hpq : PairV p q) {R : List (List Int)} (hR : IsRes q (p.2.map frA) R) : p.1.map (10 + ·) ∈ R ↔ ∃ h, IsH q p h := by
  rw [hR.2]
  constructor
  · rintro ⟨v, hv, e⟩
    have hk := vok_of_maP (frA_ok hpq.2.1 hpq.1) hv
    exact ⟨trm v, v, hv, rfl, (frozen_iff hpq.1 hpq.2.1 hpq.2.2.symm hk).1 e⟩
  · rintro ⟨h, v, hv, rfl, ha⟩
    have hk := vok_of_maP (frA_ok hpq.2.1 hpq.1) hv
    exact ⟨v, hv, (frozen_iff hpq.1 hpq.2.1 hpq.2.2.symm hk).2 ha⟩
/-- what is contained has no result that the other one has not -/
theorem cont_sub {p q : HQ} (hpq : PairV p q) {h : List Int} (hh : IsH q p h) {l : List HAt} {R S : List (List Int)} (hR : IsRes p l R) (hS : IsRes q l S) {x : List Int} (hx : x ∈ R) : x ∈ S := by
  obtain ⟨v, hv, rfl⟩ := (hR.2 x).1 hx
  obtain ⟨v', h1, h2⟩ := hom_match hpq.1 hpq.2.1 hpq.2.2.symm (homP_of hpq.2.1 hpq.1 hh) hv
  exact (hS.2 _).2 ⟨v', h1, h2.symm⟩
set_option maxRecDepth 100000 in
set_option maxHeartbeats 16000000 in
theorem frozen_any (p q : HQ) (l : List HAt) (v u x : Value) (w : World) (hp : Qr w v p) (hq : Qr w u q) (hl : Atoms w x l) :
    Calls Try.prog 9 #[v, u, x] w fun e w' => e = .returned (.bool true) ∧ Below w.heap.size w w' := by
  obtain ⟨h0, b0, rfl, hh, hb⟩ := hp
  obtain ⟨h1, b1, rfl, hh1, hb1⟩ := hq
  have Hp := Lib.hid (show Qr w (.agg #[h0, b0]) p from ⟨_, _, rfl, hh, hb⟩)
  have Hq := Lib.hid (show Qr w (.agg #[h1, b1]) q from ⟨_, _, rfl, hh1, hb1⟩)
  obtain ⟨ha, hc, rfl⟩ := ints_slice hh
  obtain ⟨ba, bc, rfl⟩ := atoms_slice hb
  obtain ⟨ha1, hc1, rfl⟩ := ints_slice hh1
  obtain ⟨ba1, bc1, rfl⟩ := atoms_slice hb1
  obtain ⟨n0, hn0⟩ : ∃ x, x = p.1.length := ⟨_, rfl⟩
  obtain ⟨n1, hn1⟩ : ∃ x, x = p.2.length := ⟨_, rfl⟩
  obtain ⟨n2, hn2⟩ : ∃ x, x = q.1.length := ⟨_, rfl⟩
  obtain ⟨n3, hn3⟩ : ∃ x, x = q.2.length := ⟨_, rfl⟩
  rw [← hn0, ← hn1] at Hp
  rw [← hn2, ← hn3] at Hq
  rw [← hn0, ← hn1, ← hn2, ← hn3]
  obtain ⟨w1, hw1⟩ : ∃ x, x = w.alloc (.cells #[.slice ha n0 hc, .slice ba n1 bc] 25) := ⟨_, rfl⟩
  obtain ⟨w2, hw2⟩ : ∃ x, x = w1.alloc (.cells #[.slice ha1 n2 hc1, .slice ba1 n3 bc1] 25) := ⟨_, rfl⟩
  obtain ⟨bp, hbp⟩ : ∃ x, x = w.heap.size := ⟨_, rfl⟩
  obtain ⟨bq, hbq⟩ : ∃ x, x = bp + 1 := ⟨_, rfl⟩
  have HB := Lib.hid (B2.new hw1 hw2 hbp hbq)
  have Hw1 := Lib.hid hw1
  have Hw2 := Lib.hid hw2
  have Hbpe := Lib.hid hbp
  have Hbqe := Lib.hid hbq
  clear hh hb hh1 hb1 hw1 hw2 hbp hbq hn0 hn1 hn2 hn3
  obtain ⟨la, lc, rfl⟩ := atoms_slice hl
  obtain ⟨ln, hln⟩ : ∃ x, x = l.length := ⟨_, rfl⟩
  rw [← hln] at hl ⊢
  have Hl := Lib.hid hl
  clear hl hln
  go_enter Try.func9, Try.ntmps9
  go_upto_region 1 with fail
  rw [← Hw1.out, ← Hw2.out, ← Hbpe.out, ← Hbqe.out]
  clear Hw1 Hw2
  go_upto_region 1 with fail
  try simp only [Act.put]
  go_cut [7, 8] (fun o7 o8 wc => ∃ B c1, (o7 = .bool B ∧ o8 = .int .i64 c1) ∧ (ContC (ofQ p) (ofQ q) B c1) ∧ Below w2.heap.size w2 wc)
  case first =>
    have HS0 := Lib.hid (show Bx w2.drew bp (.slice ha n0 hc) (.slice ba n1 bc) ∧ Bx w2.drew bq (.slice ha1 n2 hc1) (.slice ba1 n3 bc1) from ⟨HB.out.p, HB.out.q⟩)
    have Hw0 := Lib.hid (show Below w.heap.size w w2.drew from HB.out.b.drew)
    have HW0 := Lib.hid (show Below w2.heap.size w2 w2.drew from (Below.refl _ _).drew)
    refine wp_region_held (S := fun w' => Bx w' bp (.slice ha n0 hc) (.slice ba n1 bc) ∧ Bx w' bq (.slice ha1 n2 hc1) (.slice ba1 n3 bc1)) wideK ?_
    change wpAnyH _ _ _ _ _ _ _ _ (World.drew _)
    generalize w2.drew = wd0 at *
    refine wpAnyH_take (i := 0) (v := ?_) rfl (by kernel_rfl) (by kernel_rfl) (by kernel_rfl) (fun _ _ _ h => h) (Or.inl ⟨by rfl, ?_⟩) HS0.out ?_
    rotate_left
    focus (intro w hS; have s0 := aCell hS.1 0 rfl; have s1 := aCell hS.1 1 rfl; clear hS; first | (go_simp; done) | (go_simp; with_reducible rfl))
    simp only [Act.put, List.getElem_toArray, List.getElem_cons_zero, List.setIfInBounds_toArray, List.set_cons_zero, List.set_cons_succ]
    refine wpAnyH_take (i := 2) (v := ?_) rfl (by kernel_rfl) (by kernel_rfl) (by kernel_rfl) (fun _ _ _ h => h) (Or.inl ⟨by rfl, ?_⟩) HS0.out ?_
    rotate_left
    focus (intro w hS; have s0 := aCell hS.2 0 rfl; have s1 := aCell hS.2 1 rfl; clear hS; first | (go_simp; done) | (go_simp; with_reducible rfl))
    simp only [Act.put, List.getElem_toArray, List.getElem_cons_zero, List.getElem_cons_succ, List.setIfInBounds_toArray, List.set_cons_zero, List.set_cons_succ]
    refine wpAnyH_ready (rs := [1]) (by kernel_rfl) (by simp) ?_
    refine RdyH.cons rfl (fun K2 hK => ?_) RdyH.nil
    go_simp
    go_at_call 20
    refine (ofC_any _ _ (Hp.out.keep Hw0.out)).mono ?_
    rintro e wd1 ⟨a1, n1, k1, b1, m1, l1, rfl, ho, hb⟩
    have HS1 := Lib.hid (And.intro (Bx.keep HS0.out.1 hb) (Bx.keep HS0.out.2 hb))
    have Hw1 := Lib.hid (Below.tr Hw0.out hb)
    have HW1 := Lib.hid (Below.tr HW0.out hb)
    have HQ1 := Lib.hid ho.qr
    clear ho hb
    go_simp
    refine hK _ _ HS1.out ?_
    clear hK K2
    refine wpAnyH_ready (rs := [3]) (by kernel_rfl) (by simp) ?_
    refine RdyH.cons rfl (fun K2 hK => ?_) RdyH.nil
    go_simp
    go_at_call 20
    refine (ofC_any _ _ (Hq.out.keep Hw1.out)).mono ?_
    rintro e wd2 ⟨a2, n2, k2, b2, m2, l2, rfl, ho, hb⟩
    have HS2 := Lib.hid (And.intro (Bx.keep HS1.out.1 hb) (Bx.keep HS1.out.2 hb))
    have Hw2 := Lib.hid (Below.tr Hw1.out hb)
    have HW2 := Lib.hid (Below.tr HW1.out hb)
    have HQ2 := Lib.hid ho.qr
    have HQ1 := Lib.hid (HQ1.out.keep hb)
    clear ho hb
    go_simp
    refine hK _ _ HS2.out ?_
    clear hK K2
    refine wpAnyH_ready (rs := [4]) (by kernel_rfl) (by simp) ?_
    refine RdyH.cons rfl (fun K2 hK => ?_) RdyH.nil
    go_simp
    go_at_call 32
    refine (contC_any _ _ _ HQ1.out HQ2.out).mono ?_
    rintro e wd3 ⟨B, c1, rfl, hP, hb⟩
    have HS3 := Lib.hid (And.intro (Bx.keep HS2.out.1 hb) (Bx.keep HS2.out.2 hb))
    have HW3 := Lib.hid (Below.tr HW2.out hb)
    have HP := Lib.hid hP
    clear hP hb
    go_simp
    refine hK _ _ HS3.out ?_
    clear hK K2
    refine wpAnyH_take (i := 5) (v := ?_) rfl (by kernel_rfl) (by kernel_rfl) (by kernel_rfl) (fun _ _ _ h => h) (Or.inl ⟨by rfl, ?_⟩) HS3.out ?_
    rotate_left
    focus (intro w hS; clear hS; first | (go_simp; done) | (go_simp; with_reducible rfl))
    simp only [Act.put, List.getElem_toArray, List.getElem_cons_zero, List.getElem_cons_succ, List.setIfInBounds_toArray, List.set_cons_zero, List.set_cons_succ]
    refine wpAnyH_take (i := 6) (v := ?_) rfl (by kernel_rfl) (by kernel_rfl) (by kernel_rfl) (fun _ _ _ h => h) (Or.inl ⟨by rfl, ?_⟩) HS3.out ?_
    rotate_left
    focus (intro w hS; clear hS; first | (go_simp; done) | (go_simp; with_reducible rfl))
    simp only [Act.put, List.getElem_toArray, List.getElem_cons_zero, List.getElem_cons_succ, List.setIfInBounds_toArray, List.set_cons_zero, List.set_cons_succ]
    refine wpAnyH_take (i := 7) (v := ?_) rfl (by kernel_rfl) (by kernel_rfl) (by kernel_rfl) (fun _ _ _ h => h) (Or.inl ⟨by rfl, ?_⟩) HS3.out ?_
    rotate_left
    focus (intro w hS; clear hS; first | (go_simp; done) | (go_simp; with_reducible rfl))
    simp only [Act.put, List.getElem_toArray, List.getElem_cons_zero, List.getElem_cons_succ, List.setIfInBounds_toArray, List.set_cons_zero, List.set_cons_succ]
    refine wpAnyH_take (i := 8) (v := ?_) rfl (by kernel_rfl) (by kernel_rfl) (by kernel_rfl) (fun _ _ _ h => h) (Or.inl ⟨by rfl, ?_⟩) HS3.out ?_
    rotate_left
    focus (intro w hS; clear hS; first | (go_simp; done) | (go_simp; with_reducible rfl))
    simp only [Act.put, List.getElem_toArray, List.getElem_cons_zero, List.getElem_cons_succ, List.setIfInBounds_toArray, List.set_cons_zero, List.set_cons_succ]
    refine wpAnyH_take (i := 9) (v := ?_) rfl (by kernel_rfl) (by kernel_rfl) (by kernel_rfl) (fun _ _ _ h => h) (Or.inl ⟨by rfl, ?_⟩) HS3.out ?_
    rotate_left
    focus (intro w hS; clear hS; first | (go_simp; done) | (go_simp; with_reducible rfl))
    simp only [Act.put, List.getElem_toArray, List.getElem_cons_zero, List.getElem_cons_succ, List.setIfInBounds_toArray, List.set_cons_zero, List.set_cons_succ]
    refine wpAnyH_done (by kernel_rfl) ?_ _
    go_wp2_with fail
    go_meet
    exact ⟨B, c1, ⟨rfl, rfl⟩, HP.out, HW3.out⟩
  case rest =>
    obtain ⟨B, c1, ⟨rfl, rfl⟩, hP, hb⟩ := hcut
    generalize wc = w3 at *
    have HB := Lib.hid (HB.out.keep hb)
    clear hb
    have HC := Lib.hid hP
    clear hP
    rcases HC.out with ⟨hn, rfl, rfl⟩ | ⟨hpq, rfl, hB⟩
    · clear HC hn
      go_wp2_with fail
      refine (awake_any _).mono ?_
      rintro e w4 ⟨rfl, hb⟩
      have HB := Lib.hid (HB.out.keep hb)
      clear hb 
      go_wp2_with fail
      go_ret
      exact ⟨rfl, HB.out.b⟩
    · clear HC
      have Hpq := Lib.hid hpq
      have HBi := Lib.hid hB
      clear hpq hB
      go_upto_region 4 with fail
      try simp only [Act.put]
      go_cut [9, 10] (fun o9 o10 wc => ∃ ua un uk c2, (o9 = .slice ua un uk ∧ o10 = .int .i64 c2) ∧ (∃ z, HomC (ofQ q) (ofQ p) z wc (.slice ua un uk) c2) ∧ Below w3.heap.size w3 wc)
      case first =>
        have HS0 := Lib.hid (show Bx w3.drew bp (.slice ha n0 hc) (.slice ba n1 bc) ∧ Bx w3.drew bq (.slice ha1 n2 hc1) (.slice ba1 n3 bc1) from ⟨HB.out.p, HB.out.q⟩)
        have Hw0 := Lib.hid (show Below w.heap.size w w3.drew from HB.out.b.drew)
        have HW0 := Lib.hid (show Below w3.heap.size w3 w3.drew from (Below.refl _ _).drew)
        refine wp_region_held (S := fun w' => Bx w' bp (.slice ha n0 hc) (.slice ba n1 bc) ∧ Bx w' bq (.slice ha1 n2 hc1) (.slice ba1 n3 bc1)) wideK ?_
        change wpAnyH _ _ _ _ _ _ _ _ (World.drew _)
        generalize w3.drew = wd0 at *
        refine wpAnyH_take (i := 0) (v := ?_) rfl (by kernel_rfl) (by kernel_rfl) (by kernel_rfl) (fun _ _ _ h => h) (Or.inl ⟨by rfl, ?_⟩) HS0.out ?_
        rotate_left
        focus (intro w hS; have s0 := aCell hS.2 0 rfl; have s1 := aCell hS.2 1 rfl; clear hS; first | (go_simp; done) | (go_simp; with_reducible rfl))
        simp only [Act.put, List.getElem_toArray, List.getElem_cons_zero, List.setIfInBounds_toArray, List.set_cons_zero, List.set_cons_succ]
        refine wpAnyH_take (i := 2) (v := ?_) rfl (by kernel_rfl) (by kernel_rfl) (by kernel_rfl) (fun _ _ _ h => h) (Or.inl ⟨by rfl, ?_⟩) HS0.out ?_
        rotate_left
        focus (intro w hS; have s0 := aCell hS.1 0 rfl; have s1 := aCell hS.1 1 rfl; clear hS; first | (go_simp; done) | (go_simp; with_reducible rfl))
        simp only [Act.put, List.getElem_toArray, List.getElem_cons_zero, List.getElem_cons_succ, List.setIfInBounds_toArray, List.set_cons_zero, List.set_cons_succ]
        refine wpAnyH_ready (rs := [1]) (by kernel_rfl) (by simp) ?_
        refine RdyH.cons rfl (fun K2 hK => ?_) RdyH.nil
        go_simp
        go_at_call 20
        refine (ofC_any _ _ (Hq.out.keep Hw0.out)).mono ?_
        rintro e wd1 ⟨a1, n1, k1, b1, m1, l1, rfl, ho, hb⟩
        have HS1 := Lib.hid (And.intro (Bx.keep HS0.out.1 hb) (Bx.keep HS0.out.2 hb))
        have Hw1 := Lib.hid (Below.tr Hw0.out hb)
        have HW1 := Lib.hid (Below.tr HW0.out hb)
        have HQ1 := Lib.hid ho.qr
        clear ho hb
        go_simp
        refine hK _ _ HS1.out ?_
        clear hK K2
        refine wpAnyH_ready (rs := [3]) (by kernel_rfl) (by simp) ?_
        refine RdyH.cons rfl (fun K2 hK => ?_) RdyH.nil
        go_simp
        go_at_call 20
        refine (ofC_any _ _ (Hp.out.keep Hw1.out)).mono ?_
        rintro e wd2 ⟨a2, n2, k2, b2, m2, l2, rfl, ho, hb⟩
        have HS2 := Lib.hid (And.intro (Bx.keep HS1.out.1 hb) (Bx.keep HS1.out.2 hb))
        have Hw2 := Lib.hid (Below.tr Hw1.out hb)
        have HW2 := Lib.hid (Below.tr HW1.out hb)
        have HQ2 := Lib.hid ho.qr
        have HQ1 := Lib.hid (HQ1.out.keep hb)
        clear ho hb
        go_simp
        refine hK _ _ HS2.out ?_
        clear hK K2
        refine wpAnyH_ready (rs := [4]) (by kernel_rfl) (by simp) ?_
        refine RdyH.cons rfl (fun K2 hK => ?_) RdyH.nil
        go_simp
        go_at_call 27
        refine (homC_any _ _ _ HQ1.out HQ2.out).mono ?_
        rintro e wd3 ⟨ua, un, uk, c2, rfl, hP, hb⟩
        have HS3 := Lib.hid (And.intro (Bx.keep HS2.out.1 hb) (Bx.keep HS2.out.2 hb))
        have HW3 := Lib.hid (Below.tr HW2.out hb)
        have HP := Lib.hid hP
        clear hP hb
        go_simp
        refine hK _ _ HS3.out ?_
        clear hK K2
        refine wpAnyH_take (i := 5) (v := ?_) rfl (by kernel_rfl) (by kernel_rfl) (by kernel_rfl) (fun _ _ _ h => h) (Or.inl ⟨by rfl, ?_⟩) HS3.out ?_
        rotate_left
        focus (intro w hS; clear hS; first | (go_simp; done) | (go_simp; with_reducible rfl))
        simp only [Act.put, List.getElem_toArray, List.getElem_cons_zero, List.getElem_cons_succ, List.setIfInBounds_toArray, List.set_cons_zero, List.set_cons_succ]
        refine wpAnyH_take (i := 6) (v := ?_) rfl (by kernel_rfl) (by kernel_rfl) (by kernel_rfl) (fun _ _ _ h => h) (Or.inl ⟨by rfl, ?_⟩) HS3.out ?_
        rotate_left
        focus (intro w hS; clear hS; first | (go_simp; done) | (go_simp; with_reducible rfl))
        simp only [Act.put, List.getElem_toArray, List.getElem_cons_zero, List.getElem_cons_succ, List.setIfInBounds_toArray, List.set_cons_zero, List.set_cons_succ]
        refine wpAnyH_take (i := 7) (v := ?_) rfl (by kernel_rfl) (by kernel_rfl) (by kernel_rfl) (fun _ _ _ h => h) (Or.inl ⟨by rfl, ?_⟩) HS3.out ?_
        rotate_left
        focus (intro w hS; clear hS; first | (go_simp; done) | (go_simp; with_reducible rfl))
        simp only [Act.put, List.getElem_toArray, List.getElem_cons_zero, List.getElem_cons_succ, List.setIfInBounds_toArray, List.set_cons_zero, List.set_cons_succ]
        refine wpAnyH_take (i := 8) (v := ?_) rfl (by kernel_rfl) (by kernel_rfl) (by kernel_rfl) (fun _ _ _ h => h) (Or.inl ⟨by rfl, ?_⟩) HS3.out ?_
        rotate_left
        focus (intro w hS; clear hS; first | (go_simp; done) | (go_simp; with_reducible rfl))
        simp only [Act.put, List.getElem_toArray, List.getElem_cons_zero, List.getElem_cons_succ, List.setIfInBounds_toArray, List.set_cons_zero, List.set_cons_succ]
        refine wpAnyH_take (i := 9) (v := ?_) rfl (by kernel_rfl) (by kernel_rfl) (by kernel_rfl) (fun _ _ _ h => h) (Or.inl ⟨by rfl, ?_⟩) HS3.out ?_
        rotate_left
        focus (intro w hS; clear hS; first | (go_simp; done) | (go_simp; with_reducible rfl))
        simp only [Act.put, List.getElem_toArray, List.getElem_cons_zero, List.getElem_cons_succ, List.setIfInBounds_toArray, List.set_cons_zero, List.set_cons_succ]
        refine wpAnyH_done (by kernel_rfl) ?_ _
        go_wp2_with fail
        go_meet
        exact ⟨ua, un, uk, c2, ⟨rfl, rfl⟩, ⟨_, HP.out⟩, HW3.out⟩
      case rest =>
        obtain ⟨ua, un, uk, c2, ⟨rfl, rfl⟩, hP, hb⟩ := hcut
        generalize wc = w4 at *
        have HB := Lib.hid (HB.out.keep hb)
        clear hb
        have HC2 := Lib.hid (show (B = true ∧ c2 = 0) ∨ (B = false ∧ c2 = 5) from by
          obtain ⟨z, hz⟩ := hP
          rcases hz with ⟨h1, _⟩ | ⟨_, h2, _, h3⟩ | ⟨_, h3, h, _, h4⟩
          · exact absurd ⟨Hpq.out.2.1, Hpq.out.1, Hpq.out.2.2.symm⟩ h1
          · cases B
            · exact .inr ⟨rfl, h3⟩
            · obtain ⟨h, k⟩ := HBi.out.1 (by first | rfl | trivial); exact absurd k (h2 h)
          · exact .inl ⟨HBi.out.2 ⟨h, h4.1⟩, h3⟩)
        clear hP
        obtain ⟨⟨g0, g1⟩, g2, g3⟩ := HB.out.cells
        go_wp2_with fail
        refine (ofC_any _ _ (Hp.out.keep HB.out.b)).mono ?_
        rintro e w5 ⟨a1, e1, k1, a2, e2, k2, rfl, ho, hb⟩
        have HB := Lib.hid (HB.out.keep hb)
        have HQ := Lib.hid ho.qr
        clear hb ho g0 g1 g2 g3
        go_wp2_with fail
        refine (freezeE_any Hpq.out.1 _ _ HQ.out).mono ?_
        rintro e w6 ⟨fu, fx, rfl, ho, hx, hb⟩
        have HB := Lib.hid (HB.out.keep hb)
        have HQ := Lib.hid (HQ.out.keep hb)
        obtain ⟨fa, fk, rfl⟩ := Atoms.own ho
        obtain ⟨fn, hfn⟩ : ∃ x, x = ((ofQ p).2.map frA).length := ⟨_, rfl⟩
        rw [← hfn] at ho ⊢
        have HF := Lib.hid ho.atoms
        obtain ⟨xa, xn, xk, rfl⟩ := own_slice hx
        have HX := Lib.hid hx.ints
        clear hb ho hx hfn
        clear HQ
        obtain ⟨wn, hwn⟩ : ∃ wn, wn = w6.alloc (.cells #[.slice xa xn xk] 22) := ⟨_, rfl⟩
        obtain ⟨bx, hbx⟩ : ∃ x, x = w6.heap.size := ⟨_, rfl⟩
        have hb : Below w6.heap.size w6 wn := by rw [hwn]; exact below_alloc _ _
        have HXc := Lib.hid (show Cel wn bx (.slice xa xn xk) from by rw [hwn, hbx]; exact heap_alloc_new _ _)
        have HB := Lib.hid (HB.out.keep hb)
        have HF := Lib.hid (HF.out.keep hb)
        have HX := Lib.hid (HX.out.keep hb)
        have Hwn := Lib.hid hwn
        have Hbx := Lib.hid hbx
        clear hb hwn hbx
        go_upto_region 6 with fail
        rw [← Hwn.out, ← Hbx.out]
        clear Hwn Hbx
        generalize wn = w7 at *
        obtain ⟨⟨g0, g1⟩, g2, g3⟩ := HB.out.cells
        go_wp2_with fail
        refine (ofC_any _ _ (Hq.out.keep HB.out.b)).mono ?_
        rintro e w8 ⟨a1, e1, k1, a2, e2, k2, rfl, ho, hb⟩
        have HB := Lib.hid (HB.out.keep hb)
        have HF := Lib.hid (HF.out.keep hb)
        have HX := Lib.hid (HX.out.keep hb)
        have HXc := Lib.hid (HXc.out.keep hb)
        have HQ := Lib.hid ho.qr
        clear hb ho g0 g1 g2 g3
        go_wp2_with fail
        refine (resC_any _ _ _ HQ.out HF.out).mono ?_
        rintro e w9 ⟨ra, rn, rk, c3, rfl, hR, hb⟩
        have HB := Lib.hid (HB.out.keep hb)
        have HF := Lib.hid (HF.out.keep hb)
        have HX := Lib.hid (HX.out.keep hb)
        have HXc := Lib.hid (HXc.out.keep hb)
        have HQ := Lib.hid (HQ.out.keep hb)
        have HR0 := Lib.hid (show c3 = 0 ∧ ∃ R, Rows w9 (.slice ra rn rk) R ∧ IsRes (ofQ q) ((ofQ p).2.map frA) R from by
          rcases hR with ⟨h, _⟩ | ⟨_, _, h, _⟩ | ⟨_, _, _, h1, R, h2, h3⟩
          · exact absurd ⟨Hpq.out.2.1, fs_frozen Hpq.out.1⟩ h
          · exact absurd h (hom_notBig Hpq.out.2.1 Hpq.out.1)
          · exact ⟨h1, R, h2.rows, h3⟩)
        clear hb hR
        obtain ⟨rfl, R, hR, hI⟩ := HR0.out
        have HR := Lib.hid hR
        have HI := Lib.hid hI
        clear hR hI HR0 HQ HF
        have HBm := Lib.hid (show decide ((ofQ p).1.map (10 + ·) ∈ R) = B from by
          have h := (frozen_mem Hpq.out HI.out).trans HBi.out.symm
          cases B
          · exact decide_eq_false fun k => by cases h.1 k
          · exact decide_eq_true (h.2 rfl))
        rcases HC2.out with ⟨rfl, rfl⟩ | ⟨rfl, rfl⟩
        · clear HC2
          have hXc := aCell HXc.out 0 rfl
          go_wp2_with fail
          refine (conF1_any _ R _ _ bx _ hXc HX.out HR.out true HBm.out).mono ?_
          rintro e w10 ⟨rfl, hb⟩
          have HB := Lib.hid (HB.out.keep hb)
          have HX := Lib.hid (HX.out.keep hb)
          have HXc := Lib.hid (HXc.out.keep hb)
          have HR := Lib.hid (HR.out.keep hb)
          clear hb hXc
          clear HX HXc HR HBm HI
          obtain ⟨⟨g0, g1⟩, g2, g3⟩ := HB.out.cells
          go_wp2_with fail
          refine (ofC_any _ _ (Hp.out.keep HB.out.b)).mono ?_
          rintro e w11 ⟨a1, e1, k1, a2, e2, k2, rfl, ho, hb⟩
          have HB := Lib.hid (HB.out.keep hb)
          have HQ := Lib.hid ho.qr
          clear hb ho g0 g1 g2 g3
          go_wp2_with fail
          refine (facC_any _ _ (Hl.out.keep HB.out.b)).mono ?_
          rintro e w12 ⟨f1, f2, f3, rfl, ho, hb⟩
          have HB := Lib.hid (HB.out.keep hb)
          have HQ := Lib.hid (HQ.out.keep hb)
          have HF := Lib.hid ho.atoms
          clear hb ho
          go_wp2_with fail
          refine (resC_any _ _ _ HQ.out HF.out).mono ?_
          rintro e w13 ⟨ra1, rn1, rk1, c4, rfl, hR, hb⟩
          have HB := Lib.hid (HB.out.keep hb)
          have HQ := Lib.hid (HQ.out.keep hb)
          have HF := Lib.hid (HF.out.keep hb)
          have HR1 := Lib.hid hR
          clear hb hR HQ HF
          obtain ⟨⟨g0, g1⟩, g2, g3⟩ := HB.out.cells
          go_wp2_with fail
          refine (ofC_any _ _ (Hq.out.keep HB.out.b)).mono ?_
          rintro e w14 ⟨a1, e1, k1, a2, e2, k2, rfl, ho, hb⟩
          have HB := Lib.hid (HB.out.keep hb)
          have HR1 := Lib.hid (HR1.out.keep hb)
          have HQ := Lib.hid ho.qr
          clear hb ho g0 g1 g2 g3
          go_wp2_with fail
          refine (facC_any _ _ (Hl.out.keep HB.out.b)).mono ?_
          rintro e w15 ⟨f1, f2, f3, rfl, ho, hb⟩
          have HB := Lib.hid (HB.out.keep hb)
          have HR1 := Lib.hid (HR1.out.keep hb)
          have HQ := Lib.hid (HQ.out.keep hb)
          have HF := Lib.hid ho.atoms
          clear hb ho
          go_wp2_with fail
          refine (resC_any _ _ _ HQ.out HF.out).mono ?_
          rintro e w16 ⟨ra2, rn2, rk2, c5, rfl, hR, hb⟩
          have HB := Lib.hid (HB.out.keep hb)
          have HR1 := Lib.hid (HR1.out.keep hb)
          have HQ := Lib.hid (HQ.out.keep hb)
          have HF := Lib.hid (HF.out.keep hb)
          have HR2 := Lib.hid hR
          clear hb hR HQ HF
          obtain ⟨Ra, ra1, ra2, ra3⟩ := HR1.out.rows
          obtain ⟨Rb, rb1, rb2, rb3⟩ := HR2.out.rows
          have HRa := Lib.hid ra1
          have HRb := Lib.hid rb1
          have HIa := Lib.hid ra3
          have HIb := Lib.hid rb3
          clear HR1 HR2 ra1 ra2 ra3 rb1 rb2 rb3
          by_cases z4 : c4 = 0
          · subst z4
            by_cases z5 : c5 = 0
            · subst z5
              have HSub := Lib.hid (show ∀ x, x ∈ Ra → x ∈ Rb from fun x hx => by
                obtain ⟨h, k⟩ := HBi.out.1 (by first | rfl | trivial)
                exact cont_sub Hpq.out k (HIa.out rfl) (HIb.out rfl) hx)
              clear HIa HIb
              obtain ⟨a, b, off, cap, vs, hav, hle, hia, hvs, hcs, hrs⟩ := HRa.out.get
              injection hav with e1 e2 e3
              subst e1; subst e2; subst e3
              have Hix := Lib.hid (run_ix (P := Try.prog) (t := 27) (a := ra1) (len := Ra.length) (cap := rk1) (b := b) (off := off) (s := 1) Try.underlying27 (by intro w; kernel_rfl) hia)
              simp only [Nat.mul_one] at Hix
              have Hc := Lib.hid (show ∀ i, i < Ra.length → w16.cell? ⟨b, off + i, none⟩ = some (vs.getD i (.bool false)) ∧ Ints w16 (vs.getD i (.bool false)) (Ra.getD i []) from fun i hi => by
                rw [List.getD_eq_getElem?_getD, List.getElem?_eq_getElem (by omega : i < vs.length), List.getD_eq_getElem?_getD, List.getElem?_eq_getElem hi]
                exact ⟨hcs i (by omega), hrs i hi (by omega)⟩)
              clear hia hvs hcs hrs HRa
              go_wp2_with fail
              go_loopw [111] (fun vi wr => ∃ k : Nat, vi = .int .i64 k ∧ k ≤ Ra.length ∧ Below w16.heap.size w16 wr) (fun vi _ => Ra.length - (intOf vi).toNat)
              case atStart => exact ⟨0, rfl, Nat.zero_le _, Below.refl _ _⟩
              case round =>
                obtain ⟨k, rfl, hk, hb⟩ := hrel
                have Hb := Lib.hid hb
                clear hb
                have HB := Lib.hid (HB.out.keep Hb.out)
                have HRb := Lib.hid (HRb.out.keep Hb.out)
                by_cases hlt : k < Ra.length
                · have hck := Below.keep Hb.out (Hc.out k hlt).1
                  have Hik := Lib.hid ((Hc.out k hlt).2.keep Hb.out)
                  have hixk := Hix.out k
                  have HM := Lib.hid (HSub.out (Ra.getD k []) (by rw [List.getD_eq_getElem?_getD, List.getElem?_eq_getElem hlt]; exact List.getElem_mem hlt))
                  obtain ⟨Y, hY⟩ : ∃ x, x = Ra.getD k [] := ⟨_, rfl⟩
                  rw [← hY] at Hik HM
                  obtain ⟨ya, yc, hys⟩ := ints_slice Hik.out
                  rw [hys] at hck Hik
                  obtain ⟨yn, hyn⟩ : ∃ x, x = Y.length := ⟨_, rfl⟩
                  rw [← hyn] at hck Hik
                  clear hys hY hyn
                  obtain ⟨wn, hwn⟩ : ∃ wn, wn = wr.alloc (.cells #[.slice ya yn yc] 22) := ⟨_, rfl⟩
                  have hb : Below wr.heap.size wr wn := by rw [hwn]; exact below_alloc _ _
                  have HK := Lib.hid (conF2_any Y Rb (.slice ya yn yc) (.slice ra2 rn2 rk2) wr.heap.size wn (aCell (show Cel wn wr.heap.size (.slice ya yn yc) from by rw [hwn]; exact heap_alloc_new _ _) 0 rfl) (Hik.out.keep hb) (HRb.out.keep hb) true (decide_eq_true HM.out))
                  have Hb2 := Lib.hid (Below.tr Hb.out hb)
                  have Hwn := Lib.hid hwn
                  clear hb hwn
                  go_upto_region 18 with fail
                  rw [← Hwn.out]
                  clear Hwn hck hixk
                  go_wp2_with fail
                  refine HK.out.mono ?_
                  rintro e w9 ⟨rfl, hb⟩
                  have Hb9 := Lib.hid (Below.tr Hb2.out hb)
                  clear hb
                  go_wp2_with fail
                  go_roundw
                  case rel => exact ⟨k + 1, by go_num, by omega, Hb9.out⟩
                  case measure => simp [intOf]; omega
                · obtain rfl : k = Ra.length := by omega
                  go_wp2_with fail
                  refine (awake_any _).mono ?_
                  rintro e w21 ⟨rfl, hb⟩
                  have HB := Lib.hid (HB.out.keep hb)
                  clear hb 
                  go_wp2_with fail
                  go_ret
                  exact ⟨rfl, HB.out.b⟩
            · have q5 : (c5 != 0) = true := by rw [bne_iff_ne]; exact z5
              go_wp2_with fail
              refine (awake_any _).mono ?_
              rintro e w17 ⟨rfl, hb⟩
              have HB := Lib.hid (HB.out.keep hb)
              have HRa := Lib.hid (HRa.out.keep hb)
              have HRb := Lib.hid (HRb.out.keep hb)
              clear hb 
              go_wp2_with fail
              go_ret
              exact ⟨rfl, HB.out.b⟩
          · have q4 : (c4 != 0) = true := by rw [bne_iff_ne]; exact z4
            go_wp2_with fail
            refine (awake_any _).mono ?_
            rintro e w17 ⟨rfl, hb⟩
            have HB := Lib.hid (HB.out.keep hb)
            have HRa := Lib.hid (HRa.out.keep hb)
            have HRb := Lib.hid (HRb.out.keep hb)
            clear hb 
            go_wp2_with fail
            go_ret
            exact ⟨rfl, HB.out.b⟩
        · clear HC2
          have hXc := aCell HXc.out 0 rfl
          go_wp2_with fail
          refine (conF1_any _ R _ _ bx _ hXc HX.out HR.out false HBm.out).mono ?_
          rintro e w10 ⟨rfl, hb⟩
          have HB := Lib.hid (HB.out.keep hb)
          have HX := Lib.hid (HX.out.keep hb)
          have HXc := Lib.hid (HXc.out.keep hb)
          have HR := Lib.hid (HR.out.keep hb)
          clear hb hXc
          clear HX HXc HR HBm HI
          obtain ⟨⟨g0, g1⟩, g2, g3⟩ := HB.out.cells
          go_wp2_with fail
          refine (ofC_any _ _ (Hp.out.keep HB.out.b)).mono ?_
          rintro e w11 ⟨a1, e1, k1, a2, e2, k2, rfl, ho, hb⟩
          have HB := Lib.hid (HB.out.keep hb)
          have HQ := Lib.hid ho.qr
          clear hb ho g0 g1 g2 g3
          go_wp2_with fail
          refine (facC_any _ _ (Hl.out.keep HB.out.b)).mono ?_
          rintro e w12 ⟨f1, f2, f3, rfl, ho, hb⟩
          have HB := Lib.hid (HB.out.keep hb)
          have HQ := Lib.hid (HQ.out.keep hb)
          have HF := Lib.hid ho.atoms
          clear hb ho
          go_wp2_with fail
          refine (resC_any _ _ _ HQ.out HF.out).mono ?_
          rintro e w13 ⟨ra1, rn1, rk1, c4, rfl, hR, hb⟩
          have HB := Lib.hid (HB.out.keep hb)
          have HQ := Lib.hid (HQ.out.keep hb)
          have HF := Lib.hid (HF.out.keep hb)
          have HR1 := Lib.hid hR
          clear hb hR HQ HF
          obtain ⟨⟨g0, g1⟩, g2, g3⟩ := HB.out.cells
          go_wp2_with fail
          refine (ofC_any _ _ (Hq.out.keep HB.out.b)).mono ?_
          rintro e w14 ⟨a1, e1, k1, a2, e2, k2, rfl, ho, hb⟩
          have HB := Lib.hid (HB.out.keep hb)
          have HR1 := Lib.hid (HR1.out.keep hb)
          have HQ := Lib.hid ho.qr
          clear hb ho g0 g1 g2 g3
          go_wp2_with fail
          refine (facC_any _ _ (Hl.out.keep HB.out.b)).mono ?_
          rintro e w15 ⟨f1, f2, f3, rfl, ho, hb⟩
          have HB := Lib.hid (HB.out.keep hb)
          have HR1 := Lib.hid (HR1.out.keep hb)
          have HQ := Lib.hid (HQ.out.keep hb)
          have HF := Lib.hid ho.atoms
          clear hb ho
          go_wp2_with fail
          refine (resC_any _ _ _ HQ.out HF.out).mono ?_
          rintro e w16 ⟨ra2, rn2, rk2, c5, rfl, hR, hb⟩
          have HB := Lib.hid (HB.out.keep hb)
          have HR1 := Lib.hid (HR1.out.keep hb)
          have HQ := Lib.hid (HQ.out.keep hb)
          have HF := Lib.hid (HF.out.keep hb)
          have HR2 := Lib.hid hR
          clear hb hR HQ HF
          go_wp2_with fail
          refine (awake_any _).mono ?_
          rintro e w17 ⟨rfl, hb⟩
          have HB := Lib.hid (HB.out.keep hb)
          have HR1 := Lib.hid (HR1.out.keep hb)
          have HR2 := Lib.hid (HR2.out.keep hb)
          clear hb 
          go_wp2_with fail
          go_ret
          exact ⟨rfl, HB.out.b⟩
#print axioms frozen_any
namespace matchFrozen
open Go.ChangeShapes Go.WideShapes Go.ChangeAt
set_option maxRecDepth 100000 in
theorem lifted (os : Os) (started : os.Started) (H : Type) (enc : TypeId × Value → H) :
    ReturnsInHanded {} Try.checked os 9 .any (Rows.matchFrozenSpec.pre6 enc Try.prog Try.f9 Rows.matchFrozenRow.domain false) (Rows.matchFrozenSpec.post enc Try.prog Try.f9 false true false false) := by
  refine returnsInHanded_of_change (C := Try.checked) Try.own started (by kernel_rfl) Try.func9
    (ChangeSpec.witness6 (enc := enc) (C := Try.checked) false ⟨#[], #[.agg #[.slice none 0 0, .slice none 0 0], .agg #[.slice none 0 0, .slice none 0 0], .slice none 0 0], []⟩ 8 (by kernel_rfl) (by kernel_rfl) (by kernel_rfl) (by kernel_rfl)) ?_
  intro W base args ds gs before hval0 hW _ _
  have hval : ∀ (j : Nat) t v, Try.f9.params[j]? = some t → args[j]? = some v → Value.okWide Try.prog W .any base t v := hval0
  clear hval0
  obtain rfl : gs = [] := by obtain ⟨p, q, _, hV, _⟩ := hW; exact (trodVars_none hV).1
  have hW' := hW
  obtain ⟨p, q, hA0, hV, rfl, hfz, hnd⟩ := hW
  have hA : DataW.TrodAll enc Try.prog W 0 (fun _ => true) true Try.f9.params.toList args.toList ds p := hA0
  rw [Try.params9] at hA hval
  obtain ⟨v0, vs0, d0, ds0, p0, q0, hv0, hd0, hp0, h0, r0⟩ := trodAll_cons hA
  obtain ⟨v1, vs1, d1, ds1, p1, q1, hv1, hd1, hp1, h1, r1⟩ := trodAll_cons r0
  obtain ⟨v2, vs2, d2, ds2, p2, q2, hv2, hd2, hp2, h2, r2⟩ := trodAll_cons r1
  obtain ⟨hvn, hdn, hpn⟩ := trodAll_nil r2
  have ha : args = #[v0, v1, v2] := by cases args; simp_all
  have hdd : ds = [d0, d1, d2] := by simp_all
  rw [ha] at hval
  obtain ⟨a0, k0⟩ := qry_arg Try.underlying25 ⟨rfl, rfl⟩ ⟨rfl, rfl⟩ Try.underlying23 Try.underlying80 ⟨rfl, rfl⟩ ⟨rfl, rfl⟩ Try.underlying3 Try.underlying22 cellsI (by kernel_rfl) (by kernel_rfl) (by kernel_rfl) (by kernel_rfl) (hval 0 25 v0 rfl rfl) h0
  obtain ⟨a1, k1⟩ := qry_arg Try.underlying25 ⟨rfl, rfl⟩ ⟨rfl, rfl⟩ Try.underlying23 Try.underlying80 ⟨rfl, rfl⟩ ⟨rfl, rfl⟩ Try.underlying3 Try.underlying22 cellsI (by kernel_rfl) (by kernel_rfl) (by kernel_rfl) (by kernel_rfl) (hval 1 25 v1 rfl rfl) h1
  obtain ⟨a2, k2⟩ := atoms_of_trod Try.underlying26 Try.underlying77 ⟨rfl, rfl⟩ ⟨rfl, rfl⟩ Try.underlying3 Try.underlying22 cellsI (by kernel_rfl) (by kernel_rfl) (okWide_slice Try.underlying26 (hval 2 26 v2 rfl rfl)) h2
  have hw : Calls Try.prog 9 args W (fun e W' => e = .returned (.bool true) ∧ Below W.heap.size W W') := by
    rw [ha]; exact frozen_any a0 a1 a2 v0 v1 v2 W k0 k1 k2
  exact hw.mono fun e W' ⟨he, hb⟩ => ⟨_, he, law_post Try.laidOut hW' rfl rfl Try.underlying4 (by rw [hdd]; rfl)
    (by kernel_rfl) hb⟩

theorem holds : Rows.MatchFrozenSaid :=
  OpenClaim.holds_of_wide 9 Try.f9 rfl rfl rfl rfl rfl rfl rfl ⟨rfl, rfl, rfl, rfl, rfl⟩ rfl rfl rfl rfl rfl (by kernel_rfl) Try.func9 (by kernel_rfl)
    (of_decide_eq_true (by kernel_rfl)) (by unfold Func.isWrapper; first | (rw [if_pos (by decide +kernel)]; kernel_rfl) | (rw [if_neg (by decide +kernel)]; exact ⟨rfl, rfl⟩))
    (fun os started H enc _ => lifted os started H enc)
end matchFrozen
end Go.Proofs.Ytfplmdieeabgpaa
