/- MatchChains: for every input the law returns true. -/
import Derived.Test.YtfplmdieeabgpaaLbx
import Derived.Test.YtfplmdieeabgpaaChk
import Derived.Test.YtfplmdieeabgpaaFrame
import Derived.Test.YtfplmdieeabgpaaRows
namespace Go.Proofs.Ytfplmdieeabgpaa
open Go.RowKit
structure B3 (w wr : World) (bp bq br : Nat) (x0 x1 y0 y1 z0 z1 : Value) : Prop where
  b : Below w.heap.size w wr
  p : Bx wr bp x0 x1
  q : Bx wr bq y0 y1
  r : Bx wr br z0 z1
theorem B3.keep {w wr w' : World} {bp bq br : Nat} {x0 x1 y0 y1 z0 z1 : Value} (h : B3 w wr bp bq br x0 x1 y0 y1 z0 z1) (hb : Below wr.heap.size wr w') : B3 w w' bp bq br x0 x1 y0 y1 z0 z1 :=
  ⟨Below.tr h.b hb, h.p.keep hb, h.q.keep hb, h.r.keep hb⟩
theorem B3.new {w w1 w2 w3 : World} {x0 x1 y0 y1 z0 z1 : Value} (h1 : w1 = w.alloc (.cells #[x0, x1] 25)) (h2 : w2 = w1.alloc (.cells #[y0, y1] 25)) (h3 : w3 = w2.alloc (.cells #[z0, z1] 25)) {bp bq br : Nat} (hp : bp = w.heap.size) (hq : bq = bp + 1) (hr : br = bq + 1) : B3 w w3 bp bq br x0 x1 y0 y1 z0 z1 := by
  have k3 : Below w2.heap.size w2 w3 := by rw [h3]; exact below_alloc _ _
  have h := (B2.new h1 h2 hp hq).keep k3
  refine ⟨h.b, h.p, h.q, ?_⟩
  have z : w2.heap.size = w.heap.size + 2 := by rw [h2, h1]; simp
  rw [show br = w2.heap.size by omega, h3]; exact heap_alloc_new w2 _
theorem B3.set {w wr : World} {bp bq br : Nat} {x0 x1 y0 y1 z0 z1 : Value} (h : B3 w wr bp bq br x0 x1 y0 y1 z0 z1) {g : Nat} (hg : w.heap.size ≤ g ∧ bp < g ∧ bq < g ∧ br < g) (k : Nat) (v : Value) : B3 w (wr.setCell ⟨g, k, none⟩ v) bp bq br x0 x1 y0 y1 z0 z1 :=
  ⟨h.b.setCell hg.1 _, (heap_setCell_other wr ⟨g, k, none⟩ bp _ (by show bp ≠ g; omega)).trans h.p, (heap_setCell_other wr ⟨g, k, none⟩ bq _ (by show bq ≠ g; omega)).trans h.q, (heap_setCell_other wr ⟨g, k, none⟩ br _ (by show br ≠ g; omega)).trans h.r⟩
theorem Ints.set {w0 w : World} {g k : Nat} {u v : Value} {l : List Int} (h : Ints w0 u l) (hb : Below w0.heap.size w0 w) (hg : w0.heap.size ≤ g) : Ints (w.setCell ⟨g, k, none⟩ v) u l := h.keep (hb.setCell hg _)
/-- what Hom left behind, as the law needs it -/
def HD (p q : HQ) (w : World) (u : Value) (c : Int) : Prop := c = 2 ∨ c = 5 ∨ (c = 0 ∧ PairV p q ∧ ∃ h, Ints w u h ∧ HomP p q h)
theorem HD.keep {p q : HQ} {w w' : World} {u : Value} {c : Int} (h : HD p q w u c) (hb : Below w.heap.size w w') : HD p q w' u c := by
  rcases h with h | h | ⟨h1, h2, h, h3, h4⟩
  · exact .inl h
  · exact .inr (.inl h)
  · exact .inr (.inr ⟨h1, h2, h, h3.keep hb, h4⟩)
theorem hd_of {p q : HQ} {z : Nat} {w : World} {u : Value} {c : Int} (h : HomC p q z w u c) : HD p q w u c := by
  rcases h with ⟨_, _, h⟩ | ⟨_, _, _, h⟩ | ⟨h1, h2, h, h3, h4⟩
  · exact .inl h
  · exact .inr (.inl h)
  · exact .inr (.inr ⟨h2, h1, h, h3.ints, homP_of h1.1 h1.2.1 h4.1⟩)
theorem hz_of {p q : HQ} {z : Nat} {w : World} {u : Value} {c : Int} (h : HomC p q z w u c) (hp : PairV p q) {k : List Int} (hk : HomP p q k) : c = 0 := by
  rcases h with ⟨h, _⟩ | ⟨_, h, _⟩ | ⟨_, h, _⟩
  · exact absurd hp h
  · exact absurd (isH_of hp.1 hp.2.1 hk) (h _)
  · exact h
def cm1 (k : List Int) (x : Int) : Int := if 0 ≤ x ∧ x < 8 then k.getD x.toNat 0 else x
theorem set_getD {C : List Int} {k i : Nat} {x : Int} (hk : k < C.length) : (C.set k x).getD i 0 = if i = k then x else C.getD i 0 := by
  rw [List.getD_eq_getElem?_getD, List.getElem?_set]
  by_cases e : k = i
  · subst e; rw [if_pos rfl, if_pos hk, if_pos rfl]; rfl
  · rw [if_neg e, if_neg (fun h => e h.symm), List.getD_eq_getElem?_getD]
set_option maxRecDepth 100000 in
set_option maxHeartbeats 16000000 in
theorem chains_any (p q r : HQ) (v u z : Value) (w : World) (hp : Qr w v p) (hq : Qr w u q) (hr : Qr w z r) :
    Calls Try.prog 16 #[v, u, z] w fun e w' => e = .returned (.bool true) ∧ Below w.heap.size w w' := by
  obtain ⟨h0, b0, rfl, hh, hb⟩ := hp
  obtain ⟨h1, b1, rfl, hh1, hb1⟩ := hq
  obtain ⟨h2, b2, rfl, hh2, hb2⟩ := hr
  have Hp := Lib.hid (show Qr w (.agg #[h0, b0]) p from ⟨_, _, rfl, hh, hb⟩)
  have Hq := Lib.hid (show Qr w (.agg #[h1, b1]) q from ⟨_, _, rfl, hh1, hb1⟩)
  have Hr := Lib.hid (show Qr w (.agg #[h2, b2]) r from ⟨_, _, rfl, hh2, hb2⟩)
  obtain ⟨ha, hc, rfl⟩ := ints_slice hh
  obtain ⟨ba, bc, rfl⟩ := atoms_slice hb
  obtain ⟨ha1, hc1, rfl⟩ := ints_slice hh1
  obtain ⟨ba1, bc1, rfl⟩ := atoms_slice hb1
  obtain ⟨ha2, hc2, rfl⟩ := ints_slice hh2
  obtain ⟨ba2, bc2, rfl⟩ := atoms_slice hb2
  obtain ⟨n0, hn0⟩ : ∃ x, x = p.1.length := ⟨_, rfl⟩
  obtain ⟨n1, hn1⟩ : ∃ x, x = p.2.length := ⟨_, rfl⟩
  obtain ⟨n2, hn2⟩ : ∃ x, x = q.1.length := ⟨_, rfl⟩
  obtain ⟨n3, hn3⟩ : ∃ x, x = q.2.length := ⟨_, rfl⟩
  obtain ⟨n4, hn4⟩ : ∃ x, x = r.1.length := ⟨_, rfl⟩
  obtain ⟨n5, hn5⟩ : ∃ x, x = r.2.length := ⟨_, rfl⟩
  rw [← hn0, ← hn1] at Hp
  rw [← hn2, ← hn3] at Hq
  rw [← hn4, ← hn5] at Hr
  rw [← hn0, ← hn1, ← hn2, ← hn3, ← hn4, ← hn5]
  obtain ⟨w1, hw1⟩ : ∃ x, x = w.alloc (.cells #[.slice ha n0 hc, .slice ba n1 bc] 25) := ⟨_, rfl⟩
  obtain ⟨w2, hw2⟩ : ∃ x, x = w1.alloc (.cells #[.slice ha1 n2 hc1, .slice ba1 n3 bc1] 25) := ⟨_, rfl⟩
  obtain ⟨w3, hw3⟩ : ∃ x, x = w2.alloc (.cells #[.slice ha2 n4 hc2, .slice ba2 n5 bc2] 25) := ⟨_, rfl⟩
  obtain ⟨bp, hbp⟩ : ∃ x, x = w.heap.size := ⟨_, rfl⟩
  obtain ⟨bq, hbq⟩ : ∃ x, x = bp + 1 := ⟨_, rfl⟩
  obtain ⟨br, hbr⟩ : ∃ x, x = bq + 1 := ⟨_, rfl⟩
  have HB := Lib.hid (B3.new hw1 hw2 hw3 hbp hbq hbr)
  have Hw1 := Lib.hid hw1
  have Hw2 := Lib.hid hw2
  have Hw3 := Lib.hid hw3
  have Hbpe := Lib.hid hbp
  have Hbqe := Lib.hid hbq
  have Hbre := Lib.hid hbr
  clear hh hb hh1 hb1 hh2 hb2 hw1 hw2 hw3 hbp hbq hbr hn0 hn1 hn2 hn3 hn4 hn5
  obtain ⟨i0, hi0, hz0, hz01, hby0⟩ := info_parts infoInt
  have Hi := Lib.hid hi0
  have Hz := Lib.hid hz0
  have Hzz := Lib.hid hz01
  have Hby := Lib.hid (show i0.bytes * 8 ≤ 281474976710656 by rw [hby0]; omega)
  clear hi0 hz0 hz01 hby0
  have Hlt := Lib.hid (show w.heap.size = bp ∧ bp + 1 = bq ∧ bq + 1 = br from ⟨Hbpe.out.symm, Hbqe.out.symm, Hbre.out.symm⟩)
  go_enter Try.func16, Try.ntmps16
  go_upto_region 1 with fail
  rw [← Hw1.out, ← Hw2.out, ← Hw3.out, ← Hbpe.out, ← Hbqe.out, ← Hbre.out]
  clear Hw1 Hw2 Hw3 Hbpe Hbqe Hbre
  go_upto_region 1 with fail
  try simp only [Act.put]
  go_cut [7, 8] (fun o7 o8 wc => ∃ ua un uk cu, (o7 = .slice ua un uk ∧ o8 = .int .i64 cu) ∧ (∃ z, HomC (ofQ p) (ofQ q) z wc (.slice ua un uk) cu) ∧ Below w3.heap.size w3 wc)
  case first =>
    have HS0 := Lib.hid (show Bx w3.drew bp (.slice ha n0 hc) (.slice ba n1 bc) ∧ Bx w3.drew bq (.slice ha1 n2 hc1) (.slice ba1 n3 bc1) from ⟨HB.out.p, HB.out.q⟩)
    have Hw0 := Lib.hid (show Below w.heap.size w w3.drew from HB.out.b.drew)
    have HW0 := Lib.hid (show Below w3.heap.size w3 w3.drew from (Below.refl _ _).drew)
    refine wp_region_held (S := fun w' => Bx w' bp (.slice ha n0 hc) (.slice ba n1 bc) ∧ Bx w' bq (.slice ha1 n2 hc1) (.slice ba1 n3 bc1)) wideK ?_
    change wpAnyH _ _ _ _ _ _ _ _ (World.drew _)
    generalize w3.drew = wd0 at *
    refine wpAnyH_take (i := 0) (v := ?_) rfl (by kernel_rfl) (by kernel_rfl) (by kernel_rfl) (fun _ _ _ h => h) (Or.inl ⟨by rfl, ?_⟩) HS0.out ?_
    rotate_left
    focus (intro w hS; have s0 := aCell hS.1 0 rfl; have s1 := aCell hS.1 1 rfl; clear hS; first | (go_simp; done) | (go_simp; with_reducible rfl))
    simp only [Act.put, List.getElem_toArray, List.getElem_cons_zero, List.setIfInBounds_toArray, List.set_cons_zero, List.set_cons_succ]
    refine wpAnyH_take (i := 2) (v := ?_) rfl (by kernel_rfl) (by kernel_rfl) (by kernel_rfl) (fun _ _ _ h => h) (Or.inl ⟨by rfl, ?_⟩) HS0.out ?_
    rotate_left
    focus (intro w hS; have s0 := aCell hS.2 0 rfl; have s1 := aCell hS.2 1 rfl; clear hS; first | (go_simp; done) | (go_simp; with_reducible rfl))
    simp only [Act.put, List.getElem_toArray, List.getElem_cons_zero, List.getElem_cons_succ, List.setIfInBounds_toArray, List.set_cons_zero, List.set_cons_succ]
    refine wpAnyH_ready (rs := [1]) (by kernel_rfl) (by simp) ?_
    refine RdyH.cons rfl (fun K2 hK => ?_) RdyH.nil
    go_simp
    go_at_call 20
    refine (ofC_any _ _ (Hp.out.keep Hw0.out)).mono ?_
    rintro e wd1 ⟨a1, n1, k1, b1, m1, l1, rfl, ho, hb⟩
    have HS1 := Lib.hid (And.intro (Bx.keep HS0.out.1 hb) (Bx.keep HS0.out.2 hb))
    have Hw1 := Lib.hid (Below.tr Hw0.out hb)
    have HW1 := Lib.hid (Below.tr HW0.out hb)
    have HQ1 := Lib.hid ho.qr
    clear ho hb
    go_simp
    refine hK _ _ HS1.out ?_
    clear hK K2
    refine wpAnyH_ready (rs := [3]) (by kernel_rfl) (by simp) ?_
    refine RdyH.cons rfl (fun K2 hK => ?_) RdyH.nil
    go_simp
    go_at_call 20
    refine (ofC_any _ _ (Hq.out.keep Hw1.out)).mono ?_
    rintro e wd2 ⟨a2, n2, k2, b2, m2, l2, rfl, ho, hb⟩
    have HS2 := Lib.hid (And.intro (Bx.keep HS1.out.1 hb) (Bx.keep HS1.out.2 hb))
    have Hw2 := Lib.hid (Below.tr Hw1.out hb)
    have HW2 := Lib.hid (Below.tr HW1.out hb)
    have HQ2 := Lib.hid ho.qr
    have HQ1 := Lib.hid (HQ1.out.keep hb)
    clear ho hb
    go_simp
    refine hK _ _ HS2.out ?_
    clear hK K2
    refine wpAnyH_ready (rs := [4]) (by kernel_rfl) (by simp) ?_
    refine RdyH.cons rfl (fun K2 hK => ?_) RdyH.nil
    go_simp
    go_at_call 27
    refine (homC_any _ _ _ HQ1.out HQ2.out).mono ?_
    rintro e wd3 ⟨ua, un, uk, cu, rfl, hP, hb⟩
    have HS3 := Lib.hid (And.intro (Bx.keep HS2.out.1 hb) (Bx.keep HS2.out.2 hb))
    have HW3 := Lib.hid (Below.tr HW2.out hb)
    have HP := Lib.hid hP
    clear hP hb
    go_simp
    refine hK _ _ HS3.out ?_
    clear hK K2
    refine wpAnyH_take (i := 5) (v := ?_) rfl (by kernel_rfl) (by kernel_rfl) (by kernel_rfl) (fun _ _ _ h => h) (Or.inl ⟨by rfl, ?_⟩) HS3.out ?_
    rotate_left
    focus (intro w hS; clear hS; first | (go_simp; done) | (go_simp; with_reducible rfl))
    simp only [Act.put, List.getElem_toArray, List.getElem_cons_zero, List.getElem_cons_succ, List.setIfInBounds_toArray, List.set_cons_zero, List.set_cons_succ]
    refine wpAnyH_take (i := 6) (v := ?_) rfl (by kernel_rfl) (by kernel_rfl) (by kernel_rfl) (fun _ _ _ h => h) (Or.inl ⟨by rfl, ?_⟩) HS3.out ?_
    rotate_left
    focus (intro w hS; clear hS; first | (go_simp; done) | (go_simp; with_reducible rfl))
    simp only [Act.put, List.getElem_toArray, List.getElem_cons_zero, List.getElem_cons_succ, List.setIfInBounds_toArray, List.set_cons_zero, List.set_cons_succ]
    refine wpAnyH_take (i := 7) (v := ?_) rfl (by kernel_rfl) (by kernel_rfl) (by kernel_rfl) (fun _ _ _ h => h) (Or.inl ⟨by rfl, ?_⟩) HS3.out ?_
    rotate_left
    focus (intro w hS; clear hS; first | (go_simp; done) | (go_simp; with_reducible rfl))
    simp only [Act.put, List.getElem_toArray, List.getElem_cons_zero, List.getElem_cons_succ, List.setIfInBounds_toArray, List.set_cons_zero, List.set_cons_succ]
    refine wpAnyH_take (i := 8) (v := ?_) rfl (by kernel_rfl) (by kernel_rfl) (by kernel_rfl) (fun _ _ _ h => h) (Or.inl ⟨by rfl, ?_⟩) HS3.out ?_
    rotate_left
    focus (intro w hS; clear hS; first | (go_simp; done) | (go_simp; with_reducible rfl))
    simp only [Act.put, List.getElem_toArray, List.getElem_cons_zero, List.getElem_cons_succ, List.setIfInBounds_toArray, List.set_cons_zero, List.set_cons_succ]
    refine wpAnyH_take (i := 9) (v := ?_) rfl (by kernel_rfl) (by kernel_rfl) (by kernel_rfl) (fun _ _ _ h => h) (Or.inl ⟨by rfl, ?_⟩) HS3.out ?_
    rotate_left
    focus (intro w hS; clear hS; first | (go_simp; done) | (go_simp; with_reducible rfl))
    simp only [Act.put, List.getElem_toArray, List.getElem_cons_zero, List.getElem_cons_succ, List.setIfInBounds_toArray, List.set_cons_zero, List.set_cons_succ]
    refine wpAnyH_done (by kernel_rfl) ?_ _
    go_wp2_with fail
    go_meet
    exact ⟨ua, un, uk, cu, ⟨rfl, rfl⟩, ⟨_, HP.out⟩, HW3.out⟩
  case rest =>
    obtain ⟨ua, un, uk, cu, ⟨rfl, rfl⟩, hP, hb⟩ := hcut
    generalize wc = w4 at *
    have HB := Lib.hid (HB.out.keep hb)
    clear hb
    obtain ⟨z, hP⟩ := hP
    have HD1 := Lib.hid (hd_of hP)
    clear hP
    go_upto_region 2 with fail
    try simp only [Act.put]
    go_cut [9, 10] (fun o9 o10 wc => ∃ va vn vk cv, (o9 = .slice va vn vk ∧ o10 = .int .i64 cv) ∧ (∃ z, HomC (ofQ q) (ofQ r) z wc (.slice va vn vk) cv) ∧ Below w4.heap.size w4 wc)
    case first =>
      have HS0 := Lib.hid (show Bx w4.drew bq (.slice ha1 n2 hc1) (.slice ba1 n3 bc1) ∧ Bx w4.drew br (.slice ha2 n4 hc2) (.slice ba2 n5 bc2) from ⟨HB.out.q, HB.out.r⟩)
      have Hw0 := Lib.hid (show Below w.heap.size w w4.drew from HB.out.b.drew)
      have HW0 := Lib.hid (show Below w4.heap.size w4 w4.drew from (Below.refl _ _).drew)
      refine wp_region_held (S := fun w' => Bx w' bq (.slice ha1 n2 hc1) (.slice ba1 n3 bc1) ∧ Bx w' br (.slice ha2 n4 hc2) (.slice ba2 n5 bc2)) wideK ?_
      change wpAnyH _ _ _ _ _ _ _ _ (World.drew _)
      generalize w4.drew = wd0 at *
      refine wpAnyH_take (i := 0) (v := ?_) rfl (by kernel_rfl) (by kernel_rfl) (by kernel_rfl) (fun _ _ _ h => h) (Or.inl ⟨by rfl, ?_⟩) HS0.out ?_
      rotate_left
      focus (intro w hS; have s0 := aCell hS.1 0 rfl; have s1 := aCell hS.1 1 rfl; clear hS; first | (go_simp; done) | (go_simp; with_reducible rfl))
      simp only [Act.put, List.getElem_toArray, List.getElem_cons_zero, List.setIfInBounds_toArray, List.set_cons_zero, List.set_cons_succ]
      refine wpAnyH_take (i := 2) (v := ?_) rfl (by kernel_rfl) (by kernel_rfl) (by kernel_rfl) (fun _ _ _ h => h) (Or.inl ⟨by rfl, ?_⟩) HS0.out ?_
      rotate_left
      focus (intro w hS; have s0 := aCell hS.2 0 rfl; have s1 := aCell hS.2 1 rfl; clear hS; first | (go_simp; done) | (go_simp; with_reducible rfl))
      simp only [Act.put, List.getElem_toArray, List.getElem_cons_zero, List.getElem_cons_succ, List.setIfInBounds_toArray, List.set_cons_zero, List.set_cons_succ]
      refine wpAnyH_ready (rs := [1]) (by kernel_rfl) (by simp) ?_
      refine RdyH.cons rfl (fun K2 hK => ?_) RdyH.nil
      go_simp
      go_at_call 20
      refine (ofC_any _ _ (Hq.out.keep Hw0.out)).mono ?_
      rintro e wd1 ⟨a1, n1, k1, b1, m1, l1, rfl, ho, hb⟩
      have HS1 := Lib.hid (And.intro (Bx.keep HS0.out.1 hb) (Bx.keep HS0.out.2 hb))
      have Hw1 := Lib.hid (Below.tr Hw0.out hb)
      have HW1 := Lib.hid (Below.tr HW0.out hb)
      have HQ1 := Lib.hid ho.qr
      clear ho hb
      go_simp
      refine hK _ _ HS1.out ?_
      clear hK K2
      refine wpAnyH_ready (rs := [3]) (by kernel_rfl) (by simp) ?_
      refine RdyH.cons rfl (fun K2 hK => ?_) RdyH.nil
      go_simp
      go_at_call 20
      refine (ofC_any _ _ (Hr.out.keep Hw1.out)).mono ?_
      rintro e wd2 ⟨a2, n2, k2, b2, m2, l2, rfl, ho, hb⟩
      have HS2 := Lib.hid (And.intro (Bx.keep HS1.out.1 hb) (Bx.keep HS1.out.2 hb))
      have Hw2 := Lib.hid (Below.tr Hw1.out hb)
      have HW2 := Lib.hid (Below.tr HW1.out hb)
      have HQ2 := Lib.hid ho.qr
      have HQ1 := Lib.hid (HQ1.out.keep hb)
      clear ho hb
      go_simp
      refine hK _ _ HS2.out ?_
      clear hK K2
      refine wpAnyH_ready (rs := [4]) (by kernel_rfl) (by simp) ?_
      refine RdyH.cons rfl (fun K2 hK => ?_) RdyH.nil
      go_simp
      go_at_call 27
      refine (homC_any _ _ _ HQ1.out HQ2.out).mono ?_
      rintro e wd3 ⟨va, vn, vk, cv, rfl, hP, hb⟩
      have HS3 := Lib.hid (And.intro (Bx.keep HS2.out.1 hb) (Bx.keep HS2.out.2 hb))
      have HW3 := Lib.hid (Below.tr HW2.out hb)
      have HP := Lib.hid hP
      clear hP hb
      go_simp
      refine hK _ _ HS3.out ?_
      clear hK K2
      refine wpAnyH_take (i := 5) (v := ?_) rfl (by kernel_rfl) (by kernel_rfl) (by kernel_rfl) (fun _ _ _ h => h) (Or.inl ⟨by rfl, ?_⟩) HS3.out ?_
      rotate_left
      focus (intro w hS; clear hS; first | (go_simp; done) | (go_simp; with_reducible rfl))
      simp only [Act.put, List.getElem_toArray, List.getElem_cons_zero, List.getElem_cons_succ, List.setIfInBounds_toArray, List.set_cons_zero, List.set_cons_succ]
      refine wpAnyH_take (i := 6) (v := ?_) rfl (by kernel_rfl) (by kernel_rfl) (by kernel_rfl) (fun _ _ _ h => h) (Or.inl ⟨by rfl, ?_⟩) HS3.out ?_
      rotate_left
      focus (intro w hS; clear hS; first | (go_simp; done) | (go_simp; with_reducible rfl))
      simp only [Act.put, List.getElem_toArray, List.getElem_cons_zero, List.getElem_cons_succ, List.setIfInBounds_toArray, List.set_cons_zero, List.set_cons_succ]
      refine wpAnyH_take (i := 7) (v := ?_) rfl (by kernel_rfl) (by kernel_rfl) (by kernel_rfl) (fun _ _ _ h => h) (Or.inl ⟨by rfl, ?_⟩) HS3.out ?_
      rotate_left
      focus (intro w hS; clear hS; first | (go_simp; done) | (go_simp; with_reducible rfl))
      simp only [Act.put, List.getElem_toArray, List.getElem_cons_zero, List.getElem_cons_succ, List.setIfInBounds_toArray, List.set_cons_zero, List.set_cons_succ]
      refine wpAnyH_take (i := 8) (v := ?_) rfl (by kernel_rfl) (by kernel_rfl) (by kernel_rfl) (fun _ _ _ h => h) (Or.inl ⟨by rfl, ?_⟩) HS3.out ?_
      rotate_left
      focus (intro w hS; clear hS; first | (go_simp; done) | (go_simp; with_reducible rfl))
      simp only [Act.put, List.getElem_toArray, List.getElem_cons_zero, List.getElem_cons_succ, List.setIfInBounds_toArray, List.set_cons_zero, List.set_cons_succ]
      refine wpAnyH_take (i := 9) (v := ?_) rfl (by kernel_rfl) (by kernel_rfl) (by kernel_rfl) (fun _ _ _ h => h) (Or.inl ⟨by rfl, ?_⟩) HS3.out ?_
      rotate_left
      focus (intro w hS; clear hS; first | (go_simp; done) | (go_simp; with_reducible rfl))
      simp only [Act.put, List.getElem_toArray, List.getElem_cons_zero, List.getElem_cons_succ, List.setIfInBounds_toArray, List.set_cons_zero, List.set_cons_succ]
      refine wpAnyH_done (by kernel_rfl) ?_ _
      go_wp2_with fail
      go_meet
      exact ⟨va, vn, vk, cv, ⟨rfl, rfl⟩, ⟨_, HP.out⟩, HW3.out⟩
    case rest =>
      obtain ⟨va, vn, vk, cv, ⟨rfl, rfl⟩, hP, hb⟩ := hcut
      generalize wc = w5 at *
      have HB := Lib.hid (HB.out.keep hb)
      have HD1 := Lib.hid (HD1.out.keep hb)
      clear hb
      obtain ⟨z, hP⟩ := hP
      have HD2 := Lib.hid (hd_of hP)
      clear hP
      go_upto_region 3 with fail
      try simp only [Act.put]
      go_cut [11, 12] (fun o11 o12 wc => ∃ xa xn xk cx, (o11 = .slice xa xn xk ∧ o12 = .int .i64 cx) ∧ (∃ z, HomC (ofQ p) (ofQ r) z wc (.slice xa xn xk) cx) ∧ Below w5.heap.size w5 wc)
      case first =>
        have HS0 := Lib.hid (show Bx w5.drew bp (.slice ha n0 hc) (.slice ba n1 bc) ∧ Bx w5.drew br (.slice ha2 n4 hc2) (.slice ba2 n5 bc2) from ⟨HB.out.p, HB.out.r⟩)
        have Hw0 := Lib.hid (show Below w.heap.size w w5.drew from HB.out.b.drew)
        have HW0 := Lib.hid (show Below w5.heap.size w5 w5.drew from (Below.refl _ _).drew)
        refine wp_region_held (S := fun w' => Bx w' bp (.slice ha n0 hc) (.slice ba n1 bc) ∧ Bx w' br (.slice ha2 n4 hc2) (.slice ba2 n5 bc2)) wideK ?_
        change wpAnyH _ _ _ _ _ _ _ _ (World.drew _)
        generalize w5.drew = wd0 at *
        refine wpAnyH_take (i := 0) (v := ?_) rfl (by kernel_rfl) (by kernel_rfl) (by kernel_rfl) (fun _ _ _ h => h) (Or.inl ⟨by rfl, ?_⟩) HS0.out ?_
        rotate_left
        focus (intro w hS; have s0 := aCell hS.1 0 rfl; have s1 := aCell hS.1 1 rfl; clear hS; first | (go_simp; done) | (go_simp; with_reducible rfl))
        simp only [Act.put, List.getElem_toArray, List.getElem_cons_zero, List.setIfInBounds_toArray, List.set_cons_zero, List.set_cons_succ]
        refine wpAnyH_take (i := 2) (v := ?_) rfl (by kernel_rfl) (by kernel_rfl) (by kernel_rfl) (fun _ _ _ h => h) (Or.inl ⟨by rfl, ?_⟩) HS0.out ?_
        rotate_left
        focus (intro w hS; have s0 := aCell hS.2 0 rfl; have s1 := aCell hS.2 1 rfl; clear hS; first | (go_simp; done) | (go_simp; with_reducible rfl))
        simp only [Act.put, List.getElem_toArray, List.getElem_cons_zero, List.getElem_cons_succ, List.setIfInBounds_toArray, List.set_cons_zero, List.set_cons_succ]
        refine wpAnyH_ready (rs := [1]) (by kernel_rfl) (by simp) ?_
        refine RdyH.cons rfl (fun K2 hK => ?_) RdyH.nil
        go_simp
        go_at_call 20
        refine (ofC_any _ _ (Hp.out.keep Hw0.out)).mono ?_
        rintro e wd1 ⟨a1, n1, k1, b1, m1, l1, rfl, ho, hb⟩
        have HS1 := Lib.hid (And.intro (Bx.keep HS0.out.1 hb) (Bx.keep HS0.out.2 hb))
        have Hw1 := Lib.hid (Below.tr Hw0.out hb)
        have HW1 := Lib.hid (Below.tr HW0.out hb)
        have HQ1 := Lib.hid ho.qr
        clear ho hb
        go_simp
        refine hK _ _ HS1.out ?_
        clear hK K2
        refine wpAnyH_ready (rs := [3]) (by kernel_rfl) (by simp) ?_
        refine RdyH.cons rfl (fun K2 hK => ?_) RdyH.nil
        go_simp
        go_at_call 20
        refine (ofC_any _ _ (Hr.out.keep Hw1.out)).mono ?_
        rintro e wd2 ⟨a2, n2, k2, b2, m2, l2, rfl, ho, hb⟩
        have HS2 := Lib.hid (And.intro (Bx.keep HS1.out.1 hb) (Bx.keep HS1.out.2 hb))
        have Hw2 := Lib.hid (Below.tr Hw1.out hb)
        have HW2 := Lib.hid (Below.tr HW1.out hb)
        have HQ2 := Lib.hid ho.qr
        have HQ1 := Lib.hid (HQ1.out.keep hb)
        clear ho hb
        go_simp
        refine hK _ _ HS2.out ?_
        clear hK K2
        refine wpAnyH_ready (rs := [4]) (by kernel_rfl) (by simp) ?_
        refine RdyH.cons rfl (fun K2 hK => ?_) RdyH.nil
        go_simp
        go_at_call 27
        refine (homC_any _ _ _ HQ1.out HQ2.out).mono ?_
        rintro e wd3 ⟨xa, xn, xk, cx, rfl, hP, hb⟩
        have HS3 := Lib.hid (And.intro (Bx.keep HS2.out.1 hb) (Bx.keep HS2.out.2 hb))
        have HW3 := Lib.hid (Below.tr HW2.out hb)
        have HP := Lib.hid hP
        clear hP hb
        go_simp
        refine hK _ _ HS3.out ?_
        clear hK K2
        refine wpAnyH_take (i := 5) (v := ?_) rfl (by kernel_rfl) (by kernel_rfl) (by kernel_rfl) (fun _ _ _ h => h) (Or.inl ⟨by rfl, ?_⟩) HS3.out ?_
        rotate_left
        focus (intro w hS; clear hS; first | (go_simp; done) | (go_simp; with_reducible rfl))
        simp only [Act.put, List.getElem_toArray, List.getElem_cons_zero, List.getElem_cons_succ, List.setIfInBounds_toArray, List.set_cons_zero, List.set_cons_succ]
        refine wpAnyH_take (i := 6) (v := ?_) rfl (by kernel_rfl) (by kernel_rfl) (by kernel_rfl) (fun _ _ _ h => h) (Or.inl ⟨by rfl, ?_⟩) HS3.out ?_
        rotate_left
        focus (intro w hS; clear hS; first | (go_simp; done) | (go_simp; with_reducible rfl))
        simp only [Act.put, List.getElem_toArray, List.getElem_cons_zero, List.getElem_cons_succ, List.setIfInBounds_toArray, List.set_cons_zero, List.set_cons_succ]
        refine wpAnyH_take (i := 7) (v := ?_) rfl (by kernel_rfl) (by kernel_rfl) (by kernel_rfl) (fun _ _ _ h => h) (Or.inl ⟨by rfl, ?_⟩) HS3.out ?_
        rotate_left
        focus (intro w hS; clear hS; first | (go_simp; done) | (go_simp; with_reducible rfl))
        simp only [Act.put, List.getElem_toArray, List.getElem_cons_zero, List.getElem_cons_succ, List.setIfInBounds_toArray, List.set_cons_zero, List.set_cons_succ]
        refine wpAnyH_take (i := 8) (v := ?_) rfl (by kernel_rfl) (by kernel_rfl) (by kernel_rfl) (fun _ _ _ h => h) (Or.inl ⟨by rfl, ?_⟩) HS3.out ?_
        rotate_left
        focus (intro w hS; clear hS; first | (go_simp; done) | (go_simp; with_reducible rfl))
        simp only [Act.put, List.getElem_toArray, List.getElem_cons_zero, List.getElem_cons_succ, List.setIfInBounds_toArray, List.set_cons_zero, List.set_cons_succ]
        refine wpAnyH_take (i := 9) (v := ?_) rfl (by kernel_rfl) (by kernel_rfl) (by kernel_rfl) (fun _ _ _ h => h) (Or.inl ⟨by rfl, ?_⟩) HS3.out ?_
        rotate_left
        focus (intro w hS; clear hS; first | (go_simp; done) | (go_simp; with_reducible rfl))
        simp only [Act.put, List.getElem_toArray, List.getElem_cons_zero, List.getElem_cons_succ, List.setIfInBounds_toArray, List.set_cons_zero, List.set_cons_succ]
        refine wpAnyH_done (by kernel_rfl) ?_ _
        go_wp2_with fail
        go_meet
        exact ⟨xa, xn, xk, cx, ⟨rfl, rfl⟩, ⟨_, HP.out⟩, HW3.out⟩
      case rest =>
        obtain ⟨xa, xn, xk, cx, ⟨rfl, rfl⟩, hP, hb⟩ := hcut
        generalize wc = w6 at *
        have HB := Lib.hid (HB.out.keep hb)
        have HD1 := Lib.hid (HD1.out.keep hb)
        have HD2 := Lib.hid (HD2.out.keep hb)
        clear hb
        obtain ⟨z, hP⟩ := hP
        have HZ := Lib.hid (fun (h : PairV (ofQ p) (ofQ r)) k => hz_of (k := k) hP h)
        clear hP
        rcases HD1.out with rfl | rfl | ⟨rfl, hpq, h, hi, hh⟩
        · clear HD1 HD2 HZ
          go_wp2_with fail
          refine (awake_any _).mono ?_
          rintro e w7 ⟨rfl, hb⟩
          have HB := Lib.hid (HB.out.keep hb)
          clear hb 
          go_wp2_with fail
          go_ret
          exact ⟨rfl, HB.out.b⟩
        · clear HD1 HD2 HZ
          go_wp2_with fail
          refine (awake_any _).mono ?_
          rintro e w7 ⟨rfl, hb⟩
          have HB := Lib.hid (HB.out.keep hb)
          clear hb 
          go_wp2_with fail
          go_ret
          exact ⟨rfl, HB.out.b⟩
        · have Hpq := Lib.hid hpq
          have HU := Lib.hid hi
          have Hh := Lib.hid hh
          clear hpq hi hh HD1
          rcases HD2.out with rfl | rfl | ⟨rfl, hpq, k, hi, hh⟩
          · clear HU HD2 HZ
            go_wp2_with fail
            refine (awake_any _).mono ?_
            rintro e w7 ⟨rfl, hb⟩
            have HB := Lib.hid (HB.out.keep hb)
            clear hb 
            go_wp2_with fail
            go_ret
            exact ⟨rfl, HB.out.b⟩
          · clear HU HD2 HZ
            go_wp2_with fail
            refine (awake_any _).mono ?_
            rintro e w7 ⟨rfl, hb⟩
            have HB := Lib.hid (HB.out.keep hb)
            clear hb 
            go_wp2_with fail
            go_ret
            exact ⟨rfl, HB.out.b⟩
          · have Hqr := Lib.hid hpq
            have HV := Lib.hid hi
            have Hk := Lib.hid hh
            clear hpq hi hh HD2
            have HPR := Lib.hid (show PairV (ofQ p) (ofQ r) from ⟨Hpq.out.1, Hqr.out.2.1, Hpq.out.2.2.trans Hqr.out.2.2⟩)
            have HCm := Lib.hid (fun c hc hi => hom_comp Hpq.out.1 Hpq.out.2.1 Hpq.out.2.2 Hh.out Hk.out (c := c) hc hi)
            have Hex := Lib.hid (show ∃ c, HomP (ofQ p) (ofQ r) c from ⟨(List.range 8).map fun i => cm1 k (h.getD i 0), HCm.out _ (by simp) fun i hi => by
              rw [List.getD_eq_getElem?_getD, List.getElem?_map, List.getElem?_range hi]; rfl⟩)
            obtain rfl : cx = 0 := by obtain ⟨c, hc⟩ := Hex.out; exact HZ.out HPR.out c hc
            have h8 := Hh.out.len
            have k8 := Hk.out.len
            obtain ⟨a, b, off, cap, hav, hle, hia, hc⟩ := Ints.get HU.out
            injection hav with e1 e2 e3
            subst e1 e3
            obtain rfl : un = 8 := by omega
            rw [h8] at hia hle
            clear e2
            have Hix := Lib.hid (run_ix (P := Try.prog) (t := 22) (a := ua) (len := 8) (cap := uk) (b := b) (off := off) (s := 1) Try.underlying22 (by intro w; kernel_rfl) hia)
            obtain ⟨a, b2, off2, cap, hav, hle, hia, hc'⟩ := Ints.get HV.out
            injection hav with e1 e2 e3
            subst e1 e3
            obtain rfl : vn = 8 := by omega
            rw [k8] at hia hle
            clear e2
            have Hix2 := Lib.hid (run_ix (P := Try.prog) (t := 22) (a := va) (len := 8) (cap := vk) (b := b2) (off := off2) (s := 1) Try.underlying22 (by intro w; kernel_rfl) hia)
            simp only [Nat.mul_one] at Hix Hix2
            have gd : ∀ (l : List Int) (i : Nat) (hi : i < l.length), l[i] = l.getD i 0 := fun l i hi => by rw [List.getD_eq_getElem?_getD, List.getElem?_eq_getElem hi]; rfl
            have Hc := Lib.hid (show ∀ i, i < 8 → w6.cell? ⟨b, off + i, none⟩ = some (.int .i64 (h.getD i 0)) from fun i hi => by rw [hc i (by omega), gd])
            have Hc2 := Lib.hid (show ∀ i, i < 8 → w6.cell? ⟨b2, off2 + i, none⟩ = some (.int .i64 (k.getD i 0)) from fun i hi => by rw [hc' i (by omega), gd])
            clear hc hc' hia hle gd HU HV HZ Hex h8 k8
            have Hsz := Lib.hid (show w.heap.size ≤ w6.heap.size ∧ bp < w6.heap.size ∧ bq < w6.heap.size ∧ br < w6.heap.size from ⟨HB.out.b.size, (Array.getElem?_eq_some_iff.1 HB.out.p).1, (Array.getElem?_eq_some_iff.1 HB.out.q).1, (Array.getElem?_eq_some_iff.1 HB.out.r).1⟩)
            go_wp2_with (first | (refine wpList_make_full _ rfl _ _ 22 rfl w6.heap.size 3 i0 (.int .i64 0) 1 Try.underlying22 Hi.out Hz.out Hzz.out .i64 .i64 _ _ 8 rfl rfl rfl rfl Hby.out (by unfold maxLen; omega) (Nat.le_refl _) ?_; intro wm hown hgr))
            have hb3 : Below w6.heap.size w6 wm := ⟨hgr.os, hgr.tape, hgr.output, hgr.size, fun k hk => hgr.block k hk (by simp)⟩
            have HB := Lib.hid (HB.out.keep hb3)
            have HO3 := Lib.hid (show ∃ C : List Int, C.length = 8 ∧ wm.ownsRow w6.heap.size 3 1 (.slice (some ⟨w6.heap.size, 0, none⟩) 8 8) 8 (C.map (Value.int .i64)) from by
              have e : (madeCells (Value.int IntKind.i64 0).cells (8 * 1)).toList = (List.replicate 8 (0 : Int)).map (Value.int .i64) := by
                rw [List.map_replicate]
                exact toList_madeCells_one _ _
              rw [e] at hown; exact ⟨_, by simp, hown⟩)
            have Hixg := Lib.hid (run_ix (P := Try.prog) (t := 22) (a := some ⟨w6.heap.size, 0, none⟩) (len := 8) (cap := 8) (b := w6.heap.size) (off := 0) (s := 1) Try.underlying22 (by intro w; kernel_rfl) (fun _ => rfl))
            simp only [Nat.zero_add, Nat.mul_one] at Hixg
            have Hbm := Lib.hid hb3
            clear hown hgr hb3 Hi Hz Hzz Hby
            obtain ⟨g, hg'⟩ : ∃ g, g = w6.heap.size := ⟨_, rfl⟩
            have Hg := Lib.hid hg'
            rw [← hg'] at HO3 Hixg Hsz ⊢
            clear hg'
            go_loopw [75] (fun vi wr => ∃ (n : Nat) (C : List Int), vi = .int .i64 n ∧ n ≤ 8 ∧ B3 w wr bp bq br (.slice ha n0 hc) (.slice ba n1 bc) (.slice ha1 n2 hc1) (.slice ba1 n3 bc1) (.slice ha2 n4 hc2) (.slice ba2 n5 bc2) ∧ Below w6.heap.size w6 wr ∧ C.length = 8 ∧ wr.ownsRow g 3 1 (.slice (some ⟨g, 0, none⟩) 8 8) 8 (C.map (Value.int .i64)) ∧ ∀ i, i < n → C.getD i 0 = cm1 k (h.getD i 0)) (fun vi _ => 8 - (intOf vi).toNat)
            case atStart =>
              obtain ⟨C, c8, hC⟩ := HO3.out
              exact ⟨0, C, rfl, Nat.zero_le _, HB.out, Hbm.out, c8, hC, fun i hi => by omega⟩
            case round =>
              clear HB HO3 Hbm
              obtain ⟨n, C, rfl, hn, hB, hbm, c8, hC, hcm⟩ := hrel
              have HB := Lib.hid hB
              have Hbm := Lib.hid hbm
              have HO := Lib.hid hC
              have Hcm := Lib.hid hcm
              have HC8 := Lib.hid c8
              clear hB hbm hC hcm c8
              by_cases hlt : n < 8
              · have hc1 := Below.keep Hbm.out (Hc.out n hlt)
                have hixk := Hix.out n
                have hixg := Hixg.out n
                have hfz := World.ownsRow.frozenAt HO.out n
                have hcell := World.ownsRow.cellAt HO.out n (by omega)
                rw [List.getElem?_eq_getElem (by rw [List.length_map, HC8.out]; exact hlt)] at hcell
                obtain ⟨c0, hc0⟩ : ∃ c0, c0 = (C.map (Value.int .i64))[n]'(by rw [List.length_map, HC8.out]; exact hlt) := ⟨_, rfl⟩
                rw [← hc0] at hcell
                clear hc0
                have HN := Lib.hid (show ∀ y, y = cm1 k (h.getD n 0) → (C.set n y).length = 8 ∧ ∀ i, i < n + 1 → (C.set n y).getD i 0 = cm1 k (h.getD i 0) from fun y hy => by
                  refine ⟨by rw [List.length_set]; exact HC8.out, fun i hi => ?_⟩
                  rw [set_getD (by rw [HC8.out]; exact hlt)]
                  by_cases e : i = n
                  · rw [if_pos e, hy, e]
                  · rw [if_neg e]; exact Hcm.out i (by omega))
                obtain ⟨x, hx⟩ : ∃ x, x = h.getD n 0 := ⟨_, rfl⟩
                rw [← hx] at hc1 HN
                clear hx
                have HO1 := Lib.hid (show (wr.setCell ⟨g, n, none⟩ (.int .i64 x)).ownsRow g 3 1 (.slice (some ⟨g, 0, none⟩) 8 8) 8 ((C.set n x).map (Value.int .i64)) from by
                  have := (World.ownsRow.stored HO.out n (.int .i64 x)).1
                  rw [← List.map_set (f := Value.int .i64) (a := x)] at this
                  exact this)
                have HB1 := Lib.hid (HB.out.set Hsz.out n (.int .i64 x))
                have Hbm1 := Lib.hid (show Below w6.heap.size w6 (wr.setCell ⟨g, n, none⟩ (.int .i64 x)) from Hbm.out.setCell (Nat.le_of_eq Hg.out.symm) _)
                clear HO HB Hbm
                by_cases hx : 0 ≤ x ∧ x < 8
                · obtain ⟨t, rfl⟩ : ∃ t : Nat, x = t := ⟨x.toNat, by omega⟩
                  have ht : t < 8 := by omega
                  have hixt := Hix2.out t
                  obtain ⟨y, hy⟩ : ∃ y, y = k.getD t 0 := ⟨_, rfl⟩
                  have HNy := Lib.hid (HN.out y (by rw [hy]; unfold cm1; rw [if_pos hx, Int.toNat_natCast]))
                  have Hct := Lib.hid (Hc2.out t ht)
                  rw [← hy] at Hct
                  have hct := Below.keep Hbm1.out Hct.out
                  have hfz1 := World.ownsRow.frozenAt HO1.out n
                  have hcell1 := World.ownsRow.cellAt HO1.out n (by omega)
                  rw [List.getElem?_eq_getElem (by rw [List.length_map, List.length_set, HC8.out]; exact hlt)] at hcell1
                  obtain ⟨c1, hc1'⟩ : ∃ c1, c1 = ((C.set n (t : Int)).map (Value.int .i64))[n]'(by rw [List.length_map, List.length_set, HC8.out]; exact hlt) := ⟨_, rfl⟩
                  rw [← hc1'] at hcell1
                  clear hc1' HN hy
                  have HO2 := Lib.hid (show ((wr.setCell ⟨g, n, none⟩ (.int .i64 t)).setCell ⟨g, n, none⟩ (.int .i64 y)).ownsRow g 3 1 (.slice (some ⟨g, 0, none⟩) 8 8) 8 ((C.set n y).map (Value.int .i64)) from by
                    have := (World.ownsRow.stored HO1.out n (.int .i64 y)).1
                    rw [← List.map_set (f := Value.int .i64) (a := y), List.set_set] at this
                    exact this)
                  have HB2 := Lib.hid (HB1.out.set Hsz.out n (.int .i64 y))
                  have Hbm2 := Lib.hid (show Below w6.heap.size w6 ((wr.setCell ⟨g, n, none⟩ (.int .i64 t)).setCell ⟨g, n, none⟩ (.int .i64 y)) from Hbm1.out.setCell (Nat.le_of_eq Hg.out.symm) _)
                  clear HO1 HB1 Hbm1 Hct
                  go_wp2_with fail
                  go_roundw
                  case rel => exact ⟨n + 1, _, by go_num, by omega, HB2.out, Hbm2.out, HNy.out.1, HO2.out, HNy.out.2⟩
                  case measure => simp [intOf]; omega
                · have HNy := Lib.hid (HN.out x (by unfold cm1; rw [if_neg hx]))
                  clear HN
                  by_cases h0 : 0 ≤ x
                  · have h8 : ¬ x < 8 := fun c => hx ⟨h0, c⟩
                    clear hx
                    go_wp2_with fail
                    go_roundw
                    case rel => exact ⟨n + 1, _, by go_num, by omega, HB1.out, Hbm1.out, HNy.out.1, HO1.out, HNy.out.2⟩
                    case measure => simp [intOf]; omega
                  · clear hx
                    go_wp2_with fail
                    go_roundw
                    case rel => exact ⟨n + 1, _, by go_num, by omega, HB1.out, Hbm1.out, HNy.out.1, HO1.out, HNy.out.2⟩
                    case measure => simp [intOf]; omega
              · obtain rfl : n = 8 := by omega
                have HI := Lib.hid (show Ints wr (.slice (some ⟨g, 0, none⟩) 8 8) C from OwnInts.ints (base := g) (by unfold OwnInts; rw [HC8.out]; exact HO.out))
                have HH := Lib.hid (HCm.out C HC8.out Hcm.out)
                clear HO Hbm Hcm HCm HC8 Hc Hc2 Hix Hix2 Hixg
                generalize wr = w20 at *
                go_upto_region 16 with fail
                try simp only [Act.put]
                go_cut [12, 16] (fun o12 o16 wc => ∃ B4 c4, (o12 = .int .i64 c4 ∧ o16 = .bool B4) ∧ (CheckC (ofQ p) (ofQ r) C B4 c4) ∧ Below w20.heap.size w20 wc)
                case first =>
                  have HS0 := Lib.hid (show Bx w20.drew bp (.slice ha n0 hc) (.slice ba n1 bc) ∧ Bx w20.drew br (.slice ha2 n4 hc2) (.slice ba2 n5 bc2) from ⟨HB.out.p, HB.out.r⟩)
                  have Hw0 := Lib.hid (show Below w.heap.size w w20.drew from HB.out.b.drew)
                  have HW0 := Lib.hid (show Below w20.heap.size w20 w20.drew from (Below.refl _ _).drew)
                  refine wp_region_held (S := fun w' => Bx w' bp (.slice ha n0 hc) (.slice ba n1 bc) ∧ Bx w' br (.slice ha2 n4 hc2) (.slice ba2 n5 bc2)) wideK ?_
                  change wpAnyH _ _ _ _ _ _ _ _ (World.drew _)
                  generalize w20.drew = wd0 at *
                  refine wpAnyH_take (i := 0) (v := ?_) rfl (by kernel_rfl) (by kernel_rfl) (by kernel_rfl) (fun _ _ _ h => h) (Or.inl ⟨by rfl, ?_⟩) HS0.out ?_
                  rotate_left
                  focus (intro w hS; have s0 := aCell hS.1 0 rfl; have s1 := aCell hS.1 1 rfl; clear hS; first | (go_simp; done) | (go_simp; with_reducible rfl))
                  simp only [Act.put, List.getElem_toArray, List.getElem_cons_zero, List.setIfInBounds_toArray, List.set_cons_zero, List.set_cons_succ]
                  refine wpAnyH_take (i := 2) (v := ?_) rfl (by kernel_rfl) (by kernel_rfl) (by kernel_rfl) (fun _ _ _ h => h) (Or.inl ⟨by rfl, ?_⟩) HS0.out ?_
                  rotate_left
                  focus (intro w hS; have s0 := aCell hS.2 0 rfl; have s1 := aCell hS.2 1 rfl; clear hS; first | (go_simp; done) | (go_simp; with_reducible rfl))
                  simp only [Act.put, List.getElem_toArray, List.getElem_cons_zero, List.getElem_cons_succ, List.setIfInBounds_toArray, List.set_cons_zero, List.set_cons_succ]
                  refine wpAnyH_take (i := 4) (v := ?_) rfl (by kernel_rfl) (by kernel_rfl) (by kernel_rfl) (fun _ _ _ h => h) (Or.inl ⟨by rfl, ?_⟩) HS0.out ?_
                  rotate_left
                  focus (intro w hS; clear hS; first | (go_simp; done) | (go_simp; with_reducible rfl))
                  simp only [Act.put, List.getElem_toArray, List.getElem_cons_zero, List.getElem_cons_succ, List.setIfInBounds_toArray, List.set_cons_zero, List.set_cons_succ]
                  refine wpAnyH_ready (rs := [1]) (by kernel_rfl) (by simp) ?_
                  refine RdyH.cons rfl (fun K2 hK => ?_) RdyH.nil
                  go_simp
                  go_at_call 20
                  refine (ofC_any _ _ (Hp.out.keep Hw0.out)).mono ?_
                  rintro e wd1 ⟨a1, n1, k1, b1, m1, l1, rfl, ho, hb⟩
                  have HS1 := Lib.hid (And.intro (Bx.keep HS0.out.1 hb) (Bx.keep HS0.out.2 hb))
                  have Hw1 := Lib.hid (Below.tr Hw0.out hb)
                  have HW1 := Lib.hid (Below.tr HW0.out hb)
                  have HQ1 := Lib.hid ho.qr
                  clear ho hb
                  go_simp
                  refine hK _ _ HS1.out ?_
                  clear hK K2
                  refine wpAnyH_ready (rs := [3]) (by kernel_rfl) (by simp) ?_
                  refine RdyH.cons rfl (fun K2 hK => ?_) RdyH.nil
                  go_simp
                  go_at_call 20
                  refine (ofC_any _ _ (Hr.out.keep Hw1.out)).mono ?_
                  rintro e wd2 ⟨a2, n2, k2, b2, m2, l2, rfl, ho, hb⟩
                  have HS2 := Lib.hid (And.intro (Bx.keep HS1.out.1 hb) (Bx.keep HS1.out.2 hb))
                  have Hw2 := Lib.hid (Below.tr Hw1.out hb)
                  have HW2 := Lib.hid (Below.tr HW1.out hb)
                  have HQ2 := Lib.hid ho.qr
                  have HQ1 := Lib.hid (HQ1.out.keep hb)
                  clear ho hb
                  go_simp
                  refine hK _ _ HS2.out ?_
                  clear hK K2
                  refine wpAnyH_ready (rs := [5]) (by kernel_rfl) (by simp) ?_
                  refine RdyH.cons rfl (fun K2 hK => ?_) RdyH.nil
                  go_simp
                  go_at_call 29
                  refine (checkHom_any _ _ _ _ _ HQ1.out HQ2.out (HI.out.keep HW2.out)).mono ?_
                  rintro e wd3 ⟨B4, c4, rfl, hP, hb⟩
                  have HS3 := Lib.hid (And.intro (Bx.keep HS2.out.1 hb) (Bx.keep HS2.out.2 hb))
                  have HW3 := Lib.hid (Below.tr HW2.out hb)
                  have HP := Lib.hid hP
                  clear hP hb
                  go_simp
                  refine hK _ _ HS3.out ?_
                  clear hK K2
                  refine wpAnyH_take (i := 6) (v := ?_) rfl (by kernel_rfl) (by kernel_rfl) (by kernel_rfl) (fun _ _ _ h => h) (Or.inl ⟨by rfl, ?_⟩) HS3.out ?_
                  rotate_left
                  focus (intro w hS; clear hS; first | (go_simp; done) | (go_simp; with_reducible rfl))
                  simp only [Act.put, List.getElem_toArray, List.getElem_cons_zero, List.getElem_cons_succ, List.setIfInBounds_toArray, List.set_cons_zero, List.set_cons_succ]
                  refine wpAnyH_take (i := 7) (v := ?_) rfl (by kernel_rfl) (by kernel_rfl) (by kernel_rfl) (fun _ _ _ h => h) (Or.inl ⟨by rfl, ?_⟩) HS3.out ?_
                  rotate_left
                  focus (intro w hS; clear hS; first | (go_simp; done) | (go_simp; with_reducible rfl))
                  simp only [Act.put, List.getElem_toArray, List.getElem_cons_zero, List.getElem_cons_succ, List.setIfInBounds_toArray, List.set_cons_zero, List.set_cons_succ]
                  refine wpAnyH_take (i := 8) (v := ?_) rfl (by kernel_rfl) (by kernel_rfl) (by kernel_rfl) (fun _ _ _ h => h) (Or.inl ⟨by rfl, ?_⟩) HS3.out ?_
                  rotate_left
                  focus (intro w hS; clear hS; first | (go_simp; done) | (go_simp; with_reducible rfl))
                  simp only [Act.put, List.getElem_toArray, List.getElem_cons_zero, List.getElem_cons_succ, List.setIfInBounds_toArray, List.set_cons_zero, List.set_cons_succ]
                  refine wpAnyH_take (i := 9) (v := ?_) rfl (by kernel_rfl) (by kernel_rfl) (by kernel_rfl) (fun _ _ _ h => h) (Or.inl ⟨by rfl, ?_⟩) HS3.out ?_
                  rotate_left
                  focus (intro w hS; clear hS; first | (go_simp; done) | (go_simp; with_reducible rfl))
                  simp only [Act.put, List.getElem_toArray, List.getElem_cons_zero, List.getElem_cons_succ, List.setIfInBounds_toArray, List.set_cons_zero, List.set_cons_succ]
                  refine wpAnyH_take (i := 10) (v := ?_) rfl (by kernel_rfl) (by kernel_rfl) (by kernel_rfl) (fun _ _ _ h => h) (Or.inl ⟨by rfl, ?_⟩) HS3.out ?_
                  rotate_left
                  focus (intro w hS; clear hS; first | (go_simp; done) | (go_simp; with_reducible rfl))
                  simp only [Act.put, List.getElem_toArray, List.getElem_cons_zero, List.getElem_cons_succ, List.setIfInBounds_toArray, List.set_cons_zero, List.set_cons_succ]
                  refine wpAnyH_done (by kernel_rfl) ?_ _
                  go_wp2_with fail
                  go_meet
                  exact ⟨B4, c4, ⟨rfl, rfl⟩, HP.out, HW3.out⟩
                case rest =>
                  obtain ⟨B4, c4, ⟨rfl, rfl⟩, hP, hb⟩ := hcut
                  generalize wc = w21 at *
                  have HB := Lib.hid (HB.out.keep hb)
                  clear hb
                  obtain ⟨rfl, rfl⟩ : B4 = true ∧ c4 = 0 := by
                    rcases hP with ⟨h1, _⟩ | ⟨_, h2, h3⟩
                    · exact absurd HPR.out h1
                    · exact ⟨h3.2 HH.out, h2⟩
                  clear hP HI
                  go_wp2_with fail
                  refine (awake_any _).mono ?_
                  rintro e w22 ⟨rfl, hb⟩
                  have HB := Lib.hid (HB.out.keep hb)
                  clear hb 
                  go_wp2_with fail
                  go_ret
                  exact ⟨rfl, HB.out.b⟩
#print axioms chains_any
namespace matchChains
open Go.ChangeShapes Go.WideShapes Go.ChangeAt
set_option maxRecDepth 100000 in
theorem lifted (os : Os) (started : os.Started) (H : Type) (enc : TypeId × Value → H) :
    ReturnsInHanded {} Try.checked os 16 .any (Rows.matchChainsSpec.pre6 enc Try.prog Try.f16 Rows.matchChainsRow.domain false) (Rows.matchChainsSpec.post enc Try.prog Try.f16 false true false false) := by
  refine returnsInHanded_of_change (C := Try.checked) Try.own started (by kernel_rfl) Try.func16
    (ChangeSpec.witness6 (enc := enc) (C := Try.checked) false ⟨#[], #[.agg #[.slice none 0 0, .slice none 0 0], .agg #[.slice none 0 0, .slice none 0 0], .agg #[.slice none 0 0, .slice none 0 0]], []⟩ 8 (by kernel_rfl) (by kernel_rfl) (by kernel_rfl) (by kernel_rfl)) ?_
  intro W base args ds gs before hval0 hW _ _
  have hval : ∀ (j : Nat) t v, Try.f16.params[j]? = some t → args[j]? = some v → Value.okWide Try.prog W .any base t v := hval0
  clear hval0
  obtain rfl : gs = [] := by obtain ⟨p, q, _, hV, _⟩ := hW; exact (trodVars_none hV).1
  have hW' := hW
  obtain ⟨p, q, hA0, hV, rfl, hfz, hnd⟩ := hW
  have hA : DataW.TrodAll enc Try.prog W 0 (fun _ => true) true Try.f16.params.toList args.toList ds p := hA0
  rw [Try.params16] at hA hval
  obtain ⟨v0, vs0, d0, ds0, p0, q0, hv0, hd0, hp0, h0, r0⟩ := trodAll_cons hA
  obtain ⟨v1, vs1, d1, ds1, p1, q1, hv1, hd1, hp1, h1, r1⟩ := trodAll_cons r0
  obtain ⟨v2, vs2, d2, ds2, p2, q2, hv2, hd2, hp2, h2, r2⟩ := trodAll_cons r1
  obtain ⟨hvn, hdn, hpn⟩ := trodAll_nil r2
  have ha : args = #[v0, v1, v2] := by cases args; simp_all
  have hdd : ds = [d0, d1, d2] := by simp_all
  rw [ha] at hval
  obtain ⟨a0, k0⟩ := qry_arg Try.underlying25 ⟨rfl, rfl⟩ ⟨rfl, rfl⟩ Try.underlying23 Try.underlying80 ⟨rfl, rfl⟩ ⟨rfl, rfl⟩ Try.underlying3 Try.underlying22 cellsI (by kernel_rfl) (by kernel_rfl) (by kernel_rfl) (by kernel_rfl) (hval 0 25 v0 rfl rfl) h0
  obtain ⟨a1, k1⟩ := qry_arg Try.underlying25 ⟨rfl, rfl⟩ ⟨rfl, rfl⟩ Try.underlying23 Try.underlying80 ⟨rfl, rfl⟩ ⟨rfl, rfl⟩ Try.underlying3 Try.underlying22 cellsI (by kernel_rfl) (by kernel_rfl) (by kernel_rfl) (by kernel_rfl) (hval 1 25 v1 rfl rfl) h1
  obtain ⟨a2, k2⟩ := qry_arg Try.underlying25 ⟨rfl, rfl⟩ ⟨rfl, rfl⟩ Try.underlying23 Try.underlying80 ⟨rfl, rfl⟩ ⟨rfl, rfl⟩ Try.underlying3 Try.underlying22 cellsI (by kernel_rfl) (by kernel_rfl) (by kernel_rfl) (by kernel_rfl) (hval 2 25 v2 rfl rfl) h2
  have hw : Calls Try.prog 16 args W (fun e W' => e = .returned (.bool true) ∧ Below W.heap.size W W') := by
    rw [ha]; exact chains_any a0 a1 a2 v0 v1 v2 W k0 k1 k2
  exact hw.mono fun e W' ⟨he, hb⟩ => ⟨_, he, law_post Try.laidOut hW' rfl rfl Try.underlying4 (by rw [hdd]; rfl)
    (by kernel_rfl) hb⟩

theorem holds : Rows.MatchChainsSaid :=
  OpenClaim.holds_of_wide 16 Try.f16 rfl rfl rfl rfl rfl rfl rfl ⟨rfl, rfl, rfl, rfl, rfl⟩ rfl rfl rfl rfl rfl (by kernel_rfl) Try.func16 (by kernel_rfl)
    (of_decide_eq_true (by kernel_rfl)) (by unfold Func.isWrapper; first | (rw [if_pos (by decide +kernel)]; kernel_rfl) | (rw [if_neg (by decide +kernel)]; exact ⟨rfl, rfl⟩))
    (fun os started H enc _ => lifted os started H enc)
end matchChains
end Go.Proofs.Ytfplmdieeabgpaa
