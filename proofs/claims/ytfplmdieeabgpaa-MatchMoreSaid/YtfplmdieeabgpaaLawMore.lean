/- MatchMore: for every input the law returns true. -/
import Derived.Test.YtfplmdieeabgpaaApp
import Derived.Test.YtfplmdieeabgpaaCto
import Derived.Test.YtfplmdieeabgpaaFrame
import Derived.Test.YtfplmdieeabgpaaRows
namespace Go.Proofs.Ytfplmdieeabgpaa
open Go.RowKit
/-- a box of a row -/
def Cel (w : World) (b : Nat) (x : Value) : Prop := w.heap[b]? = some (.cells #[x] 22 (0, 0))
/-- a box of a fact -/
def Fx (w : World) (b : Nat) (r : Int) (y : Value) : Prop := w.heap[b]? = some (.cells #[.int .i64 r, y] 77 (0, 0))
theorem Fx.keep {w w' : World} {b : Nat} {r : Int} {y : Value} (h : Fx w b r y) (hb : Below w.heap.size w w') : Fx w' b r y := blk_keep2 h hb
structure B1 (w wr : World) (bp bf : Nat) (x0 x1 : Value) (r : Int) (y : Value) : Prop where
  b : Below w.heap.size w wr
  p : Bx wr bp x0 x1
  f : Fx wr bf r y
theorem B1.keep {w wr w' : World} {bp bf : Nat} {x0 x1 y : Value} {r : Int} (h : B1 w wr bp bf x0 x1 r y) (hb : Below wr.heap.size wr w') : B1 w w' bp bf x0 x1 r y :=
  ⟨Below.tr h.b hb, h.p.keep hb, h.f.keep hb⟩
theorem B1.cells {w wr : World} {bp bf : Nat} {x0 x1 y : Value} {r : Int} (h : B1 w wr bp bf x0 x1 r y) : (wr.cell? ⟨bp, 0, none⟩ = some x0 ∧ wr.cell? ⟨bp, 1, none⟩ = some x1) ∧ (wr.cell? ⟨bf, 0, none⟩ = some (.int .i64 r) ∧ wr.cell? ⟨bf, 1, none⟩ = some y) :=
  ⟨⟨aCell h.p 0 rfl, aCell h.p 1 rfl⟩, ⟨aCell h.f 0 rfl, aCell h.f 1 rfl⟩⟩
theorem B1.new {w w1 w2 : World} {x0 x1 y : Value} {r : Int} (h1 : w1 = w.alloc (.cells #[x0, x1] 25)) (h2 : w2 = w1.alloc (.cells #[.int .i64 r, y] 77)) {bp bf : Nat} (hp : bp = w.heap.size) (hq : bf = bp + 1) : B1 w w2 bp bf x0 x1 r y := by
  have k1 : Below w.heap.size w w1 := by rw [h1]; exact below_alloc _ _
  have k2 : Below w1.heap.size w1 w2 := by rw [h2]; exact below_alloc _ _
  have z : w1.heap.size = w.heap.size + 1 := by rw [h1]; simp
  refine ⟨Below.tr k1 k2, Bx.keep (by rw [hp, h1]; exact heap_alloc_new w _) k2, ?_⟩
  rw [hq, hp, ← z, h2]; exact heap_alloc_new w1 _
structure Bel (w w' : World) : Prop where
  b : Below w.heap.size w w'
theorem Bel.keep {w wr w' : World} (h : Bel w wr) (hb : Below wr.heap.size wr w') : Bel w w' := ⟨Below.tr h.b hb⟩
theorem ofF_len (l : List HAt) : (ofF l).length ≤ 26 := by unfold ofF; rw [List.length_map, List.length_take]; omega
theorem more_sub {q : HQ} {l : List HAt} {a : HAt} {R S : List (List Int)} (hR : IsRes q l R) (hS : IsRes q (a :: l) S) : ∀ x, x ∈ R → x ∈ S := fun x hx => by
  obtain ⟨v, hv, rfl⟩ := (hR.2 x).1 hx
  exact (hS.2 _).2 ⟨v, maP_more (fun f hf => List.mem_cons_of_mem _ hf) hv, rfl⟩
theorem one_own {b : Nat} {w : World} {a : HAt} {u : Value} {i : Nat} (hi : i < [a].length) (h : OwnInts b w u a.2) : OwnInts b w ([u].getD i (.bool false)) (aA [a] i) := by
  have : i = 0 := by simpa using hi
  subst this; exact h
set_option maxRecDepth 100000 in
set_option maxHeartbeats 16000000 in
theorem more_any (q : HQ) (l : List HAt) (r : Int) (F : List Int) (v x y : Value) (w : World) (hq : Qr w v q) (hl : Atoms w x l) (hy : Ints w y F) :
    Calls Try.prog 12 #[v, x, .agg #[.int .i64 r, y]] w fun e w' => e = .returned (.bool true) ∧ Below w.heap.size w w' := by
  obtain ⟨h0, b0, rfl, hh, hb⟩ := hq
  have Hq := Lib.hid (show Qr w (.agg #[h0, b0]) q from ⟨_, _, rfl, hh, hb⟩)
  obtain ⟨ha, hc, rfl⟩ := ints_slice hh
  obtain ⟨ba, bc, rfl⟩ := atoms_slice hb
  obtain ⟨la, lc, rfl⟩ := atoms_slice hl
  obtain ⟨ya, yc, rfl⟩ := ints_slice hy
  obtain ⟨n0, hn0⟩ : ∃ x, x = q.1.length := ⟨_, rfl⟩
  obtain ⟨n1, hn1⟩ : ∃ x, x = q.2.length := ⟨_, rfl⟩
  obtain ⟨ln, hln⟩ : ∃ x, x = l.length := ⟨_, rfl⟩
  obtain ⟨yn, hyn⟩ : ∃ x, x = F.length := ⟨_, rfl⟩
  rw [← hn0, ← hn1] at Hq
  rw [← hln] at hl
  rw [← hyn] at hy
  rw [← hn0, ← hn1, ← hln, ← hyn]
  have Hl := Lib.hid hl
  have Hy := Lib.hid hy
  obtain ⟨w1, hw1⟩ : ∃ x, x = w.alloc (.cells #[.slice ha n0 hc, .slice ba n1 bc] 25) := ⟨_, rfl⟩
  obtain ⟨w2, hw2⟩ : ∃ x, x = w1.alloc (.cells #[.int .i64 r, .slice ya yn yc] 77) := ⟨_, rfl⟩
  obtain ⟨bp, hbp⟩ : ∃ x, x = w.heap.size := ⟨_, rfl⟩
  obtain ⟨bf, hbq⟩ : ∃ x, x = bp + 1 := ⟨_, rfl⟩
  have HB := Lib.hid (B1.new hw1 hw2 hbp hbq)
  have Hw1 := Lib.hid hw1
  have Hw2 := Lib.hid hw2
  have Hbpe := Lib.hid hbp
  have Hbqe := Lib.hid hbq
  clear hh hb hw1 hw2 hbp hbq hn0 hn1 hln hyn hl hy
  go_enter Try.func12, Try.ntmps12
  go_upto_region 1 with fail
  rw [← Hw1.out, ← Hw2.out, ← Hbpe.out, ← Hbqe.out]
  clear Hw1 Hw2 Hbpe Hbqe
  obtain ⟨⟨g0, g1⟩, g2, g3⟩ := HB.out.cells
  go_wp2_with fail
  refine (ofC_any _ _ (Hq.out.keep HB.out.b)).mono ?_
  rintro e w3 ⟨a1, e1, k1, a2, e2, k2, rfl, ho, hb⟩
  have HB := Lib.hid (HB.out.keep hb)
  have HQ := Lib.hid ho.qr
  clear hb ho g0 g1 g2 g3
  go_wp2_with fail
  refine (facC_any _ _ (Hl.out.keep HB.out.b)).mono ?_
  rintro e w4 ⟨f1, f2, f3, rfl, ho, hb⟩
  have HB := Lib.hid (HB.out.keep hb)
  have HQ := Lib.hid (HQ.out.keep hb)
  have HF := Lib.hid ho.atoms
  clear hb ho
  go_wp2_with fail
  refine (resC_any _ _ _ HQ.out HF.out).mono ?_
  rintro e w5 ⟨ra1, rn1, rk1, c1, rfl, hR, hb⟩
  have HB := Lib.hid (HB.out.keep hb)
  have HQ := Lib.hid (HQ.out.keep hb)
  have HF := Lib.hid (HF.out.keep hb)
  have HR1 := Lib.hid hR
  clear hb hR HQ HF
  go_upto_region 2 with fail
  try simp only [Act.put]
  have HB0 := Lib.hid HB.out
  have HR0 := Lib.hid HR1.out
  go_cut [9] (fun o9 wc => ∃ ma mn mk, o9 = .slice ma mn mk ∧ OwnAtoms 77 w5.heap.size wc (.slice ma mn mk) (ofA (r, F) :: ofF l) ∧ Below w5.heap.size w5 wc)
  case first =>
    have HS0 := Lib.hid (show Fx w5.drew bf r (.slice ya yn yc) from HB.out.f)
    have Hw0 := Lib.hid (show Below w.heap.size w w5.drew from HB.out.b.drew)
    have HW0 := Lib.hid (show Below w5.heap.size w5 w5.drew from (Below.refl _ _).drew)
    refine wp_region_held (S := fun w' => Fx w' bf r (.slice ya yn yc)) wideK ?_
    change wpAnyH _ _ _ _ _ _ _ _ (World.drew _)
    generalize w5.drew = wd0 at *
    have HBf := Lib.hid (show bf < w5.heap.size from (Array.getElem?_eq_some_iff.1 HB.out.f).1)
    refine wpAnyH_take (i := 0) (v := ?_) rfl (by kernel_rfl) (by kernel_rfl) (by kernel_rfl) (fun _ _ _ h => h) (Or.inl ⟨by rfl, ?_⟩) HS0.out ?_
    rotate_left
    focus (intro w hS; clear hS; first | (go_simp; done) | (go_simp; with_reducible rfl))
    simp only [Act.put, List.getElem_toArray, List.getElem_cons_zero, List.setIfInBounds_toArray, List.set_cons_zero, List.set_cons_succ]
    refine wpAnyH_take (i := 1) (v := ?_) rfl (by kernel_rfl) (by kernel_rfl) (by kernel_rfl) (fun _ _ _ h => h) (Or.inl ⟨by rfl, ?_⟩) HS0.out ?_
    rotate_left
    focus (intro w hS; have s0 := aCell hS 0 rfl; have s1 := aCell hS 1 rfl; clear hS; first | (go_simp; done) | (go_simp; with_reducible rfl))
    simp only [Act.put, List.getElem_toArray, List.getElem_cons_zero, List.getElem_cons_succ, List.setIfInBounds_toArray, List.set_cons_zero, List.set_cons_succ]
    refine wpAnyH_take (i := 2) (v := ?_) rfl (by kernel_rfl) (by kernel_rfl) (by kernel_rfl) (fun _ _ _ h => h) (Or.inl ⟨by rfl, ?_⟩) HS0.out ?_
    rotate_left
    focus (intro w hS; clear hS; first | (go_simp; done) | (go_simp; with_reducible rfl))
    simp only [Act.put, List.getElem_toArray, List.getElem_cons_zero, List.getElem_cons_succ, List.setIfInBounds_toArray, List.set_cons_zero, List.set_cons_succ]
    refine wpAnyH_take (i := 3) (v := ?_) rfl (by kernel_rfl) (by kernel_rfl) (by kernel_rfl) (fun _ _ _ h => h) (Or.inl ⟨by rfl, ?_⟩) HS0.out ?_
    rotate_left
    focus (intro w hS; have s0 := aCell hS 0 rfl; have s1 := aCell hS 1 rfl; clear hS; first | (go_simp; done) | (go_simp; with_reducible rfl))
    simp only [Act.put, List.getElem_toArray, List.getElem_cons_zero, List.getElem_cons_succ, List.setIfInBounds_toArray, List.set_cons_zero, List.set_cons_succ]
    refine wpAnyH_take (i := 7) (v := ?_) rfl (by kernel_rfl) (by kernel_rfl) (by kernel_rfl) (fun _ _ _ h => h) (Or.inl ⟨by rfl, ?_⟩) HS0.out ?_
    rotate_left
    focus (intro w hS; clear hS; first | (go_simp; done) | (go_simp; with_reducible rfl))
    simp only [Act.put, List.getElem_toArray, List.getElem_cons_zero, List.getElem_cons_succ, List.setIfInBounds_toArray, List.set_cons_zero, List.set_cons_succ]
    refine wpAnyH_ready (rs := [4]) (by kernel_rfl) (by simp) ?_
    refine RdyH.cons rfl (fun K2 hK => ?_) RdyH.nil
    go_simp
    go_at_call 43
    refine (fewQ_any F _ _ (Hy.out.keep Hw0.out)).mono ?_
    rintro e wd1 ⟨u, rfl, hu, hb⟩
    obtain ⟨ua, un, uk, rfl⟩ := own_slice hu
    have HS1 := Lib.hid (Fx.keep HS0.out hb)
    have Hw1 := Lib.hid (Below.tr Hw0.out hb)
    have HW1 := Lib.hid (Below.tr HW0.out hb)
    have HU := Lib.hid (OwnInts.base hu HW0.out.size)
    clear hu
    clear hb
    go_simp
    refine hK _ _ HS1.out ?_
    clear hK K2
    refine wpAnyH_take (i := 5) (v := ?_) rfl (by kernel_rfl) (by kernel_rfl) (by kernel_rfl) (fun _ _ _ h => h) (Or.inl ⟨by rfl, ?_⟩) HS1.out ?_
    rotate_left
    focus (intro w hS; clear hS; first | (go_simp; done) | (go_simp; with_reducible rfl))
    simp only [Act.put, List.getElem_toArray, List.getElem_cons_zero, List.getElem_cons_succ, List.setIfInBounds_toArray, List.set_cons_zero, List.set_cons_succ]
    refine wpAnyH_ready (rs := [6, 8]) (by kernel_rfl) (by simp) ?_
    refine RdyH.cons rfl (fun K2 hK => ?_) ?_
    · obtain ⟨wd2, hwd⟩ : ∃ x, x = wd1.alloc (.cells #[.int .i64 r, .slice ua un uk] 77) := ⟨_, rfl⟩
      have hb : Below wd1.heap.size wd1 wd2 := by rw [hwd]; exact below_alloc _ _
      obtain ⟨lg, hlg⟩ : ∃ x, x = wd1.heap.size := ⟨_, rfl⟩
      have HLr := Lib.hid (show wd2.ownsRow w5.heap.size 77 2 (.slice (some ⟨lg, 0, none⟩) 1 1) 1 [.int .i64 r, .slice ua un uk] from by
        rw [hwd, hlg]; exact World.ownsRow_lit wd1 #[.int .i64 r, .slice ua un uk] 1 HW1.out.size (by unfold maxLen; omega) rfl)
      go_simp
      rw [← hwd, ← hlg]
      have HS2 := Lib.hid (Fx.keep HS1.out hb)
      have Hw2 := Lib.hid (Below.tr Hw1.out hb)
      have HW2 := Lib.hid (Below.tr HW1.out hb)
      have HU := Lib.hid (HU.out.keep hb)
      clear hb hwd hlg
      refine hK _ _ HS2.out ?_
      clear hK K2
      refine wpAnyH_ready (rs := [8]) (by kernel_rfl) (by simp) ?_
      refine RdyH.cons rfl (fun K2 hK => ?_) RdyH.nil
      go_simp
      go_at_call 21
      refine (facC_any _ _ (Hl.out.keep Hw2.out)).mono ?_
      rintro e wd3 ⟨f1, f2, f3, rfl, ho, hb⟩
      have HS3 := Lib.hid (Fx.keep HS2.out hb)
      have Hw3 := Lib.hid (Below.tr Hw2.out hb)
      have HW3 := Lib.hid (Below.tr HW2.out hb)
      have HU := Lib.hid (HU.out.keep hb)
      have HLr := Lib.hid (owns_keep HLr.out hb)
      have HF := Lib.hid (OwnAtoms.base ho HW2.out.size)
      clear ho
      clear hb
      go_simp
      refine hK _ _ HS3.out ?_
      clear hK K2
      refine wpAnyH_ready (rs := [9]) (by kernel_rfl) (by simp) ?_
      refine RdyH.cons rfl (fun K2 hK => ?_) RdyH.nil
      obtain ⟨vs, k1, k2, k3⟩ := HF.out
      have hsrc := (owns_rd k2).src
      refine step_append_src rfl (.tmp 30) (.tmp 32) 26 rfl elemFacts rfl HLr.out rfl hsrc (atC_one k1 k3) (by have := ofF_len l; omega) HW3.out.size ?_
      intro v' wd4 h1 h2 hg
      have HM := Lib.hid (OwnAtoms.appended (A := [ofA (r, F)]) (u := [.slice ua un uk]) factNotInt rfl HLr.out (fun i hi => one_own hi HU.out) k1 k3 rfl h1 hg)
      have hb : Below w5.heap.size wd3 wd4 := h2
      have HS4 := Lib.hid (show Fx wd4 bf r (.slice ya yn yc) from (h2.block _ HBf.out).trans HS3.out)
      have HW4 := Lib.hid (HW3.out.trans h2)
      clear hb h1 h2 hg k1 k2 k3 hsrc
      go_simp
      refine hK _ _ HS4.out ?_
      clear hK K2
      refine wpAnyH_take (i := 10) (v := ?_) rfl (by kernel_rfl) (by kernel_rfl) (by kernel_rfl) (fun _ _ _ h => h) (Or.inl ⟨by rfl, ?_⟩) HS4.out ?_
      rotate_left
      focus (intro w hS; clear hS; first | (go_simp; done) | (go_simp; with_reducible rfl))
      simp only [Act.put, List.getElem_toArray, List.getElem_cons_zero, List.getElem_cons_succ, List.setIfInBounds_toArray, List.set_cons_zero, List.set_cons_succ]
      refine wpAnyH_done (by kernel_rfl) ?_ _
      go_wp2_with fail
      go_meet
      obtain ⟨ma, mk, rfl⟩ := Atoms.own HM.out
      exact ⟨ma, _, mk, rfl, HM.out, HW4.out⟩
    · refine RdyH.cons rfl (fun K2 hK => ?_) RdyH.nil
      go_simp
      go_at_call 21
      refine (facC_any _ _ (Hl.out.keep Hw1.out)).mono ?_
      rintro e wd2 ⟨f1, f2, f3, rfl, ho, hb⟩
      have HS2 := Lib.hid (Fx.keep HS1.out hb)
      have Hw2 := Lib.hid (Below.tr Hw1.out hb)
      have HW2 := Lib.hid (Below.tr HW1.out hb)
      have HU := Lib.hid (HU.out.keep hb)
      have HF := Lib.hid (OwnAtoms.base ho HW1.out.size)
      clear ho
      clear hb
      go_simp
      refine hK _ _ HS2.out ?_
      clear hK K2
      refine wpAnyH_ready (rs := [6]) (by kernel_rfl) (by simp) ?_
      refine RdyH.cons rfl (fun K2 hK => ?_) RdyH.nil
      obtain ⟨wd3, hwd⟩ : ∃ x, x = wd2.alloc (.cells #[.int .i64 r, .slice ua un uk] 77) := ⟨_, rfl⟩
      have hb : Below wd2.heap.size wd2 wd3 := by rw [hwd]; exact below_alloc _ _
      obtain ⟨lg, hlg⟩ : ∃ x, x = wd2.heap.size := ⟨_, rfl⟩
      have HLr := Lib.hid (show wd3.ownsRow w5.heap.size 77 2 (.slice (some ⟨lg, 0, none⟩) 1 1) 1 [.int .i64 r, .slice ua un uk] from by
        rw [hwd, hlg]; exact World.ownsRow_lit wd2 #[.int .i64 r, .slice ua un uk] 1 HW2.out.size (by unfold maxLen; omega) rfl)
      go_simp
      rw [← hwd, ← hlg]
      have HS3 := Lib.hid (Fx.keep HS2.out hb)
      have Hw3 := Lib.hid (Below.tr Hw2.out hb)
      have HW3 := Lib.hid (Below.tr HW2.out hb)
      have HU := Lib.hid (HU.out.keep hb)
      have HF := Lib.hid (HF.out.keep hb)
      clear hb hwd hlg
      refine hK _ _ HS3.out ?_
      clear hK K2
      refine wpAnyH_ready (rs := [9]) (by kernel_rfl) (by simp) ?_
      refine RdyH.cons rfl (fun K2 hK => ?_) RdyH.nil
      obtain ⟨vs, k1, k2, k3⟩ := HF.out
      have hsrc := (owns_rd k2).src
      refine step_append_src rfl (.tmp 30) (.tmp 32) 26 rfl elemFacts rfl HLr.out rfl hsrc (atC_one k1 k3) (by have := ofF_len l; omega) HW3.out.size ?_
      intro v' wd4 h1 h2 hg
      have HM := Lib.hid (OwnAtoms.appended (A := [ofA (r, F)]) (u := [.slice ua un uk]) factNotInt rfl HLr.out (fun i hi => one_own hi HU.out) k1 k3 rfl h1 hg)
      have hb : Below w5.heap.size wd3 wd4 := h2
      have HS4 := Lib.hid (show Fx wd4 bf r (.slice ya yn yc) from (h2.block _ HBf.out).trans HS3.out)
      have HW4 := Lib.hid (HW3.out.trans h2)
      clear hb h1 h2 hg k1 k2 k3 hsrc
      go_simp
      refine hK _ _ HS4.out ?_
      clear hK K2
      refine wpAnyH_take (i := 10) (v := ?_) rfl (by kernel_rfl) (by kernel_rfl) (by kernel_rfl) (fun _ _ _ h => h) (Or.inl ⟨by rfl, ?_⟩) HS4.out ?_
      rotate_left
      focus (intro w hS; clear hS; first | (go_simp; done) | (go_simp; with_reducible rfl))
      simp only [Act.put, List.getElem_toArray, List.getElem_cons_zero, List.getElem_cons_succ, List.setIfInBounds_toArray, List.set_cons_zero, List.set_cons_succ]
      refine wpAnyH_done (by kernel_rfl) ?_ _
      go_wp2_with fail
      go_meet
      obtain ⟨ma, mk, rfl⟩ := Atoms.own HM.out
      exact ⟨ma, _, mk, rfl, HM.out, HW4.out⟩
  case rest =>
    obtain ⟨ma, mn, mk, rfl, hM, hb⟩ := hcut
    generalize wc = w6 at *
    have HB := Lib.hid (HB.out.keep hb)
    have HR1 := Lib.hid (HR1.out.keep hb)
    have HM := Lib.hid hM
    have HE := Lib.hid (Bel.mk hb)
    clear hb hM
    clear HR1
    obtain ⟨⟨g0, g1⟩, g2, g3⟩ := HB.out.cells
    go_wp2_with fail
    refine (ofC_any _ _ (Hq.out.keep HB.out.b)).mono ?_
    rintro e w7 ⟨a1, e1, k1, a2, e2, k2, rfl, ho, hb⟩
    have HB := Lib.hid (HB.out.keep hb)
    have HM := Lib.hid (HM.out.keep hb)
    have HE := Lib.hid (HE.out.keep hb)
    have HQ := Lib.hid ho.qr
    clear hb ho g0 g1 g2 g3
    have HG := Lib.hid (show ∀ g, (Value.slice ma mn mk).ownBlock = some g → g < w7.heap.size from fun g hg => by
      obtain ⟨vs, k1, k2, k3⟩ := HM.out
      exact (own_lt k2 hg).2)
    go_wp2_with fail
    refine (resC_any _ _ _ HQ.out HM.out.atoms).mono ?_
    rintro e w8 ⟨ra2, rn2, rk2, c2, rfl, hR, hb⟩
    have HB := Lib.hid (HB.out.keep hb)
    have HM := Lib.hid (HM.out.keep hb)
    have HE := Lib.hid (HE.out.keep hb)
    have HQ := Lib.hid (HQ.out.keep hb)
    have HR2 := Lib.hid hR
    clear hb hR HQ
    go_wp2_with fail
    refine (revF_any _ _ _ w8 HM.out HE.out.b.size).mono ?_
    rintro e w9 ⟨rfl, hM, hg⟩
    have hb : Below w5.heap.size w5 w9 := HE.out.b.trans (by obtain ⟨vs, k1, k2, k3⟩ := HM.out; exact grown_below k2 hg HE.out.b.size)
    have HR2 := Lib.hid (HR2.out.rev hg HG.out)
    have HB := Lib.hid (HB0.out.keep hb)
    have HR1 := Lib.hid (HR0.out.keep hb)
    have HM := Lib.hid hM.atoms
    clear hM hg hb HE HG HB0 HR0
    obtain ⟨⟨g0, g1⟩, g2, g3⟩ := HB.out.cells
    go_wp2_with fail
    refine (ofC_any _ _ (Hq.out.keep HB.out.b)).mono ?_
    rintro e w10 ⟨a1, e1, k1, a2, e2, k2, rfl, ho, hb⟩
    have HB := Lib.hid (HB.out.keep hb)
    have HM := Lib.hid (HM.out.keep hb)
    have HR1 := Lib.hid (HR1.out.keep hb)
    have HR2 := Lib.hid (HR2.out.keep hb)
    have HQ := Lib.hid ho.qr
    clear hb ho g0 g1 g2 g3
    go_wp2_with fail
    refine (resC_any _ _ _ HQ.out HM.out).mono ?_
    rintro e w11 ⟨ra3, rn3, rk3, c3, rfl, hR, hb⟩
    have HB := Lib.hid (HB.out.keep hb)
    have HM := Lib.hid (HM.out.keep hb)
    have HR1 := Lib.hid (HR1.out.keep hb)
    have HR2 := Lib.hid (HR2.out.keep hb)
    have HQ := Lib.hid (HQ.out.keep hb)
    have HR3 := Lib.hid hR
    clear hb hR HQ HM
    obtain ⟨rfl, hc2, Rb, hb2, hb3, hI⟩ := res_turn HR2.out HR3.out
    have HRb := Lib.hid hb2
    have HRc := Lib.hid hb3
    have HIb := Lib.hid hI
    have Hc2 := Lib.hid hc2
    clear hb2 hb3 hI hc2 HR2 HR3
    have HRw := Lib.hid (rows_any Rb Rb _ _ w11 HRb.out HRc.out)
    clear HRc
    go_wp2_with fail
    refine HRw.out.mono ?_
    intro e w12 hh
    obtain ⟨rfl, hb⟩ : e = .returned (.bool true) ∧ Below w11.heap.size w11 w12 := by
      obtain ⟨h1, n, h2⟩ := hh
      exact ⟨by rw [h1]; simp, by rw [h2]; exact ⟨rfl, rfl, rfl, Nat.le_refl _, fun _ _ => rfl⟩⟩
    have HB := Lib.hid (HB.out.keep hb)
    have HR1 := Lib.hid (HR1.out.keep hb)
    have HRb := Lib.hid (HRb.out.keep hb)
    clear hb hh HRw
    obtain ⟨Ra, ra1_, ra2_, ra3_⟩ := HR1.out.rows
    have HRa := Lib.hid ra1_
    have HIa := Lib.hid ra3_
    clear HR1 ra1_ ra2_ ra3_
    by_cases z1 : c1 = 0
    · subst z1
      rcases Hc2.out with rfl | rfl | rfl
      · have HSub := Lib.hid (more_sub (HIa.out rfl) (HIb.out rfl))
        clear HIa HIb
        obtain ⟨a, b, off, cap, vs, hav, hle, hia, hvs, hcs, hrs⟩ := HRa.out.get
        injection hav with e1 e2 e3
        subst e1; subst e2; subst e3
        have Hix := Lib.hid (run_ix (P := Try.prog) (t := 27) (a := ra1) (len := Ra.length) (cap := rk1) (b := b) (off := off) (s := 1) Try.underlying27 (by intro w; kernel_rfl) hia)
        simp only [Nat.mul_one] at Hix
        have Hc := Lib.hid (show ∀ i, i < Ra.length → w12.cell? ⟨b, off + i, none⟩ = some (vs.getD i (.bool false)) ∧ Ints w12 (vs.getD i (.bool false)) (Ra.getD i []) from fun i hi => by
          rw [List.getD_eq_getElem?_getD, List.getElem?_eq_getElem (by omega : i < vs.length), List.getD_eq_getElem?_getD, List.getElem?_eq_getElem hi]
          exact ⟨hcs i (by omega), hrs i hi (by omega)⟩)
        clear hia hvs hcs hrs HRa
        go_wp2_with fail
        go_loopw [80] (fun vi wr => ∃ k : Nat, vi = .int .i64 k ∧ k ≤ Ra.length ∧ Below w12.heap.size w12 wr) (fun vi _ => Ra.length - (intOf vi).toNat)
        case atStart => exact ⟨0, rfl, Nat.zero_le _, Below.refl _ _⟩
        case round =>
          obtain ⟨k, rfl, hk, hb⟩ := hrel
          have Hb := Lib.hid hb
          clear hb
          have HB := Lib.hid (HB.out.keep Hb.out)
          have HRb := Lib.hid (HRb.out.keep Hb.out)
          by_cases hlt : k < Ra.length
          · have hck := Below.keep Hb.out (Hc.out k hlt).1
            have Hik := Lib.hid ((Hc.out k hlt).2.keep Hb.out)
            have hixk := Hix.out k
            have HM := Lib.hid (HSub.out (Ra.getD k []) (by rw [List.getD_eq_getElem?_getD, List.getElem?_eq_getElem hlt]; exact List.getElem_mem hlt))
            obtain ⟨Y, hY⟩ : ∃ x, x = Ra.getD k [] := ⟨_, rfl⟩
            rw [← hY] at Hik HM
            obtain ⟨ya, yc, hys⟩ := ints_slice Hik.out
            rw [hys] at hck Hik
            obtain ⟨yn, hyn⟩ : ∃ x, x = Y.length := ⟨_, rfl⟩
            rw [← hyn] at hck Hik
            clear hys hY hyn
            obtain ⟨wn, hwn⟩ : ∃ wn, wn = wr.alloc (.cells #[.slice ya yn yc] 22) := ⟨_, rfl⟩
            have hb : Below wr.heap.size wr wn := by rw [hwn]; exact below_alloc _ _
            have HK := Lib.hid (conO1_any Y Rb (.slice ya yn yc) (.slice ra2 rn2 rk2) wr.heap.size wn (aCell (show Cel wn wr.heap.size (.slice ya yn yc) from by rw [hwn]; exact heap_alloc_new _ _) 0 rfl) (Hik.out.keep hb) (HRb.out.keep hb) true (decide_eq_true HM.out))
            have Hb2 := Lib.hid (Below.tr Hb.out hb)
            have Hwn := Lib.hid hwn
            clear hb hwn
            go_upto_region 13 with fail
            rw [← Hwn.out]
            clear Hwn hck hixk
            go_wp2_with fail
            refine HK.out.mono ?_
            rintro e w9 ⟨rfl, hb⟩
            have Hb9 := Lib.hid (Below.tr Hb2.out hb)
            clear hb
            go_wp2_with fail
            go_roundw
            case rel => exact ⟨k + 1, by go_num, by omega, Hb9.out⟩
            case measure => simp [intOf]; omega
          · obtain rfl : k = Ra.length := by omega
            go_wp2_with fail
            refine (awake_any _).mono ?_
            rintro e w21 ⟨rfl, hb⟩
            have HB := Lib.hid (HB.out.keep hb)
            clear hb 
            go_wp2_with fail
            go_ret
            exact ⟨rfl, HB.out.b⟩
      · go_wp2_with fail
        refine (awake_any _).mono ?_
        rintro e w13 ⟨rfl, hb⟩
        have HB := Lib.hid (HB.out.keep hb)
        have HRa := Lib.hid (HRa.out.keep hb)
        have HRb := Lib.hid (HRb.out.keep hb)
        clear hb 
        go_wp2_with fail
        go_ret
        exact ⟨rfl, HB.out.b⟩
      · go_wp2_with fail
        refine (awake_any _).mono ?_
        rintro e w13 ⟨rfl, hb⟩
        have HB := Lib.hid (HB.out.keep hb)
        have HRa := Lib.hid (HRa.out.keep hb)
        have HRb := Lib.hid (HRb.out.keep hb)
        clear hb 
        go_wp2_with fail
        go_ret
        exact ⟨rfl, HB.out.b⟩
    · have q1 : (c1 != 0) = true := by rw [bne_iff_ne]; exact z1
      go_wp2_with fail
      refine (awake_any _).mono ?_
      rintro e w13 ⟨rfl, hb⟩
      have HB := Lib.hid (HB.out.keep hb)
      have HRa := Lib.hid (HRa.out.keep hb)
      have HRb := Lib.hid (HRb.out.keep hb)
      clear hb 
      go_wp2_with fail
      go_ret
      exact ⟨rfl, HB.out.b⟩
#print axioms more_any
namespace matchMore
open Go.ChangeShapes Go.WideShapes Go.ChangeAt
set_option maxRecDepth 100000 in
theorem lifted (os : Os) (started : os.Started) (H : Type) (enc : TypeId × Value → H) :
    ReturnsInHanded {} Try.checked os 12 .any (Rows.matchMoreSpec.pre6 enc Try.prog Try.f12 Rows.matchMoreRow.domain false) (Rows.matchMoreSpec.post enc Try.prog Try.f12 false true false false) := by
  refine returnsInHanded_of_change (C := Try.checked) Try.own started (by kernel_rfl) Try.func12
    (ChangeSpec.witness6 (enc := enc) (C := Try.checked) false ⟨#[], #[.agg #[.slice none 0 0, .slice none 0 0], .slice none 0 0, .agg #[.int .i64 0, .slice none 0 0]], []⟩ 8 (by kernel_rfl) (by kernel_rfl) (by kernel_rfl) (by kernel_rfl)) ?_
  intro W base args ds gs before hval0 hW _ _
  have hval : ∀ (j : Nat) t v, Try.f12.params[j]? = some t → args[j]? = some v → Value.okWide Try.prog W .any base t v := hval0
  clear hval0
  obtain rfl : gs = [] := by obtain ⟨p, q, _, hV, _⟩ := hW; exact (trodVars_none hV).1
  have hW' := hW
  obtain ⟨p, q, hA0, hV, rfl, hfz, hnd⟩ := hW
  have hA : DataW.TrodAll enc Try.prog W 0 (fun _ => true) true Try.f12.params.toList args.toList ds p := hA0
  rw [Try.params12] at hA hval
  obtain ⟨v0, vs0, d0, ds0, p0, q0, hv0, hd0, hp0, h0, r0⟩ := trodAll_cons hA
  obtain ⟨v1, vs1, d1, ds1, p1, q1, hv1, hd1, hp1, h1, r1⟩ := trodAll_cons r0
  obtain ⟨v2, vs2, d2, ds2, p2, q2, hv2, hd2, hp2, h2, r2⟩ := trodAll_cons r1
  obtain ⟨hvn, hdn, hpn⟩ := trodAll_nil r2
  have ha : args = #[v0, v1, v2] := by cases args; simp_all
  have hdd : ds = [d0, d1, d2] := by simp_all
  rw [ha] at hval
  obtain ⟨a0, k0⟩ := qry_arg Try.underlying25 ⟨rfl, rfl⟩ ⟨rfl, rfl⟩ Try.underlying23 Try.underlying80 ⟨rfl, rfl⟩ ⟨rfl, rfl⟩ Try.underlying3 Try.underlying22 cellsI (by kernel_rfl) (by kernel_rfl) (by kernel_rfl) (by kernel_rfl) (hval 0 25 v0 rfl rfl) h0
  obtain ⟨a1, k1⟩ := atoms_of_trod Try.underlying26 Try.underlying77 ⟨rfl, rfl⟩ ⟨rfl, rfl⟩ Try.underlying3 Try.underlying22 cellsI (by kernel_rfl) (by kernel_rfl) (okWide_slice Try.underlying26 (hval 1 26 v1 rfl rfl)) h1
  obtain ⟨a2, u2, e2, k2⟩ := fct_arg Try.underlying77 ⟨rfl, rfl⟩ ⟨rfl, rfl⟩ Try.underlying3 Try.underlying22 (by kernel_rfl) (by kernel_rfl) (by kernel_rfl) (hval 2 77 v2 rfl rfl) h2
  have hw : Calls Try.prog 12 args W (fun e W' => e = .returned (.bool true) ∧ Below W.heap.size W W') := by
    rw [ha, e2]; exact more_any a0 a1 a2.1 a2.2 v0 v1 u2 W k0 k1 k2
  exact hw.mono fun e W' ⟨he, hb⟩ => ⟨_, he, law_post Try.laidOut hW' rfl rfl Try.underlying4 (by rw [hdd]; rfl)
    (by kernel_rfl) hb⟩

theorem holds : Rows.MatchMoreSaid :=
  OpenClaim.holds_of_wide 12 Try.f12 rfl rfl rfl rfl rfl rfl rfl ⟨rfl, rfl, rfl, rfl, rfl⟩ rfl rfl rfl rfl rfl (by kernel_rfl) Try.func12 (by kernel_rfl)
    (of_decide_eq_true (by kernel_rfl)) (by unfold Func.isWrapper; first | (rw [if_pos (by decide +kernel)]; kernel_rfl) | (rw [if_neg (by decide +kernel)]; exact ⟨rfl, rfl⟩))
    (fun os started H enc _ => lifted os started H enc)
end matchMore
end Go.Proofs.Ytfplmdieeabgpaa
