/- Contract of hasImage. Contract of hasImage. -/
import Derived.Test.YtfplmdieeabgpaaHmb
import Derived.Test.YtfplmdieeabgpaaEqq
import Derived.BigRegion
namespace Go.Proofs.Ytfplmdieeabgpaa
open Go.RowKit
def CelI (w : World) (b : Nat) (x : Value) : Prop := w.heap[b]? = some (.cells #[x] 22 (0, 0))
theorem CelI.keep {w w' : World} {b : Nat} {x : Value} (h : CelI w b x) (hb : Below w.heap.size w w') : CelI w' b x := blk_keep2 h hb
def AtB (w : World) (b : Nat) (r : Int) (x : Value) : Prop := w.heap[b]? = some (.cells #[.int .i64 r, x] 88 (0, 0))
theorem AtB.keep {w w' : World} {b : Nat} {r : Int} {x : Value} (h : AtB w b r x) (hb : Below w.heap.size w w') : AtB w' b r x := blk_keep2 h hb
set_option maxRecDepth 100000 in
set_option maxHeartbeats 8000000 in
theorem cloHI_any (r ra : Int) (l im : List Int) (u vi : Value) (ba bi : Nat) {xa : Value} (w : World) (hu : Ints w u l) (hi : Ints w vi im) (h1 : AtB w ba ra xa) (h2 : CelI w bi vi) :
    Calls Try.prog 115 #[.agg #[.int .i64 r, u], .pointer (some ⟨ba, 0, none⟩), .pointer (some ⟨bi, 0, none⟩)] w fun e w' => e = .returned (.bool (decide ((r, l) = (ra, im)))) ∧ Below w.heap.size w w' := by
  obtain ⟨w1, hw1⟩ : ∃ x, x = w.alloc (.cells #[.int .i64 r, u] 88) := ⟨_, rfl⟩
  have hb1 : Below w.heap.size w w1 := by rw [hw1]; exact below_alloc _ _
  have HE := Lib.hid (equal_any l im u vi w1 (hu.keep hb1) (hi.keep hb1))
  have g0 : w1.cell? ⟨w.heap.size, 0, none⟩ = some (.int .i64 r) := by rw [hw1]; exact cell_new w _ _ 0
  have g1 : w1.cell? ⟨w.heap.size, 1, none⟩ = some u := by rw [hw1]; exact cell_new w _ _ 1
  have g2 := aCell (h1.keep hb1) 0 rfl
  have g3 := aCell (h2.keep hb1) 0 rfl
  obtain ⟨xa', xc, rfl⟩ := ints_slice hu
  obtain ⟨ya, yc, rfl⟩ := ints_slice hi
  obtain ⟨xn, hxn⟩ : ∃ x, x = l.length := ⟨_, rfl⟩
  obtain ⟨yn, hyn⟩ : ∃ x, x = im.length := ⟨_, rfl⟩
  have Hb1 := Lib.hid hb1
  rw [← hxn] at hw1 HE g1 ⊢
  rw [← hyn] at HE g3
  have Hw1 := Lib.hid hw1
  clear hu hi h1 h2 hb1 hw1 hxn hyn
  by_cases c : r = ra
  · have q1 : (r == ra) = true := by rw [c]; simp
    have hB : decide ((r, l) = (ra, im)) = decide (l = im) := by rw [c]; simp
    obtain ⟨B, hB2⟩ : ∃ B, B = decide (l = im) := ⟨_, rfl⟩
    rw [hB, ← hB2]
    rw [← hB2] at HE
    clear c hB hB2
    go_enter Try.func115, Try.ntmps115
    go_upto_region 1 with fail
    rw [← Hw1.out]
    clear Hw1
    go_wp2_with fail
    refine HE.out.mono ?_
    rintro e w5 ⟨rfl, m, hm⟩
    have Hm := Lib.hid (show Below w.heap.size w w5 from by rw [hm]; exact ⟨Hb1.out.os, Hb1.out.tape, Hb1.out.output, Hb1.out.size, Hb1.out.block⟩)
    clear hm g0 g1 g2 g3
    go_wp2_with fail
    go_ret
    exact ⟨rfl, Hm.out⟩
  · have q1 : (r == ra) = false := by rw [beq_eq_false_iff_ne]; exact c
    have R := Lib.hid (show decide ((r, l) = (ra, im)) = false from decide_eq_false fun h => c (congrArg Prod.fst h))
    clear c HE
    go_enter Try.func115, Try.ntmps115
    go_upto_region 1 with fail
    rw [← Hw1.out]
    clear Hw1
    go_wp2_with fail
    go_ret
    exact ⟨by rw [R.out]; rfl, Hb1.out⟩
set_option maxRecDepth 100000 in
set_option maxHeartbeats 8000000 in
theorem idxHI_any (ra : Int) (im : List Int) (body : List HAt) (u vi : Value) (ba bi : Nat) {xa : Value} (w : World) (hu : Atoms w u body) (hi : Ints w vi im) (h1 : AtB w ba ra xa) (h2 : CelI w bi vi) :
    Calls Try.prog 141 #[u, .func (.func 115) #[] #[.pointer (some ⟨ba, 0, none⟩), .pointer (some ⟨bi, 0, none⟩)]] w fun e w' => ∃ c : Int, e = .returned (.int .i64 c) ∧ (0 ≤ c ↔ (ra, im) ∈ body) ∧ Below w.heap.size w w' := by
  obtain ⟨a, b, off, cap, vs, rfl, hle, ha, hcap, hc⟩ := Atoms.get hu
  have Hix := Lib.hid (run_ix (P := Try.prog) (t := 31) (a := a) (len := body.length) (cap := cap) (b := b) (off := off) (s := 2) Try.underlying31 (by intro w; kernel_rfl) ha)
  have Hc := Lib.hid hc
  have Hi := Lib.hid hi
  have H1 := Lib.hid h1
  have H2 := Lib.hid h2
  clear hu ha hcap hc hi h1 h2
  go_enter Try.func141, Try.ntmps141
  go_wp2_with fail
  go_loopw [8] (fun vi wr => ∃ k : Nat, vi = .int .i64 k ∧ k ≤ body.length ∧ Below w.heap.size w wr ∧ ∀ j, j < k → ¬ (aR body j, aA body j) = (ra, im)) (fun vi _ => body.length - (intOf vi).toNat)
  case atStart => exact ⟨0, rfl, Nat.zero_le _, Below.refl _ _, fun j hj => by omega⟩
  case round =>
    obtain ⟨k, rfl, hk, hb, hin⟩ := hrel
    have Hb := Lib.hid hb
    have Hin := Lib.hid hin
    clear hb hin
    by_cases hlt : k < body.length
    · have hc1 := Below.keep Hb.out (Hc.out k hlt).1
      have hc2 := Below.keep Hb.out (Hc.out k hlt).2.1
      have hik := Ints.keep (Hc.out k hlt).2.2 Hb.out
      have hixk := Hix.out k
      have hE := cloHI_any (aR body k) ra (aA body k) im _ vi ba bi wr hik (Hi.out.keep Hb.out) (H1.out.keep Hb.out) (H2.out.keep Hb.out)
      obtain ⟨ua, uc, hux⟩ := ints_slice hik
      rw [hux] at hc2 hE
      clear hux hik
      obtain ⟨un, hun⟩ : ∃ x, x = (aA body k).length := ⟨_, rfl⟩
      rw [← hun] at hc2 hE
      have HR := Lib.hid (show ∀ e : Prop, e = ((aR body k, aA body k) = (ra, im)) → (e ↔ (aR body k, aA body k) = (ra, im)) from fun e h => by rw [h])
      by_cases c : (aR body k, aA body k) = (ra, im)
      · rw [decide_eq_true c] at hE
        have HM := Lib.hid (show (ra, im) ∈ body by rw [← c, ← at_get hlt]; exact List.getElem_mem hlt)
        obtain ⟨r, hr⟩ : ∃ x, x = aR body k := ⟨_, rfl⟩
        rw [← hr] at hc1 hE
        have HE := Lib.hid hE
        clear c hE HR hun hr
        go_wp2_with fail
        refine HE.out.mono ?_
        rintro e w5 ⟨rfl, hb5⟩
        have Hb5 := Lib.hid (Below.tr Hb.out hb5)
        clear hb5 hc1 hc2
        have R := Lib.hid (show (0 ≤ (k : Int) ↔ (ra, im) ∈ body) from ⟨fun _ => HM.out, fun _ => by omega⟩)
        go_wp2_with fail
        go_ret
        exact ⟨_, rfl, R.out, Hb5.out⟩
      · rw [decide_eq_false c] at hE
        have HI := Lib.hid (show ∀ j, j < k + 1 → ¬ (aR body j, aA body j) = (ra, im) from fun j hj => by
          by_cases e : j = k
          · subst e; exact c
          · exact Hin.out j (by omega))
        obtain ⟨r, hr⟩ : ∃ x, x = aR body k := ⟨_, rfl⟩
        rw [← hr] at hc1 hE
        have HE := Lib.hid hE
        clear c hE HR hun hr
        go_wp2_with fail
        refine HE.out.mono ?_
        rintro e w5 ⟨rfl, hb5⟩
        have Hb5 := Lib.hid (Below.tr Hb.out hb5)
        clear hb5 hc1 hc2
        go_wp2_with fail
        go_roundw
        case rel => exact ⟨k + 1, by go_num, by omega, Hb5.out, HI.out⟩
        case measure => simp [intOf]; omega
    · obtain rfl : k = body.length := by omega
      have R := Lib.hid (show (0 ≤ (-1 : Int) ↔ (ra, im) ∈ body) from ⟨fun h => by omega, fun h => by
        obtain ⟨i, hi, e⟩ := List.getElem_of_mem h
        exact absurd (by rw [at_get hi] at e; exact e) (Hin.out i hi)⟩)
      go_wp2_with fail
      go_ret
      exact ⟨_, rfl, R.out, Hb.out⟩
theorem conHI_any (ra : Int) (im : List Int) (body : List HAt) (u vi : Value) (ba bi : Nat) {xa : Value} (w : World) (hu : Atoms w u body) (hi : Ints w vi im) (h1 : AtB w ba ra xa) (h2 : CelI w bi vi) (B : Bool) (hB : decide ((ra, im) ∈ body) = B) :
    Calls Try.prog 114 #[u, .func (.func 115) #[] #[.pointer (some ⟨ba, 0, none⟩), .pointer (some ⟨bi, 0, none⟩)]] w fun e w' => e = .returned (.bool B) ∧ Below w.heap.size w w' := by
  have H := Lib.hid (idxHI_any ra im body u vi ba bi w hu hi h1 h2)
  have HT := Lib.hid (fun h : (ra, im) ∈ body => show B = true by rw [← hB]; exact decide_eq_true h)
  have HF := Lib.hid (fun h : ¬ (ra, im) ∈ body => show B = false by rw [← hB]; exact decide_eq_false h)
  obtain ⟨a, c, rfl⟩ := atoms_slice hu
  clear hu hi h1 h2 hB
  go_enter Try.func114, Try.ntmps114
  go_wp2_with fail
  refine H.out.mono ?_
  rintro e w5 ⟨c, rfl, hc, hb⟩
  have Hm := Lib.hid hb
  clear hb
  by_cases d : (ra, im) ∈ body
  · have q : c ≥ 0 := hc.2 d
    have R := Lib.hid (HT.out d)
    clear hc d
    go_wp2_with fail
    go_ret
    exact ⟨by rw [R.out]; rfl, Hm.out⟩
  · have q : decide (0 ≤ c) = false := decide_eq_false fun h => d (hc.1 h)
    have R := Lib.hid (HF.out d)
    clear hc d
    go_wp2_with fail
    go_ret
    exact ⟨by rw [R.out]; rfl, Hm.out⟩
#print axioms conHI_any
def imT (A h : List Int) (k : Nat) : List Int := (A.take k).map (app h) ++ A.drop k
theorem imT_len (A h : List Int) {k : Nat} (hk : k ≤ A.length) : (imT A h k).length = A.length := by simp [imT]; omega
theorem imT_set {A h : List Int} {k : Nat} (hk : k < A.length) : (imT A h k).set k (app h (A.getD k 0)) = imT A h (k + 1) := by
  have e : A.getD k 0 = A[k] := by rw [List.getD_eq_getElem?_getD, List.getElem?_eq_getElem hk]; rfl
  have hl : ((A.take k).map (app h)).length = k := by simp; omega
  unfold imT
  rw [List.set_append_right _ _ (by omega), hl, Nat.sub_self, List.drop_eq_getElem_cons hk, List.set_cons_zero, List.take_succ_eq_append_getElem hk, List.map_append, List.append_assoc, e]
  rfl
theorem imT_skip {A h : List Int} {k : Nat} (hk : k < A.length) (ha : app h (A.getD k 0) = A.getD k 0) : imT A h k = imT A h (k + 1) := by
  rw [← imT_set hk, ha]
  have e : A.getD k 0 = A[k] := by rw [List.getD_eq_getElem?_getD, List.getElem?_eq_getElem hk]; rfl
  have hl : ((A.take k).map (app h)).length = k := by simp; omega
  unfold imT
  rw [List.set_append_right _ _ (by omega), hl, Nat.sub_self, List.drop_eq_getElem_cons hk, List.set_cons_zero, e]
theorem imT_0 (A h : List Int) : imT A h 0 = A := by simp [imT]
theorem imT_all (A h : List Int) : imT A h A.length = A.map (app h) := by simp [imT]
set_option maxRecDepth 100000 in
set_option maxHeartbeats 16000000 in
theorem hasImage_any (r : Int) (A : List Int) (hA : ∀ i, i < A.length → -9 ≤ A.getD i 0 ∧ A.getD i 0 ≤ 7) (hA0 : 0 < A.length) (hA1 : A.length ≤ 1000) (h : List Int) (h8 : h.length = 8) (body : List HAt) (u uh ub : Value) (w : World) (hu : Ints w u A) (hh : Ints w uh h) (hb : Atoms w ub body) (B : Bool) (hB : decide ((r, A.map (app h)) ∈ body) = B) :
    Calls Try.prog 78 #[.agg #[.int .i64 r, u], uh, ub] w fun e w' => e = .returned (.bool B) ∧ Below w.heap.size w w' := by
  obtain ⟨w1, hw1⟩ : ∃ x, x = w.alloc (.cells #[.int .i64 r, u] 88) := ⟨_, rfl⟩
  have hb1 : Below w.heap.size w w1 := by rw [hw1]; exact below_alloc _ _
  have hat : AtB w1 w.heap.size r u := by rw [hw1]; exact heap_alloc_new _ _
  have HCl := Lib.hid (cloneI_any A u w1 (by omega) (hu.keep hb1))
  obtain ⟨a, b, off, cap, rfl, hle, ha, hc⟩ := Ints.get hu
  have Hix := Lib.hid (run_ix (P := Try.prog) (t := 22) (a := a) (len := A.length) (cap := cap) (b := b) (off := off) (s := 1) Try.underlying22 (by intro w; kernel_rfl) ha)
  obtain ⟨a2, b2, off2, cap2, rfl, hle2, ha2, hc2⟩ := Ints.get hh
  have Hix2 := Lib.hid (run_ix (P := Try.prog) (t := 22) (a := a2) (len := h.length) (cap := cap2) (b := b2) (off := off2) (s := 1) Try.underlying22 (by intro w; kernel_rfl) ha2)
  simp only [Nat.mul_one] at Hix Hix2
  rw [h8] at Hix2 hle2 ⊢
  have gd : ∀ (l : List Int) (i : Nat) (hi : i < l.length), l[i] = l.getD i 0 := fun l i hi => by rw [List.getD_eq_getElem?_getD, List.getElem?_eq_getElem hi]; rfl
  have Hc := Lib.hid (show ∀ i, i < A.length → w.cell? ⟨b, off + i, none⟩ = some (.int .i64 (A.getD i 0)) from fun i hi => by rw [hc i hi, gd])
  have Hc2 := Lib.hid (show ∀ i, i < 8 → w.cell? ⟨b2, off2 + i, none⟩ = some (.int .i64 (h.getD i 0)) from fun i hi => by rw [hc2 i (by omega), gd])
  obtain ⟨ba, bc, rfl⟩ := atoms_slice hb
  obtain ⟨bn, hbn⟩ : ∃ x, x = body.length := ⟨_, rfl⟩
  rw [← hbn] at hb ⊢
  have Hbd := Lib.hid hb
  have HA := Lib.hid hA
  have HB := Lib.hid hB
  have Hb1 := Lib.hid hb1
  have Hat := Lib.hid hat
  have Hw1 := Lib.hid hw1
  obtain ⟨ob, hob⟩ : ∃ x, x = w.heap.size := ⟨_, rfl⟩
  rw [← hob] at Hat
  have Hob := Lib.hid hob
  clear hu hh hb ha ha2 hc hc2 hA hB hb1 hat hw1 hbn hob gd h8
  go_enter Try.func78, Try.ntmps78
  go_upto_region 1 with fail
  rw [← Hw1.out, ← Hob.out]
  clear Hw1
  have g1 := aCell Hat.out 1 rfl
  go_wp2_with fail
  refine HCl.out.mono ?_
  rintro e w2 ⟨v2, rfl, ho, hb2⟩
  obtain ⟨g, ic, cur, hv2, hbg, hgc⟩ : ∃ g c cur, v2 = .slice (some ⟨g, 0, none⟩) A.length c ∧ w1.heap.size ≤ g ∧ w2.heap[g]? = some (.cells cur 3 (0, 0)) := by
    rcases ho.2 with ⟨_, h0⟩ | ⟨g, cap, cur, h1, h2, h3, _⟩
    · omega
    · exact ⟨g, cap, cur, h1, h2, h3⟩
  subst hv2
  obtain ⟨w3, hw3⟩ : ∃ x, x = w2.alloc (.cells #[.slice (some ⟨g, 0, none⟩) A.length ic] 22) := ⟨_, rfl⟩
  have hb3 : Below w2.heap.size w2 w3 := by rw [hw3]; exact below_alloc _ _
  obtain ⟨bi, hbi⟩ : ∃ x, x = w2.heap.size := ⟨_, rfl⟩
  have HI3 := Lib.hid (show CelI w3 bi (.slice (some ⟨g, 0, none⟩) A.length ic) from by rw [hw3, hbi]; exact heap_alloc_new _ _)
  have HO3 := Lib.hid (show w3.ownsRow g 3 1 (.slice (some ⟨g, 0, none⟩) A.length ic) A.length ((imT A h 0).map (Value.int .i64)) from by
    rw [imT_0]
    have := ho.keep hb3
    refine ⟨this.1, ?_⟩
    rcases this.2 with h1 | ⟨g', cap, cur, h1, h2, r⟩
    · exact .inl h1
    · injection h1 with e1 e2 e3
      injection e1 with e1
      injection e1 with e1
      exact .inr ⟨g', cap, cur, by rw [e1, e2, e3], by omega, r⟩)
  have HA3 := Lib.hid ((Hat.out.keep hb2).keep hb3)
  have HB3 := Lib.hid (Below.tr Hb1.out (Below.tr hb2 hb3))
  have Hg := Lib.hid (show ob < g ∧ g < bi from ⟨by have := (Array.getElem?_eq_some_iff.1 Hat.out).1; omega, by rw [hbi]; exact (Array.getElem?_eq_some_iff.1 hgc).1⟩)
  have Hw3 := Lib.hid hw3
  have Hbi := Lib.hid hbi
  clear ho hb2 hb3 hw3 hbi hgc hbg HCl Hat Hb1 g1
  go_upto_region 2 with fail
  rw [← Hw3.out, ← Hbi.out]
  clear Hw3 Hbi
  have g1 := aCell HA3.out 1 rfl
  go_wp2_with fail
  clear g1
  have Hixg := Lib.hid (run_ix (P := Try.prog) (t := 22) (a := some ⟨g, 0, none⟩) (len := A.length) (cap := ic) (b := g) (off := 0) (s := 1) Try.underlying22 (by intro w; kernel_rfl) (fun _ => rfl))
  simp only [Nat.zero_add, Nat.mul_one] at Hixg
  go_loopw [16] (fun vi wr => ∃ k : Nat, vi = .int .i64 k ∧ k ≤ A.length ∧ Below w.heap.size w wr ∧ AtB wr ob r (.slice a A.length cap) ∧ CelI wr bi (.slice (some ⟨g, 0, none⟩) A.length ic) ∧ wr.ownsRow g 3 1 (.slice (some ⟨g, 0, none⟩) A.length ic) A.length ((imT A h k).map (Value.int .i64))) (fun vi _ => A.length - (intOf vi).toNat)
  case atStart => exact ⟨0, rfl, Nat.zero_le _, HB3.out, HA3.out, HI3.out, HO3.out⟩
  case round =>
    clear HB3 HA3 HI3 HO3
    obtain ⟨k, rfl, hk, hb, hat, hci, ho⟩ := hrel
    have Hb := Lib.hid hb
    have Hat := Lib.hid hat
    have Hci := Lib.hid hci
    have HO := Lib.hid ho
    clear hb hat hci ho
    by_cases hlt : k < A.length
    · have hck := Below.keep Hb.out (Hc.out k hlt)
      have hixk := Hix.out k
      have hr := HA.out k hlt
      have HS := Lib.hid (imT_set (h := h) hlt)
      have HSk := Lib.hid (imT_skip (h := h) hlt)
      obtain ⟨t, ht⟩ : ∃ t, t = A.getD k 0 := ⟨_, rfl⟩
      rw [← ht] at hck hr HS HSk
      clear ht
      by_cases c : 0 ≤ t
      · obtain ⟨n, rfl⟩ : ∃ n : Nat, t = n := ⟨t.toNat, by omega⟩
        have hn8 : n < 8 := by omega
        have HV := Lib.hid (isVar_any (n : Int) true (decide_eq_true ⟨by omega, by omega⟩) wr)
        have hcn := Below.keep Hb.out (Hc2.out n hn8)
        have hixn := Hix2.out n
        have happ : app h (n : Int) = h.getD n 0 := by unfold app; rw [if_pos (by omega), Int.toNat_natCast]
        rw [happ] at HS
        obtain ⟨X, hX⟩ : ∃ x, x = h.getD n 0 := ⟨_, rfl⟩
        rw [← hX] at HS hcn
        clear hX happ HSk c
        have hixg := Hixg.out k
        have gi := aCell Hci.out 0 rfl
        have hfz := World.ownsRow.frozenAt HO.out k
        have hcell := World.ownsRow.cellAt HO.out k (by omega)
        rw [List.getElem?_eq_getElem (by rw [List.length_map, imT_len A h hk]; exact hlt)] at hcell
        obtain ⟨c0, hc0⟩ : ∃ c0, c0 = ((imT A h k).map (Value.int .i64))[k]'(by rw [List.length_map, imT_len A h hk]; exact hlt) := ⟨_, rfl⟩
        rw [← hc0] at hcell
        clear hc0
        have HOn := Lib.hid (fun d => show ((wr.drewN d).setCell ⟨g, k, none⟩ (.int .i64 X)).ownsRow g 3 1 (.slice (some ⟨g, 0, none⟩) A.length ic) A.length ((imT A h (k + 1)).map (Value.int .i64)) from by
          have := (World.ownsRow.stored (w := wr.drewN d) HO.out k (.int .i64 X)).1
          have e : ((imT A h k).map (Value.int .i64)).set k (.int .i64 X) = (imT A h (k + 1)).map (Value.int .i64) := by rw [← HS.out, List.map_set]
          rw [e] at this; exact this)
        have HBn := Lib.hid (fun d => show Below w.heap.size w ((wr.drewN d).setCell ⟨g, k, none⟩ (.int .i64 X)) from Below.setCell (w := wr.drewN d) ⟨Hb.out.os, Hb.out.tape, Hb.out.output, Hb.out.size, Hb.out.block⟩ (by have := Hg.out; have := Hob.out; simp; omega) _)
        have HAn := Lib.hid (fun d => show AtB ((wr.drewN d).setCell ⟨g, k, none⟩ (.int .i64 X)) ob r (.slice a A.length cap) from (heap_setCell_other (wr.drewN d) ⟨g, k, none⟩ ob _ (by have := Hg.out; show ob ≠ g; omega)).trans Hat.out)
        have HCn := Lib.hid (fun d => show CelI ((wr.drewN d).setCell ⟨g, k, none⟩ (.int .i64 X)) bi (.slice (some ⟨g, 0, none⟩) A.length ic) from (heap_setCell_other (wr.drewN d) ⟨g, k, none⟩ bi _ (by have := Hg.out; show bi ≠ g; omega)).trans Hci.out)
        go_wp2_with fail
        refine HV.out.mono ?_
        rintro e w5 ⟨rfl, rfl⟩
        go_upto_region 6 with fail
        have gi : w5.cell? ⟨bi, 0, none⟩ = some (.slice (some ⟨g, 0, none⟩) A.length ic) := gi
        go_region
        have HOn := Lib.hid (HOn.out 1)
        have HBn := Lib.hid (HBn.out 1)
        have HAn := Lib.hid (HAn.out 1)
        have HCn := Lib.hid (HCn.out 1)
        generalize hw9 : (w5.setCell ⟨g, k, none⟩ (.int .i64 X)).drew = w9
        have e9 : (w5.drewN 1).setCell ⟨g, k, none⟩ (.int .i64 X) = w9 := hw9
        rw [e9] at HOn HBn HAn HCn
        clear hw9 e9 hck gi hcn hcell hfz
        go_wp2_with fail
        go_roundw
        case rel => exact ⟨k + 1, by go_num, by omega, HBn.out, HAn.out, HCn.out, HOn.out⟩
        case measure => simp [intOf]; omega
      · have HV := Lib.hid (isVar_any t false (decide_eq_false fun h => c h.1) wr)
        have HOn := Lib.hid (show wr.ownsRow g 3 1 (.slice (some ⟨g, 0, none⟩) A.length ic) A.length ((imT A h (k + 1)).map (Value.int .i64)) from by
          rw [← HSk.out (by unfold app; rw [if_neg c])]; exact HO.out)
        clear c HS HSk HO
        go_wp2_with fail
        refine HV.out.mono ?_
        rintro e w5 ⟨rfl, rfl⟩
        go_wp2_with fail
        go_roundw
        case rel => exact ⟨k + 1, by go_num, by omega, Hb.out, Hat.out, Hci.out, HOn.out⟩
        case measure => simp [intOf]; omega
    · obtain rfl : k = A.length := by omega
      have HI := Lib.hid (show Ints wr (.slice (some ⟨g, 0, none⟩) A.length ic) (A.map (app h)) from by
        have := HO.out
        rw [imT_all] at this
        have h2 : OwnInts g wr (.slice (some ⟨g, 0, none⟩) A.length ic) (A.map (app h)) := by unfold OwnInts; rw [List.length_map]; exact this
        exact h2.ints)
      have HK := Lib.hid (conHI_any r (A.map (app h)) body _ _ ob bi wr (Hbd.out.keep Hb.out) HI.out Hat.out Hci.out B HB.out)
      go_wp2_with fail
      refine HK.out.mono ?_
      rintro e w5 ⟨rfl, hb5⟩
      have Hb5 := Lib.hid (Below.tr Hb.out hb5)
      clear hb5
      go_wp2_with fail
      go_ret
      exact ⟨rfl, Hb5.out⟩
#print axioms hasImage_any
end Go.Proofs.Ytfplmdieeabgpaa
