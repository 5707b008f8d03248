/- Contract of hasImage. -/
import Derived.Test.YtfplmdieeabgpaaHma
import Derived.Test.YtfplmdieeabgpaaEqq
namespace Go.Proofs.Ytfplmdieeabgpaa
open Go.RowKit
def CelI (w : World) (b : Nat) (x : Value) : Prop := w.heap[b]? = some (.cells #[x] 22 (0, 0))
theorem CelI.keep {w w' : World} {b : Nat} {x : Value} (h : CelI w b x) (hb : Below w.heap.size w w') : CelI w' b x := blk_keep2 h hb
def AtB (w : World) (b : Nat) (r : Int) (x : Value) : Prop := w.heap[b]? = some (.cells #[.int .i64 r, x] 88 (0, 0))
theorem AtB.keep {w w' : World} {b : Nat} {r : Int} {x : Value} (h : AtB w b r x) (hb : Below w.heap.size w w') : AtB w' b r x := blk_keep2 h hb
set_option maxRecDepth 100000 in
set_option maxHeartbeats 8000000 in
theorem cloHI_any (r ra : Int) (l im : List Int) (u vi : Value) (ba bi : Nat) {xa : Value} (w : World) (hu : Ints w u l) (hi : Ints w vi im) (h1 : AtB w ba ra xa) (h2 : CelI w bi vi) :
    Calls Try.prog 115 #[.agg #[.int .i64 r, u], .pointer (some ⟨ba, 0, none⟩), .pointer (some ⟨bi, 0, none⟩)] w fun e w' => e = .returned (.bool (decide ((r, l) = (ra, im)))) ∧ Below w.heap.size w w' := by
  obtain ⟨w1, hw1⟩ : ∃ x, x = w.alloc (.cells #[.int .i64 r, u] 88) := ⟨_, rfl⟩
  have hb1 : Below w.heap.size w w1 := by rw [hw1]; exact below_alloc _ _
  have HE := Lib.hid (equal_any l im u vi w1 (hu.keep hb1) (hi.keep hb1))
  have g0 : w1.cell? ⟨w.heap.size, 0, none⟩ = some (.int .i64 r) := by rw [hw1]; exact cell_new w _ _ 0
  have g1 : w1.cell? ⟨w.heap.size, 1, none⟩ = some u := by rw [hw1]; exact cell_new w _ _ 1
  have g2 := aCell (h1.keep hb1) 0 rfl
  have g3 := aCell (h2.keep hb1) 0 rfl
  obtain ⟨xa', xc, rfl⟩ := ints_slice hu
  obtain ⟨ya, yc, rfl⟩ := ints_slice hi
  obtain ⟨xn, hxn⟩ : ∃ x, x = l.length := ⟨_, rfl⟩
  obtain ⟨yn, hyn⟩ : ∃ x, x = im.length := ⟨_, rfl⟩
  have Hb1 := Lib.hid hb1
  rw [← hxn] at hw1 HE g1 ⊢
  rw [← hyn] at HE g3
  have Hw1 := Lib.hid hw1
  clear hu hi h1 h2 hb1 hw1 hxn hyn
  by_cases c : r = ra
  · have q1 : (r == ra) = true := by rw [c]; simp
    have hB : decide ((r, l) = (ra, im)) = decide (l = im) := by rw [c]; simp
    obtain ⟨B, hB2⟩ : ∃ B, B = decide (l = im) := ⟨_, rfl⟩
    rw [hB, ← hB2]
    rw [← hB2] at HE
    clear c hB hB2
    go_enter Try.func115, Try.ntmps115
    go_upto_region 1 with fail
    rw [← Hw1.out]
    clear Hw1
    go_wp2_with fail
    refine HE.out.mono ?_
    rintro e w5 ⟨rfl, m, hm⟩
    have Hm := Lib.hid (show Below w.heap.size w w5 from by rw [hm]; exact ⟨Hb1.out.os, Hb1.out.tape, Hb1.out.output, Hb1.out.size, Hb1.out.block⟩)
    clear hm g0 g1 g2 g3
    go_wp2_with fail
    go_ret
    exact ⟨rfl, Hm.out⟩
  · have q1 : (r == ra) = false := by rw [beq_eq_false_iff_ne]; exact c
    have R := Lib.hid (show decide ((r, l) = (ra, im)) = false from decide_eq_false fun h => c (congrArg Prod.fst h))
    clear c HE
    go_enter Try.func115, Try.ntmps115
    go_upto_region 1 with fail
    rw [← Hw1.out]
    clear Hw1
    go_wp2_with fail
    go_ret
    exact ⟨by rw [R.out]; rfl, Hb1.out⟩
set_option maxRecDepth 100000 in
set_option maxHeartbeats 8000000 in
theorem idxHI_any (ra : Int) (im : List Int) (body : List HAt) (u vi : Value) (ba bi : Nat) {xa : Value} (w : World) (hu : Atoms w u body) (hi : Ints w vi im) (h1 : AtB w ba ra xa) (h2 : CelI w bi vi) :
    Calls Try.prog 141 #[u, .func (.func 115) #[] #[.pointer (some ⟨ba, 0, none⟩), .pointer (some ⟨bi, 0, none⟩)]] w fun e w' => ∃ c : Int, e = .returned (.int .i64 c) ∧ (0 ≤ c ↔ (ra, im) ∈ body) ∧ Below w.heap.size w w' := by
  obtain ⟨a, b, off, cap, vs, rfl, hle, ha, hcap, hc⟩ := Atoms.get hu
  have Hix := Lib.hid (run_ix (P := Try.prog) (t := 31) (a := a) (len := body.length) (cap := cap) (b := b) (off := off) (s := 2) Try.underlying31 (by intro w; kernel_rfl) ha)
  have Hc := Lib.hid hc
  have Hi := Lib.hid hi
  have H1 := Lib.hid h1
  have H2 := Lib.hid h2
  clear hu ha hcap hc hi h1 h2
  go_enter Try.func141, Try.ntmps141
  go_wp2_with fail
  go_loopw [8] (fun vi wr => ∃ k : Nat, vi = .int .i64 k ∧ k ≤ body.length ∧ Below w.heap.size w wr ∧ ∀ j, j < k → ¬ (aR body j, aA body j) = (ra, im)) (fun vi _ => body.length - (intOf vi).toNat)
  case atStart => exact ⟨0, rfl, Nat.zero_le _, Below.refl _ _, fun j hj => by omega⟩
  case round =>
    obtain ⟨k, rfl, hk, hb, hin⟩ := hrel
    have Hb := Lib.hid hb
    have Hin := Lib.hid hin
    clear hb hin
    by_cases hlt : k < body.length
    · have hc1 := Below.keep Hb.out (Hc.out k hlt).1
      have hc2 := Below.keep Hb.out (Hc.out k hlt).2.1
      have hik := Ints.keep (Hc.out k hlt).2.2 Hb.out
      have hixk := Hix.out k
      have hE := cloHI_any (aR body k) ra (aA body k) im _ vi ba bi wr hik (Hi.out.keep Hb.out) (H1.out.keep Hb.out) (H2.out.keep Hb.out)
      obtain ⟨ua, uc, hux⟩ := ints_slice hik
      rw [hux] at hc2 hE
      clear hux hik
      obtain ⟨un, hun⟩ : ∃ x, x = (aA body k).length := ⟨_, rfl⟩
      rw [← hun] at hc2 hE
      have HR := Lib.hid (show ∀ e : Prop, e = ((aR body k, aA body k) = (ra, im)) → (e ↔ (aR body k, aA body k) = (ra, im)) from fun e h => by rw [h])
      by_cases c : (aR body k, aA body k) = (ra, im)
      · rw [decide_eq_true c] at hE
        have HM := Lib.hid (show (ra, im) ∈ body by rw [← c, ← at_get hlt]; exact List.getElem_mem hlt)
        obtain ⟨r, hr⟩ : ∃ x, x = aR body k := ⟨_, rfl⟩
        rw [← hr] at hc1 hE
        have HE := Lib.hid hE
        clear c hE HR hun hr
        go_wp2_with fail
        refine HE.out.mono ?_
        rintro e w5 ⟨rfl, hb5⟩
        have Hb5 := Lib.hid (Below.tr Hb.out hb5)
        clear hb5 hc1 hc2
        have R := Lib.hid (show (0 ≤ (k : Int) ↔ (ra, im) ∈ body) from ⟨fun _ => HM.out, fun _ => by omega⟩)
        go_wp2_with fail
        go_ret
        exact ⟨_, rfl, R.out, Hb5.out⟩
      · rw [decide_eq_false c] at hE
        have HI := Lib.hid (show ∀ j, j < k + 1 → ¬ (aR body j, aA body j) = (ra, im) from fun j hj => by
          by_cases e : j = k
          · subst e; exact c
          · exact Hin.out j (by omega))
        obtain ⟨r, hr⟩ : ∃ x, x = aR body k := ⟨_, rfl⟩
        rw [← hr] at hc1 hE
        have HE := Lib.hid hE
        clear c hE HR hun hr
        go_wp2_with fail
        refine HE.out.mono ?_
        rintro e w5 ⟨rfl, hb5⟩
        have Hb5 := Lib.hid (Below.tr Hb.out hb5)
        clear hb5 hc1 hc2
        go_wp2_with fail
        go_roundw
        case rel => exact ⟨k + 1, by go_num, by omega, Hb5.out, HI.out⟩
        case measure => simp [intOf]; omega
    · obtain rfl : k = body.length := by omega
      have R := Lib.hid (show (0 ≤ (-1 : Int) ↔ (ra, im) ∈ body) from ⟨fun h => by omega, fun h => by
        obtain ⟨i, hi, e⟩ := List.getElem_of_mem h
        exact absurd (by rw [at_get hi] at e; exact e) (Hin.out i hi)⟩)
      go_wp2_with fail
      go_ret
      exact ⟨_, rfl, R.out, Hb.out⟩
theorem conHI_any (ra : Int) (im : List Int) (body : List HAt) (u vi : Value) (ba bi : Nat) {xa : Value} (w : World) (hu : Atoms w u body) (hi : Ints w vi im) (h1 : AtB w ba ra xa) (h2 : CelI w bi vi) (B : Bool) (hB : decide ((ra, im) ∈ body) = B) :
    Calls Try.prog 114 #[u, .func (.func 115) #[] #[.pointer (some ⟨ba, 0, none⟩), .pointer (some ⟨bi, 0, none⟩)]] w fun e w' => e = .returned (.bool B) ∧ Below w.heap.size w w' := by
  have H := Lib.hid (idxHI_any ra im body u vi ba bi w hu hi h1 h2)
  have HT := Lib.hid (fun h : (ra, im) ∈ body => show B = true by rw [← hB]; exact decide_eq_true h)
  have HF := Lib.hid (fun h : ¬ (ra, im) ∈ body => show B = false by rw [← hB]; exact decide_eq_false h)
  obtain ⟨a, c, rfl⟩ := atoms_slice hu
  clear hu hi h1 h2 hB
  go_enter Try.func114, Try.ntmps114
  go_wp2_with fail
  refine H.out.mono ?_
  rintro e w5 ⟨c, rfl, hc, hb⟩
  have Hm := Lib.hid hb
  clear hb
  by_cases d : (ra, im) ∈ body
  · have q : c ≥ 0 := hc.2 d
    have R := Lib.hid (HT.out d)
    clear hc d
    go_wp2_with fail
    go_ret
    exact ⟨by rw [R.out]; rfl, Hm.out⟩
  · have q : decide (0 ≤ c) = false := decide_eq_false fun h => d (hc.1 h)
    have R := Lib.hid (HF.out d)
    clear hc d
    go_wp2_with fail
    go_ret
    exact ⟨by rw [R.out]; rfl, Hm.out⟩
#print axioms conHI_any
end Go.Proofs.Ytfplmdieeabgpaa
