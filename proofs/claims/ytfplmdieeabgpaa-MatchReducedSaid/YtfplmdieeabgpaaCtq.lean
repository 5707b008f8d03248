/- Contracts of slices.ContainsFunc over facts with closures of the laws. -/
import Derived.Test.YtfplmdieeabgpaaEqq
import Derived.Test.YtfplmdieeabgpaaOf
import Derived.Deep.DeepCutAuto
namespace Go.Proofs.Ytfplmdieeabgpaa
open Go.RowKit
set_option maxHeartbeats 1000000 in
theorem cloFR1_any (r s : Int) (X Y : List Int) (vx y : Value) (bx : Nat) (w : World) (hc0 : w.cell? ⟨bx, 0, none⟩ = some (.int .i64 r)) (hc1 : w.cell? ⟨bx, 1, none⟩ = some vx) (hx : Ints w vx X) (hy : Ints w y Y) :
    Calls Try.prog 56 #[.agg #[.int .i64 s, y], .pointer (some ⟨bx, 0, none⟩)] w fun e w' => e = .returned (.bool (decide (((r, X) : HAt) = (s, Y)))) ∧ Below w.heap.size w w' := by
  obtain ⟨w1, hw1⟩ : ∃ x, x = w.alloc (.cells #[.int .i64 s, y] 77) := ⟨_, rfl⟩
  have hb : Below w.heap.size w w1 := by rw [hw1]; exact below_alloc _ _
  obtain ⟨bo, hbo⟩ : ∃ x, x = w.heap.size := ⟨_, rfl⟩
  have hn : w1.heap[bo]? = some (.cells #[.int .i64 s, y] 77 (0, 0)) := by rw [hw1, hbo]; exact heap_alloc_new _ _
  have q0 := Below.keep hb hc0
  have q1 := Below.keep hb hc1
  have q2 := aCell hn 0 rfl
  have q3 := aCell hn 1 rfl
  have H := Lib.hid (equal_any X Y vx y w1 (hx.keep hb) (hy.keep hb))
  obtain ⟨xa, xc, rfl⟩ := ints_slice hx
  obtain ⟨ya, yc, rfl⟩ := ints_slice hy
  obtain ⟨xn, hxn⟩ : ∃ n, n = X.length := ⟨_, rfl⟩
  obtain ⟨yn, hyn⟩ : ∃ n, n = Y.length := ⟨_, rfl⟩
  rw [← hxn] at q1 H
  rw [← hyn] at q3 H hw1 ⊢
  have Hw1 := Lib.hid hw1
  have Hbo := Lib.hid hbo
  have HB := Lib.hid hb
  clear hc0 hc1 hx hy hw1 hb hbo hn hxn hyn
  by_cases h : r = s
  · have HR := Lib.hid (show decide (((r, X) : HAt) = (s, Y)) = decide (X = Y) from decide_eq_decide.2 ⟨fun e => (Prod.mk.inj e).2, fun e => by rw [h, e]⟩)
    have q : (r == s) = true := by rw [h]; simp
    obtain ⟨B, hB⟩ : ∃ B, B = decide (X = Y) := ⟨_, rfl⟩
    rw [← hB] at H HR
    clear hB h
    go_enter Try.func56, Try.ntmps56
    go_upto_region 1 with fail
    rw [← Hw1.out, ← Hbo.out]
    clear Hw1
    go_wp2_with fail
    refine H.out.mono ?_
    rintro e w5 ⟨rfl, m, hm⟩
    have Hm := Lib.hid (show Below w.heap.size w w5 from by rw [hm]; exact Below.tr HB.out ⟨rfl, rfl, rfl, Nat.le_refl _, fun _ _ => rfl⟩)
    clear hm q0 q1 q2 q3 H
    go_wp2_with fail
    go_ret
    exact ⟨congrArg (fun b => Ending.returned (.bool b)) HR.out.symm, Hm.out⟩
  · have HR := Lib.hid (show decide (((r, X) : HAt) = (s, Y)) = false from decide_eq_false fun e => h (Prod.mk.inj e).1)
    have q : (r == s) = false := beq_eq_false_iff_ne.2 h
    clear H h
    go_enter Try.func56, Try.ntmps56
    go_upto_region 1 with fail
    rw [← Hw1.out, ← Hbo.out]
    clear Hw1
    go_wp2_with fail
    go_ret
    exact ⟨congrArg (fun b => Ending.returned (.bool b)) HR.out.symm, HB.out⟩
set_option maxRecDepth 100000 in
set_option maxHeartbeats 8000000 in
theorem idxFR1_any (r : Int) (X : List Int) (l : List HAt) (vx u : Value) (bx : Nat) (w : World) (hc0 : w.cell? ⟨bx, 0, none⟩ = some (.int .i64 r)) (hc1 : w.cell? ⟨bx, 1, none⟩ = some vx) (hx : Ints w vx X) (hu : Atoms w u l) :
    Calls Try.prog 101 #[u, .func (.func 56) #[] #[.pointer (some ⟨bx, 0, none⟩)]] w fun e w' => ∃ c : Int, e = .returned (.int .i64 c) ∧ (0 ≤ c ↔ (r, X) ∈ l) ∧ Below w.heap.size w w' := by
  obtain ⟨a, b, off, cap, vs, rfl, hle, ha, hcap, hcs⟩ := hu.get
  obtain ⟨n, hn⟩ : ∃ n, n = l.length := ⟨_, rfl⟩
  rw [← hn] at ha hcs hle ⊢
  have Hn := Lib.hid hn
  have Hix := Lib.hid (run_ix (P := Try.prog) (t := 26) (a := a) (len := n) (cap := cap) (b := b) (off := off) (s := 2) Try.underlying26 (by intro w; kernel_rfl) ha)
  have Hc := Lib.hid hcs
  have HX := Lib.hid (show ∀ w', Below w.heap.size w w' → w'.cell? ⟨bx, 0, none⟩ = some (.int .i64 r) ∧ w'.cell? ⟨bx, 1, none⟩ = some vx ∧ Ints w' vx X from fun w' hb => ⟨Below.keep hb hc0, Below.keep hb hc1, hx.keep hb⟩)
  clear hu ha hcs hc0 hc1 hx hcap hn
  go_enter Try.func101, Try.ntmps101
  go_wp2_with fail
  go_loopw [8] (fun vi wr => ∃ k : Nat, vi = .int .i64 k ∧ k ≤ n ∧ Below w.heap.size w wr ∧ ∀ j, j < k → ¬ (r, X) = l.getD j (0, [])) (fun vi _ => n - (intOf vi).toNat)
  case atStart => exact ⟨0, rfl, Nat.zero_le _, Below.refl _ _, fun j hj => by omega⟩
  case round =>
    obtain ⟨k, rfl, hk, hwr, hin⟩ := hrel
    have Hwr := Lib.hid hwr
    have Hin := Lib.hid hin
    clear hwr hin
    by_cases hlt : k < n
    · have hk1 := Below.keep Hwr.out (Hc.out k hlt).1
      have hk2 := Below.keep Hwr.out (Hc.out k hlt).2.1
      have hki := (Hc.out k hlt).2.2.keep Hwr.out
      have hixk := fun w => Hix.out k w hlt
      have HK := Lib.hid (show ∃ f, f = l.getD k (0, []) ∧ ((0 : Int) ≤ 0) from ⟨_, rfl, by omega⟩)
      have hE := cloFR1_any r (aR l k) X (aA l k) vx (vs.getD k (.bool false)) bx wr (HX.out wr Hwr.out).1 (HX.out wr Hwr.out).2.1 (HX.out wr Hwr.out).2.2 hki
      have he : (aR l k, aA l k) = l.getD k (0, []) := rfl
      have hkl : k < l.length := by rw [← Hn.out]; exact hlt
      obtain ⟨ya, yc, hys⟩ := ints_slice hki
      obtain ⟨s0, hs0⟩ : ∃ s, s = aR l k := ⟨_, rfl⟩
      obtain ⟨Y, hY⟩ : ∃ s, s = aA l k := ⟨_, rfl⟩
      rw [← hs0] at hk1 hE he
      rw [← hY] at hE he hys
      obtain ⟨yn, hyn⟩ : ∃ s, s = Y.length := ⟨_, rfl⟩
      rw [← hyn] at hys
      rw [hys] at hE hk2
      clear hs0 hY hys hyn hki HK
      by_cases c : ((r, X) : HAt) = (s0, Y)
      · rw [decide_eq_true c] at hE
        have HM := Lib.hid (show (r, X) ∈ l by rw [c, he, List.getD_eq_getElem?_getD, List.getElem?_eq_getElem hkl]; exact List.getElem_mem hkl)
        have HE := Lib.hid hE
        clear c hE he
        go_wp2_with fail
        refine HE.out.mono ?_
        rintro e w5 ⟨rfl, hm⟩
        have Hm := Lib.hid (Below.tr Hwr.out hm)
        clear hm
        have R := Lib.hid (show (0 ≤ (k : Int) ↔ (r, X) ∈ l) from ⟨fun _ => HM.out, fun _ => by omega⟩)
        go_wp2_with fail
        go_ret
        exact ⟨_, rfl, R.out, Hm.out⟩
      · rw [decide_eq_false c] at hE
        have HI := Lib.hid (show ∀ j, j < k + 1 → ¬ (r, X) = l.getD j (0, []) from fun j hj => by
          by_cases e : j = k
          · subst e; rw [← he]; exact c
          · exact Hin.out j (by omega))
        have HE := Lib.hid hE
        clear c hE he
        go_wp2_with fail
        refine HE.out.mono ?_
        rintro e w5 ⟨rfl, hm⟩
        have Hm := Lib.hid (Below.tr Hwr.out hm)
        clear hm hk1 hk2
        go_wp2_with fail
        go_roundw
        case rel => exact ⟨k + 1, by go_num, by omega, Hm.out, HI.out⟩
        case measure => simp [intOf]; omega
    · obtain rfl : n = k := by omega
      have R := Lib.hid (show (0 ≤ (-1 : Int) ↔ (r, X) ∈ l) from ⟨fun h => by omega, fun h => by
        obtain ⟨i, hi, e⟩ := List.getElem_of_mem h
        exact absurd (by rw [List.getD_eq_getElem?_getD, List.getElem?_eq_getElem hi]; exact e.symm) (Hin.out i (by rw [Hn.out]; exact hi))⟩)
      go_wp2_with fail
      go_ret
      exact ⟨_, rfl, R.out, Hwr.out⟩
theorem conFR1_any (r : Int) (X : List Int) (l : List HAt) (vx u : Value) (bx : Nat) (w : World) (hc0 : w.cell? ⟨bx, 0, none⟩ = some (.int .i64 r)) (hc1 : w.cell? ⟨bx, 1, none⟩ = some vx) (hx : Ints w vx X) (hu : Atoms w u l) (B : Bool) (hB : decide ((r, X) ∈ l) = B) :
    Calls Try.prog 55 #[u, .func (.func 56) #[] #[.pointer (some ⟨bx, 0, none⟩)]] w fun e w' => e = .returned (.bool B) ∧ Below w.heap.size w w' := by
  have H := Lib.hid (idxFR1_any r X l vx u bx w hc0 hc1 hx hu)
  have HT := Lib.hid (fun h : (r, X) ∈ l => show B = true by rw [← hB]; exact decide_eq_true h)
  have HF := Lib.hid (fun h : ¬ (r, X) ∈ l => show B = false by rw [← hB]; exact decide_eq_false h)
  obtain ⟨a, c, rfl⟩ := atoms_slice hu
  clear hc0 hc1 hx hu hB
  go_enter Try.func55, Try.ntmps55
  go_wp2_with fail
  refine H.out.mono ?_
  rintro e w5 ⟨c, rfl, hc, hm⟩
  have Hm := Lib.hid hm
  clear hm
  by_cases d : (r, X) ∈ l
  · have q : c ≥ 0 := hc.2 d
    have R := Lib.hid (HT.out d)
    clear hc d
    go_wp2_with fail
    go_ret
    exact ⟨by rw [R.out]; rfl, Hm.out⟩
  · have q : decide (0 ≤ c) = false := decide_eq_false fun h => d (hc.1 h)
    have R := Lib.hid (HF.out d)
    clear hc d
    go_wp2_with fail
    go_ret
    exact ⟨by rw [R.out]; rfl, Hm.out⟩
#print axioms conFR1_any
set_option maxHeartbeats 1000000 in
theorem cloFR2_any (r s : Int) (X Y : List Int) (vx y : Value) (bx : Nat) (w : World) (hc0 : w.cell? ⟨bx, 0, none⟩ = some (.int .i64 r)) (hc1 : w.cell? ⟨bx, 1, none⟩ = some vx) (hx : Ints w vx X) (hy : Ints w y Y) :
    Calls Try.prog 57 #[.agg #[.int .i64 s, y], .pointer (some ⟨bx, 0, none⟩)] w fun e w' => e = .returned (.bool (decide (((r, X) : HAt) = (s, Y)))) ∧ Below w.heap.size w w' := by
  obtain ⟨w1, hw1⟩ : ∃ x, x = w.alloc (.cells #[.int .i64 s, y] 77) := ⟨_, rfl⟩
  have hb : Below w.heap.size w w1 := by rw [hw1]; exact below_alloc _ _
  obtain ⟨bo, hbo⟩ : ∃ x, x = w.heap.size := ⟨_, rfl⟩
  have hn : w1.heap[bo]? = some (.cells #[.int .i64 s, y] 77 (0, 0)) := by rw [hw1, hbo]; exact heap_alloc_new _ _
  have q0 := Below.keep hb hc0
  have q1 := Below.keep hb hc1
  have q2 := aCell hn 0 rfl
  have q3 := aCell hn 1 rfl
  have H := Lib.hid (equal_any X Y vx y w1 (hx.keep hb) (hy.keep hb))
  obtain ⟨xa, xc, rfl⟩ := ints_slice hx
  obtain ⟨ya, yc, rfl⟩ := ints_slice hy
  obtain ⟨xn, hxn⟩ : ∃ n, n = X.length := ⟨_, rfl⟩
  obtain ⟨yn, hyn⟩ : ∃ n, n = Y.length := ⟨_, rfl⟩
  rw [← hxn] at q1 H
  rw [← hyn] at q3 H hw1 ⊢
  have Hw1 := Lib.hid hw1
  have Hbo := Lib.hid hbo
  have HB := Lib.hid hb
  clear hc0 hc1 hx hy hw1 hb hbo hn hxn hyn
  by_cases h : r = s
  · have HR := Lib.hid (show decide (((r, X) : HAt) = (s, Y)) = decide (X = Y) from decide_eq_decide.2 ⟨fun e => (Prod.mk.inj e).2, fun e => by rw [h, e]⟩)
    have q : (r == s) = true := by rw [h]; simp
    obtain ⟨B, hB⟩ : ∃ B, B = decide (X = Y) := ⟨_, rfl⟩
    rw [← hB] at H HR
    clear hB h
    go_enter Try.func57, Try.ntmps57
    go_upto_region 1 with fail
    rw [← Hw1.out, ← Hbo.out]
    clear Hw1
    go_wp2_with fail
    refine H.out.mono ?_
    rintro e w5 ⟨rfl, m, hm⟩
    have Hm := Lib.hid (show Below w.heap.size w w5 from by rw [hm]; exact Below.tr HB.out ⟨rfl, rfl, rfl, Nat.le_refl _, fun _ _ => rfl⟩)
    clear hm q0 q1 q2 q3 H
    go_wp2_with fail
    go_ret
    exact ⟨congrArg (fun b => Ending.returned (.bool b)) HR.out.symm, Hm.out⟩
  · have HR := Lib.hid (show decide (((r, X) : HAt) = (s, Y)) = false from decide_eq_false fun e => h (Prod.mk.inj e).1)
    have q : (r == s) = false := beq_eq_false_iff_ne.2 h
    clear H h
    go_enter Try.func57, Try.ntmps57
    go_upto_region 1 with fail
    rw [← Hw1.out, ← Hbo.out]
    clear Hw1
    go_wp2_with fail
    go_ret
    exact ⟨congrArg (fun b => Ending.returned (.bool b)) HR.out.symm, HB.out⟩
set_option maxRecDepth 100000 in
set_option maxHeartbeats 8000000 in
theorem idxFR2_any (r : Int) (X : List Int) (l : List HAt) (vx u : Value) (bx : Nat) (w : World) (hc0 : w.cell? ⟨bx, 0, none⟩ = some (.int .i64 r)) (hc1 : w.cell? ⟨bx, 1, none⟩ = some vx) (hx : Ints w vx X) (hu : Atoms w u l) :
    Calls Try.prog 101 #[u, .func (.func 57) #[] #[.pointer (some ⟨bx, 0, none⟩)]] w fun e w' => ∃ c : Int, e = .returned (.int .i64 c) ∧ (0 ≤ c ↔ (r, X) ∈ l) ∧ Below w.heap.size w w' := by
  obtain ⟨a, b, off, cap, vs, rfl, hle, ha, hcap, hcs⟩ := hu.get
  obtain ⟨n, hn⟩ : ∃ n, n = l.length := ⟨_, rfl⟩
  rw [← hn] at ha hcs hle ⊢
  have Hn := Lib.hid hn
  have Hix := Lib.hid (run_ix (P := Try.prog) (t := 26) (a := a) (len := n) (cap := cap) (b := b) (off := off) (s := 2) Try.underlying26 (by intro w; kernel_rfl) ha)
  have Hc := Lib.hid hcs
  have HX := Lib.hid (show ∀ w', Below w.heap.size w w' → w'.cell? ⟨bx, 0, none⟩ = some (.int .i64 r) ∧ w'.cell? ⟨bx, 1, none⟩ = some vx ∧ Ints w' vx X from fun w' hb => ⟨Below.keep hb hc0, Below.keep hb hc1, hx.keep hb⟩)
  clear hu ha hcs hc0 hc1 hx hcap hn
  go_enter Try.func101, Try.ntmps101
  go_wp2_with fail
  go_loopw [8] (fun vi wr => ∃ k : Nat, vi = .int .i64 k ∧ k ≤ n ∧ Below w.heap.size w wr ∧ ∀ j, j < k → ¬ (r, X) = l.getD j (0, [])) (fun vi _ => n - (intOf vi).toNat)
  case atStart => exact ⟨0, rfl, Nat.zero_le _, Below.refl _ _, fun j hj => by omega⟩
  case round =>
    obtain ⟨k, rfl, hk, hwr, hin⟩ := hrel
    have Hwr := Lib.hid hwr
    have Hin := Lib.hid hin
    clear hwr hin
    by_cases hlt : k < n
    · have hk1 := Below.keep Hwr.out (Hc.out k hlt).1
      have hk2 := Below.keep Hwr.out (Hc.out k hlt).2.1
      have hki := (Hc.out k hlt).2.2.keep Hwr.out
      have hixk := fun w => Hix.out k w hlt
      have HK := Lib.hid (show ∃ f, f = l.getD k (0, []) ∧ ((0 : Int) ≤ 0) from ⟨_, rfl, by omega⟩)
      have hE := cloFR2_any r (aR l k) X (aA l k) vx (vs.getD k (.bool false)) bx wr (HX.out wr Hwr.out).1 (HX.out wr Hwr.out).2.1 (HX.out wr Hwr.out).2.2 hki
      have he : (aR l k, aA l k) = l.getD k (0, []) := rfl
      have hkl : k < l.length := by rw [← Hn.out]; exact hlt
      obtain ⟨ya, yc, hys⟩ := ints_slice hki
      obtain ⟨s0, hs0⟩ : ∃ s, s = aR l k := ⟨_, rfl⟩
      obtain ⟨Y, hY⟩ : ∃ s, s = aA l k := ⟨_, rfl⟩
      rw [← hs0] at hk1 hE he
      rw [← hY] at hE he hys
      obtain ⟨yn, hyn⟩ : ∃ s, s = Y.length := ⟨_, rfl⟩
      rw [← hyn] at hys
      rw [hys] at hE hk2
      clear hs0 hY hys hyn hki HK
      by_cases c : ((r, X) : HAt) = (s0, Y)
      · rw [decide_eq_true c] at hE
        have HM := Lib.hid (show (r, X) ∈ l by rw [c, he, List.getD_eq_getElem?_getD, List.getElem?_eq_getElem hkl]; exact List.getElem_mem hkl)
        have HE := Lib.hid hE
        clear c hE he
        go_wp2_with fail
        refine HE.out.mono ?_
        rintro e w5 ⟨rfl, hm⟩
        have Hm := Lib.hid (Below.tr Hwr.out hm)
        clear hm
        have R := Lib.hid (show (0 ≤ (k : Int) ↔ (r, X) ∈ l) from ⟨fun _ => HM.out, fun _ => by omega⟩)
        go_wp2_with fail
        go_ret
        exact ⟨_, rfl, R.out, Hm.out⟩
      · rw [decide_eq_false c] at hE
        have HI := Lib.hid (show ∀ j, j < k + 1 → ¬ (r, X) = l.getD j (0, []) from fun j hj => by
          by_cases e : j = k
          · subst e; rw [← he]; exact c
          · exact Hin.out j (by omega))
        have HE := Lib.hid hE
        clear c hE he
        go_wp2_with fail
        refine HE.out.mono ?_
        rintro e w5 ⟨rfl, hm⟩
        have Hm := Lib.hid (Below.tr Hwr.out hm)
        clear hm hk1 hk2
        go_wp2_with fail
        go_roundw
        case rel => exact ⟨k + 1, by go_num, by omega, Hm.out, HI.out⟩
        case measure => simp [intOf]; omega
    · obtain rfl : n = k := by omega
      have R := Lib.hid (show (0 ≤ (-1 : Int) ↔ (r, X) ∈ l) from ⟨fun h => by omega, fun h => by
        obtain ⟨i, hi, e⟩ := List.getElem_of_mem h
        exact absurd (by rw [List.getD_eq_getElem?_getD, List.getElem?_eq_getElem hi]; exact e.symm) (Hin.out i (by rw [Hn.out]; exact hi))⟩)
      go_wp2_with fail
      go_ret
      exact ⟨_, rfl, R.out, Hwr.out⟩
theorem conFR2_any (r : Int) (X : List Int) (l : List HAt) (vx u : Value) (bx : Nat) (w : World) (hc0 : w.cell? ⟨bx, 0, none⟩ = some (.int .i64 r)) (hc1 : w.cell? ⟨bx, 1, none⟩ = some vx) (hx : Ints w vx X) (hu : Atoms w u l) (B : Bool) (hB : decide ((r, X) ∈ l) = B) :
    Calls Try.prog 55 #[u, .func (.func 57) #[] #[.pointer (some ⟨bx, 0, none⟩)]] w fun e w' => e = .returned (.bool B) ∧ Below w.heap.size w w' := by
  have H := Lib.hid (idxFR2_any r X l vx u bx w hc0 hc1 hx hu)
  have HT := Lib.hid (fun h : (r, X) ∈ l => show B = true by rw [← hB]; exact decide_eq_true h)
  have HF := Lib.hid (fun h : ¬ (r, X) ∈ l => show B = false by rw [← hB]; exact decide_eq_false h)
  obtain ⟨a, c, rfl⟩ := atoms_slice hu
  clear hc0 hc1 hx hu hB
  go_enter Try.func55, Try.ntmps55
  go_wp2_with fail
  refine H.out.mono ?_
  rintro e w5 ⟨c, rfl, hc, hm⟩
  have Hm := Lib.hid hm
  clear hm
  by_cases d : (r, X) ∈ l
  · have q : c ≥ 0 := hc.2 d
    have R := Lib.hid (HT.out d)
    clear hc d
    go_wp2_with fail
    go_ret
    exact ⟨by rw [R.out]; rfl, Hm.out⟩
  · have q : decide (0 ≤ c) = false := decide_eq_false fun h => d (hc.1 h)
    have R := Lib.hid (HF.out d)
    clear hc d
    go_wp2_with fail
    go_ret
    exact ⟨by rw [R.out]; rfl, Hm.out⟩
#print axioms conFR2_any
end Go.Proofs.Ytfplmdieeabgpaa
