/- Contracts of depend.contains at all ints, stepHolds's closure, stepHolds. -/
import Derived.Test.YtnidalbfmicoiaaWalkSd
import Derived.Test.YtnidalbfmicoiaaWalkS
import Derived.Test.YtnidalbfmicoiaaWalkT
import Derived.Deep.RegionHeld3
import Derived.Deep.DeepCutAuto
import Derived.StillTailTactics
namespace Go.Proofs.Ytnidalbfmicoiaa
open Go.RowKit

theorem containsI_any (x y : Int) (w : World) :
    Calls Try.prog 75 #[.int .i64 x, .int .i64 y] w fun e w' => e = .returned (.bool (bits .andNot .i64 y x == 0)) ∧ w = w' := by
  go_enter Try.func75, Try.ntmps75
  go_wp2
  go_ret
  exact ⟨rfl, rfl⟩
theorem containsI_b (x y : Int) (b : Bool) (h : (bits .andNot .i64 y x == 0) = b) (w : World) :
    Calls Try.prog 75 #[.int .i64 x, .int .i64 y] w fun e w' => e = .returned (.bool b) ∧ w = w' := by
  subst h; exact containsI_any x y w
theorem earlier_any (i : Int) (q : List Stp) (a : Option Addr) (c pb : Nat) (_ : q.length ≤ 9223372036854775807) (w : World) (hp : w.cell? ⟨pb, 0, none⟩ = some (.slice a q.length c)) :
    Calls Try.prog 95 #[.int .i64 i, .pointer (some ⟨pb, 0, none⟩)] w fun e w' => e = .returned (.bool (decide (0 ≤ i ∧ i < q.length))) ∧ w = w' := by
  by_cases hi : 0 ≤ i
  · obtain ⟨ii, rfl⟩ := Int.eq_ofNat_of_zero_le hi
    go_enter Try.func95, Try.ntmps95
    go_wp2
    go_ret
    exact ⟨congrArg (fun b => Ending.returned (.bool b)) (by simp), rfl⟩
  · have R := Lib.hid (show decide (0 ≤ i ∧ i < (q.length : Int)) = false from decide_eq_false fun h => hi h.1)
    have q0 : decide ((0 : Int) ≤ i) = false := by simpa using hi
    clear hi
    go_enter Try.func95, Try.ntmps95
    go_wp2
    go_ret
    exact ⟨congrArg (fun b => Ending.returned (.bool b)) R.out.symm, rfl⟩
theorem earlier_b (i : Int) (b : Bool) (q : List Stp) (a : Option Addr) (n c pb : Nat) (hn : n = q.length) (hl : n ≤ 9223372036854775807) (h : decide (0 ≤ i ∧ i < q.length) = b) (w : World) (hp : w.cell? ⟨pb, 0, none⟩ = some (.slice a n c)) :
    Calls Try.prog 95 #[.int .i64 i, .pointer (some ⟨pb, 0, none⟩)] w fun e w' => e = .returned (.bool b) ∧ w = w' := by
  subst hn; subst h; exact earlier_any i q a c pb hl w hp
theorem drewN_below (w : World) (n : Nat) : Below w.heap.size w (w.drewN n) := bdrewN (Below.refl _ _) n

set_option maxRecDepth 100000 in
set_option maxHeartbeats 4000000 in
theorem stepHolds_0 (m : Nat) (l : List (Int × Int)) (hV : ValidP m l []) (p : List Stp) (r i j f t : Int) (h0 : r = 0) (v u : Value) (w : World) (hv : Deps w v l) (hu : Steps w u p) :
    Calls Try.prog 78 #[.int .i64 m, v, u, Stp.val (r, i, j, f, t)] w fun e w' => e = .returned (.bool (decide (StepOk m l p p.length (r, i, j, f, t)))) ∧ Below w.heap.size w w' := by
  have hvv := hv
  obtain ⟨a, b, off, cap, rfl, hle, ha, hc⟩ := Deps.get hv
  obtain ⟨a', b', off', cap', rfl, hle', ha', -, hc'⟩ := Steps.get hu
  have hix := run_ix (P := Try.prog) (t := 28) (a := a) (len := l.length) (cap := cap) (b := b) (off := off) (s := 2) Try.underlying28 (by intro w; kernel_rfl) ha
  have hix' := run_ix (P := Try.prog) (t := 46) (a := a') (len := p.length) (cap := cap') (b := b') (off := off') (s := 5) Try.underlying46 (by intro w; kernel_rfl) ha'
  simp only [Stp.val]
  have Hc := Lib.hid hc
  have Hc' := Lib.hid hc'
  have Hv := Lib.hid hvv
  have HV := Lib.hid hV
  have Hix := Lib.hid hix
  have Hix' := Lib.hid hix'
  clear ha ha' hv hu hc hc' hvv hV hix hix'
  have HV1 := Lib.hid (show ∀ j, decide (ValidP m l [j]) = decide (InSet m j) from fun j => decide_eq_decide.2 ⟨fun h => h.2.2 j (by simp), fun h => ⟨HV.out.1, HV.out.2.1, fun x hx => by simp at hx; subst hx; exact h⟩⟩)
  have Hcl := Lib.hid (show ∀ w1, Below w.heap.size w w1 → ∀ q, q < l.length → w1.cell? ⟨b, off + q * 2, none⟩ = some (.int .i64 (nth l q).1) ∧ w1.cell? ⟨b, off + q * 2 + 1, none⟩ = some (.int .i64 (nth l q).2) from fun w1 hb q hq => by rw [← nth_get hq]; exact ⟨Below.keep hb (Hc.out q hq).1, Below.keep hb (Hc.out q hq).2⟩)
  have Hcp := Lib.hid (show ∀ w1, Below w.heap.size w w1 → ∀ q, q < p.length → w1.cell? ⟨b', off' + q * 5 + 3, none⟩ = some (.int .i64 (stp p q).2.2.2.1) ∧ w1.cell? ⟨b', off' + q * 5 + 4, none⟩ = some (.int .i64 (stp p q).2.2.2.2) from fun w1 hb q hq => by rw [← stp_get hq]; exact ⟨Below.keep hb (Hc'.out q hq).2.2.2.1, Below.keep hb (Hc'.out q hq).2.2.2.2⟩)
  clear Hc Hc'
  generalize hpl : p.length = np at *
  have Hpl := Lib.hid hpl
  clear hpl
  have Hno := Lib.hid (fun (h : ¬ StepOk m l p np (0, i, j, f, t)) => Lib.hid (decide_eq_false h))
  have Hyes := Lib.hid (fun (h : StepOk m l p np (0, i, j, f, t)) => Lib.hid (decide_eq_true h))
  subst h0
  go_enter Try.func78, Try.ntmps78
  go_upto_region 1 with fail
  have hb1 : Below w.heap.size w ((w.alloc (.cells #[.slice a' np cap'] 46)).alloc (.cells #[.int .i64 0, .int .i64 i, .int .i64 j, .int .i64 f, .int .i64 t] 53)) := Below.tr (below_alloc _ _) (below_alloc _ _)
  have d : ((w.alloc (.cells #[.slice a' np cap'] 46)).alloc (.cells #[.int .i64 0, .int .i64 i, .int .i64 j, .int .i64 f, .int .i64 t] 53)).cell? ⟨w.heap.size, 0, none⟩ = some (.slice a' np cap') := Below.keep (below_alloc _ _) (by rw [cell_new]; rfl)
  have dd : ∀ q x, #[Value.int .i64 0, .int .i64 i, .int .i64 j, .int .i64 f, .int .i64 t][q]? = some x → ((w.alloc (.cells #[.slice a' np cap'] 46)).alloc (.cells #[.int .i64 0, .int .i64 i, .int .i64 j, .int .i64 f, .int .i64 t] 53)).cell? ⟨w.heap.size + 1, q, none⟩ = some x := fun q x hx => by
    have := cell_new (w.alloc (.cells #[.slice a' np cap'] 46)) #[.int .i64 0, .int .i64 i, .int .i64 j, .int .i64 f, .int .i64 t] 53 q
    rw [hx, show (w.alloc (.cells #[.slice a' np cap'] 46)).heap.size = w.heap.size + 1 by simp] at this
    exact this
  have hz1 : ((w.alloc (.cells #[.slice a' np cap'] 46)).alloc (.cells #[.int .i64 0, .int .i64 i, .int .i64 j, .int .i64 f, .int .i64 t] 53)).heap.size = w.heap.size + 1 + 1 := by simp
  generalize ((w.alloc (.cells #[.slice a' np cap'] 46)).alloc (.cells #[.int .i64 0, .int .i64 i, .int .i64 j, .int .i64 f, .int .i64 t] 53)) = w1 at *
  have d0 : w1.cell? ⟨w.heap.size + 1, 0, none⟩ = some (.int .i64 0) := dd 0 _ rfl
  have d1 : w1.cell? ⟨w.heap.size + 1, 1, none⟩ = some (.int .i64 i) := dd 1 _ rfl
  have d2 : w1.cell? ⟨w.heap.size + 1, 2, none⟩ = some (.int .i64 j) := dd 2 _ rfl
  have d3 : w1.cell? ⟨w.heap.size + 1, 3, none⟩ = some (.int .i64 f) := dd 3 _ rfl
  have d4 : w1.cell? ⟨w.heap.size + 1, 4, none⟩ = some (.int .i64 t) := dd 4 _ rfl
  have Hbw := Lib.hid hb1
  have Hz1 := Lib.hid hz1
  clear dd hb1 hz1
  by_cases hi : 0 ≤ i
  · obtain ⟨ii, rfl⟩ := Int.eq_ofNat_of_zero_le hi
    by_cases hl : ii < l.length
    · obtain ⟨e1, e2⟩ := Hcl.out _ Hbw.out ii hl
      have hixi := Hix.out ii
      have Hnx := Lib.hid (show nth l (ii : Int).toNat = nth l ii by rw [Int.toNat_natCast])
      generalize hx : nth l ii = x at *
      obtain ⟨x, y⟩ := x
      simp only at e1 e2
      clear hx
      by_cases hj : j = 0
      · subst hj
        by_cases hf : f = x
        · subst hf
          by_cases ht : t = y
          · subst ht
            have R := Hyes.out (ok_0.2 ⟨hi, by omega, rfl, by rw [Hnx.out], by rw [Hnx.out]⟩)
            clear Hno Hyes
            go_wp2_with fail
            go_quiet (fail)
            go_wp2_with fail
            go_ret
            exact ⟨congrArg (fun b => Ending.returned (.bool b)) R.out.symm, bdrewN Hbw.out _⟩
          · have q : (t == y) = false := by simpa using ht
            have R := Hno.out (fun h => ht (by have h := (ok_0.1 h).2.2.2.2; rw [Hnx.out] at h; exact h))
            clear Hno Hyes
            go_wp2_with fail
            go_quiet (fail)
            go_wp2_with fail
            go_ret
            exact ⟨congrArg (fun b => Ending.returned (.bool b)) R.out.symm, bdrewN Hbw.out _⟩
        · have q : (f == x) = false := by simpa using hf
          have R := Hno.out (fun h => hf (by have h := (ok_0.1 h).2.2.2.1; rw [Hnx.out] at h; exact h))
          clear Hno Hyes
          go_wp2_with fail
          go_quiet (fail)
          go_wp2_with fail
          go_ret
          exact ⟨congrArg (fun b => Ending.returned (.bool b)) R.out.symm, bdrewN Hbw.out _⟩
      · have q : (j == 0) = false := by simpa using hj
        have R := Hno.out (fun h => hj (ok_0.1 h).2.2.1)
        clear Hno Hyes
        go_wp2_with fail
        go_quiet (fail)
        go_wp2_with fail
        go_ret
        exact ⟨congrArg (fun b => Ending.returned (.bool b)) R.out.symm, bdrewN Hbw.out _⟩
    · have q : decide (ii < l.length) = false := by simpa using hl
      have R := Hno.out (fun h => hl (by have := (ok_0.1 h).2.1; omega))
      clear Hno Hyes
      go_wp2_with fail
      go_quiet (fail)
      go_wp2_with fail
      go_ret
      exact ⟨congrArg (fun b => Ending.returned (.bool b)) R.out.symm, bdrewN Hbw.out _⟩
  · have q : decide ((0 : Int) ≤ i) = false := by simpa using hi
    have R := Hno.out (fun h => hi (ok_0.1 h).1)
    clear Hno Hyes
    go_wp2_with fail
    go_quiet (fail)
    go_wp2_with fail
    go_ret
    exact ⟨congrArg (fun b => Ending.returned (.bool b)) R.out.symm, bdrewN Hbw.out _⟩
set_option maxRecDepth 100000 in
set_option maxHeartbeats 4000000 in
theorem stepHolds_1 (m : Nat) (l : List (Int × Int)) (hV : ValidP m l []) (p : List Stp) (r i j f t : Int) (h0 : r = 1) (v u : Value) (w : World) (hv : Deps w v l) (hu : Steps w u p) :
    Calls Try.prog 78 #[.int .i64 m, v, u, Stp.val (r, i, j, f, t)] w fun e w' => e = .returned (.bool (decide (StepOk m l p p.length (r, i, j, f, t)))) ∧ Below w.heap.size w w' := by
  have hvv := hv
  obtain ⟨a, b, off, cap, rfl, hle, ha, hc⟩ := Deps.get hv
  obtain ⟨a', b', off', cap', rfl, hle', ha', -, hc'⟩ := Steps.get hu
  have hix := run_ix (P := Try.prog) (t := 28) (a := a) (len := l.length) (cap := cap) (b := b) (off := off) (s := 2) Try.underlying28 (by intro w; kernel_rfl) ha
  have hix' := run_ix (P := Try.prog) (t := 46) (a := a') (len := p.length) (cap := cap') (b := b') (off := off') (s := 5) Try.underlying46 (by intro w; kernel_rfl) ha'
  simp only [Stp.val]
  have Hc := Lib.hid hc
  have Hc' := Lib.hid hc'
  have Hv := Lib.hid hvv
  have HV := Lib.hid hV
  have Hix := Lib.hid hix
  have Hix' := Lib.hid hix'
  clear ha ha' hv hu hc hc' hvv hV hix hix'
  have HV1 := Lib.hid (show ∀ j, decide (ValidP m l [j]) = decide (InSet m j) from fun j => decide_eq_decide.2 ⟨fun h => h.2.2 j (by simp), fun h => ⟨HV.out.1, HV.out.2.1, fun x hx => by simp at hx; subst hx; exact h⟩⟩)
  have Hcl := Lib.hid (show ∀ w1, Below w.heap.size w w1 → ∀ q, q < l.length → w1.cell? ⟨b, off + q * 2, none⟩ = some (.int .i64 (nth l q).1) ∧ w1.cell? ⟨b, off + q * 2 + 1, none⟩ = some (.int .i64 (nth l q).2) from fun w1 hb q hq => by rw [← nth_get hq]; exact ⟨Below.keep hb (Hc.out q hq).1, Below.keep hb (Hc.out q hq).2⟩)
  have Hcp := Lib.hid (show ∀ w1, Below w.heap.size w w1 → ∀ q, q < p.length → w1.cell? ⟨b', off' + q * 5 + 3, none⟩ = some (.int .i64 (stp p q).2.2.2.1) ∧ w1.cell? ⟨b', off' + q * 5 + 4, none⟩ = some (.int .i64 (stp p q).2.2.2.2) from fun w1 hb q hq => by rw [← stp_get hq]; exact ⟨Below.keep hb (Hc'.out q hq).2.2.2.1, Below.keep hb (Hc'.out q hq).2.2.2.2⟩)
  clear Hc Hc'
  generalize hpl : p.length = np at *
  have Hpl := Lib.hid hpl
  clear hpl
  have Hno := Lib.hid (fun (h : ¬ StepOk m l p np (1, i, j, f, t)) => Lib.hid (decide_eq_false h))
  have Hyes := Lib.hid (fun (h : StepOk m l p np (1, i, j, f, t)) => Lib.hid (decide_eq_true h))
  subst h0
  go_enter Try.func78, Try.ntmps78
  go_upto_region 1 with fail
  have hb1 : Below w.heap.size w ((w.alloc (.cells #[.slice a' np cap'] 46)).alloc (.cells #[.int .i64 1, .int .i64 i, .int .i64 j, .int .i64 f, .int .i64 t] 53)) := Below.tr (below_alloc _ _) (below_alloc _ _)
  have d : ((w.alloc (.cells #[.slice a' np cap'] 46)).alloc (.cells #[.int .i64 1, .int .i64 i, .int .i64 j, .int .i64 f, .int .i64 t] 53)).cell? ⟨w.heap.size, 0, none⟩ = some (.slice a' np cap') := Below.keep (below_alloc _ _) (by rw [cell_new]; rfl)
  have dd : ∀ q x, #[Value.int .i64 1, .int .i64 i, .int .i64 j, .int .i64 f, .int .i64 t][q]? = some x → ((w.alloc (.cells #[.slice a' np cap'] 46)).alloc (.cells #[.int .i64 1, .int .i64 i, .int .i64 j, .int .i64 f, .int .i64 t] 53)).cell? ⟨w.heap.size + 1, q, none⟩ = some x := fun q x hx => by
    have := cell_new (w.alloc (.cells #[.slice a' np cap'] 46)) #[.int .i64 1, .int .i64 i, .int .i64 j, .int .i64 f, .int .i64 t] 53 q
    rw [hx, show (w.alloc (.cells #[.slice a' np cap'] 46)).heap.size = w.heap.size + 1 by simp] at this
    exact this
  have hz1 : ((w.alloc (.cells #[.slice a' np cap'] 46)).alloc (.cells #[.int .i64 1, .int .i64 i, .int .i64 j, .int .i64 f, .int .i64 t] 53)).heap.size = w.heap.size + 1 + 1 := by simp
  generalize ((w.alloc (.cells #[.slice a' np cap'] 46)).alloc (.cells #[.int .i64 1, .int .i64 i, .int .i64 j, .int .i64 f, .int .i64 t] 53)) = w1 at *
  have d0 : w1.cell? ⟨w.heap.size + 1, 0, none⟩ = some (.int .i64 1) := dd 0 _ rfl
  have d1 : w1.cell? ⟨w.heap.size + 1, 1, none⟩ = some (.int .i64 i) := dd 1 _ rfl
  have d2 : w1.cell? ⟨w.heap.size + 1, 2, none⟩ = some (.int .i64 j) := dd 2 _ rfl
  have d3 : w1.cell? ⟨w.heap.size + 1, 3, none⟩ = some (.int .i64 f) := dd 3 _ rfl
  have d4 : w1.cell? ⟨w.heap.size + 1, 4, none⟩ = some (.int .i64 t) := dd 4 _ rfl
  have Hbw := Lib.hid hb1
  have Hz1 := Lib.hid hz1
  clear dd hb1 hz1
  by_cases hi : i = 0
  · subst hi
    by_cases hj : j = 0
    · subst hj
      by_cases hs : bits .andNot .i64 t f = 0
      · have Hq := Lib.hid (show (bits .andNot .i64 t f == 0) = true by simpa using hs)
        have R := Hyes.out (ok_1.2 ⟨rfl, rfl, hs⟩)
        clear hs
        clear Hno Hyes
        go_wp2_with (go_at_call 75; refine (containsI_b _ _ true Hq.out _).mono ?_; rintro e w' ⟨rfl, rfl⟩)
        go_ret
        exact ⟨congrArg (fun b => Ending.returned (.bool b)) R.out.symm, Hbw.out⟩
      · have Hq := Lib.hid (show (bits .andNot .i64 t f == 0) = false by simpa using hs)
        have R := Hno.out (fun h => hs (ok_1.1 h).2.2)
        clear hs
        clear Hno Hyes
        go_wp2_with (go_at_call 75; refine (containsI_b _ _ false Hq.out _).mono ?_; rintro e w' ⟨rfl, rfl⟩)
        go_ret
        exact ⟨congrArg (fun b => Ending.returned (.bool b)) R.out.symm, Hbw.out⟩
    · have q : (j == 0) = false := by simpa using hj
      have R := Hno.out (fun h => hj (ok_1.1 h).2.1)
      clear Hno Hyes
      go_wp2_with (fail)
      go_ret
      exact ⟨congrArg (fun b => Ending.returned (.bool b)) R.out.symm, Hbw.out⟩
  · have q : (i == 0) = false := by simpa using hi
    have R := Hno.out (fun h => hi (ok_1.1 h).1)
    clear Hno Hyes
    go_wp2_with (fail)
    go_ret
    exact ⟨congrArg (fun b => Ending.returned (.bool b)) R.out.symm, Hbw.out⟩
set_option maxRecDepth 100000 in
set_option maxHeartbeats 4000000 in
theorem stepHolds_n (m : Nat) (l : List (Int × Int)) (hV : ValidP m l []) (p : List Stp) (r i j f t : Int) (h0 : r ≠ 0) (h1 : r ≠ 1) (h2 : r ≠ 2) (h3 : r ≠ 3) (v u : Value) (w : World) (hv : Deps w v l) (hu : Steps w u p) :
    Calls Try.prog 78 #[.int .i64 m, v, u, Stp.val (r, i, j, f, t)] w fun e w' => e = .returned (.bool (decide (StepOk m l p p.length (r, i, j, f, t)))) ∧ Below w.heap.size w w' := by
  have hvv := hv
  obtain ⟨a, b, off, cap, rfl, hle, ha, hc⟩ := Deps.get hv
  obtain ⟨a', b', off', cap', rfl, hle', ha', -, hc'⟩ := Steps.get hu
  have hix := run_ix (P := Try.prog) (t := 28) (a := a) (len := l.length) (cap := cap) (b := b) (off := off) (s := 2) Try.underlying28 (by intro w; kernel_rfl) ha
  have hix' := run_ix (P := Try.prog) (t := 46) (a := a') (len := p.length) (cap := cap') (b := b') (off := off') (s := 5) Try.underlying46 (by intro w; kernel_rfl) ha'
  simp only [Stp.val]
  have Hc := Lib.hid hc
  have Hc' := Lib.hid hc'
  have Hv := Lib.hid hvv
  have HV := Lib.hid hV
  have Hix := Lib.hid hix
  have Hix' := Lib.hid hix'
  clear ha ha' hv hu hc hc' hvv hV hix hix'
  have HV1 := Lib.hid (show ∀ j, decide (ValidP m l [j]) = decide (InSet m j) from fun j => decide_eq_decide.2 ⟨fun h => h.2.2 j (by simp), fun h => ⟨HV.out.1, HV.out.2.1, fun x hx => by simp at hx; subst hx; exact h⟩⟩)
  have Hcl := Lib.hid (show ∀ w1, Below w.heap.size w w1 → ∀ q, q < l.length → w1.cell? ⟨b, off + q * 2, none⟩ = some (.int .i64 (nth l q).1) ∧ w1.cell? ⟨b, off + q * 2 + 1, none⟩ = some (.int .i64 (nth l q).2) from fun w1 hb q hq => by rw [← nth_get hq]; exact ⟨Below.keep hb (Hc.out q hq).1, Below.keep hb (Hc.out q hq).2⟩)
  have Hcp := Lib.hid (show ∀ w1, Below w.heap.size w w1 → ∀ q, q < p.length → w1.cell? ⟨b', off' + q * 5 + 3, none⟩ = some (.int .i64 (stp p q).2.2.2.1) ∧ w1.cell? ⟨b', off' + q * 5 + 4, none⟩ = some (.int .i64 (stp p q).2.2.2.2) from fun w1 hb q hq => by rw [← stp_get hq]; exact ⟨Below.keep hb (Hc'.out q hq).2.2.2.1, Below.keep hb (Hc'.out q hq).2.2.2.2⟩)
  clear Hc Hc'
  generalize hpl : p.length = np at *
  have Hpl := Lib.hid hpl
  clear hpl
  have Hno := Lib.hid (fun (h : ¬ StepOk m l p np (r, i, j, f, t)) => Lib.hid (decide_eq_false h))
  have Hyes := Lib.hid (fun (h : StepOk m l p np (r, i, j, f, t)) => Lib.hid (decide_eq_true h))
  have R := Hno.out (ok_no h0 h1 h2 h3)
  have n0 : (r == 0) = false := by simpa using h0
  have n1 : (r == 1) = false := by simpa using h1
  have n2 : (r == 2) = false := by simpa using h2
  have n3 : (r == 3) = false := by simpa using h3
  clear h0 h1 h2 h3
  go_enter Try.func78, Try.ntmps78
  go_upto_region 1 with fail
  have hb1 : Below w.heap.size w ((w.alloc (.cells #[.slice a' np cap'] 46)).alloc (.cells #[.int .i64 r, .int .i64 i, .int .i64 j, .int .i64 f, .int .i64 t] 53)) := Below.tr (below_alloc _ _) (below_alloc _ _)
  have d : ((w.alloc (.cells #[.slice a' np cap'] 46)).alloc (.cells #[.int .i64 r, .int .i64 i, .int .i64 j, .int .i64 f, .int .i64 t] 53)).cell? ⟨w.heap.size, 0, none⟩ = some (.slice a' np cap') := Below.keep (below_alloc _ _) (by rw [cell_new]; rfl)
  have dd : ∀ q x, #[Value.int .i64 r, .int .i64 i, .int .i64 j, .int .i64 f, .int .i64 t][q]? = some x → ((w.alloc (.cells #[.slice a' np cap'] 46)).alloc (.cells #[.int .i64 r, .int .i64 i, .int .i64 j, .int .i64 f, .int .i64 t] 53)).cell? ⟨w.heap.size + 1, q, none⟩ = some x := fun q x hx => by
    have := cell_new (w.alloc (.cells #[.slice a' np cap'] 46)) #[.int .i64 r, .int .i64 i, .int .i64 j, .int .i64 f, .int .i64 t] 53 q
    rw [hx, show (w.alloc (.cells #[.slice a' np cap'] 46)).heap.size = w.heap.size + 1 by simp] at this
    exact this
  have hz1 : ((w.alloc (.cells #[.slice a' np cap'] 46)).alloc (.cells #[.int .i64 r, .int .i64 i, .int .i64 j, .int .i64 f, .int .i64 t] 53)).heap.size = w.heap.size + 1 + 1 := by simp
  generalize ((w.alloc (.cells #[.slice a' np cap'] 46)).alloc (.cells #[.int .i64 r, .int .i64 i, .int .i64 j, .int .i64 f, .int .i64 t] 53)) = w1 at *
  have d0 : w1.cell? ⟨w.heap.size + 1, 0, none⟩ = some (.int .i64 r) := dd 0 _ rfl
  have d1 : w1.cell? ⟨w.heap.size + 1, 1, none⟩ = some (.int .i64 i) := dd 1 _ rfl
  have d2 : w1.cell? ⟨w.heap.size + 1, 2, none⟩ = some (.int .i64 j) := dd 2 _ rfl
  have d3 : w1.cell? ⟨w.heap.size + 1, 3, none⟩ = some (.int .i64 f) := dd 3 _ rfl
  have d4 : w1.cell? ⟨w.heap.size + 1, 4, none⟩ = some (.int .i64 t) := dd 4 _ rfl
  have Hbw := Lib.hid hb1
  have Hz1 := Lib.hid hz1
  clear dd hb1 hz1
  clear Hno Hyes
  go_wp2_with fail
  go_ret
  exact ⟨congrArg (fun b => Ending.returned (.bool b)) R.out.symm, Hbw.out⟩
set_option maxRecDepth 100000 in
set_option maxHeartbeats 4000000 in
theorem stepHolds_2 (m : Nat) (l : List (Int × Int)) (hV : ValidP m l []) (p : List Stp) (r i j f t : Int) (h0 : r = 2) (v u : Value) (w : World) (hv : Deps w v l) (hu : Steps w u p) :
    Calls Try.prog 78 #[.int .i64 m, v, u, Stp.val (r, i, j, f, t)] w fun e w' => e = .returned (.bool (decide (StepOk m l p p.length (r, i, j, f, t)))) ∧ Below w.heap.size w w' := by
  have hvv := hv
  obtain ⟨a, b, off, cap, rfl, hle, ha, hc⟩ := Deps.get hv
  obtain ⟨a', b', off', cap', rfl, hle', ha', -, hc'⟩ := Steps.get hu
  have hix := run_ix (P := Try.prog) (t := 28) (a := a) (len := l.length) (cap := cap) (b := b) (off := off) (s := 2) Try.underlying28 (by intro w; kernel_rfl) ha
  have hix' := run_ix (P := Try.prog) (t := 46) (a := a') (len := p.length) (cap := cap') (b := b') (off := off') (s := 5) Try.underlying46 (by intro w; kernel_rfl) ha'
  simp only [Stp.val]
  have Hc := Lib.hid hc
  have Hc' := Lib.hid hc'
  have Hv := Lib.hid hvv
  have HV := Lib.hid hV
  have Hix := Lib.hid hix
  have Hix' := Lib.hid hix'
  clear ha ha' hv hu hc hc' hvv hV hix hix'
  have HV1 := Lib.hid (show ∀ j, decide (ValidP m l [j]) = decide (InSet m j) from fun j => decide_eq_decide.2 ⟨fun h => h.2.2 j (by simp), fun h => ⟨HV.out.1, HV.out.2.1, fun x hx => by simp at hx; subst hx; exact h⟩⟩)
  have Hcl := Lib.hid (show ∀ w1, Below w.heap.size w w1 → ∀ q, q < l.length → w1.cell? ⟨b, off + q * 2, none⟩ = some (.int .i64 (nth l q).1) ∧ w1.cell? ⟨b, off + q * 2 + 1, none⟩ = some (.int .i64 (nth l q).2) from fun w1 hb q hq => by rw [← nth_get hq]; exact ⟨Below.keep hb (Hc.out q hq).1, Below.keep hb (Hc.out q hq).2⟩)
  have Hcp := Lib.hid (show ∀ w1, Below w.heap.size w w1 → ∀ q, q < p.length → w1.cell? ⟨b', off' + q * 5 + 3, none⟩ = some (.int .i64 (stp p q).2.2.2.1) ∧ w1.cell? ⟨b', off' + q * 5 + 4, none⟩ = some (.int .i64 (stp p q).2.2.2.2) from fun w1 hb q hq => by rw [← stp_get hq]; exact ⟨Below.keep hb (Hc'.out q hq).2.2.2.1, Below.keep hb (Hc'.out q hq).2.2.2.2⟩)
  clear Hc Hc'
  generalize hpl : p.length = np at *
  have Hpl := Lib.hid hpl
  clear hpl
  have Hno := Lib.hid (fun (h : ¬ StepOk m l p np (2, i, j, f, t)) => Lib.hid (decide_eq_false h))
  have Hyes := Lib.hid (fun (h : StepOk m l p np (2, i, j, f, t)) => Lib.hid (decide_eq_true h))
  subst h0
  go_enter Try.func78, Try.ntmps78
  go_upto_region 1 with fail
  have hb1 : Below w.heap.size w ((w.alloc (.cells #[.slice a' np cap'] 46)).alloc (.cells #[.int .i64 2, .int .i64 i, .int .i64 j, .int .i64 f, .int .i64 t] 53)) := Below.tr (below_alloc _ _) (below_alloc _ _)
  have d : ((w.alloc (.cells #[.slice a' np cap'] 46)).alloc (.cells #[.int .i64 2, .int .i64 i, .int .i64 j, .int .i64 f, .int .i64 t] 53)).cell? ⟨w.heap.size, 0, none⟩ = some (.slice a' np cap') := Below.keep (below_alloc _ _) (by rw [cell_new]; rfl)
  have dd : ∀ q x, #[Value.int .i64 2, .int .i64 i, .int .i64 j, .int .i64 f, .int .i64 t][q]? = some x → ((w.alloc (.cells #[.slice a' np cap'] 46)).alloc (.cells #[.int .i64 2, .int .i64 i, .int .i64 j, .int .i64 f, .int .i64 t] 53)).cell? ⟨w.heap.size + 1, q, none⟩ = some x := fun q x hx => by
    have := cell_new (w.alloc (.cells #[.slice a' np cap'] 46)) #[.int .i64 2, .int .i64 i, .int .i64 j, .int .i64 f, .int .i64 t] 53 q
    rw [hx, show (w.alloc (.cells #[.slice a' np cap'] 46)).heap.size = w.heap.size + 1 by simp] at this
    exact this
  have hz1 : ((w.alloc (.cells #[.slice a' np cap'] 46)).alloc (.cells #[.int .i64 2, .int .i64 i, .int .i64 j, .int .i64 f, .int .i64 t] 53)).heap.size = w.heap.size + 1 + 1 := by simp
  generalize ((w.alloc (.cells #[.slice a' np cap'] 46)).alloc (.cells #[.int .i64 2, .int .i64 i, .int .i64 j, .int .i64 f, .int .i64 t] 53)) = w1 at *
  have d0 : w1.cell? ⟨w.heap.size + 1, 0, none⟩ = some (.int .i64 2) := dd 0 _ rfl
  have d1 : w1.cell? ⟨w.heap.size + 1, 1, none⟩ = some (.int .i64 i) := dd 1 _ rfl
  have d2 : w1.cell? ⟨w.heap.size + 1, 2, none⟩ = some (.int .i64 j) := dd 2 _ rfl
  have d3 : w1.cell? ⟨w.heap.size + 1, 3, none⟩ = some (.int .i64 f) := dd 3 _ rfl
  have d4 : w1.cell? ⟨w.heap.size + 1, 4, none⟩ = some (.int .i64 t) := dd 4 _ rfl
  have Hbw := Lib.hid hb1
  have Hz1 := Lib.hid hz1
  clear dd hb1 hz1
  by_cases hil : 0 ≤ i ∧ i < np
  · obtain ⟨hi, hl⟩ := hil
    have He := Lib.hid (show decide (0 ≤ i ∧ i < (p.length : Int)) = true by rw [Hpl.out]; exact decide_eq_true ⟨hi, hl⟩)
    obtain ⟨ii, rfl⟩ := Int.eq_ofNat_of_zero_le hi
    have hl : ii < np := by omega
    have hixi := Hix'.out ii
    have Hnx := Lib.hid (show stp p (ii : Int).toNat = stp p ii by rw [Int.toNat_natCast])
    have Hx := Lib.hid (fun w1 hb => Hcp.out w1 hb ii hl)
    generalize stp p ii = x at *
    obtain ⟨x1, x2, x3, x, y⟩ := x
    by_cases hj : InSet m j
    · have HJ := Lib.hid hj
      clear hj
      by_cases hf : f = bits .or .i64 x j
      · by_cases ht : t = bits .or .i64 y j
        · have R := Hyes.out (ok_2.2 ⟨hi, by omega, HJ.out, by rw [Hnx.out]; exact hf, by rw [Hnx.out]; exact ht⟩)
          have q1 : (f == bits .or .i64 x j) = true := by simpa using hf
          have q2 : (t == bits .or .i64 y j) = true := by simpa using ht
          clear hf ht
          clear Hno Hyes
          go_wp2_with fail
          refine (earlier_b _ true p _ _ _ _ Hpl.out.symm hle' He.out _ d).mono ?_
          rintro e w2 ⟨rfl, rfl⟩
          go_wp2_with fail
          refine (valid_any m l [j] _ _ _ (Deps.keep Hv.out (Below.tr Hbw.out (below_alloc _ _))) (ints_one _ _ _)).mono ?_
          rw [HV1.out]
          rintro e w2 ⟨he, hb2⟩
          rw [decide_eq_true HJ.out] at he
          subst he
          have Hb2 := Lib.hid (Below.tr Hbw.out (Below.tr (below_alloc _ _) hb2))
          obtain ⟨e1, e2⟩ := Hx.out _ Hb2.out
          try simp only at e1 e2
          have k0 := Below.keep (Below.tr (below_alloc _ _) hb2) d
          have k1 := Below.keep (Below.tr (below_alloc _ _) hb2) d1
          have k2 := Below.keep (Below.tr (below_alloc _ _) hb2) d2
          have k3 := Below.keep (Below.tr (below_alloc _ _) hb2) d3
          have k4 := Below.keep (Below.tr (below_alloc _ _) hb2) d4
          have hz2 : w.heap.size + 1 < w2.heap.size := by have := hb2.size; have := Hz1.out; simp at *; omega
          have hz3 : w.heap.size < w2.heap.size := by omega
          clear hb2 d d0 d1 d2 d3 d4
          go_wp2_with fail
          go_ret
          exact ⟨congrArg (fun b => Ending.returned (.bool b)) R.out.symm, Below.tr Hb2.out (below_alloc _ _)⟩
        · have q1 : (f == bits .or .i64 x j) = true := by simpa using hf
          have R := Hno.out (fun h => ht (by have h := (ok_2.1 h).2.2.2.2; rw [Hnx.out] at h; exact h))
          have q2 : (t == bits .or .i64 y j) = false := by simpa using ht
          clear hf ht
          clear Hno Hyes
          go_wp2_with fail
          refine (earlier_b _ true p _ _ _ _ Hpl.out.symm hle' He.out _ d).mono ?_
          rintro e w2 ⟨rfl, rfl⟩
          go_wp2_with fail
          refine (valid_any m l [j] _ _ _ (Deps.keep Hv.out (Below.tr Hbw.out (below_alloc _ _))) (ints_one _ _ _)).mono ?_
          rw [HV1.out]
          rintro e w2 ⟨he, hb2⟩
          rw [decide_eq_true HJ.out] at he
          subst he
          have Hb2 := Lib.hid (Below.tr Hbw.out (Below.tr (below_alloc _ _) hb2))
          obtain ⟨e1, e2⟩ := Hx.out _ Hb2.out
          try simp only at e1 e2
          have k0 := Below.keep (Below.tr (below_alloc _ _) hb2) d
          have k1 := Below.keep (Below.tr (below_alloc _ _) hb2) d1
          have k2 := Below.keep (Below.tr (below_alloc _ _) hb2) d2
          have k3 := Below.keep (Below.tr (below_alloc _ _) hb2) d3
          have k4 := Below.keep (Below.tr (below_alloc _ _) hb2) d4
          have hz2 : w.heap.size + 1 < w2.heap.size := by have := hb2.size; have := Hz1.out; simp at *; omega
          have hz3 : w.heap.size < w2.heap.size := by omega
          clear hb2 d d0 d1 d2 d3 d4
          go_wp2_with fail
          go_ret
          exact ⟨congrArg (fun b => Ending.returned (.bool b)) R.out.symm, Below.tr Hb2.out (below_alloc _ _)⟩
      · have q1 : (f == bits .or .i64 x j) = false := by simpa using hf
        have R := Hno.out (fun h => hf (by have h := (ok_2.1 h).2.2.2.1; rw [Hnx.out] at h; exact h))
        clear hf
        clear Hno Hyes
        go_wp2_with fail
        refine (earlier_b _ true p _ _ _ _ Hpl.out.symm hle' He.out _ d).mono ?_
        rintro e w2 ⟨rfl, rfl⟩
        go_wp2_with fail
        refine (valid_any m l [j] _ _ _ (Deps.keep Hv.out (Below.tr Hbw.out (below_alloc _ _))) (ints_one _ _ _)).mono ?_
        rw [HV1.out]
        rintro e w2 ⟨he, hb2⟩
        rw [decide_eq_true HJ.out] at he
        subst he
        have Hb2 := Lib.hid (Below.tr Hbw.out (Below.tr (below_alloc _ _) hb2))
        obtain ⟨e1, e2⟩ := Hx.out _ Hb2.out
        try simp only at e1 e2
        have k0 := Below.keep (Below.tr (below_alloc _ _) hb2) d
        have k1 := Below.keep (Below.tr (below_alloc _ _) hb2) d1
        have k2 := Below.keep (Below.tr (below_alloc _ _) hb2) d2
        have k3 := Below.keep (Below.tr (below_alloc _ _) hb2) d3
        have k4 := Below.keep (Below.tr (below_alloc _ _) hb2) d4
        have hz2 : w.heap.size + 1 < w2.heap.size := by have := hb2.size; have := Hz1.out; simp at *; omega
        have hz3 : w.heap.size < w2.heap.size := by omega
        clear hb2 d d0 d1 d2 d3 d4
        go_wp2_with fail
        go_ret
        exact ⟨congrArg (fun b => Ending.returned (.bool b)) R.out.symm, Below.tr Hb2.out (below_alloc _ _)⟩
    · have HJ := Lib.hid hj
      have R := Hno.out (fun h => HJ.out (ok_2.1 h).2.2.1)
      clear hj
      clear Hno Hyes
      go_wp2_with fail
      refine (earlier_b _ true p _ _ _ _ Hpl.out.symm hle' He.out _ d).mono ?_
      rintro e w2 ⟨rfl, rfl⟩
      go_wp2_with fail
      refine (valid_any m l [j] _ _ _ (Deps.keep Hv.out (Below.tr Hbw.out (below_alloc _ _))) (ints_one _ _ _)).mono ?_
      rw [HV1.out]
      rintro e w2 ⟨he, hb2⟩
      rw [decide_eq_false HJ.out] at he
      subst he
      have Hb2 := Lib.hid (Below.tr Hbw.out (Below.tr (below_alloc _ _) hb2))
      clear hb2
      go_wp2_with fail
      go_ret
      exact ⟨congrArg (fun b => Ending.returned (.bool b)) R.out.symm, Hb2.out⟩
  · have He := Lib.hid (show decide (0 ≤ i ∧ i < (p.length : Int)) = false by rw [Hpl.out]; exact decide_eq_false hil)
    have R := Hno.out (fun h => hil ⟨(ok_2.1 h).1, (ok_2.1 h).2.1⟩)
    clear hil Hno Hyes
    go_wp2_with fail
    refine (earlier_b _ false p _ _ _ _ Hpl.out.symm hle' He.out _ d).mono ?_
    rintro e w2 ⟨rfl, rfl⟩
    go_wp2_with fail
    go_ret
    exact ⟨congrArg (fun b => Ending.returned (.bool b)) R.out.symm, Hbw.out⟩
set_option maxRecDepth 100000 in
set_option maxHeartbeats 4000000 in
theorem stepHolds_3 (m : Nat) (l : List (Int × Int)) (hV : ValidP m l []) (p : List Stp) (r i j f t : Int) (h0 : r = 3) (v u : Value) (w : World) (hv : Deps w v l) (hu : Steps w u p) :
    Calls Try.prog 78 #[.int .i64 m, v, u, Stp.val (r, i, j, f, t)] w fun e w' => e = .returned (.bool (decide (StepOk m l p p.length (r, i, j, f, t)))) ∧ Below w.heap.size w w' := by
  have hvv := hv
  obtain ⟨a, b, off, cap, rfl, hle, ha, hc⟩ := Deps.get hv
  obtain ⟨a', b', off', cap', rfl, hle', ha', -, hc'⟩ := Steps.get hu
  have hix := run_ix (P := Try.prog) (t := 28) (a := a) (len := l.length) (cap := cap) (b := b) (off := off) (s := 2) Try.underlying28 (by intro w; kernel_rfl) ha
  have hix' := run_ix (P := Try.prog) (t := 46) (a := a') (len := p.length) (cap := cap') (b := b') (off := off') (s := 5) Try.underlying46 (by intro w; kernel_rfl) ha'
  simp only [Stp.val]
  have Hc := Lib.hid hc
  have Hc' := Lib.hid hc'
  have Hv := Lib.hid hvv
  have HV := Lib.hid hV
  have Hix := Lib.hid hix
  have Hix' := Lib.hid hix'
  clear ha ha' hv hu hc hc' hvv hV hix hix'
  have HV1 := Lib.hid (show ∀ j, decide (ValidP m l [j]) = decide (InSet m j) from fun j => decide_eq_decide.2 ⟨fun h => h.2.2 j (by simp), fun h => ⟨HV.out.1, HV.out.2.1, fun x hx => by simp at hx; subst hx; exact h⟩⟩)
  have Hcl := Lib.hid (show ∀ w1, Below w.heap.size w w1 → ∀ q, q < l.length → w1.cell? ⟨b, off + q * 2, none⟩ = some (.int .i64 (nth l q).1) ∧ w1.cell? ⟨b, off + q * 2 + 1, none⟩ = some (.int .i64 (nth l q).2) from fun w1 hb q hq => by rw [← nth_get hq]; exact ⟨Below.keep hb (Hc.out q hq).1, Below.keep hb (Hc.out q hq).2⟩)
  have Hcp := Lib.hid (show ∀ w1, Below w.heap.size w w1 → ∀ q, q < p.length → w1.cell? ⟨b', off' + q * 5 + 3, none⟩ = some (.int .i64 (stp p q).2.2.2.1) ∧ w1.cell? ⟨b', off' + q * 5 + 4, none⟩ = some (.int .i64 (stp p q).2.2.2.2) from fun w1 hb q hq => by rw [← stp_get hq]; exact ⟨Below.keep hb (Hc'.out q hq).2.2.2.1, Below.keep hb (Hc'.out q hq).2.2.2.2⟩)
  clear Hc Hc'
  generalize hpl : p.length = np at *
  have Hpl := Lib.hid hpl
  clear hpl
  have Hno := Lib.hid (fun (h : ¬ StepOk m l p np (3, i, j, f, t)) => Lib.hid (decide_eq_false h))
  have Hyes := Lib.hid (fun (h : StepOk m l p np (3, i, j, f, t)) => Lib.hid (decide_eq_true h))
  subst h0
  go_enter Try.func78, Try.ntmps78
  go_upto_region 1 with fail
  have hb1 : Below w.heap.size w ((w.alloc (.cells #[.slice a' np cap'] 46)).alloc (.cells #[.int .i64 3, .int .i64 i, .int .i64 j, .int .i64 f, .int .i64 t] 53)) := Below.tr (below_alloc _ _) (below_alloc _ _)
  have d : ((w.alloc (.cells #[.slice a' np cap'] 46)).alloc (.cells #[.int .i64 3, .int .i64 i, .int .i64 j, .int .i64 f, .int .i64 t] 53)).cell? ⟨w.heap.size, 0, none⟩ = some (.slice a' np cap') := Below.keep (below_alloc _ _) (by rw [cell_new]; rfl)
  have dd : ∀ q x, #[Value.int .i64 3, .int .i64 i, .int .i64 j, .int .i64 f, .int .i64 t][q]? = some x → ((w.alloc (.cells #[.slice a' np cap'] 46)).alloc (.cells #[.int .i64 3, .int .i64 i, .int .i64 j, .int .i64 f, .int .i64 t] 53)).cell? ⟨w.heap.size + 1, q, none⟩ = some x := fun q x hx => by
    have := cell_new (w.alloc (.cells #[.slice a' np cap'] 46)) #[.int .i64 3, .int .i64 i, .int .i64 j, .int .i64 f, .int .i64 t] 53 q
    rw [hx, show (w.alloc (.cells #[.slice a' np cap'] 46)).heap.size = w.heap.size + 1 by simp] at this
    exact this
  have hz1 : ((w.alloc (.cells #[.slice a' np cap'] 46)).alloc (.cells #[.int .i64 3, .int .i64 i, .int .i64 j, .int .i64 f, .int .i64 t] 53)).heap.size = w.heap.size + 1 + 1 := by simp
  generalize ((w.alloc (.cells #[.slice a' np cap'] 46)).alloc (.cells #[.int .i64 3, .int .i64 i, .int .i64 j, .int .i64 f, .int .i64 t] 53)) = w1 at *
  have d0 : w1.cell? ⟨w.heap.size + 1, 0, none⟩ = some (.int .i64 3) := dd 0 _ rfl
  have d1 : w1.cell? ⟨w.heap.size + 1, 1, none⟩ = some (.int .i64 i) := dd 1 _ rfl
  have d2 : w1.cell? ⟨w.heap.size + 1, 2, none⟩ = some (.int .i64 j) := dd 2 _ rfl
  have d3 : w1.cell? ⟨w.heap.size + 1, 3, none⟩ = some (.int .i64 f) := dd 3 _ rfl
  have d4 : w1.cell? ⟨w.heap.size + 1, 4, none⟩ = some (.int .i64 t) := dd 4 _ rfl
  have Hbw := Lib.hid hb1
  have Hz1 := Lib.hid hz1
  clear dd hb1 hz1
  by_cases hil : 0 ≤ i ∧ i < np
  · obtain ⟨hi, hl⟩ := hil
    have He := Lib.hid (show decide (0 ≤ i ∧ i < (p.length : Int)) = true by rw [Hpl.out]; exact decide_eq_true ⟨hi, hl⟩)
    by_cases hjl : 0 ≤ j ∧ j < np
    · obtain ⟨hj, hlj⟩ := hjl
      have Hf := Lib.hid (show decide (0 ≤ j ∧ j < (p.length : Int)) = true by rw [Hpl.out]; exact decide_eq_true ⟨hj, hlj⟩)
      obtain ⟨ii, rfl⟩ := Int.eq_ofNat_of_zero_le hi
      obtain ⟨jj, rfl⟩ := Int.eq_ofNat_of_zero_le hj
      have hl : ii < np := by omega
      have hlj : jj < np := by omega
      have hixi := Hix'.out ii
      have hixj := Hix'.out jj
      obtain ⟨e1, e2⟩ := Hcp.out _ Hbw.out ii hl
      obtain ⟨e3, e4⟩ := Hcp.out _ Hbw.out jj hlj
      have Hnx := Lib.hid (show stp p (ii : Int).toNat = stp p ii by rw [Int.toNat_natCast])
      have Hny := Lib.hid (show stp p (jj : Int).toNat = stp p jj by rw [Int.toNat_natCast])
      generalize hx : (stp p ii).2.2.2.1 = x1 at e1
      generalize hx2 : (stp p ii).2.2.2.2 = x2 at e2
      generalize hy : (stp p jj).2.2.2.1 = y1 at e3
      generalize hy2 : (stp p jj).2.2.2.2 = y2 at e4
      have Hx := Lib.hid hx
      have Hx2 := Lib.hid hx2
      have Hy := Lib.hid hy
      have Hy2 := Lib.hid hy2
      clear hx hx2 hy hy2
      have HI := Lib.hid (show Ok3 p np (ii : Int) (jj : Int) f t ↔ x2 = y1 ∧ f = x1 ∧ t = y2 by unfold Ok3; rw [Hnx.out, Hny.out, Hx.out, Hx2.out, Hy.out, Hy2.out]; constructor; (intro h; exact h.2.2.2.2); (intro h; exact ⟨by omega, by omega, by omega, by omega, h⟩))
      have HO : (x2 = y1 ∧ f = x1 ∧ t = y2 ∧ (decide (StepOk m l p np (3, (ii : Int), (jj : Int), f, t)) = true)) ∨ (x2 = y1 ∧ f = x1 ∧ t ≠ y2 ∧ (decide (StepOk m l p np (3, (ii : Int), (jj : Int), f, t)) = false)) ∨ (x2 = y1 ∧ f ≠ x1 ∧ (decide (StepOk m l p np (3, (ii : Int), (jj : Int), f, t)) = false)) ∨ (x2 ≠ y1 ∧ (decide (StepOk m l p np (3, (ii : Int), (jj : Int), f, t)) = false)) := by
        by_cases hm : x2 = y1
        · by_cases hf : f = x1
          · by_cases ht : t = y2
            · exact .inl ⟨hm, hf, ht, (Hyes.out (ok_3.2 (HI.out.2 ⟨hm, hf, ht⟩))).out⟩
            · exact .inr (.inl ⟨hm, hf, ht, (Hno.out (fun h => ht (HI.out.1 (ok_3.1 h)).2.2)).out⟩)
          · exact .inr (.inr (.inl ⟨hm, hf, (Hno.out (fun h => hf (HI.out.1 (ok_3.1 h)).2.1)).out⟩))
        · exact .inr (.inr (.inr ⟨hm, (Hno.out (fun h => hm (HI.out.1 (ok_3.1 h)).1)).out⟩))
      rcases HO with ⟨hm, hf, ht, R⟩ | ⟨hm, hf, ht, R⟩ | ⟨hm, hf, R⟩ | ⟨hm, R⟩
      · have q0 : (x2 == y1) = true := by simpa using hm
        have q1 : (f == x1) = true := by simpa using hf
        have q2 : (t == y2) = true := by simpa using ht
        have R := Lib.hid R
        clear hm hf ht
        clear Hno Hyes
        go_wp2_with fail
        refine (earlier_b _ true p _ _ _ _ Hpl.out.symm hle' He.out _ d).mono ?_
        rintro e w2 ⟨rfl, rfl⟩
        go_wp2_with fail
        refine (earlier_b _ true p _ _ _ _ Hpl.out.symm hle' Hf.out _ d).mono ?_
        rintro e w2 ⟨rfl, rfl⟩
        go_upto_region 15 with fail
        --REGION
        go_cut [11, 12] (fun s11 s12 wx => ∃ g0 g1 : Nat, s11 = .pointer (some ⟨g0, 0, none⟩) ∧ s12 = .pointer (some ⟨g1, 0, none⟩) ∧ wx.cell? ⟨g0, 0, none⟩ = some (.int .i64 x1) ∧ wx.cell? ⟨g0, 1, none⟩ = some (.int .i64 x2) ∧ wx.cell? ⟨g1, 0, none⟩ = some (.int .i64 y1) ∧ wx.cell? ⟨g1, 1, none⟩ = some (.int .i64 y2) ∧ Below w1.heap.size w1 wx)
        case first =>
          have g0 := Hz1.out
          have g1 : w.heap.size < w1.heap.size := by omega
          have g2 : w.heap.size + 1 < w1.heap.size := by omega
          have g3 : w.heap.size < w1.heap.size + 1 := by omega
          have g4 : w.heap.size + 1 < w1.heap.size + 1 := by omega
          have g5 : b' < w1.heap.size := cell_lt e1
          have g6 : b' < w1.heap.size + 1 := by omega
          clear g0
          go_region_held3 (fun w' => w'.cell? ⟨w.heap.size, 0, none⟩ = some (.slice a' np cap') ∧ w'.cell? ⟨w.heap.size + 1, 1, none⟩ = some (.int .i64 ii) ∧ w'.cell? ⟨w.heap.size + 1, 2, none⟩ = some (.int .i64 jj) ∧ w'.cell? ⟨b', off' + ii * 5 + 3, none⟩ = some (.int .i64 x1) ∧ w'.cell? ⟨b', off' + ii * 5 + 4, none⟩ = some (.int .i64 x2) ∧ w'.cell? ⟨b', off' + jj * 5 + 3, none⟩ = some (.int .i64 y1) ∧ w'.cell? ⟨b', off' + jj * 5 + 4, none⟩ = some (.int .i64 y2)) (simp [*, World.cell?_alloc_some]) (fail)
          all_goals (go_wp2_with fail; go_meet; exact ⟨_, _, rfl, rfl, by simp, by simp, by simp, by simp, (Below.tr (below_alloc _ _) (below_alloc _ _)).drew⟩)
        case rest =>
          obtain ⟨g0, g1, rfl, rfl, h0, h1, h2, h3, hb⟩ := hcut
          have Hb := Lib.hid (Below.tr Hbw.out hb)
          have d3 := Below.keep hb d3
          have d4 := Below.keep hb d4
          clear hb
          go_wp2_with fail
          go_ret
          exact ⟨congrArg (fun b => Ending.returned (.bool b)) R.out.symm, Hb.out⟩
      · have q0 : (x2 == y1) = true := by simpa using hm
        have q1 : (f == x1) = true := by simpa using hf
        have q2 : (t == y2) = false := by simpa using ht
        have R := Lib.hid R
        clear hm hf ht
        clear Hno Hyes
        go_wp2_with fail
        refine (earlier_b _ true p _ _ _ _ Hpl.out.symm hle' He.out _ d).mono ?_
        rintro e w2 ⟨rfl, rfl⟩
        go_wp2_with fail
        refine (earlier_b _ true p _ _ _ _ Hpl.out.symm hle' Hf.out _ d).mono ?_
        rintro e w2 ⟨rfl, rfl⟩
        go_upto_region 15 with fail
        --REGION
        go_cut [11, 12] (fun s11 s12 wx => ∃ g0 g1 : Nat, s11 = .pointer (some ⟨g0, 0, none⟩) ∧ s12 = .pointer (some ⟨g1, 0, none⟩) ∧ wx.cell? ⟨g0, 0, none⟩ = some (.int .i64 x1) ∧ wx.cell? ⟨g0, 1, none⟩ = some (.int .i64 x2) ∧ wx.cell? ⟨g1, 0, none⟩ = some (.int .i64 y1) ∧ wx.cell? ⟨g1, 1, none⟩ = some (.int .i64 y2) ∧ Below w1.heap.size w1 wx)
        case first =>
          have g0 := Hz1.out
          have g1 : w.heap.size < w1.heap.size := by omega
          have g2 : w.heap.size + 1 < w1.heap.size := by omega
          have g3 : w.heap.size < w1.heap.size + 1 := by omega
          have g4 : w.heap.size + 1 < w1.heap.size + 1 := by omega
          have g5 : b' < w1.heap.size := cell_lt e1
          have g6 : b' < w1.heap.size + 1 := by omega
          clear g0
          go_region_held3 (fun w' => w'.cell? ⟨w.heap.size, 0, none⟩ = some (.slice a' np cap') ∧ w'.cell? ⟨w.heap.size + 1, 1, none⟩ = some (.int .i64 ii) ∧ w'.cell? ⟨w.heap.size + 1, 2, none⟩ = some (.int .i64 jj) ∧ w'.cell? ⟨b', off' + ii * 5 + 3, none⟩ = some (.int .i64 x1) ∧ w'.cell? ⟨b', off' + ii * 5 + 4, none⟩ = some (.int .i64 x2) ∧ w'.cell? ⟨b', off' + jj * 5 + 3, none⟩ = some (.int .i64 y1) ∧ w'.cell? ⟨b', off' + jj * 5 + 4, none⟩ = some (.int .i64 y2)) (simp [*, World.cell?_alloc_some]) (fail)
          all_goals (go_wp2_with fail; go_meet; exact ⟨_, _, rfl, rfl, by simp, by simp, by simp, by simp, (Below.tr (below_alloc _ _) (below_alloc _ _)).drew⟩)
        case rest =>
          obtain ⟨g0, g1, rfl, rfl, h0, h1, h2, h3, hb⟩ := hcut
          have Hb := Lib.hid (Below.tr Hbw.out hb)
          have d3 := Below.keep hb d3
          have d4 := Below.keep hb d4
          clear hb
          go_wp2_with fail
          go_ret
          exact ⟨congrArg (fun b => Ending.returned (.bool b)) R.out.symm, Hb.out⟩
      · have q0 : (x2 == y1) = true := by simpa using hm
        have q1 : (f == x1) = false := by simpa using hf
        have R := Lib.hid R
        clear hm hf
        clear Hno Hyes
        go_wp2_with fail
        refine (earlier_b _ true p _ _ _ _ Hpl.out.symm hle' He.out _ d).mono ?_
        rintro e w2 ⟨rfl, rfl⟩
        go_wp2_with fail
        refine (earlier_b _ true p _ _ _ _ Hpl.out.symm hle' Hf.out _ d).mono ?_
        rintro e w2 ⟨rfl, rfl⟩
        go_upto_region 15 with fail
        --REGION
        go_cut [11, 12] (fun s11 s12 wx => ∃ g0 g1 : Nat, s11 = .pointer (some ⟨g0, 0, none⟩) ∧ s12 = .pointer (some ⟨g1, 0, none⟩) ∧ wx.cell? ⟨g0, 0, none⟩ = some (.int .i64 x1) ∧ wx.cell? ⟨g0, 1, none⟩ = some (.int .i64 x2) ∧ wx.cell? ⟨g1, 0, none⟩ = some (.int .i64 y1) ∧ wx.cell? ⟨g1, 1, none⟩ = some (.int .i64 y2) ∧ Below w1.heap.size w1 wx)
        case first =>
          have g0 := Hz1.out
          have g1 : w.heap.size < w1.heap.size := by omega
          have g2 : w.heap.size + 1 < w1.heap.size := by omega
          have g3 : w.heap.size < w1.heap.size + 1 := by omega
          have g4 : w.heap.size + 1 < w1.heap.size + 1 := by omega
          have g5 : b' < w1.heap.size := cell_lt e1
          have g6 : b' < w1.heap.size + 1 := by omega
          clear g0
          go_region_held3 (fun w' => w'.cell? ⟨w.heap.size, 0, none⟩ = some (.slice a' np cap') ∧ w'.cell? ⟨w.heap.size + 1, 1, none⟩ = some (.int .i64 ii) ∧ w'.cell? ⟨w.heap.size + 1, 2, none⟩ = some (.int .i64 jj) ∧ w'.cell? ⟨b', off' + ii * 5 + 3, none⟩ = some (.int .i64 x1) ∧ w'.cell? ⟨b', off' + ii * 5 + 4, none⟩ = some (.int .i64 x2) ∧ w'.cell? ⟨b', off' + jj * 5 + 3, none⟩ = some (.int .i64 y1) ∧ w'.cell? ⟨b', off' + jj * 5 + 4, none⟩ = some (.int .i64 y2)) (simp [*, World.cell?_alloc_some]) (fail)
          all_goals (go_wp2_with fail; go_meet; exact ⟨_, _, rfl, rfl, by simp, by simp, by simp, by simp, (Below.tr (below_alloc _ _) (below_alloc _ _)).drew⟩)
        case rest =>
          obtain ⟨g0, g1, rfl, rfl, h0, h1, h2, h3, hb⟩ := hcut
          have Hb := Lib.hid (Below.tr Hbw.out hb)
          have d3 := Below.keep hb d3
          have d4 := Below.keep hb d4
          clear hb
          go_wp2_with fail
          go_ret
          exact ⟨congrArg (fun b => Ending.returned (.bool b)) R.out.symm, Hb.out⟩
      · have q0 : (x2 == y1) = false := by simpa using hm
        have R := Lib.hid R
        clear hm
        clear Hno Hyes
        go_wp2_with fail
        refine (earlier_b _ true p _ _ _ _ Hpl.out.symm hle' He.out _ d).mono ?_
        rintro e w2 ⟨rfl, rfl⟩
        go_wp2_with fail
        refine (earlier_b _ true p _ _ _ _ Hpl.out.symm hle' Hf.out _ d).mono ?_
        rintro e w2 ⟨rfl, rfl⟩
        go_upto_region 15 with fail
        --REGION
        go_cut [11, 12] (fun s11 s12 wx => ∃ g0 g1 : Nat, s11 = .pointer (some ⟨g0, 0, none⟩) ∧ s12 = .pointer (some ⟨g1, 0, none⟩) ∧ wx.cell? ⟨g0, 0, none⟩ = some (.int .i64 x1) ∧ wx.cell? ⟨g0, 1, none⟩ = some (.int .i64 x2) ∧ wx.cell? ⟨g1, 0, none⟩ = some (.int .i64 y1) ∧ wx.cell? ⟨g1, 1, none⟩ = some (.int .i64 y2) ∧ Below w1.heap.size w1 wx)
        case first =>
          have g0 := Hz1.out
          have g1 : w.heap.size < w1.heap.size := by omega
          have g2 : w.heap.size + 1 < w1.heap.size := by omega
          have g3 : w.heap.size < w1.heap.size + 1 := by omega
          have g4 : w.heap.size + 1 < w1.heap.size + 1 := by omega
          have g5 : b' < w1.heap.size := cell_lt e1
          have g6 : b' < w1.heap.size + 1 := by omega
          clear g0
          go_region_held3 (fun w' => w'.cell? ⟨w.heap.size, 0, none⟩ = some (.slice a' np cap') ∧ w'.cell? ⟨w.heap.size + 1, 1, none⟩ = some (.int .i64 ii) ∧ w'.cell? ⟨w.heap.size + 1, 2, none⟩ = some (.int .i64 jj) ∧ w'.cell? ⟨b', off' + ii * 5 + 3, none⟩ = some (.int .i64 x1) ∧ w'.cell? ⟨b', off' + ii * 5 + 4, none⟩ = some (.int .i64 x2) ∧ w'.cell? ⟨b', off' + jj * 5 + 3, none⟩ = some (.int .i64 y1) ∧ w'.cell? ⟨b', off' + jj * 5 + 4, none⟩ = some (.int .i64 y2)) (simp [*, World.cell?_alloc_some]) (fail)
          all_goals (go_wp2_with fail; go_meet; exact ⟨_, _, rfl, rfl, by simp, by simp, by simp, by simp, (Below.tr (below_alloc _ _) (below_alloc _ _)).drew⟩)
        case rest =>
          obtain ⟨g0, g1, rfl, rfl, h0, h1, h2, h3, hb⟩ := hcut
          have Hb := Lib.hid (Below.tr Hbw.out hb)
          have d3 := Below.keep hb d3
          have d4 := Below.keep hb d4
          clear hb
          go_wp2_with fail
          go_ret
          exact ⟨congrArg (fun b => Ending.returned (.bool b)) R.out.symm, Hb.out⟩
    · have Hf := Lib.hid (show decide (0 ≤ j ∧ j < (p.length : Int)) = false by rw [Hpl.out]; exact decide_eq_false hjl)
      have R := Hno.out (fun h => hjl ⟨(ok_3.1 h).2.2.1, (ok_3.1 h).2.2.2.1⟩)
      clear hjl Hno Hyes
      go_wp2_with fail
      refine (earlier_b _ true p _ _ _ _ Hpl.out.symm hle' He.out _ d).mono ?_
      rintro e w2 ⟨rfl, rfl⟩
      go_wp2_with fail
      refine (earlier_b _ false p _ _ _ _ Hpl.out.symm hle' Hf.out _ d).mono ?_
      rintro e w2 ⟨rfl, rfl⟩
      go_wp2_with fail
      go_ret
      exact ⟨congrArg (fun b => Ending.returned (.bool b)) R.out.symm, Hbw.out⟩
  · have He := Lib.hid (show decide (0 ≤ i ∧ i < (p.length : Int)) = false by rw [Hpl.out]; exact decide_eq_false hil)
    have R := Hno.out (fun h => hil ⟨(ok_3.1 h).1, (ok_3.1 h).2.1⟩)
    clear hil Hno Hyes
    go_wp2_with fail
    refine (earlier_b _ false p _ _ _ _ Hpl.out.symm hle' He.out _ d).mono ?_
    rintro e w2 ⟨rfl, rfl⟩
    go_wp2_with fail
    go_ret
    exact ⟨congrArg (fun b => Ending.returned (.bool b)) R.out.symm, Hbw.out⟩
theorem stepHolds_any (m : Nat) (l : List (Int × Int)) (hV : ValidP m l []) (p : List Stp) (s : Stp) (v u : Value) (w : World) (hv : Deps w v l) (hu : Steps w u p) :
    Calls Try.prog 78 #[.int .i64 m, v, u, s.val] w fun e w' => e = .returned (.bool (decide (StepOk m l p p.length s))) ∧ Below w.heap.size w w' := by
  obtain ⟨r, i, j, f, t⟩ := s
  by_cases h0 : r = 0
  · exact stepHolds_0 m l hV p r i j f t h0 v u w hv hu
  · by_cases h1 : r = 1
    · exact stepHolds_1 m l hV p r i j f t h1 v u w hv hu
    · by_cases h2 : r = 2
      · exact stepHolds_2 m l hV p r i j f t h2 v u w hv hu
      · by_cases h3 : r = 3
        · exact stepHolds_3 m l hV p r i j f t h3 v u w hv hu
        · exact stepHolds_n m l hV p r i j f t h0 h1 h2 h3 v u w hv hu

end Go.Proofs.Ytnidalbfmicoiaa
