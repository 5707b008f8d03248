/- Contracts of depend.agreement, agreements, validTable. -/
import Derived.Test.YtnidalbfmicoiaaWalkF
import Derived.Test.YtnidalbfmicoiaaFacts
import Derived.Deep.QuietTactic
import Derived.BigQuiet
namespace Go.Proofs.Ytnidalbfmicoiaa
open Go.RowKit

/-- the attributes below k in which two rows are equal -/
def agrTo (a b : List Int) : Nat → Nat
  | 0 => 0
  | k + 1 => if a.getD k 0 = b.getD k 0 then agrTo a b k ||| 2 ^ k else agrTo a b k
def agr (a b : List Int) : Nat := agrTo a b a.length
theorem testBit_agrTo (a b : List Int) : ∀ k i, (agrTo a b k).testBit i = (decide (i < k) && decide (a.getD i 0 = b.getD i 0))
  | 0, i => by simp [agrTo]
  | k + 1, i => by
    rw [agrTo]
    by_cases h : a.getD k 0 = b.getD k 0
    · rw [if_pos h, Nat.testBit_or, testBit_agrTo a b k i, Nat.testBit_two_pow]
      by_cases e : k = i
      · subst e; rw [decide_eq_true h]; simp
      · have : (i < k + 1) ↔ i < k := by omega
        simp [e, this]
    · rw [if_neg h, testBit_agrTo a b k i]
      by_cases e : i = k
      · subst e; simp only [decide_eq_false h, Bool.and_false]
      · have : (i < k + 1) ↔ i < k := by omega
        simp [this]
theorem agrTo_lt (a b : List Int) : ∀ k, agrTo a b k < 2 ^ k
  | 0 => by simp [agrTo]
  | k + 1 => by
    have := agrTo_lt a b k
    have h2 : (2 : Nat) ^ (k + 1) = 2 ^ k * 2 := Nat.pow_succ 2 k
    rw [agrTo]
    split
    · exact Nat.or_lt_two_pow (by omega) (by have := Nat.two_pow_pos k; omega)
    · omega

theorem bdrewN {B : Nat} {a w : World} (h : Below B a w) (n : Nat) : Below B a (w.drewN n) := ⟨h.os, h.tape, h.output, h.size, h.block⟩
theorem pow_small (k : Nat) (h : k ≤ 8) : (2 : Nat) ^ k ≤ 256 := by have := Nat.pow_le_pow_right (n := 2) (by decide) h; simpa using this
set_option maxRecDepth 100000 in
theorem agreement_any (x y : List Int) (h8 : x.length ≤ 8) (hxy : y.length = x.length) (u v : Value) (w : World) (hu : Ints w u x) (hv : Ints w v y) :
    Calls Try.prog 89 #[u, v] w fun e w' => e = .returned (.int .i64 (agr x y : Nat)) ∧ Below w.heap.size w w' := by
  obtain ⟨a, b, off, cap, rfl, hle, ha, hc⟩ := Ints.get hu
  obtain ⟨a', b', off', cap', rfl, hle', ha', hc'⟩ := Ints.get hv
  rw [hxy] at ha'
  have hix := run_ix (P := Try.prog) (t := 56) (a := a) (len := x.length) (cap := cap) (b := b) (off := off) (s := 1) Try.underlying56 (by intro w; kernel_rfl) ha
  have hix' := run_ix (P := Try.prog) (t := 56) (a := a') (len := x.length) (cap := cap') (b := b') (off := off') (s := 1) Try.underlying56 (by intro w; kernel_rfl) ha'
  simp only [Nat.mul_one] at hix hix'
  rw [hxy]
  have Hc := Lib.hid hc
  have Hc' := Lib.hid hc'
  have Hxy := Lib.hid hxy
  clear ha ha' hu hv hc hc' hle' hxy
  go_enter Try.func89, Try.ntmps89
  go_wp2
  go_loopw [5, 9] (fun s i wr => ∃ k : Nat, i = .int .i64 k ∧ s = .int .i64 (agrTo x y k : Nat) ∧ k ≤ x.length ∧ Below w.heap.size w wr) (fun _ i _ => x.length - (intOf i).toNat)
  case atStart => exact ⟨0, rfl, rfl, Nat.zero_le _, Below.refl _ _⟩
  case round =>
    obtain ⟨k, rfl, rfl, hk, hb⟩ := hrel
    have Hb := Lib.hid hb
    clear hb
    by_cases hlt : k < x.length
    · have hc1 := Below.keep Hb.out (Hc.out k hlt)
      have hc2 := Below.keep Hb.out (Hc'.out k (by rw [Hxy.out]; exact hlt))
      obtain ⟨p, hp⟩ : ∃ p : Nat, p = 2 ^ k := ⟨_, rfl⟩
      have q1 := agrTo_lt x y k
      have q2 := pow_small k (by omega)
      have q3 := Nat.two_pow_pos k
      have e1 : (2 : Int) ^ k = (p : Int) := by rw [hp]; simp
      have hx : x.getD k 0 = x[k] := by simp [List.getD, hlt]
      have hy : y.getD k 0 = y[k]'(by rw [Hxy.out]; exact hlt) := by simp [List.getD, Hxy.out, hlt]
      have R1 : x[k] = y[k]'(by rw [Hxy.out]; exact hlt) → agrTo x y (k + 1) = agrTo x y k ||| p := fun h => by rw [agrTo, if_pos (by rw [hx, hy]; exact h), hp]
      have R2 : ¬ x[k] = y[k]'(by rw [Hxy.out]; exact hlt) → agrTo x y (k + 1) = agrTo x y k := fun h => by rw [agrTo, if_neg (by rw [hx, hy]; exact h)]
      rw [← hp] at q1 q2 q3
      have t1 := bits_or_nat (agrTo x y k) p (by omega) (by omega)
      by_cases hE : x[k] = y[k]'(by rw [Hxy.out]; exact hlt)
      · have HR := Lib.hid (R1 hE)
        have t2 : (x[k] == y[k]'(by rw [Hxy.out]; exact hlt)) = true := by simpa using hE
        clear R1 R2 hx hy hE q1 hp
        go_wp2
        go_quiet (fail)
        go_wp2
        go_roundw
        case rel => exact ⟨k + 1, by go_num, by rw [HR.out], by omega, bdrewN Hb.out _⟩
        case measure => simp [intOf]; omega
      · have HR := Lib.hid (R2 hE)
        have t2 : (x[k] == y[k]'(by rw [Hxy.out]; exact hlt)) = false := by simpa using hE
        clear R1 R2 hx hy hE q1 hp
        go_wp2
        go_quiet (fail)
        go_wp2
        go_roundw
        case rel => exact ⟨k + 1, by go_num, by rw [HR.out], by omega, bdrewN Hb.out _⟩
        case measure => simp [intOf]; omega
    · obtain rfl : k = x.length := by omega
      go_wp2
      go_ret
      exact ⟨rfl, Hb.out⟩

/-- all rows have n numbers, at most 60 of them -/
def TableP (n : Int) (R : List (List Int)) : Prop := R.length ≤ 60 ∧ ∀ r ∈ R, (r.length : Int) = n
instance (n : Int) (R : List (List Int)) : Decidable (TableP n R) := inferInstanceAs (Decidable (_ ∧ _))
set_option maxRecDepth 100000 in
theorem validTable_any (n : Int) (R : List (List Int)) (v : Value) (w : World) (hv : Rows w v R) :
    Calls Try.prog 83 #[.int .i64 n, v] w fun e w' => e = .returned (.bool (decide (TableP n R))) ∧ w = w' := by
  obtain ⟨a, b, off, cap, vs, rfl, hle, ha, hvs, hc, hr⟩ := Rows.get hv
  have hix := run_ix (P := Try.prog) (t := 34) (a := a) (len := R.length) (cap := cap) (b := b) (off := off) (s := 1) Try.underlying34 (by intro w; kernel_rfl) ha
  simp only [Nat.mul_one] at hix
  have Hc := Lib.hid hc
  have Hr := Lib.hid hr
  have Hvs := Lib.hid hvs
  clear ha hv hc hr hvs
  by_cases h60 : R.length ≤ 60
  · go_enter Try.func83, Try.ntmps83
    go_wp2
    go_loop [12] (fun i => ∃ k : Nat, i = .int .i64 k ∧ k ≤ R.length ∧ AllTo (fun r : List Int => (r.length : Int) = n) R k) (fun i => R.length - (intOf i).toNat)
    case atStart => exact ⟨0, rfl, Nat.zero_le _, fun i _ h => by omega⟩
    case round =>
      obtain ⟨k, rfl, hk, hin⟩ := hrel
      have Hin := Lib.hid hin
      clear hin
      by_cases hlt : k < R.length
      · have hv1 := Hvs.out
        have hc1 := Hc.out k (by omega)
        obtain ⟨a1, b1, off1, cap1, hv2, _, _, _⟩ := Ints.get (Hr.out k hlt (by omega))
        rw [hv2] at hc1
        by_cases hE : ((R[k].length : Nat) : Int) = n
        · have t1 : (((R[k].length : Nat) : Int) != n) = false := by simpa using hE
          have HR := Lib.hid (Hin.out.step hlt hE)
          clear hE hv2
          go_wp2
          go_round
          case rel => exact ⟨k + 1, by go_num, by omega, HR.out⟩
          case measure => simp [intOf]; omega
        · have t1 : (((R[k].length : Nat) : Int) != n) = true := by simpa using hE
          have HR := Lib.hid (show decide (TableP n R) = false from decide_eq_false fun h => hE (h.2 _ (List.getElem_mem hlt)))
          clear hE hv2
          go_wp2
          go_ret
          exact ⟨congrArg (fun b => Ending.returned (.bool b)) HR.out.symm, rfl⟩
      · obtain rfl : k = R.length := by omega
        have HR := Lib.hid (show decide (TableP n R) = true from decide_eq_true ⟨h60, Hin.out.all⟩)
        go_wp2
        go_ret
        exact ⟨congrArg (fun b => Ending.returned (.bool b)) HR.out.symm, rfl⟩
  · have HR := Lib.hid (show decide (TableP n R) = false from decide_eq_false fun h => h60 h.1)
    have h60' : (60 : Int) < (R.length : Int) := by omega
    clear h60
    go_enter Try.func83, Try.ntmps83
    go_wp2
    go_ret
    exact ⟨congrArg (fun b => Ending.returned (.bool b)) HR.out.symm, rfl⟩

def row (R : List (List Int)) (i : Nat) : List Int := R.getD i []
def agrRow (R : List (List Int)) (i j : Nat) : List Nat := (List.range j).map fun j => agr (row R j) (row R i)
def agrs (R : List (List Int)) (i : Nat) : List Nat := (List.range i).flatMap fun i => agrRow R i i
theorem agrRow_succ (R : List (List Int)) (i j : Nat) : agrRow R i (j + 1) = agrRow R i j ++ [agr (row R j) (row R i)] := by simp [agrRow, List.range_succ]
theorem agrs_succ (R : List (List Int)) (i : Nat) : agrs R (i + 1) = agrs R i ++ agrRow R i i := by simp [agrs, List.range_succ]
theorem agrRow_length (R : List (List Int)) (i j : Nat) : (agrRow R i j).length = j := by simp [agrRow]
theorem agrs_length (R : List (List Int)) : ∀ i, (agrs R i).length ≤ i * i
  | 0 => by simp [agrs]
  | i + 1 => by
    have := agrs_length R i
    rw [agrs_succ, List.length_append, agrRow_length, Nat.succ_mul_succ]
    omega
/-- the row of the agreements -/
def AgrRow (base : Nat) (w : World) (o : Value) (l : List Nat) : Prop := w.ownsRow base 3 1 o l.length (l.map fun x : Nat => Value.int .i64 (x : Int))
set_option maxRecDepth 100000 in
theorem agreements_any (R : List (List Int)) (n : Nat) (h8 : n ≤ 8) (hn : ∀ r ∈ R, r.length = n) (h60 : R.length ≤ 60) (v : Value) (w : World) (hv : Rows w v R) :
    Calls Try.prog 84 #[v] w fun e w' => ∃ v', e = .returned v' ∧ AgrRow w.heap.size w' v' (agrs R R.length) ∧ Below w.heap.size w w' := by
  obtain ⟨a, b, off, cap, vs, rfl, hle, ha, hvs, hc, hr⟩ := Rows.get hv
  have hix := run_ix (P := Try.prog) (t := 34) (a := a) (len := R.length) (cap := cap) (b := b) (off := off) (s := 1) Try.underlying34 (by intro w; kernel_rfl) ha
  simp only [Nat.mul_one] at hix
  have Hc := Lib.hid hc
  have Hr := Lib.hid hr
  have Hvs := Lib.hid hvs
  have Hn := Lib.hid hn
  clear ha hv hc hr hvs hn
  go_enter Try.func84, Try.ntmps84
  go_wp2
  go_loopw [3, 8] (fun o i wr => ∃ k : Nat, i = .int .i64 k ∧ k ≤ R.length ∧ Below w.heap.size w wr ∧ AgrRow w.heap.size wr o (agrs R k)) (fun _ i _ => R.length - (intOf i).toNat)
  case atStart => exact ⟨0, rfl, Nat.zero_le _, Below.refl _ _, World.ownsRow_nil _ _ _ _⟩
  case round =>
    obtain ⟨k, rfl, hk, hb, hown⟩ := hrel
    have Hb := Lib.hid hb
    have Hown := Lib.hid hown
    clear hb hown
    by_cases hlt : k < R.length
    · go_wp2
      obtain ⟨wo, rfl⟩ : ∃ wo : World, wo = wr := ⟨_, rfl⟩
      go_loopw [3, 12] (fun o i wr => ∃ j : Nat, i = .int .i64 j ∧ j ≤ k ∧ Below w.heap.size w wr ∧ AgrRow w.heap.size wr o (agrs R k ++ agrRow R k j)) (fun _ i _ => k - (intOf i).toNat)
      case atStart => exact ⟨0, rfl, Nat.zero_le _, Hb.out, by simpa [agrRow] using Hown.out⟩
      case round =>
        obtain ⟨j, rfl, hj, hb', hown'⟩ := hrel
        have Hb' := Lib.hid hb'
        have Hown' := Lib.hid hown'
        clear hb' hown'
        by_cases hlt2 : j < k
        · have hv1 := Hvs.out
          have hjR : j < R.length := by omega
          have cj := Hc.out j (by omega)
          have ck := Hc.out k (by omega)
          have Ij := Lib.hid (Hr.out j (by omega) (by omega))
          have Ik := Lib.hid (Hr.out k (by omega) (by omega))
          have hlj : R[j].length = n := Hn.out _ (List.getElem_mem _)
          have hlk : R[k].length = n := Hn.out _ (List.getElem_mem _)
          have hstep := agrRow_succ R k j
          rw [show row R j = R[j] by simp [row, List.getD, show j < R.length by omega], show row R k = R[k] by simp [row, List.getD, hlt]] at hstep
          have Hlj := Lib.hid (show R[j].length ≤ 8 by omega)
          have Hljk := Lib.hid (show R[k].length = R[j].length by omega)
          have Hstep := Lib.hid hstep
          have hlen : (agrs R k ++ agrRow R k j).length + 1 ≤ 100000000000 := by
            have := agrs_length R k
            have h2 : k * k ≤ 60 * 60 := Nat.mul_le_mul (by omega) (by omega)
            rw [List.length_append, agrRow_length]; omega
          have Hlen := Lib.hid hlen
          generalize vs[j]'(by omega) = vj at *
          generalize vs[k]'(by omega) = vk at *
          have Cj := Lib.hid cj
          have Ck := Lib.hid ck
          clear hlj hlk hstep hlen cj ck
          go_wp2
          go_region_held3 (fun w' => w'.cell? ⟨b, off + j, none⟩ = some vj ∧ w'.cell? ⟨b, off + k, none⟩ = some vk ∧ Below w.heap.size w w')
            (first | exact hold2 Cj.out Ck.out Hb'.out.drew | exact hold2 Cj.out Ck.out (Below.tr Hb'.out.drew hb1) | exact hold2 Cj.out Ck.out (Below.tr (Below.tr Hb'.out.drew hb1) (below_alloc _ _)) | exact hold2 Cj.out Ck.out ((Below.tr (Below.tr Hb'.out.drew hb1) (below_alloc _ _)).trans hb2))
            (first | (go_at_call 89; refine (agreement_any _ _ Hlj.out Hljk.out _ _ _ (by exact Ints.keep Ij.out Hb'.out.drew) (by exact Ints.keep Ik.out Hb'.out.drew)).mono ?_; rintro e w1 ⟨rfl, hb1⟩) | (refine step_append_own (by rfl) (.tmp 15) (.tmp 25) 56 (by rfl) elem56 (by rfl) (World.ownsRow.alloc (owns_keep (World.ownsRow.drew Hown'.out) hb1) _) [.int .i64 (agr R[j] R[k] : Nat)] (by rfl) (by rfl) (by intro q u hq; go_simp) (by intro u hu; simp at hu; subst hu; rfl) Hlen.out (by have := Hb'.out.size; have := hb1.size; simp at *; omega) ?_; intro v' w2 hown2 hb2))
          have hbw : Below w.heap.size w w2 := (Below.tr (Below.tr Hb'.out.drew hb1) (below_alloc _ _)).trans hb2
          have hR : AgrRow w.heap.size w2 v' (agrs R k ++ agrRow R k (j + 1)) := by
            unfold AgrRow
            rw [Hstep.out, ← List.append_assoc, List.length_append, List.map_append]
            exact hown2
          have HR := Lib.hid hR
          have Hbw := Lib.hid hbw
          clear hbw hR hown2 hb1 hb2
          go_wp2
          go_roundw
          case rel => exact ⟨j + 1, by go_num, by omega, Hbw.out, HR.out⟩
          case measure => simp [intOf]; omega
        · obtain rfl : j = k := by omega
          have hR : AgrRow w.heap.size wr u3 (agrs R (j + 1)) := by rw [agrs_succ]; exact Hown'.out
          have HR := Lib.hid hR
          clear hR
          go_wp2
          go_roundw
          case rel => exact ⟨j + 1, by go_num, by omega, Hb'.out, HR.out⟩
          case measure => simp [intOf]; omega
    · obtain rfl : k = R.length := by omega
      go_wp2
      go_ret
      exact ⟨_, rfl, Hown.out, Hb.out⟩

theorem AgrRow.ints {base : Nat} {w : World} {o : Value} {l : List Nat} (h : AgrRow base w o l) : Ints w o (l.map fun x : Nat => (x : Int)) := by
  have := owns_rd h
  unfold Ints
  simpa [Function.comp_def] using this

/-- s to t holds in the table, by its agreements -/
def HoldsR (R : List (List Int)) (s t : Nat) : Prop := ∀ e ∈ agrs R R.length, Sub s e → Sub t e
instance (R : List (List Int)) (s t : Nat) : Decidable (HoldsR R s t) := inferInstanceAs (Decidable (∀ e ∈ _, _))
theorem mem_agrs {R : List (List Int)} : ∀ {k e : Nat}, e ∈ agrs R k → ∃ i j, i < k ∧ j < i ∧ e = agr (row R j) (row R i) := by
  intro k e h
  simp only [agrs, List.mem_flatMap, List.mem_range, agrRow, List.mem_map] at h
  obtain ⟨i, hi, j, hj, rfl⟩ := h
  exact ⟨i, j, hi, hj, rfl⟩
theorem agrs_mem {R : List (List Int)} {k i j : Nat} (hi : i < k) (hj : j < i) : agr (row R j) (row R i) ∈ agrs R k := by
  simp only [agrs, List.mem_flatMap, List.mem_range, agrRow, List.mem_map]
  exact ⟨i, hi, j, hj, rfl⟩
theorem row_mem {R : List (List Int)} {i : Nat} (h : i < R.length) : row R i ∈ R := by
  have : row R i = R[i] := by simp [row, List.getD, h]
  rw [this]; exact List.getElem_mem h
theorem agr_lt {R : List (List Int)} {n e : Nat} (hn : ∀ r ∈ R, r.length = n) (he : e ∈ agrs R R.length) : e < 2 ^ n := by
  obtain ⟨i, j, hi, hj, rfl⟩ := mem_agrs he
  have := agrTo_lt (row R j) (row R i) (row R j).length
  rw [hn _ (row_mem (R := R) (i := j) (by omega))] at this
  unfold agr
  rwa [hn _ (row_mem (R := R) (i := j) (by omega))]

/-- what Holds asks of its arguments -/
def HoldsOk (n : Int) (R : List (List Int)) (s t : Int) : Prop := ValidP n [] [s, t] ∧ TableP n R
theorem deps_nil (w : World) : Deps w (.slice none 0 0) [] := ⟨rfl, Nat.zero_le _, none, 0, 0, 0, rfl, ⟨fun h => by simp at h, by simp⟩, fun j hj => by simp [pairCells] at hj⟩

theorem holds_bad (n s t : Int) (R : List (List Int)) (v : Value) (w : World) (hv : Rows w v R) (hbad : ¬ HoldsOk n R s t) :
    Calls Try.prog 46 #[.int .i64 n, v, .agg #[.int .i64 s, .int .i64 t]] w fun e w' => e = .returned (.tuple #[.bool false, .int .i64 2]) ∧ Below w.heap.size w w' := by
  have Hv := Lib.hid hv
  by_cases h1 : ValidP n [] [s, t]
  · have H1 := Lib.hid h1
    have H2 := Lib.hid (show decide (TableP n R) = false from decide_eq_false fun h => hbad ⟨h1, h⟩)
    clear hv hbad h1
    go_enter Try.func46, Try.ntmps46
    go_wp2_with fail
    refine (valid_yes (by exact deps_nil _) (by exact ints_two _ s t _ _ (by simp)) H1.out).mono ?_
    rintro e w1 ⟨rfl, hb1⟩
    have Hb1 := Lib.hid (Below.tr (below_alloc _ _) (Below.tr (below_alloc _ _) hb1))
    clear hb1
    go_wp2_with fail
    refine (validTable_any n R v _ (Rows.keep Hv.out Hb1.out)).mono ?_
    rintro e w2 ⟨rfl, rfl⟩
    rw [H2.out]
    go_wp2_with fail
    go_ret2
    exact ⟨rfl, Hb1.out⟩
  · have H1 := Lib.hid h1
    clear hv hbad h1
    go_enter Try.func46, Try.ntmps46
    go_wp2_with fail
    refine (valid_no (by exact deps_nil _) (by exact ints_two _ s t _ _ (by simp)) H1.out).mono ?_
    rintro e w1 ⟨rfl, hb1⟩
    have Hb1 := Lib.hid (Below.tr (below_alloc _ _) (Below.tr (below_alloc _ _) hb1))
    clear hb1
    go_wp2_with fail
    go_ret2
    exact ⟨rfl, Hb1.out⟩
end Go.Proofs.Ytnidalbfmicoiaa
