/- Contracts of colours' closure, slices.IndexFunc and ContainsFunc over it. -/
import Derived.Test.YtkjpbjbheocciaaCe
namespace Go.Proofs.Ytkjpbjbheocciaa
open Go.RowKit

/-- the boxes that the closure reads -/
structure Boxes (w : World) (g l : List Nat) (c : Nat) (v u : Value) (pg pi pu pc : Nat) : Prop where
  bg : w.cell? ⟨pg, 0, none⟩ = some v
  bi : w.cell? ⟨pi, 0, none⟩ = some (.int .i64 (l.length : Nat))
  bu : w.cell? ⟨pu, 0, none⟩ = some u
  bc : w.cell? ⟨pc, 0, none⟩ = some (.int .i64 (c : Nat))
  vg : Ints w v (castN g)
  ul : Ints w u (castN l)
theorem Boxes.keep {w w' : World} {g l : List Nat} {c : Nat} {v u : Value} {pg pi pu pc : Nat} (h : Boxes w g l c v u pg pi pu pc) (hb : Below w.heap.size w w') : Boxes w' g l c v u pg pi pu pc :=
  ⟨Below.keep hb h.bg, Below.keep hb h.bi, Below.keep hb h.bu, Below.keep hb h.bc, Ints.keep h.vg hb, Ints.keep h.ul hb⟩
def taken (g l : List Nat) (c j : Nat) : Bool := (nb g l.length).testBit j && decide (at' l j = c)
set_option maxRecDepth 100000 in
set_option maxHeartbeats 4000000 in
theorem colours1_any {g : List Nat} (hg : Gr g) {l : List Nat} (hlg : l.length < g.length) {c j : Nat} (hj : j < l.length) {v u : Value} {pg pi pu pc : Nat} (w : World) (h : Boxes w g l c v u pg pi pu pc) :
    Calls Try.prog 109 #[.int .i64 j, .pointer (some ⟨pg, 0, none⟩), .pointer (some ⟨pi, 0, none⟩), .pointer (some ⟨pu, 0, none⟩), .pointer (some ⟨pc, 0, none⟩)] w fun e w' => e = .returned (.bool (taken g l c j)) ∧ ∃ q, w' = w.drewN q := by
  obtain ⟨bg, bi, bu, bc, hv, hu⟩ := h
  obtain ⟨a, b, off, cap, rfl, hle, ha, hc⟩ := Ints.graph hv
  have hix := run_ix (P := Try.prog) (t := 27) (a := a) (len := g.length) (cap := cap) (b := b) (off := off) (s := 1) Try.underlying27 (by intro w; kernel_rfl) ha
  obtain ⟨a', b', off', cap', rfl, hle', ha', hc'⟩ := Ints.way hu
  have hix' := run_ix (P := Try.prog) (t := 22) (a := a') (len := l.length) (cap := cap') (b := b') (off := off') (s := 1) Try.underlying22 (by intro w; kernel_rfl) ha'
  simp only [Nat.mul_one] at hix hix'
  have hg12 := hg.le
  have hixl := hix l.length
  have hixj := hix' j
  have hcl := hc l.length hlg
  have hcj := hc' j hj
  have hz63 : nb g l.length < 2 ^ 63 := by have := lt63 (hg.lt _ hlg) hg12; omega
  have hT : taken g l c j = ((nb g l.length).testBit j && decide (at' l j = c)) := rfl
  obtain ⟨z, hz⟩ : ∃ z, z = nb g l.length := ⟨_, rfl⟩
  obtain ⟨y, hy⟩ : ∃ y, y = at' l j := ⟨_, rfl⟩
  rw [← hz] at hcl hz63 hT
  rw [← hy] at hcj hT
  have hj64 : j < 64 := by omega
  rw [hT]
  clear hv hu hc hc' hix hix' ha ha' hle hle' hz hy hg hT
  cases hbit : z.testBit j with
  | false =>
    have Hh := Lib.hid (has_b z j false hbit hz63 hj64)
    clear hbit
    go_enter Try.func109, Try.ntmps109
    go_wp2_with fail
    go_quiet ((go_at_call 72; exact Calls.quiet_of (quiet_same (Hh.out _))))
    go_wp2_with fail
    go_ret
    exact ⟨rfl, _, rfl⟩
  | true =>
    have Hh := Lib.hid (has_b z j true hbit hz63 hj64)
    clear hbit
    by_cases hyc : y = c
    · have q : ((y : Int) == (c : Int)) = true := by rw [beq_iff_eq]; omega
      have R := Lib.hid (decide_eq_true hyc)
      clear hyc
      go_enter Try.func109, Try.ntmps109
      go_wp2_with fail
      go_quiet ((go_at_call 72; exact Calls.quiet_of (quiet_same (Hh.out _))))
      go_wp2_with fail
      go_ret
      exact ⟨by rw [R.out]; rfl, _, rfl⟩
    · have q : ((y : Int) == (c : Int)) = false := by rw [beq_eq_false_iff_ne]; omega
      have R := Lib.hid (decide_eq_false hyc)
      clear hyc
      go_enter Try.func109, Try.ntmps109
      go_wp2_with fail
      go_quiet ((go_at_call 72; exact Calls.quiet_of (quiet_same (Hh.out _))))
      go_wp2_with fail
      go_ret
      exact ⟨by rw [R.out]; rfl, _, rfl⟩
theorem taken_fit {g l : List Nat} {c j : Nat} : taken g l c j = false ↔ ¬ ((nb g l.length).testBit j = true ∧ c = at' l j) := by
  unfold taken
  rw [Bool.and_eq_false_iff, decide_eq_false_iff_not]
  constructor
  · rintro (h | h) ⟨h1, h2⟩
    · rw [h] at h1; cases h1
    · exact h h2.symm
  · intro h
    cases hb : (nb g l.length).testBit j
    · exact .inl rfl
    · exact .inr fun e => h ⟨hb, e.symm⟩
def rangeN (n : Nat) : List Int := (List.range n).map fun i : Nat => (i : Int)
theorem rangeN_length (n : Nat) : (rangeN n).length = n := by simp [rangeN]
theorem rangeN_gI {n i : Nat} (h : i < n) : gI (rangeN n) i = (i : Int) := by simp [gI, rangeN, h]
def clo (pg pi pu pc : Nat) : Value := .func (.func 109) #[] #[.pointer (some ⟨pg, 0, none⟩), .pointer (some ⟨pi, 0, none⟩), .pointer (some ⟨pu, 0, none⟩), .pointer (some ⟨pc, 0, none⟩)]
set_option maxRecDepth 100000 in
set_option maxHeartbeats 4000000 in
theorem indexFunc_any {g : List Nat} (hg : Gr g) {l : List Nat} (hlg : l.length < g.length) {c : Nat} {v u : Value} {pg pi pu pc : Nat} (s : Value) (w : World) (h : Boxes w g l c v u pg pi pu pc) (hs : Ints w s (rangeN l.length)) :
    Calls Try.prog 95 #[s, .func (.func 109) #[] #[.pointer (some ⟨pg, 0, none⟩), .pointer (some ⟨pi, 0, none⟩), .pointer (some ⟨pu, 0, none⟩), .pointer (some ⟨pc, 0, none⟩)]] w
      fun e w' => ∃ i : Int, e = .returned (.int .i64 i) ∧ decide (i ≥ 0) = !decide (FitTo g l c l.length) ∧ ∃ q, w' = w.drewN q := by
  obtain ⟨a, b, off, cap, rfl, hle, ha, hc⟩ := Ints.get hs
  rw [rangeN_length] at hle ha ⊢
  have hix := run_ix (P := Try.prog) (t := 22) (a := a) (len := l.length) (cap := cap) (b := b) (off := off) (s := 1) Try.underlying22 (by intro w; kernel_rfl) ha
  simp only [Nat.mul_one] at hix
  have Hc := Lib.hid (show ∀ i, i < l.length → w.cell? ⟨b, off + i, none⟩ = some (.int .i64 (i : Nat)) from fun i hi => by
    rw [hc i (by rw [rangeN_length]; exact hi), gI_get (by rw [rangeN_length]; exact hi), rangeN_gI hi])
  have Hix := Lib.hid hix
  have Hbx := Lib.hid h
  have HG := Lib.hid hg
  clear hs hc hix ha h hg
  go_enter Try.func95, Try.ntmps95
  go_wp2_with fail
  go_loopw [8] (fun i wr => ∃ k : Nat, i = .int .i64 k ∧ k ≤ l.length ∧ (∃ q, wr = w.drewN q) ∧ FitTo g l c k) (fun i _ => l.length - (intOf i).toNat)
  case atStart => exact ⟨0, rfl, Nat.zero_le _, ⟨0, rfl⟩, fun q hq => by omega⟩
  case round =>
    obtain ⟨k, rfl, hk, ⟨q0, hwr⟩, hin⟩ := hrel
    have Hin := Lib.hid hin
    have Hwr := Lib.hid hwr
    have Hb := Lib.hid (show Below w.heap.size w wr by rw [hwr]; exact bdrewN (Below.refl _ _) _)
    clear hin hwr
    by_cases hlt : k < l.length
    · have hck := Below.keep Hb.out (Hc.out k hlt)
      have hixk := Hix.out k
      have Hcl := Lib.hid (colours1_any HG.out hlg hlt wr (Hbx.out.keep Hb.out) (c := c))
      cases ht : taken g l c k with
      | false =>
        have R := Lib.hid (show FitTo g l c (k + 1) from fit_step.2 ⟨Hin.out, taken_fit.1 ht⟩)
        have Hcl := Lib.hid (ht ▸ Hcl.out)
        clear ht
        go_wp2_with fail
        refine Hcl.out.mono ?_
        rintro e w1 ⟨rfl, q1, hw1⟩
        have Hw1 := Lib.hid hw1
        clear hw1
        go_wp2_with fail
        go_roundw
        case rel => exact ⟨k + 1, by go_num, by omega, ⟨_, by rw [Hw1.out, Hwr.out, World.drewN_drewN]⟩, R.out⟩
        case measure => simp [intOf]; omega
      | true =>
        have R := Lib.hid (show decide ((k : Int) ≥ 0) = !decide (FitTo g l c l.length) by
          rw [decide_eq_true (by omega), decide_eq_false (fun hf => by
            have := taken_fit.2 (hf k hlt)
            rw [ht] at this; cases this)]
          rfl)
        have Hcl := Lib.hid (ht ▸ Hcl.out)
        clear ht
        go_wp2_with fail
        refine Hcl.out.mono ?_
        rintro e w1 ⟨rfl, q1, hw1⟩
        have Hw1 := Lib.hid hw1
        clear hw1
        go_wp2_with fail
        go_ret
        exact ⟨_, rfl, R.out, _, by rw [Hw1.out, Hwr.out, World.drewN_drewN]⟩
    · obtain rfl : k = l.length := by omega
      have R := Lib.hid (show decide ((-1 : Int) ≥ 0) = !decide (FitTo g l c l.length) by
        rw [decide_eq_true Hin.out]; rfl)
      go_wp2_with fail
      go_ret
      exact ⟨_, rfl, R.out, _, Hwr.out⟩
theorem containsFunc_any {g : List Nat} (hg : Gr g) {l : List Nat} (hlg : l.length < g.length) {c : Nat} {v u : Value} {pg pi pu pc : Nat} (b : Bool) (hb : decide (FitTo g l c l.length) = !b) (s : Value) (w : World) (h : Boxes w g l c v u pg pi pu pc) (hs : Ints w s (rangeN l.length)) :
    Calls Try.prog 110 #[s, .func (.func 109) #[] #[.pointer (some ⟨pg, 0, none⟩), .pointer (some ⟨pi, 0, none⟩), .pointer (some ⟨pu, 0, none⟩), .pointer (some ⟨pc, 0, none⟩)]] w
      fun e w' => e = .returned (.bool b) ∧ ∃ q, w' = w.drewN q := by
  have H := Lib.hid (indexFunc_any hg hlg s w h hs)
  rw [hb, Bool.not_not] at H
  clear h hs hb hg
  go_enter Try.func110, Try.ntmps110
  go_wp2_with fail
  refine H.out.mono ?_
  rintro e w1 ⟨i, rfl, hi, q1, hw1⟩
  have Hi := Lib.hid hi
  have Hw1 := Lib.hid hw1
  clear hi hw1
  go_wp2_with fail
  go_ret
  exact ⟨congrArg (fun b => Ending.returned (.bool b)) Hi.out, _, Hw1.out⟩
#print axioms colours1_any
#print axioms containsFunc_any
end Go.Proofs.Ytkjpbjbheocciaa
