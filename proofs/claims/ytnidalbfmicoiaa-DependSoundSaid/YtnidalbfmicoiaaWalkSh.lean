/- Contracts of extend and finish. -/
import Derived.Test.YtnidalbfmicoiaaMathProve
import Derived.Deep.RegionLaw
namespace Go.Proofs.Ytnidalbfmicoiaa
open Go.RowKit

/-- steps in a row of the call's own -/
def OwnSteps (base : Nat) (w : World) (v : Value) (p : List Stp) : Prop := w.ownsRow base 53 5 v p.length (stepCells p)
theorem OwnSteps.steps {base : Nat} {w : World} {v : Value} {p : List Stp} (h : OwnSteps base w v p) : Steps w v p := owns_rd h
theorem OwnSteps.keep {base : Nat} {w w' : World} {v : Value} {p : List Stp} (h : OwnSteps base w v p) (hb : Below w.heap.size w w') : OwnSteps base w' v p := owns_keep h hb
theorem step_one {r i j f t : Int} : ∀ u ∈ Stp.cells (r, i, j, f, t), u.oneCell' = true := by
  intro u hu; simp [Stp.cells] at hu; rcases hu with rfl | rfl | rfl | rfl | rfl <;> rfl
set_option maxRecDepth 100000 in
set_option maxHeartbeats 4000000 in
theorem extend_any {m s S q : Nat} {l : List DepN} {p : List Stp} (h : Path m l s S p q) (hm : m ≤ 8) (i : Nat) (g : DepN) (hg2 : g.2 < 256) (base : Nat) (v : Value) (w : World) (hbase : base ≤ w.heap.size) (hv : OwnSteps base w v p) :
    Calls Try.prog 76 #[v, .int .i64 i, .agg #[.int .i64 (g.1 : Int), .int .i64 (g.2 : Int)]] w fun e w' => ∃ v', e = .returned v' ∧ OwnSteps base w' v' (p ++ more3 q i s S g) ∧ Below base w w' := by
  have h8 : 2 ^ m ≤ 256 := by have := Nat.pow_le_pow_right (n := 2) (by decide) hm; simpa using this
  have hS := h.small
  have hs := h.from_small
  have hlen := h.len
  have hsh := h.short
  have hc := bcnt_le 8 S
  have hq : q < 25 := by omega
  obtain ⟨a, b, off, cap, rfl, hle, ha, hcap, hcc⟩ := Steps.get (OwnSteps.steps hv)
  have hix := run_ix (P := Try.prog) (t := 46) (a := a) (len := p.length) (cap := cap) (b := b) (off := off) (s := 5) Try.underlying46 (by intro w; kernel_rfl) ha
  have hixq := hix q
  rw [hlen] at hixq
  obtain ⟨-, -, -, hc4, hc5⟩ := hcc q (by omega)
  rw [stp_get (by omega)] at hc4 hc5
  have hl := h.last
  rw [show (stp p q).2.2.2.1 = (s : Int) from congrArg (·.1) hl] at hc4
  rw [show (stp p q).2.2.2.2 = (S : Int) from congrArg (·.2) hl] at hc5
  have e1 := bits_or_nat S g.2 (by omega) (by omega)
  have HV := Lib.hid (show w.ownsRow base 53 5 (.slice a (q + 1) cap) (q + 1) (stepCells p) by have := hv; unfold OwnSteps at this; rwa [hlen] at this)
  have Hlen := Lib.hid hlen
  have hbb : b < w.heap.size := cell_lt hc4
  rw [hlen]
  have Hbase := Lib.hid hbase
  clear hv hlen h hl hsh hc hcc hix ha hle hbase hcap
  go_enter Try.func76, Try.ntmps76
  go_upto_region 4 with fail
  have d0 := cell_new w #[.int .i64 (g.1 : Int), .int .i64 (g.2 : Int)] 32 0
  have d1 := cell_new w #[.int .i64 (g.1 : Int), .int .i64 (g.2 : Int)] 32 1
  have hb0 := below_alloc w (.cells #[.int .i64 (g.1 : Int), .int .i64 (g.2 : Int)] 32)
  have hc4 := Below.keep hb0 hc4
  have hc5 := Below.keep hb0 hc5
  have HV1 := Lib.hid (World.ownsRow.alloc HV.out (.cells #[.int .i64 (g.1 : Int), .int .i64 (g.2 : Int)] 32))
  generalize w.alloc (.cells #[.int .i64 (g.1 : Int), .int .i64 (g.2 : Int)] 32) = w1 at *
  have Hb0 := Lib.hid hb0
  have hz := hb0.size
  have f1 : IntKind.i64.wrap ((q : Int) + 1) = (q : Int) + 1 := IntWalk.i64_in _ ⟨by omega, by omega⟩
  have f2 : IntKind.i64.wrap ((q : Int) + 2) = (q : Int) + 2 := IntWalk.i64_in _ ⟨by omega, by omega⟩
  have Hbb := Lib.hid hbb
  clear hb0 hbb
  go_region_law (refine step_append_own (by rfl) (.tmp 23) (.tmp 46) 46 (by rfl) elem46 (by rfl) (World.ownsRow.alloc (World.ownsRow.drew HV1.out) _) [.int .i64 0, .int .i64 (i : Int), .int .i64 0, .int .i64 (g.1 : Int), .int .i64 (g.2 : Int), .int .i64 2, .int .i64 ((q : Int) + 1), .int .i64 (S : Int), .int .i64 (S : Int), .int .i64 ((S ||| g.2 : Nat) : Int), .int .i64 3, .int .i64 (q : Int), .int .i64 ((q : Int) + 2), .int .i64 (s : Int), .int .i64 ((S ||| g.2 : Nat) : Int)] (by rfl) (by rfl) (by intro j u hj; go_simp) (by intro u hu; simp at hu; rcases hu with rfl | rfl | rfl | rfl | rfl | rfl | rfl | rfl | rfl | rfl | rfl | rfl | rfl | rfl | rfl <;> rfl) (by omega) (by have := Hbase.out; simp; omega) ?_; intro v' w7 hown7 hb7)
  all_goals
    have R := Lib.hid (show OwnSteps base w7 v' (p ++ more3 q i s S g) by
      unfold OwnSteps
      have e : (p ++ more3 q i s S g).length = q + 1 + 3 := by rw [List.length_append, Hlen.out]; rfl
      rw [e, stepCells_append]
      exact hown7)
    have hb' := Lib.hid (show Below base w w7 from (((Hb0.out.mono Hbase.out).trans ((Below.refl base w1).drew)).alloc (by have := Hbase.out; simp; omega) _).trans hb7)
    clear hown7 hb7
    go_wp2_with fail
    go_ret
    exact ⟨_, rfl, R.out, hb'.out⟩
set_option maxRecDepth 100000 in
set_option maxHeartbeats 4000000 in
theorem finish_any {m s S q : Nat} {l : List DepN} {p : List Stp} (h : Path m l s S p q) (hm : m ≤ 8) (t : Nat) (base : Nat) (v : Value) (w : World) (hbase : base ≤ w.heap.size) (hv : OwnSteps base w v p) :
    Calls Try.prog 77 #[v, .agg #[.int .i64 (s : Int), .int .i64 (t : Int)]] w fun e w' => ∃ v', e = .returned v' ∧ OwnSteps base w' v' (finL p q s S t) ∧ Below base w w' := by
  have h8 : 2 ^ m ≤ 256 := by have := Nat.pow_le_pow_right (n := 2) (by decide) hm; simpa using this
  have hS := h.small
  have hlen := h.len
  have hsh := h.short
  have hc := bcnt_le 8 S
  have hq : q < 25 := by omega
  obtain ⟨a, b, off, cap, rfl, hle, ha, hcap, hcc⟩ := Steps.get (OwnSteps.steps hv)
  have hix := run_ix (P := Try.prog) (t := 46) (a := a) (len := p.length) (cap := cap) (b := b) (off := off) (s := 5) Try.underlying46 (by intro w; kernel_rfl) ha
  have hixq := hix q
  rw [hlen] at hixq
  obtain ⟨-, -, -, hc4, hc5⟩ := hcc q (by omega)
  rw [stp_get (by omega)] at hc4 hc5
  have hl := h.last
  rw [show (stp p q).2.2.2.1 = (s : Int) from congrArg (·.1) hl] at hc4
  rw [show (stp p q).2.2.2.2 = (S : Int) from congrArg (·.2) hl] at hc5
  have HV := Lib.hid (show w.ownsRow base 53 5 (.slice a (q + 1) cap) (q + 1) (stepCells p) by have := hv; unfold OwnSteps at this; rwa [hlen] at this)
  have HV0 := Lib.hid (show OwnSteps base w (.slice a (q + 1) cap) p by have := hv; rwa [hlen] at this)
  have Hlen := Lib.hid hlen
  have hbb : b < w.heap.size := cell_lt hc4
  rw [hlen]
  have Hbase := Lib.hid hbase
  clear hv hlen h hl hsh hc hcc hix ha hle hbase hcap
  have q0 : ((s : Int) == (s : Int)) = true := by simp
  by_cases e : S = t
  · have E := Lib.hid (show finL p q s S t = p from if_pos e)
    have q1 : ((S : Int) == (t : Int)) = true := by rw [e]; simp
    clear e
    go_enter Try.func77, Try.ntmps77
    go_wp2_with fail
    have d0 := cell_new w #[.int .i64 (s : Int), .int .i64 (t : Int)] 32 0
    have d1 := cell_new w #[.int .i64 (s : Int), .int .i64 (t : Int)] 32 1
    have hb0 := below_alloc w (.cells #[.int .i64 (s : Int), .int .i64 (t : Int)] 32)
    have hc4 := Below.keep hb0 hc4
    have hc5 := Below.keep hb0 hc5
    have HV1 := Lib.hid (OwnSteps.keep HV0.out hb0)
    generalize w.alloc (.cells #[.int .i64 (s : Int), .int .i64 (t : Int)] 32) = w1 at *
    have Hb0 := Lib.hid hb0
    have hz := hb0.size
    clear hb0
    go_quiet (fail)
    go_wp2_with fail
    go_ret
    exact ⟨_, rfl, by rw [E.out]; exact OwnSteps.keep HV1.out (drewN_below _ _), bdrewN (Hb0.out.mono Hbase.out) _⟩
  · have E := Lib.hid (show finL p q s S t = p ++ more2 q s S t from if_neg e)
    have q1 : ((S : Int) == (t : Int)) = false := by rw [beq_eq_false_iff_ne]; omega
    clear e
    go_enter Try.func77, Try.ntmps77
    go_wp2_with fail
    have d0 := cell_new w #[.int .i64 (s : Int), .int .i64 (t : Int)] 32 0
    have d1 := cell_new w #[.int .i64 (s : Int), .int .i64 (t : Int)] 32 1
    have hb0 := below_alloc w (.cells #[.int .i64 (s : Int), .int .i64 (t : Int)] 32)
    have hc4 := Below.keep hb0 hc4
    have hc5 := Below.keep hb0 hc5
    have HV1 := Lib.hid (World.ownsRow.alloc HV.out (.cells #[.int .i64 (s : Int), .int .i64 (t : Int)] 32))
    generalize w.alloc (.cells #[.int .i64 (s : Int), .int .i64 (t : Int)] 32) = w1 at *
    have Hb0 := Lib.hid hb0
    have hz := hb0.size
    have Hbb := Lib.hid hbb
    clear hb0 hbb
    go_quiet (fail)
    go_wp2_with fail
    have f1 : IntKind.i64.wrap ((q : Int) + 1) = (q : Int) + 1 := IntWalk.i64_in _ ⟨by omega, by omega⟩
    go_region_law (refine step_append_own (by rfl) (.tmp 17) (.tmp 33) 46 (by rfl) elem46 (by rfl) (World.ownsRow.alloc (World.ownsRow.drew (owns_keep HV1.out (drewN_below _ _))) _) [.int .i64 1, .int .i64 0, .int .i64 0, .int .i64 (S : Int), .int .i64 (t : Int), .int .i64 3, .int .i64 (q : Int), .int .i64 ((q : Int) + 1), .int .i64 (s : Int), .int .i64 (t : Int)] (by rfl) (by rfl) (by intro j u hj; refine (cell_new _ _ _ _).trans ?_; simpa using hj) (by intro u hu; simp at hu; rcases hu with rfl | rfl | rfl | rfl | rfl | rfl | rfl | rfl | rfl | rfl <;> rfl) (by omega) (by have := Hbase.out; simp; omega) ?_; intro v' w7 hown7 hb7)
    all_goals
      have R := Lib.hid (show OwnSteps base w7 v' (finL p q s S t) by
        rw [E.out]
        unfold OwnSteps
        have e : (p ++ more2 q s S t).length = q + 1 + 2 := by rw [List.length_append, Hlen.out]; rfl
        rw [e, stepCells_append]
        exact hown7)
      have hb' := Lib.hid (show Below base w w7 from ((((Hb0.out.mono Hbase.out).trans (bdrewN (Below.refl base w1) _)).trans ((Below.refl base _).drew)).alloc (by have := Hbase.out; simp; omega) _).trans hb7)
      clear hown7 hb7
      go_wp2_with fail
      go_ret
      exact ⟨_, rfl, R.out, hb'.out⟩
end Go.Proofs.Ytnidalbfmicoiaa
