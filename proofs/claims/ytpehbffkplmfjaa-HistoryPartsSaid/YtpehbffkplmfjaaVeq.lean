/- Two views are the same: arrays compared as values; the contract of (*view).equals. -/
import Derived.Test.YtpehbffkplmfjaaVie
import Derived.ChangeKeysEq
import Derived.BigQuiet
namespace Go.Proofs.Ytpehbffkplmfjaa
open Go.RowKit
def ints (n : Nat) (f : Nat → Nat) : Array Value := row n fun j => .int .i64 (f j : Nat)
def sameTo (n : Nat) (f g : Nat → Nat) : Bool := (List.range n).all fun i => decide (f i = g i)
theorem run_eqItems_ints {P : Program} {e : TypeId} (hu : P.underlying e = some (.int .i64)) (hk : P.plainKey e = true) (hc : P.cellsOf e = 1) (d n : Nat) (f g : Nat → Nat) (w : World) :
    ∀ is : List Nat, (∀ i, i ∈ is → i < n) → (Op.eqItems (d + 1) e (P.cellsOf e) (ints n f) (ints n g) is).run P w = .ok (is.all fun i => decide (f i = g i)) w
  | [], _ => by simp [Op.eqItems]
  | i :: is, h => by
    have hi := h i (by simp)
    have h1 : (part e (ints n f) (i * P.cellsOf e)).run P w = .ok (.int .i64 (f i : Nat)) w := run_part_plain w hk (by rw [hc, Nat.mul_one]; exact row_at hi)
    have h2 : (part e (ints n g) (i * P.cellsOf e)).run P w = .ok (.int .i64 (g i : Nat)) w := run_part_plain w hk (by rw [hc, Nat.mul_one]; exact row_at hi)
    simp only [Op.eqItems, Sem.run_bind, h1, h2, Result.andThen_ok, run_equalIn_int w d e .i64 .i64 (f i : Nat) (g i : Nat) hu]
    by_cases e1 : f i = g i
    · have e2 : (((f i : Nat) : Int) == ((g i : Nat) : Int)) = true := by rw [beq_iff_eq]; omega
      rw [e2]
      simp only [Bool.not_true, Bool.false_eq_true, if_false]
      rw [run_eqItems_ints hu hk hc d n f g w is fun j hj => h j (by simp [hj]), List.all_cons, decide_eq_true e1, Bool.true_and]
    · have e2 : (((f i : Nat) : Int) == ((g i : Nat) : Int)) = false := by rw [beq_eq_false_iff_ne]; omega
      rw [e2]
      simp only [Bool.not_false, if_true, Sem.run_pure]
      rw [List.all_cons, decide_eq_false e1, Bool.false_and]
theorem run_eql_ints {P : Program} {t e : TypeId} {n : Nat} (ht : P.underlying t = some (.array n e)) (hi : (P.info? e).isSome = true) (hu : P.underlying e = some (.int .i64)) (hk : P.plainKey e = true) (hc : P.cellsOf e = 1) (f g : Nat → Nat) (w : World) :
    (Op.equalIn 10000 t (.agg (ints n f)) (.agg (ints n g))).run P w = .ok (sameTo n f g) w := by
  obtain ⟨i, hi⟩ := Option.isSome_iff_exists.1 hi
  rw [show (10000 : Nat) = 9999 + 1 from rfl, run_equalIn_array w 9999 (ints n f) (ints n g) ht hi]
  exact run_eqItems_ints hu hk hc 9998 n f g w _ fun j hj => List.mem_range.1 hj
/-- two views are the same -/
def eqV (V U : Nat → Nat) : Bool := sameTo 40 V U && sameTo 6 (fun j => V (40 + j)) fun j => U (40 + j)
theorem eqV_iff {V U : Nat → Nat} : eqV V U = true ↔ ∀ j, j < 46 → V j = U j := by
  unfold eqV sameTo
  rw [Bool.and_eq_true, List.all_eq_true, List.all_eq_true]
  constructor
  · intro h j hj
    by_cases e : j < 40
    · exact of_decide_eq_true (h.1 j (List.mem_range.2 e))
    · have := of_decide_eq_true (h.2 (j - 40) (List.mem_range.2 (by omega)))
      simp only [show 40 + (j - 40) = j by omega] at this
      exact this
  · intro h
    exact ⟨fun j hj => decide_eq_true (h j (by have := List.mem_range.1 hj; omega)), fun j hj => decide_eq_true (h (40 + j) (by have := List.mem_range.1 hj; omega))⟩
theorem load_ints {w : World} {b : Nat} {V : Nat → Nat} (h : VwB w b V) (o n : Nat) (hn : o + n ≤ 46) {t e : TypeId} (ht : Try.prog.underlying t = some (.array n e)) (hi : (Try.prog.info? t).map (·.size) = some n) (w' : World) (hw : ∃ q, w' = w.drewN q) :
    (loadVar t ⟨b, o, none⟩).run Try.prog w' = .ok (.agg (ints n fun j => V (o + j))) w' := by
  obtain ⟨q, rfl⟩ := hw
  have hl := run_loadCells (P := Try.prog) (w.drewN q) ⟨b, o, none⟩ n (fun j => .int .i64 (V (o + j) : Nat)) (fun j hj => by
    rw [Addr.add_lit]
    exact Blk.at (show VwB (w.drewN q) b V from h) (show o + j < 46 by omega))
  cases hq : Try.prog.info? t with
  | none => simp [hq] at hi
  | some i =>
    have hs : i.size = n := by simpa [hq] using hi
    have hagg : (isAgg t).run Try.prog (w.drewN q) = .ok true (w.drewN q) := by
      unfold isAgg
      rw [Sem.run_bind, run_underlying ht (w.drewN q)]
      rfl
    simp [loadVar, Sem.run_bind, hagg, sizeOf, typeInfo, hq, hs, hl]
    rfl
/-- a load of a whole array, as one step of a region that only reads -/
theorem quiet_load {P : Program} {C : World → Prop} {a : Act} {o : Oper} {K : Act → Prop} (ty : TypeId) (x : Operand) (ho : o.op = .load ty x) (p : Addr) (hx : a.eval x = .pointer (some p)) (A : Array Value)
    (hl : ∀ w, C w → (loadVar ty p).run P w = .ok (.agg A) w) (hk : K (a.put o.dst (.agg A))) : o.quiet P a C K :=
  ⟨_, fun w hw => by
    unfold Oper.quietAt execOp
    simp only [ho, hx, Instr.loadAt, Instr.sureAddr, Sem.run_bind, Sem.run_pure, Result.andThen_ok, hl w hw]
    exact ⟨rfl, rfl⟩, hk⟩
set_option maxRecDepth 100000 in
set_option maxHeartbeats 8000000 in
theorem equals_any {V U : Nat → Nat} {b c : Nat} (w : World) (hV : VwB w b V) (hU : VwB w c U) (B : Bool) (hB : eqV V U = B) :
    Calls Try.prog 96 #[.pointer (some ⟨b, 0, none⟩), .pointer (some ⟨c, 0, none⟩)] w fun e w' => e = .returned (.bool B) ∧ Below w.heap.size w w' := by
  have HL1 := Lib.hid (fun w' hw => load_ints hV 0 40 (by omega) (t := 85) (e := 3) (by kernel_rfl) (by kernel_rfl) w' hw)
  have HL2 := Lib.hid (fun w' hw => load_ints hU 0 40 (by omega) (t := 85) (e := 3) (by kernel_rfl) (by kernel_rfl) w' hw)
  have HL3 := Lib.hid (fun w' hw => load_ints hV 40 6 (by omega) (t := 86) (e := 3) (by kernel_rfl) (by kernel_rfl) w' hw)
  have HL4 := Lib.hid (fun w' hw => load_ints hU 40 6 (by omega) (t := 86) (e := 3) (by kernel_rfl) (by kernel_rfl) w' hw)
  simp only [Nat.zero_add] at HL1 HL2
  have he1 := fun w => run_eql_ints (P := Try.prog) (t := 85) (n := 40) (by kernel_rfl) (by kernel_rfl) Try.underlying3 (by kernel_rfl) (by kernel_rfl) V U w
  have he2 := fun w => run_eql_ints (P := Try.prog) (t := 86) (n := 6) (by kernel_rfl) (by kernel_rfl) Try.underlying3 (by kernel_rfl) (by kernel_rfl) (fun j => V (40 + j)) (fun j => U (40 + j)) w
  unfold eqV at hB
  obtain ⟨A1, hA1⟩ : ∃ A1, A1 = ints 40 V := ⟨_, rfl⟩
  obtain ⟨A2, hA2⟩ : ∃ A2, A2 = ints 40 U := ⟨_, rfl⟩
  obtain ⟨A3, hA3⟩ : ∃ A3, A3 = ints 6 fun j => V (40 + j) := ⟨_, rfl⟩
  obtain ⟨A4, hA4⟩ : ∃ A4, A4 = ints 6 fun j => U (40 + j) := ⟨_, rfl⟩
  rw [← hA1] at HL1 he1
  rw [← hA2] at HL2 he1
  rw [← hA3] at HL3 he2
  rw [← hA4] at HL4 he2
  obtain ⟨B1, hB1⟩ : ∃ B1, B1 = sameTo 40 V U := ⟨_, rfl⟩
  obtain ⟨B2, hB2⟩ : ∃ B2, B2 = sameTo 6 (fun j => V (40 + j)) fun j => U (40 + j) := ⟨_, rfl⟩
  rw [← hB1] at he1 hB
  rw [← hB2] at he2 hB
  have HB := Lib.hid hB
  clear hA1 hA2 hA3 hA4 hB1 hB2 hV hU hB
  cases B1 with
  | true =>
    obtain rfl : B2 = B := HB.out
    go_enter Try.func96, Try.ntmps96
    go_wp2_with fail
    refine wp_region_quiet_lit (by kernel_rfl) (by kernel_rfl) ?_
    iterate 3 (go_big_quiet_step (fail))
    refine BigFrame.wpQuiet_want (by kernel_rfl) (fun K hK => quiet_load 85 (.tmp 7) rfl ⟨b, 0, none⟩ rfl _ HL1.out (hK _ ?_))
    simp only [Act.put, List.setIfInBounds_toArray, List.set_cons_zero, List.set_cons_succ]
    iterate 3 (go_big_quiet_step (fail))
    refine BigFrame.wpQuiet_want (by kernel_rfl) (fun K hK => quiet_load 85 (.tmp 11) rfl ⟨c, 0, none⟩ rfl _ HL2.out (hK _ ?_))
    simp only [Act.put, List.setIfInBounds_toArray, List.set_cons_zero, List.set_cons_succ]
    iterate 5 (go_big_quiet_step (fail))
    refine BigFrame.wpQuiet_want (by kernel_rfl) (fun K hK => quiet_load 86 (.tmp 17) rfl ⟨b, 40, none⟩ rfl _ HL3.out (hK _ ?_))
    simp only [Act.put, List.setIfInBounds_toArray, List.set_cons_zero, List.set_cons_succ]
    iterate 3 (go_big_quiet_step (fail))
    refine BigFrame.wpQuiet_want (by kernel_rfl) (fun K hK => quiet_load 86 (.tmp 21) rfl ⟨c, 40, none⟩ rfl _ HL4.out (hK _ ?_))
    simp only [Act.put, List.setIfInBounds_toArray, List.set_cons_zero, List.set_cons_succ]
    iterate 3 (go_big_quiet_step (fail))
    refine wpQuiet_nil ?_
    rintro w' ⟨nq, rfl⟩
    go_wp2_with fail
    go_ret
    exact ⟨rfl, bdrewN (Below.refl _ _) _⟩
  | false =>
    obtain rfl : false = B := HB.out
    go_enter Try.func96, Try.ntmps96
    go_wp2_with fail
    refine wp_region_quiet_lit (by kernel_rfl) (by kernel_rfl) ?_
    iterate 3 (go_big_quiet_step (fail))
    refine BigFrame.wpQuiet_want (by kernel_rfl) (fun K hK => quiet_load 85 (.tmp 7) rfl ⟨b, 0, none⟩ rfl _ HL1.out (hK _ ?_))
    simp only [Act.put, List.setIfInBounds_toArray, List.set_cons_zero, List.set_cons_succ]
    iterate 3 (go_big_quiet_step (fail))
    refine BigFrame.wpQuiet_want (by kernel_rfl) (fun K hK => quiet_load 85 (.tmp 11) rfl ⟨c, 0, none⟩ rfl _ HL2.out (hK _ ?_))
    simp only [Act.put, List.setIfInBounds_toArray, List.set_cons_zero, List.set_cons_succ]
    iterate 13 (go_big_quiet_step (fail))
    refine wpQuiet_nil ?_
    rintro w' ⟨nq, rfl⟩
    go_wp2_with fail
    go_ret
    exact ⟨rfl, bdrewN (Below.refl _ _) _⟩
#print axioms equals_any
end Go.Proofs.Ytpehbffkplmfjaa
