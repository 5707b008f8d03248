/- Contracts of conflicts, add, has. -/
import Derived.Test.YtpehbffkplmfjaaFrm
namespace Go.Proofs.Ytpehbffkplmfjaa
open Go.RowKit

/-- the order of two operations counts -/
def Cf (t1 k1 x1 t2 k2 x2 : Nat) : Prop := (k1 ≤ 1 ∧ k2 ≤ 1) ∧ t1 ≠ t2 ∧ x1 = x2 ∧ (k1 = 1 ∨ k2 = 1)
instance (t1 k1 x1 t2 k2 x2 : Nat) : Decidable (Cf t1 k1 x1 t2 k2 x2) := inferInstanceAs (Decidable (_ ∧ _ ∧ _ ∧ _))
set_option maxHeartbeats 8000000 in
theorem conflicts_b (t1 k1 x1 t2 k2 x2 : Nat) (h1 : k1 ≤ 3) (h2 : k2 ≤ 3) (B : Bool) (hB : decide (Cf t1 k1 x1 t2 k2 x2) = B) (w : World) :
    Calls Try.prog 86 #[.agg #[.int .i64 t1, .int .i64 k1, .int .i64 x1], .agg #[.int .i64 t2, .int .i64 k2, .int .i64 x2]] w fun e w' => e = .returned (.bool B) ∧ Below w.heap.size w w' := by
  have hb0 : Below w.heap.size w ((w.alloc (.cells #[.int .i64 t1, .int .i64 k1, .int .i64 x1] 58)).alloc (.cells #[.int .i64 t2, .int .i64 k2, .int .i64 x2] 58)) := ((Below.refl _ _).alloc (Nat.le_refl _) _).alloc (by simp) _
  have HB := Lib.hid (fun h : ¬ Cf t1 k1 x1 t2 k2 x2 => (show B = false by rw [← hB]; exact decide_eq_false h))
  have HBt := Lib.hid (fun h : Cf t1 k1 x1 t2 k2 x2 => (show B = true by rw [← hB]; exact decide_eq_true h))
  clear hB
  have Hb0 := Lib.hid hb0
  clear hb0
  by_cases e1 : k1 ≤ 1
  · have He1 := Lib.hid (fun w => isEnd_b t1 k1 x1 false (decide_eq_false (by omega)) w)
    by_cases e2 : k2 ≤ 1
    · have He2 := Lib.hid (fun w => isEnd_b t2 k2 x2 false (decide_eq_false (by omega)) w)
      have Hk := Lib.hid (And.intro e1 e2)
      clear e1 e2 h1 h2
      by_cases et : t1 = t2
      · have R := Lib.hid (HB.out fun h => h.2.1 et)
        have qt : ((t1 : Int) != (t2 : Int)) = false := by rw [bne_eq_false_iff_eq]; omega
        clear et
        go_enter Try.func86, Try.ntmps86
        go_wp2_with fail
        refine (He1.out _).mono ?_
        rintro e w1 ⟨rfl, hb1⟩
        have c0 : w1.cell? ⟨w.heap.size + 1, 0, none⟩ = some (.int .i64 t2) := Below.keep hb1 (by go_simp)
        have c1 : w1.cell? ⟨w.heap.size + 1, 1, none⟩ = some (.int .i64 k2) := Below.keep hb1 (by go_simp)
        have c2 : w1.cell? ⟨w.heap.size + 1, 2, none⟩ = some (.int .i64 x2) := Below.keep hb1 (by go_simp)
        have d0 : w1.cell? ⟨w.heap.size, 0, none⟩ = some (.int .i64 t1) := Below.keep hb1 (by go_simp)
        have d1 : w1.cell? ⟨w.heap.size, 1, none⟩ = some (.int .i64 k1) := Below.keep hb1 (by go_simp)
        have d2 : w1.cell? ⟨w.heap.size, 2, none⟩ = some (.int .i64 x1) := Below.keep hb1 (by go_simp)
        have Hb1 := Lib.hid (Below.tr Hb0.out hb1)
        have C := Lib.hid (And.intro c0 (And.intro c1 (And.intro c2 (And.intro d0 (And.intro d1 d2)))))
        clear hb1
        go_wp2_with fail
        refine (He2.out _).mono ?_
        rintro e w2 ⟨rfl, hb2⟩
        clear c0 c1 c2 d0 d1 d2
        have c0 := Below.keep hb2 C.out.1
        have c1 := Below.keep hb2 C.out.2.1
        have c2 := Below.keep hb2 C.out.2.2.1
        have d0 := Below.keep hb2 C.out.2.2.2.1
        have d1 := Below.keep hb2 C.out.2.2.2.2.1
        have d2 := Below.keep hb2 C.out.2.2.2.2.2
        have Hb2 := Lib.hid (Below.tr Hb1.out hb2)
        clear hb2 C
        go_wp2_with fail
        go_ret
        exact ⟨by rw [R.out]; rfl, Hb2.out⟩
      · have qt : ((t1 : Int) != (t2 : Int)) = true := by rw [bne_iff_ne]; omega
        by_cases ex : x1 = x2
        · have qx : ((x1 : Int) == (x2 : Int)) = true := by rw [beq_iff_eq]; omega
          by_cases f1 : k1 = 1
          · have R := Lib.hid (HBt.out ⟨Hk.out, et, ex, .inl f1⟩)
            have q1 : ((k1 : Int) == 1) = true := by rw [beq_iff_eq]; omega
            clear et ex f1
            go_enter Try.func86, Try.ntmps86
            go_wp2_with fail
            refine (He1.out _).mono ?_
            rintro e w1 ⟨rfl, hb1⟩
            have c0 : w1.cell? ⟨w.heap.size + 1, 0, none⟩ = some (.int .i64 t2) := Below.keep hb1 (by go_simp)
            have c1 : w1.cell? ⟨w.heap.size + 1, 1, none⟩ = some (.int .i64 k2) := Below.keep hb1 (by go_simp)
            have c2 : w1.cell? ⟨w.heap.size + 1, 2, none⟩ = some (.int .i64 x2) := Below.keep hb1 (by go_simp)
            have d0 : w1.cell? ⟨w.heap.size, 0, none⟩ = some (.int .i64 t1) := Below.keep hb1 (by go_simp)
            have d1 : w1.cell? ⟨w.heap.size, 1, none⟩ = some (.int .i64 k1) := Below.keep hb1 (by go_simp)
            have d2 : w1.cell? ⟨w.heap.size, 2, none⟩ = some (.int .i64 x1) := Below.keep hb1 (by go_simp)
            have Hb1 := Lib.hid (Below.tr Hb0.out hb1)
            have C := Lib.hid (And.intro c0 (And.intro c1 (And.intro c2 (And.intro d0 (And.intro d1 d2)))))
            clear hb1
            go_wp2_with fail
            refine (He2.out _).mono ?_
            rintro e w2 ⟨rfl, hb2⟩
            clear c0 c1 c2 d0 d1 d2
            have c0 := Below.keep hb2 C.out.1
            have c1 := Below.keep hb2 C.out.2.1
            have c2 := Below.keep hb2 C.out.2.2.1
            have d0 := Below.keep hb2 C.out.2.2.2.1
            have d1 := Below.keep hb2 C.out.2.2.2.2.1
            have d2 := Below.keep hb2 C.out.2.2.2.2.2
            have Hb2 := Lib.hid (Below.tr Hb1.out hb2)
            clear hb2 C
            go_wp2_with fail
            go_ret
            exact ⟨by rw [R.out]; rfl, Hb2.out⟩
          · have q1 : ((k1 : Int) == 1) = false := by rw [beq_eq_false_iff_ne]; omega
            by_cases f2 : k2 = 1
            · have R := Lib.hid (HBt.out ⟨Hk.out, et, ex, .inr f2⟩)
              have q2 : ((k2 : Int) == 1) = true := by rw [beq_iff_eq]; omega
              clear et ex f1 f2
              go_enter Try.func86, Try.ntmps86
              go_wp2_with fail
              refine (He1.out _).mono ?_
              rintro e w1 ⟨rfl, hb1⟩
              have c0 : w1.cell? ⟨w.heap.size + 1, 0, none⟩ = some (.int .i64 t2) := Below.keep hb1 (by go_simp)
              have c1 : w1.cell? ⟨w.heap.size + 1, 1, none⟩ = some (.int .i64 k2) := Below.keep hb1 (by go_simp)
              have c2 : w1.cell? ⟨w.heap.size + 1, 2, none⟩ = some (.int .i64 x2) := Below.keep hb1 (by go_simp)
              have d0 : w1.cell? ⟨w.heap.size, 0, none⟩ = some (.int .i64 t1) := Below.keep hb1 (by go_simp)
              have d1 : w1.cell? ⟨w.heap.size, 1, none⟩ = some (.int .i64 k1) := Below.keep hb1 (by go_simp)
              have d2 : w1.cell? ⟨w.heap.size, 2, none⟩ = some (.int .i64 x1) := Below.keep hb1 (by go_simp)
              have Hb1 := Lib.hid (Below.tr Hb0.out hb1)
              have C := Lib.hid (And.intro c0 (And.intro c1 (And.intro c2 (And.intro d0 (And.intro d1 d2)))))
              clear hb1
              go_wp2_with fail
              refine (He2.out _).mono ?_
              rintro e w2 ⟨rfl, hb2⟩
              clear c0 c1 c2 d0 d1 d2
              have c0 := Below.keep hb2 C.out.1
              have c1 := Below.keep hb2 C.out.2.1
              have c2 := Below.keep hb2 C.out.2.2.1
              have d0 := Below.keep hb2 C.out.2.2.2.1
              have d1 := Below.keep hb2 C.out.2.2.2.2.1
              have d2 := Below.keep hb2 C.out.2.2.2.2.2
              have Hb2 := Lib.hid (Below.tr Hb1.out hb2)
              clear hb2 C
              go_wp2_with fail
              go_ret
              exact ⟨by rw [R.out]; rfl, Hb2.out⟩
            · have R := Lib.hid (HB.out fun h => h.2.2.2.elim f1 f2)
              have q2 : ((k2 : Int) == 1) = false := by rw [beq_eq_false_iff_ne]; omega
              clear et ex f1 f2
              go_enter Try.func86, Try.ntmps86
              go_wp2_with fail
              refine (He1.out _).mono ?_
              rintro e w1 ⟨rfl, hb1⟩
              have c0 : w1.cell? ⟨w.heap.size + 1, 0, none⟩ = some (.int .i64 t2) := Below.keep hb1 (by go_simp)
              have c1 : w1.cell? ⟨w.heap.size + 1, 1, none⟩ = some (.int .i64 k2) := Below.keep hb1 (by go_simp)
              have c2 : w1.cell? ⟨w.heap.size + 1, 2, none⟩ = some (.int .i64 x2) := Below.keep hb1 (by go_simp)
              have d0 : w1.cell? ⟨w.heap.size, 0, none⟩ = some (.int .i64 t1) := Below.keep hb1 (by go_simp)
              have d1 : w1.cell? ⟨w.heap.size, 1, none⟩ = some (.int .i64 k1) := Below.keep hb1 (by go_simp)
              have d2 : w1.cell? ⟨w.heap.size, 2, none⟩ = some (.int .i64 x1) := Below.keep hb1 (by go_simp)
              have Hb1 := Lib.hid (Below.tr Hb0.out hb1)
              have C := Lib.hid (And.intro c0 (And.intro c1 (And.intro c2 (And.intro d0 (And.intro d1 d2)))))
              clear hb1
              go_wp2_with fail
              refine (He2.out _).mono ?_
              rintro e w2 ⟨rfl, hb2⟩
              clear c0 c1 c2 d0 d1 d2
              have c0 := Below.keep hb2 C.out.1
              have c1 := Below.keep hb2 C.out.2.1
              have c2 := Below.keep hb2 C.out.2.2.1
              have d0 := Below.keep hb2 C.out.2.2.2.1
              have d1 := Below.keep hb2 C.out.2.2.2.2.1
              have d2 := Below.keep hb2 C.out.2.2.2.2.2
              have Hb2 := Lib.hid (Below.tr Hb1.out hb2)
              clear hb2 C
              go_wp2_with fail
              go_ret
              exact ⟨by rw [R.out]; rfl, Hb2.out⟩
        · have R := Lib.hid (HB.out fun h => ex h.2.2.1)
          have qx : ((x1 : Int) == (x2 : Int)) = false := by rw [beq_eq_false_iff_ne]; omega
          clear et ex
          go_enter Try.func86, Try.ntmps86
          go_wp2_with fail
          refine (He1.out _).mono ?_
          rintro e w1 ⟨rfl, hb1⟩
          have c0 : w1.cell? ⟨w.heap.size + 1, 0, none⟩ = some (.int .i64 t2) := Below.keep hb1 (by go_simp)
          have c1 : w1.cell? ⟨w.heap.size + 1, 1, none⟩ = some (.int .i64 k2) := Below.keep hb1 (by go_simp)
          have c2 : w1.cell? ⟨w.heap.size + 1, 2, none⟩ = some (.int .i64 x2) := Below.keep hb1 (by go_simp)
          have d0 : w1.cell? ⟨w.heap.size, 0, none⟩ = some (.int .i64 t1) := Below.keep hb1 (by go_simp)
          have d1 : w1.cell? ⟨w.heap.size, 1, none⟩ = some (.int .i64 k1) := Below.keep hb1 (by go_simp)
          have d2 : w1.cell? ⟨w.heap.size, 2, none⟩ = some (.int .i64 x1) := Below.keep hb1 (by go_simp)
          have Hb1 := Lib.hid (Below.tr Hb0.out hb1)
          have C := Lib.hid (And.intro c0 (And.intro c1 (And.intro c2 (And.intro d0 (And.intro d1 d2)))))
          clear hb1
          go_wp2_with fail
          refine (He2.out _).mono ?_
          rintro e w2 ⟨rfl, hb2⟩
          clear c0 c1 c2 d0 d1 d2
          have c0 := Below.keep hb2 C.out.1
          have c1 := Below.keep hb2 C.out.2.1
          have c2 := Below.keep hb2 C.out.2.2.1
          have d0 := Below.keep hb2 C.out.2.2.2.1
          have d1 := Below.keep hb2 C.out.2.2.2.2.1
          have d2 := Below.keep hb2 C.out.2.2.2.2.2
          have Hb2 := Lib.hid (Below.tr Hb1.out hb2)
          clear hb2 C
          go_wp2_with fail
          go_ret
          exact ⟨by rw [R.out]; rfl, Hb2.out⟩
    · have He2 := Lib.hid (fun w => isEnd_b t2 k2 x2 true (decide_eq_true (by omega)) w)
      have R := Lib.hid (HB.out fun h => e2 h.1.2)
      clear e1 e2 h1 h2
      go_enter Try.func86, Try.ntmps86
      go_wp2_with fail
      refine (He1.out _).mono ?_
      rintro e w1 ⟨rfl, hb1⟩
      have c0 : w1.cell? ⟨w.heap.size + 1, 0, none⟩ = some (.int .i64 t2) := Below.keep hb1 (by go_simp)
      have c1 : w1.cell? ⟨w.heap.size + 1, 1, none⟩ = some (.int .i64 k2) := Below.keep hb1 (by go_simp)
      have c2 : w1.cell? ⟨w.heap.size + 1, 2, none⟩ = some (.int .i64 x2) := Below.keep hb1 (by go_simp)
      have d0 : w1.cell? ⟨w.heap.size, 0, none⟩ = some (.int .i64 t1) := Below.keep hb1 (by go_simp)
      have d1 : w1.cell? ⟨w.heap.size, 1, none⟩ = some (.int .i64 k1) := Below.keep hb1 (by go_simp)
      have d2 : w1.cell? ⟨w.heap.size, 2, none⟩ = some (.int .i64 x1) := Below.keep hb1 (by go_simp)
      have Hb1 := Lib.hid (Below.tr Hb0.out hb1)
      clear hb1
      go_wp2_with fail
      refine (He2.out _).mono ?_
      rintro e w2 ⟨rfl, hb2⟩
      clear c0 c1 c2 d0 d1 d2
      have Hb2 := Lib.hid (Below.tr Hb1.out hb2)
      clear hb2
      go_wp2_with fail
      go_ret
      exact ⟨by rw [R.out]; rfl, Hb2.out⟩
  · have He1 := Lib.hid (fun w => isEnd_b t1 k1 x1 true (decide_eq_true (by omega)) w)
    have R := Lib.hid (HB.out fun h => e1 h.1.1)
    clear e1 h1 h2
    go_enter Try.func86, Try.ntmps86
    go_wp2_with fail
    refine (He1.out _).mono ?_
    rintro e w1 ⟨rfl, hb1⟩
    have Hb1 := Lib.hid (Below.tr Hb0.out hb1)
    clear hb1
    go_wp2_with fail
    go_ret
    exact ⟨by rw [R.out]; rfl, Hb1.out⟩
/-- the edges: a row of sets -/
def EdB (w : World) (b : Nat) (f : Nat → Nat) : Prop := Blk w b 120 7 (fun j => .int .i64 (f j : Nat))
theorem pow_name (i : Nat) (h : i ≤ 12) : ∃ P : Nat, P = 2 ^ i ∧ (2 : Int) ^ i = (P : Int) ∧ P ≤ 4096 ∧ 1 ≤ P :=
  ⟨2 ^ i, rfl, by simp, by have := Nat.pow_le_pow_right (n := 2) (by decide) h; simpa using this, Nat.two_pow_pos i⟩
set_option maxHeartbeats 4000000 in
theorem add_any {w : World} {b : Nat} {f : Nat → Nat} {a t : Nat} (hB : EdB w b f) (ha : a < 7) (ht : t < 7) (hf : f a < 128) :
    Calls Try.prog 87 #[.pointer (some ⟨b, 0, none⟩), .int .i64 a, .int .i64 t] w fun e w' => e = .returned (.tuple #[]) ∧ EdB w' b (fun j => if j = a then f a ||| 2 ^ t else f j) ∧ w.grownBy w' (some b) := by
  obtain ⟨P, hP, p1, p2, p3⟩ := pow_name t (by omega)
  have hP128 : P < 128 := by rw [hP]; exact Nat.pow_lt_pow_right (by decide) (show t < 7 by omega)
  have hor := bits_or_nat (f a) P (by omega) (by omega)
  have hcell := Blk.at hB (show a < 7 from ha)
  have hfz := Blk.fz hB a
  have hai : (a : Int) < 7 := by omega
  have ha0 : (0 : Int) ≤ (a : Int) := by omega
  have hti : (t : Int) < 64 := by omega
  have ht0 : (0 : Int) ≤ (t : Int) := by omega
  have R := Lib.hid (show EdB (w.setCell ⟨b, a, none⟩ (.int .i64 (f a ||| P : Nat))).drew b (fun j => if j = a then f a ||| 2 ^ t else f j) from by
    have h1 := Blk.put hB a (.int .i64 (f a ||| P : Nat))
    refine Blk.congr (show Blk (w.setCell ⟨b, a, none⟩ (.int .i64 (f a ||| P : Nat))).drew b 120 7 _ from h1) fun j _ => ?_
    by_cases e : j = a
    · simp only [e, if_true, hP]
    · simp only [e, if_false])
  have R2 := Lib.hid (show w.grownBy (w.setCell ⟨b, a, none⟩ (.int .i64 (f a ||| P : Nat))).drew (some b) from ⟨rfl, rfl, rfl, by simp, fun k hk hne => heap_setCell_other w ⟨b, a, none⟩ k _ (fun e => hne (by rw [e]))⟩)
  obtain ⟨z, hz⟩ : ∃ z, z = f a := ⟨_, rfl⟩
  rw [← hz] at hcell hor
  have R := Lib.hid (show EdB (w.setCell ⟨b, a, none⟩ (.int .i64 (z ||| P : Nat))).drew b (fun j => if j = a then f a ||| 2 ^ t else f j) by rw [hz]; exact R.out)
  have R2 := Lib.hid (show w.grownBy (w.setCell ⟨b, a, none⟩ (.int .i64 (z ||| P : Nat))).drew (some b) by rw [hz]; exact R2.out)
  clear hB hP hz hf ha ht
  go_enter Try.func87, Try.ntmps87
  go_wp2_with fail
  go_region
  all_goals
    go_wp2_with fail
    go_end0
    exact ⟨rfl, R.out, R2.out⟩
def hasB (s : Nat) (i : Nat) : Bool := s.testBit i
theorem shr_bit (s k : Nat) (h : s < 2 ^ 63) : bits .and .i64 ((s : Int) / 2 ^ k) 1 = ((if s.testBit k then 1 else 0 : Nat) : Int) := by
  have e : ((s : Int) / 2 ^ k) = ((s / 2 ^ k : Nat) : Int) := by simp
  have h1 : s / 2 ^ k ≤ s := Nat.div_le_self _ _
  rw [e, show (1 : Int) = ((1 : Nat) : Int) from rfl, bits_and_nat _ _ (by omega) (by omega), Nat.testBit_eq_decide_div_mod_eq, Nat.and_one_is_mod]
  have := Nat.mod_two_eq_zero_or_one (s / 2 ^ k)
  rcases this with h | h <;> simp [h]
set_option maxHeartbeats 4000000 in
theorem has_any {w : World} {b : Nat} {f : Nat → Nat} {a t : Nat} (hB : EdB w b f) (ha : a < 7) (ht : t < 7) (hf : f a < 128) (B : Bool) (hb : (f a).testBit t = B) :
    Calls Try.prog 93 #[.pointer (some ⟨b, 0, none⟩), .int .i64 a, .int .i64 t] w fun e w' => e = .returned (.bool B) ∧ w = w' := by
  have hcell := Blk.at hB (show a < 7 from ha)
  have hai : (a : Int) < 7 := by omega
  have ha0 : (0 : Int) ≤ (a : Int) := by omega
  have hti : (t : Int) < 64 := by omega
  have ht0 : (0 : Int) ≤ (t : Int) := by omega
  have t1 := shr_bit (f a) t (by omega)
  rw [hb] at t1
  obtain ⟨z, hz⟩ : ∃ z, z = f a := ⟨_, rfl⟩
  rw [← hz] at hcell t1
  obtain ⟨P, hP, p1, p2, p3⟩ := pow_name t (by omega)
  rw [p1] at t1
  clear hB hz hf ha ht hb hP
  cases B with
  | true =>
    simp only [if_true] at t1
    go_enter Try.func93, Try.ntmps93
    go_wp2_with fail
    go_ret
    exact ⟨rfl, rfl⟩
  | false =>
    simp only [Bool.false_eq_true, if_false] at t1
    go_enter Try.func93, Try.ntmps93
    go_wp2_with fail
    go_ret
    exact ⟨rfl, rfl⟩
#print axioms conflicts_b
#print axioms add_any
#print axioms has_any
end Go.Proofs.Ytpehbffkplmfjaa
