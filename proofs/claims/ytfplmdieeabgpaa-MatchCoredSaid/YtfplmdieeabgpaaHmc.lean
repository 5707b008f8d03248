/- Contracts of validPair, Hom, Contained. -/
import Derived.Test.YtfplmdieeabgpaaHom
namespace Go.Proofs.Ytfplmdieeabgpaa
open Go.RowKit
def PairV (p q : HQ) : Prop := QrV p ∧ QrV q ∧ p.1.length = q.1.length
instance (p q : HQ) : Decidable (PairV p q) := inferInstanceAs (Decidable (_ ∧ _ ∧ _))
/-- two boxes of queries -/
theorem two_boxes {w : World} {h0 b0 h1 b1 : Value} {t : TypeId} {w1 w2 : World} (hw1 : w1 = w.alloc (.cells #[h0, b0] t)) (hw2 : w2 = w1.alloc (.cells #[h1, b1] t)) :
    Below w.heap.size w w2 ∧ (w2.cell? ⟨w.heap.size, 0, none⟩ = some h0 ∧ w2.cell? ⟨w.heap.size, 1, none⟩ = some b0 ∧ w2.cell? ⟨w.heap.size + 1, 0, none⟩ = some h1 ∧ w2.cell? ⟨w.heap.size + 1, 1, none⟩ = some b1) := by
  have k1 : Below w.heap.size w w1 := by rw [hw1]; exact below_alloc _ _
  have k2 : Below w1.heap.size w1 w2 := by rw [hw2]; exact below_alloc _ _
  have z : w1.heap.size = w.heap.size + 1 := by rw [hw1]; simp
  refine ⟨Below.tr k1 k2, Below.keep k2 (by rw [hw1]; exact cell_new w _ _ 0), Below.keep k2 (by rw [hw1]; exact cell_new w _ _ 1), ?_, ?_⟩
  · rw [← z, hw2]; exact cell_new w1 _ _ 0
  · rw [← z, hw2]; exact cell_new w1 _ _ 1
set_option maxRecDepth 100000 in
set_option maxHeartbeats 8000000 in
theorem validPair_any {p q : HQ} (v u : Value) (w : World) (hv : Qr w v p) (hu : Qr w u q) (B : Bool) (hB : decide (PairV p q) = B) :
    Calls Try.prog 73 #[v, u] w fun e w' => e = .returned (.bool B) ∧ Below w.heap.size w w' := by
  obtain ⟨h0, b0, rfl, hh, hb⟩ := hv
  obtain ⟨h1, b1, rfl, hh1, hb1⟩ := hu
  have hV := fun w' (hb' : Below w.heap.size w w') B (hB : decide (QrV p) = B) => qryValid_any p (.agg #[h0, b0]) w' ⟨h0, b0, rfl, hh.keep hb', hb.keep hb'⟩ B hB
  have hV1 := fun w' (hb' : Below w.heap.size w w') B (hB : decide (QrV q) = B) => qryValid_any q (.agg #[h1, b1]) w' ⟨h1, b1, rfl, hh1.keep hb', hb1.keep hb'⟩ B hB
  obtain ⟨ha, hc, rfl⟩ := ints_slice hh
  obtain ⟨ba, bc, rfl⟩ := atoms_slice hb
  obtain ⟨ha1, hc1, rfl⟩ := ints_slice hh1
  obtain ⟨ba1, bc1, rfl⟩ := atoms_slice hb1
  obtain ⟨w1, hw1⟩ : ∃ x, x = w.alloc (.cells #[.slice ha p.1.length hc, .slice ba p.2.length bc] 33) := ⟨_, rfl⟩
  obtain ⟨w2, hw2⟩ : ∃ x, x = w1.alloc (.cells #[.slice ha1 q.1.length hc1, .slice ba1 q.2.length bc1] 33) := ⟨_, rfl⟩
  obtain ⟨k2, g0, g1, g2, g3⟩ := two_boxes hw1 hw2
  have HB := Lib.hid k2
  have Hw1 := Lib.hid hw1
  have Hw2 := Lib.hid hw2
  have HV1 := Lib.hid hV1
  clear hh hh1 hb hb1 hw1 hw2 hV1
  by_cases c : QrV p
  · have HV := Lib.hid (hV _ HB.out true (decide_eq_true c))
    by_cases c1 : QrV q
    · have HV1 := Lib.hid (fun w' hb' => HV1.out w' hb' true (decide_eq_true c1))
      have hB' : B = ((p.1.length : Int) == (q.1.length : Int)) := by
        rw [← hB]
        by_cases e : p.1.length = q.1.length
        · rw [decide_eq_true ⟨c, c1, e⟩, e]; simp
        · rw [decide_eq_false (fun h => e h.2.2)]; symm; rw [beq_eq_false_iff_ne]; omega
      have HR := Lib.hid hB'
      clear c c1 hB hB' hV
      go_enter Try.func73, Try.ntmps73
      go_upto_region 1 with fail
      rw [← Hw1.out, ← Hw2.out]
      clear Hw1 Hw2
      go_wp2_with fail
      refine HV.out.mono ?_
      rintro e w3 ⟨rfl, hb3⟩
      have g0 := Below.keep hb3 g0
      have g2 := Below.keep hb3 g2
      have g3 := Below.keep hb3 g3
      have HB3 := Lib.hid (Below.tr HB.out hb3)
      clear hb3 g1
      go_wp2_with fail
      refine (HV1.out _ HB3.out).mono ?_
      rintro e w4 ⟨rfl, hb4⟩
      have g0 := Below.keep hb4 g0
      have g2 := Below.keep hb4 g2
      have HB4 := Lib.hid (Below.tr HB3.out hb4)
      clear hb4 g3
      go_wp2_with fail
      go_ret
      exact ⟨by rw [HR.out]; rfl, HB4.out⟩
    · have HV1 := Lib.hid (fun w' hb' => HV1.out w' hb' false (decide_eq_false c1))
      obtain rfl : B = false := by rw [← hB]; exact decide_eq_false fun h => c1 h.2.1
      clear c c1 hB hV
      go_enter Try.func73, Try.ntmps73
      go_upto_region 1 with fail
      rw [← Hw1.out, ← Hw2.out]
      clear Hw1 Hw2
      go_wp2_with fail
      refine HV.out.mono ?_
      rintro e w3 ⟨rfl, hb3⟩
      have g2 := Below.keep hb3 g2
      have g3 := Below.keep hb3 g3
      have HB3 := Lib.hid (Below.tr HB.out hb3)
      clear hb3 g1 g0
      go_wp2_with fail
      refine (HV1.out _ HB3.out).mono ?_
      rintro e w4 ⟨rfl, hb4⟩
      have HB4 := Lib.hid (Below.tr HB3.out hb4)
      clear hb4 g3 g2
      go_wp2_with fail
      go_ret
      exact ⟨rfl, HB4.out⟩
  · have HV := Lib.hid (hV _ HB.out false (decide_eq_false c))
    obtain rfl : B = false := by rw [← hB]; exact decide_eq_false fun h => c h.1
    clear c hB hV HV1
    go_enter Try.func73, Try.ntmps73
    go_upto_region 1 with fail
    rw [← Hw1.out, ← Hw2.out]
    clear Hw1 Hw2
    go_wp2_with fail
    refine HV.out.mono ?_
    rintro e w3 ⟨rfl, hb3⟩
    have HB3 := Lib.hid (Below.tr HB.out hb3)
    clear hb3 g1 g0 g2 g3
    go_wp2_with fail
    go_ret
    exact ⟨rfl, HB3.out⟩
/-- the first homomorphism -/
def BestH (p q : HQ) (h : List Int) : Prop := IsH p q h ∧ ∀ h', IsH p q h' → cmpL h h' ≤ 0
def HomE (p q : HQ) (w : World) (e : Ending) (w' : World) : Prop :=
  (¬ PairV p q ∧ e = .returned (.tuple #[.slice none 0 0, .int .i64 2])) ∨ (PairV p q ∧ (∀ h, ¬ IsH p q h) ∧ e = .returned (.tuple #[.slice none 0 0, .int .i64 5])) ∨
    (PairV p q ∧ ∃ u h, e = .returned (.tuple #[u, .int .i64 0]) ∧ OwnInts w.heap.size w' u h ∧ BestH p q h)
theorem isH_len {p q : HQ} {h : List Int} (hh : IsH p q h) : h.length = 8 := by
  obtain ⟨v, h1, rfl, _⟩ := hh
  simp [trm, h1.len]
set_option maxRecDepth 100000 in
set_option maxHeartbeats 8000000 in
theorem homE_any {p q : HQ} (v u : Value) (w : World) (hv : Qr w v p) (hu : Qr w u q) :
    Calls Try.prog 27 #[v, u] w fun e w' => HomE p q w e w' ∧ Below w.heap.size w w' := by
  obtain ⟨h0, b0, rfl, hh, hb⟩ := hv
  obtain ⟨h1, b1, rfl, hh1, hb1⟩ := hu
  have hV := fun w' (hb' : Below w.heap.size w w') B (hB : decide (PairV p q) = B) => validPair_any (p := p) (q := q) (.agg #[h0, b0]) (.agg #[h1, b1]) w' ⟨h0, b0, rfl, hh.keep hb', hb.keep hb'⟩ ⟨h1, b1, rfl, hh1.keep hb', hb1.keep hb'⟩ B hB
  have hH := fun (c : PairV p q) w' (hb' : Below w.heap.size w w') => hom_any c.1 c.2.1 c.2.2 (.agg #[h0, b0]) (.agg #[h1, b1]) w' ⟨h0, b0, rfl, hh.keep hb', hb.keep hb'⟩ ⟨h1, b1, rfl, hh1.keep hb', hb1.keep hb'⟩
  obtain ⟨ha, hc, rfl⟩ := ints_slice hh
  obtain ⟨ba, bc, rfl⟩ := atoms_slice hb
  obtain ⟨ha1, hc1, rfl⟩ := ints_slice hh1
  obtain ⟨ba1, bc1, rfl⟩ := atoms_slice hb1
  obtain ⟨w1, hw1⟩ : ∃ x, x = w.alloc (.cells #[.slice ha p.1.length hc, .slice ba p.2.length bc] 33) := ⟨_, rfl⟩
  obtain ⟨w2, hw2⟩ : ∃ x, x = w1.alloc (.cells #[.slice ha1 q.1.length hc1, .slice ba1 q.2.length bc1] 33) := ⟨_, rfl⟩
  obtain ⟨k2, g0, g1, g2, g3⟩ := two_boxes hw1 hw2
  have HB := Lib.hid k2
  have Hw1 := Lib.hid hw1
  have Hw2 := Lib.hid hw2
  clear hh hh1 hb hb1 hw1 hw2
  by_cases c : PairV p q
  · have HV := Lib.hid (hV _ HB.out true (decide_eq_true c))
    have HH := Lib.hid (hH c)
    have Hc := Lib.hid c
    have hnil := runeq_nil
    clear hV hH c
    go_enter Try.func27, Try.ntmps27
    go_upto_region 1 with fail
    rw [← Hw1.out, ← Hw2.out]
    clear Hw1 Hw2
    go_wp2_with fail
    refine HV.out.mono ?_
    rintro e w3 ⟨rfl, hb3⟩
    have g0 := Below.keep hb3 g0
    have g1 := Below.keep hb3 g1
    have g2 := Below.keep hb3 g2
    have g3 := Below.keep hb3 g3
    have HB3 := Lib.hid (Below.tr HB.out hb3)
    clear hb3
    go_wp2_with fail
    refine (HH.out _ HB3.out).mono ?_
    rintro e w4 ⟨y, rfl, hF, hb4⟩
    have HB4 := Lib.hid (Below.tr HB3.out hb4)
    clear hb4 g0 g1 g2 g3
    rcases hF with ⟨rfl, hno⟩ | ⟨fg, fc, h, rfl, ho, hP, hmin⟩
    · have R := Lib.hid (show HomE p q w (.returned (.tuple #[.slice none 0 0, .int .i64 5])) w4 from .inr (.inl ⟨Hc.out, hno, rfl⟩))
      clear hno
      go_wp2_with fail
      go_ret2
      exact ⟨R.out, HB4.out⟩
    · have R := Lib.hid (show HomE p q w (.returned (.tuple #[.slice (some fg) 8 fc, .int .i64 0])) w4 from .inr (.inr ⟨Hc.out, _, h, rfl, ho.base HB3.out.size, hP, hmin⟩))
      clear ho hP hmin
      go_wp2_with fail
      go_ret2
      exact ⟨R.out, HB4.out⟩
  · have HV := Lib.hid (hV _ HB.out false (decide_eq_false c))
    have R := Lib.hid (fun w4 => show HomE p q w (.returned (.tuple #[.slice none 0 0, .int .i64 2])) w4 from .inl ⟨c, rfl⟩)
    clear hV hH c
    go_enter Try.func27, Try.ntmps27
    go_upto_region 1 with fail
    rw [← Hw1.out, ← Hw2.out]
    clear Hw1 Hw2
    go_wp2_with fail
    refine HV.out.mono ?_
    rintro e w3 ⟨rfl, hb3⟩
    have HB3 := Lib.hid (Below.tr HB.out hb3)
    clear hb3 g0 g1 g2 g3
    go_wp2_with fail
    go_ret2
    exact ⟨R.out _, HB3.out⟩
theorem runne_nil (w : World) (a : Option Addr) (n c : Nat) : (binOp .neq 22 (.slice a n c) (.slice none 0 0)).run Try.prog w = .ok (.bool (!a.isNone)) w := by
  simp only [binOp]
  simp [Op.equal, Op.maxDepth, Lib.run_equalIn_slice_nil w 9999 22 3 a n c 0 0 Try.underlying22]
/-- Contained: is there a homomorphism from q to p -/
def ContE (p q : HQ) (e : Ending) : Prop :=
  (¬ PairV p q ∧ e = .returned (.tuple #[.bool false, .int .i64 2])) ∨ (PairV p q ∧ ∃ B, (B = true ↔ ∃ h, IsH q p h) ∧ e = .returned (.tuple #[.bool B, .int .i64 0]))
set_option maxRecDepth 100000 in
set_option maxHeartbeats 8000000 in
theorem contained_any {p q : HQ} (v u : Value) (w : World) (hv : Qr w v p) (hu : Qr w u q) :
    Calls Try.prog 32 #[v, u] w fun e w' => ContE p q e ∧ Below w.heap.size w w' := by
  obtain ⟨h0, b0, rfl, hh, hb⟩ := hv
  obtain ⟨h1, b1, rfl, hh1, hb1⟩ := hu
  have hV := fun w' (hb' : Below w.heap.size w w') B (hB : decide (PairV p q) = B) => validPair_any (p := p) (q := q) (.agg #[h0, b0]) (.agg #[h1, b1]) w' ⟨h0, b0, rfl, hh.keep hb', hb.keep hb'⟩ ⟨h1, b1, rfl, hh1.keep hb', hb1.keep hb'⟩ B hB
  have hH := fun (c : PairV p q) w' (hb' : Below w.heap.size w w') => hom_any c.2.1 c.1 c.2.2.symm (.agg #[h1, b1]) (.agg #[h0, b0]) w' ⟨h1, b1, rfl, hh1.keep hb', hb1.keep hb'⟩ ⟨h0, b0, rfl, hh.keep hb', hb.keep hb'⟩
  obtain ⟨ha, hc, rfl⟩ := ints_slice hh
  obtain ⟨ba, bc, rfl⟩ := atoms_slice hb
  obtain ⟨ha1, hc1, rfl⟩ := ints_slice hh1
  obtain ⟨ba1, bc1, rfl⟩ := atoms_slice hb1
  obtain ⟨w1, hw1⟩ : ∃ x, x = w.alloc (.cells #[.slice ha p.1.length hc, .slice ba p.2.length bc] 33) := ⟨_, rfl⟩
  obtain ⟨w2, hw2⟩ : ∃ x, x = w1.alloc (.cells #[.slice ha1 q.1.length hc1, .slice ba1 q.2.length bc1] 33) := ⟨_, rfl⟩
  obtain ⟨k2, g0, g1, g2, g3⟩ := two_boxes hw1 hw2
  have HB := Lib.hid k2
  have Hw1 := Lib.hid hw1
  have Hw2 := Lib.hid hw2
  clear hh hh1 hb hb1 hw1 hw2
  by_cases c : PairV p q
  · have HV := Lib.hid (hV _ HB.out true (decide_eq_true c))
    have HH := Lib.hid (hH c)
    have Hc := Lib.hid c
    have hnil := runne_nil
    clear hV hH c
    go_enter Try.func32, Try.ntmps32
    go_upto_region 1 with fail
    rw [← Hw1.out, ← Hw2.out]
    clear Hw1 Hw2
    go_wp2_with fail
    refine HV.out.mono ?_
    rintro e w3 ⟨rfl, hb3⟩
    have g0 := Below.keep hb3 g0
    have g1 := Below.keep hb3 g1
    have g2 := Below.keep hb3 g2
    have g3 := Below.keep hb3 g3
    have HB3 := Lib.hid (Below.tr HB.out hb3)
    clear hb3
    go_wp2_with fail
    refine (HH.out _ HB3.out).mono ?_
    rintro e w4 ⟨y, rfl, hF, hb4⟩
    have HB4 := Lib.hid (Below.tr HB3.out hb4)
    clear hb4 g0 g1 g2 g3
    rcases hF with ⟨rfl, hno⟩ | ⟨fg, fc, h, rfl, ho, hP, hmin⟩
    · have R := Lib.hid (show ContE p q (.returned (.tuple #[.bool false, .int .i64 0])) from .inr ⟨Hc.out, false, ⟨fun h => (by cases h), fun ⟨h, k⟩ => absurd k (hno h)⟩, rfl⟩)
      clear hno
      go_wp2_with fail
      go_ret2
      exact ⟨R.out, HB4.out⟩
    · have R := Lib.hid (show ContE p q (.returned (.tuple #[.bool true, .int .i64 0])) from .inr ⟨Hc.out, true, ⟨fun _ => ⟨h, hP⟩, fun _ => rfl⟩, rfl⟩)
      clear ho hP hmin
      go_wp2_with fail
      go_ret2
      exact ⟨R.out, HB4.out⟩
  · have HV := Lib.hid (hV _ HB.out false (decide_eq_false c))
    have R := Lib.hid (show ContE p q (.returned (.tuple #[.bool false, .int .i64 2])) from .inl ⟨c, rfl⟩)
    clear hV hH c
    go_enter Try.func32, Try.ntmps32
    go_upto_region 1 with fail
    rw [← Hw1.out, ← Hw2.out]
    clear Hw1 Hw2
    go_wp2_with fail
    refine HV.out.mono ?_
    rintro e w3 ⟨rfl, hb3⟩
    have HB3 := Lib.hid (Below.tr HB.out hb3)
    clear hb3 g0 g1 g2 g3
    go_wp2_with fail
    go_ret2
    exact ⟨R.out, HB3.out⟩
#print axioms homE_any
#print axioms contained_any
end Go.Proofs.Ytfplmdieeabgpaa
