/- Contracts of validPair, Hom, Contained. Math: homomorphisms. -/
import Derived.Test.YtfplmdieeabgpaaHom
namespace Go.Proofs.Ytfplmdieeabgpaa
open Go.RowKit
def PairV (p q : HQ) : Prop := QrV p ∧ QrV q ∧ p.1.length = q.1.length
instance (p q : HQ) : Decidable (PairV p q) := inferInstanceAs (Decidable (_ ∧ _ ∧ _))
/-- two boxes of queries -/
theorem two_boxes {w : World} {h0 b0 h1 b1 : Value} {t : TypeId} {w1 w2 : World} (hw1 : w1 = w.alloc (.cells #[h0, b0] t)) (hw2 : w2 = w1.alloc (.cells #[h1, b1] t)) :
    Below w.heap.size w w2 ∧ (w2.cell? ⟨w.heap.size, 0, none⟩ = some h0 ∧ w2.cell? ⟨w.heap.size, 1, none⟩ = some b0 ∧ w2.cell? ⟨w.heap.size + 1, 0, none⟩ = some h1 ∧ w2.cell? ⟨w.heap.size + 1, 1, none⟩ = some b1) := by
  have k1 : Below w.heap.size w w1 := by rw [hw1]; exact below_alloc _ _
  have k2 : Below w1.heap.size w1 w2 := by rw [hw2]; exact below_alloc _ _
  have z : w1.heap.size = w.heap.size + 1 := by rw [hw1]; simp
  refine ⟨Below.tr k1 k2, Below.keep k2 (by rw [hw1]; exact cell_new w _ _ 0), Below.keep k2 (by rw [hw1]; exact cell_new w _ _ 1), ?_, ?_⟩
  · rw [← z, hw2]; exact cell_new w1 _ _ 0
  · rw [← z, hw2]; exact cell_new w1 _ _ 1
set_option maxRecDepth 100000 in
set_option maxHeartbeats 8000000 in
theorem validPair_any {p q : HQ} (v u : Value) (w : World) (hv : Qr w v p) (hu : Qr w u q) (B : Bool) (hB : decide (PairV p q) = B) :
    Calls Try.prog 73 #[v, u] w fun e w' => e = .returned (.bool B) ∧ Below w.heap.size w w' := by
  obtain ⟨h0, b0, rfl, hh, hb⟩ := hv
  obtain ⟨h1, b1, rfl, hh1, hb1⟩ := hu
  have hV := fun w' (hb' : Below w.heap.size w w') B (hB : decide (QrV p) = B) => qryValid_any p (.agg #[h0, b0]) w' ⟨h0, b0, rfl, hh.keep hb', hb.keep hb'⟩ B hB
  have hV1 := fun w' (hb' : Below w.heap.size w w') B (hB : decide (QrV q) = B) => qryValid_any q (.agg #[h1, b1]) w' ⟨h1, b1, rfl, hh1.keep hb', hb1.keep hb'⟩ B hB
  obtain ⟨ha, hc, rfl⟩ := ints_slice hh
  obtain ⟨ba, bc, rfl⟩ := atoms_slice hb
  obtain ⟨ha1, hc1, rfl⟩ := ints_slice hh1
  obtain ⟨ba1, bc1, rfl⟩ := atoms_slice hb1
  obtain ⟨w1, hw1⟩ : ∃ x, x = w.alloc (.cells #[.slice ha p.1.length hc, .slice ba p.2.length bc] 33) := ⟨_, rfl⟩
  obtain ⟨w2, hw2⟩ : ∃ x, x = w1.alloc (.cells #[.slice ha1 q.1.length hc1, .slice ba1 q.2.length bc1] 33) := ⟨_, rfl⟩
  obtain ⟨k2, g0, g1, g2, g3⟩ := two_boxes hw1 hw2
  have HB := Lib.hid k2
  have Hw1 := Lib.hid hw1
  have Hw2 := Lib.hid hw2
  have HV1 := Lib.hid hV1
  clear hh hh1 hb hb1 hw1 hw2 hV1
  by_cases c : QrV p
  · have HV := Lib.hid (hV _ HB.out true (decide_eq_true c))
    by_cases c1 : QrV q
    · have HV1 := Lib.hid (fun w' hb' => HV1.out w' hb' true (decide_eq_true c1))
      have hB' : B = ((p.1.length : Int) == (q.1.length : Int)) := by
        rw [← hB]
        by_cases e : p.1.length = q.1.length
        · rw [decide_eq_true ⟨c, c1, e⟩, e]; simp
        · rw [decide_eq_false (fun h => e h.2.2)]; symm; rw [beq_eq_false_iff_ne]; omega
      have HR := Lib.hid hB'
      clear c c1 hB hB' hV
      go_enter Try.func73, Try.ntmps73
      go_upto_region 1 with fail
      rw [← Hw1.out, ← Hw2.out]
      clear Hw1 Hw2
      go_wp2_with fail
      refine HV.out.mono ?_
      rintro e w3 ⟨rfl, hb3⟩
      have g0 := Below.keep hb3 g0
      have g2 := Below.keep hb3 g2
      have g3 := Below.keep hb3 g3
      have HB3 := Lib.hid (Below.tr HB.out hb3)
      clear hb3 g1
      go_wp2_with fail
      refine (HV1.out _ HB3.out).mono ?_
      rintro e w4 ⟨rfl, hb4⟩
      have g0 := Below.keep hb4 g0
      have g2 := Below.keep hb4 g2
      have HB4 := Lib.hid (Below.tr HB3.out hb4)
      clear hb4 g3
      go_wp2_with fail
      go_ret
      exact ⟨by rw [HR.out]; rfl, HB4.out⟩
    · have HV1 := Lib.hid (fun w' hb' => HV1.out w' hb' false (decide_eq_false c1))
      obtain rfl : B = false := by rw [← hB]; exact decide_eq_false fun h => c1 h.2.1
      clear c c1 hB hV
      go_enter Try.func73, Try.ntmps73
      go_upto_region 1 with fail
      rw [← Hw1.out, ← Hw2.out]
      clear Hw1 Hw2
      go_wp2_with fail
      refine HV.out.mono ?_
      rintro e w3 ⟨rfl, hb3⟩
      have g2 := Below.keep hb3 g2
      have g3 := Below.keep hb3 g3
      have HB3 := Lib.hid (Below.tr HB.out hb3)
      clear hb3 g1 g0
      go_wp2_with fail
      refine (HV1.out _ HB3.out).mono ?_
      rintro e w4 ⟨rfl, hb4⟩
      have HB4 := Lib.hid (Below.tr HB3.out hb4)
      clear hb4 g3 g2
      go_wp2_with fail
      go_ret
      exact ⟨rfl, HB4.out⟩
  · have HV := Lib.hid (hV _ HB.out false (decide_eq_false c))
    obtain rfl : B = false := by rw [← hB]; exact decide_eq_false fun h => c h.1
    clear c hB hV HV1
    go_enter Try.func73, Try.ntmps73
    go_upto_region 1 with fail
    rw [← Hw1.out, ← Hw2.out]
    clear Hw1 Hw2
    go_wp2_with fail
    refine HV.out.mono ?_
    rintro e w3 ⟨rfl, hb3⟩
    have HB3 := Lib.hid (Below.tr HB.out hb3)
    clear hb3 g1 g0 g2 g3
    go_wp2_with fail
    go_ret
    exact ⟨rfl, HB3.out⟩
/-- the first homomorphism -/
def BestH (p q : HQ) (h : List Int) : Prop := IsH p q h ∧ ∀ h', IsH p q h' → cmpL h h' ≤ 0
def HomE (p q : HQ) (w : World) (e : Ending) (w' : World) : Prop :=
  (¬ PairV p q ∧ e = .returned (.tuple #[.slice none 0 0, .int .i64 2])) ∨ (PairV p q ∧ (∀ h, ¬ IsH p q h) ∧ e = .returned (.tuple #[.slice none 0 0, .int .i64 5])) ∨
    (PairV p q ∧ ∃ u h, e = .returned (.tuple #[u, .int .i64 0]) ∧ OwnInts w.heap.size w' u h ∧ BestH p q h)
theorem isH_len {p q : HQ} {h : List Int} (hh : IsH p q h) : h.length = 8 := by
  obtain ⟨v, h1, rfl, _⟩ := hh
  simp [trm, h1.len]
set_option maxRecDepth 100000 in
set_option maxHeartbeats 8000000 in
theorem homE_any {p q : HQ} (v u : Value) (w : World) (hv : Qr w v p) (hu : Qr w u q) :
    Calls Try.prog 27 #[v, u] w fun e w' => HomE p q w e w' ∧ Below w.heap.size w w' := by
  obtain ⟨h0, b0, rfl, hh, hb⟩ := hv
  obtain ⟨h1, b1, rfl, hh1, hb1⟩ := hu
  have hV := fun w' (hb' : Below w.heap.size w w') B (hB : decide (PairV p q) = B) => validPair_any (p := p) (q := q) (.agg #[h0, b0]) (.agg #[h1, b1]) w' ⟨h0, b0, rfl, hh.keep hb', hb.keep hb'⟩ ⟨h1, b1, rfl, hh1.keep hb', hb1.keep hb'⟩ B hB
  have hH := fun (c : PairV p q) w' (hb' : Below w.heap.size w w') => hom_any c.1 c.2.1 c.2.2 (.agg #[h0, b0]) (.agg #[h1, b1]) w' ⟨h0, b0, rfl, hh.keep hb', hb.keep hb'⟩ ⟨h1, b1, rfl, hh1.keep hb', hb1.keep hb'⟩
  obtain ⟨ha, hc, rfl⟩ := ints_slice hh
  obtain ⟨ba, bc, rfl⟩ := atoms_slice hb
  obtain ⟨ha1, hc1, rfl⟩ := ints_slice hh1
  obtain ⟨ba1, bc1, rfl⟩ := atoms_slice hb1
  obtain ⟨w1, hw1⟩ : ∃ x, x = w.alloc (.cells #[.slice ha p.1.length hc, .slice ba p.2.length bc] 33) := ⟨_, rfl⟩
  obtain ⟨w2, hw2⟩ : ∃ x, x = w1.alloc (.cells #[.slice ha1 q.1.length hc1, .slice ba1 q.2.length bc1] 33) := ⟨_, rfl⟩
  obtain ⟨k2, g0, g1, g2, g3⟩ := two_boxes hw1 hw2
  have HB := Lib.hid k2
  have Hw1 := Lib.hid hw1
  have Hw2 := Lib.hid hw2
  clear hh hh1 hb hb1 hw1 hw2
  by_cases c : PairV p q
  · have HV := Lib.hid (hV _ HB.out true (decide_eq_true c))
    have HH := Lib.hid (hH c)
    have Hc := Lib.hid c
    have hnil := runeq_nil
    clear hV hH c
    go_enter Try.func27, Try.ntmps27
    go_upto_region 1 with fail
    rw [← Hw1.out, ← Hw2.out]
    clear Hw1 Hw2
    go_wp2_with fail
    refine HV.out.mono ?_
    rintro e w3 ⟨rfl, hb3⟩
    have g0 := Below.keep hb3 g0
    have g1 := Below.keep hb3 g1
    have g2 := Below.keep hb3 g2
    have g3 := Below.keep hb3 g3
    have HB3 := Lib.hid (Below.tr HB.out hb3)
    clear hb3
    go_wp2_with fail
    refine (HH.out _ HB3.out).mono ?_
    rintro e w4 ⟨y, rfl, hF, hb4⟩
    have HB4 := Lib.hid (Below.tr HB3.out hb4)
    clear hb4 g0 g1 g2 g3
    rcases hF with ⟨rfl, hno⟩ | ⟨fg, fc, h, rfl, ho, hP, hmin⟩
    · have R := Lib.hid (show HomE p q w (.returned (.tuple #[.slice none 0 0, .int .i64 5])) w4 from .inr (.inl ⟨Hc.out, hno, rfl⟩))
      clear hno
      go_wp2_with fail
      go_ret2
      exact ⟨R.out, HB4.out⟩
    · have R := Lib.hid (show HomE p q w (.returned (.tuple #[.slice (some fg) 8 fc, .int .i64 0])) w4 from .inr (.inr ⟨Hc.out, _, h, rfl, ho.base HB3.out.size, hP, hmin⟩))
      clear ho hP hmin
      go_wp2_with fail
      go_ret2
      exact ⟨R.out, HB4.out⟩
  · have HV := Lib.hid (hV _ HB.out false (decide_eq_false c))
    have R := Lib.hid (fun w4 => show HomE p q w (.returned (.tuple #[.slice none 0 0, .int .i64 2])) w4 from .inl ⟨c, rfl⟩)
    clear hV hH c
    go_enter Try.func27, Try.ntmps27
    go_upto_region 1 with fail
    rw [← Hw1.out, ← Hw2.out]
    clear Hw1 Hw2
    go_wp2_with fail
    refine HV.out.mono ?_
    rintro e w3 ⟨rfl, hb3⟩
    have HB3 := Lib.hid (Below.tr HB.out hb3)
    clear hb3 g0 g1 g2 g3
    go_wp2_with fail
    go_ret2
    exact ⟨R.out _, HB3.out⟩
theorem runne_nil (w : World) (a : Option Addr) (n c : Nat) : (binOp .neq 22 (.slice a n c) (.slice none 0 0)).run Try.prog w = .ok (.bool (!a.isNone)) w := by
  simp only [binOp]
  simp [Op.equal, Op.maxDepth, Lib.run_equalIn_slice_nil w 9999 22 3 a n c 0 0 Try.underlying22]
/-- Contained: is there a homomorphism from q to p -/
def ContE (p q : HQ) (e : Ending) : Prop :=
  (¬ PairV p q ∧ e = .returned (.tuple #[.bool false, .int .i64 2])) ∨ (PairV p q ∧ ∃ B, (B = true ↔ ∃ h, IsH q p h) ∧ e = .returned (.tuple #[.bool B, .int .i64 0]))
set_option maxRecDepth 100000 in
set_option maxHeartbeats 8000000 in
theorem contained_any {p q : HQ} (v u : Value) (w : World) (hv : Qr w v p) (hu : Qr w u q) :
    Calls Try.prog 32 #[v, u] w fun e w' => ContE p q e ∧ Below w.heap.size w w' := by
  obtain ⟨h0, b0, rfl, hh, hb⟩ := hv
  obtain ⟨h1, b1, rfl, hh1, hb1⟩ := hu
  have hV := fun w' (hb' : Below w.heap.size w w') B (hB : decide (PairV p q) = B) => validPair_any (p := p) (q := q) (.agg #[h0, b0]) (.agg #[h1, b1]) w' ⟨h0, b0, rfl, hh.keep hb', hb.keep hb'⟩ ⟨h1, b1, rfl, hh1.keep hb', hb1.keep hb'⟩ B hB
  have hH := fun (c : PairV p q) w' (hb' : Below w.heap.size w w') => hom_any c.2.1 c.1 c.2.2.symm (.agg #[h1, b1]) (.agg #[h0, b0]) w' ⟨h1, b1, rfl, hh1.keep hb', hb1.keep hb'⟩ ⟨h0, b0, rfl, hh.keep hb', hb.keep hb'⟩
  obtain ⟨ha, hc, rfl⟩ := ints_slice hh
  obtain ⟨ba, bc, rfl⟩ := atoms_slice hb
  obtain ⟨ha1, hc1, rfl⟩ := ints_slice hh1
  obtain ⟨ba1, bc1, rfl⟩ := atoms_slice hb1
  obtain ⟨w1, hw1⟩ : ∃ x, x = w.alloc (.cells #[.slice ha p.1.length hc, .slice ba p.2.length bc] 33) := ⟨_, rfl⟩
  obtain ⟨w2, hw2⟩ : ∃ x, x = w1.alloc (.cells #[.slice ha1 q.1.length hc1, .slice ba1 q.2.length bc1] 33) := ⟨_, rfl⟩
  obtain ⟨k2, g0, g1, g2, g3⟩ := two_boxes hw1 hw2
  have HB := Lib.hid k2
  have Hw1 := Lib.hid hw1
  have Hw2 := Lib.hid hw2
  clear hh hh1 hb hb1 hw1 hw2
  by_cases c : PairV p q
  · have HV := Lib.hid (hV _ HB.out true (decide_eq_true c))
    have HH := Lib.hid (hH c)
    have Hc := Lib.hid c
    have hnil := runne_nil
    clear hV hH c
    go_enter Try.func32, Try.ntmps32
    go_upto_region 1 with fail
    rw [← Hw1.out, ← Hw2.out]
    clear Hw1 Hw2
    go_wp2_with fail
    refine HV.out.mono ?_
    rintro e w3 ⟨rfl, hb3⟩
    have g0 := Below.keep hb3 g0
    have g1 := Below.keep hb3 g1
    have g2 := Below.keep hb3 g2
    have g3 := Below.keep hb3 g3
    have HB3 := Lib.hid (Below.tr HB.out hb3)
    clear hb3
    go_wp2_with fail
    refine (HH.out _ HB3.out).mono ?_
    rintro e w4 ⟨y, rfl, hF, hb4⟩
    have HB4 := Lib.hid (Below.tr HB3.out hb4)
    clear hb4 g0 g1 g2 g3
    rcases hF with ⟨rfl, hno⟩ | ⟨fg, fc, h, rfl, ho, hP, hmin⟩
    · have R := Lib.hid (show ContE p q (.returned (.tuple #[.bool false, .int .i64 0])) from .inr ⟨Hc.out, false, ⟨fun h => (by cases h), fun ⟨h, k⟩ => absurd k (hno h)⟩, rfl⟩)
      clear hno
      go_wp2_with fail
      go_ret2
      exact ⟨R.out, HB4.out⟩
    · have R := Lib.hid (show ContE p q (.returned (.tuple #[.bool true, .int .i64 0])) from .inr ⟨Hc.out, true, ⟨fun _ => ⟨h, hP⟩, fun _ => rfl⟩, rfl⟩)
      clear ho hP hmin
      go_wp2_with fail
      go_ret2
      exact ⟨R.out, HB4.out⟩
  · have HV := Lib.hid (hV _ HB.out false (decide_eq_false c))
    have R := Lib.hid (show ContE p q (.returned (.tuple #[.bool false, .int .i64 2])) from .inl ⟨c, rfl⟩)
    clear hV hH c
    go_enter Try.func32, Try.ntmps32
    go_upto_region 1 with fail
    rw [← Hw1.out, ← Hw2.out]
    clear Hw1 Hw2
    go_wp2_with fail
    refine HV.out.mono ?_
    rintro e w3 ⟨rfl, hb3⟩
    have HB3 := Lib.hid (Below.tr HB.out hb3)
    clear hb3 g0 g1 g2 g3
    go_wp2_with fail
    go_ret2
    exact ⟨R.out, HB3.out⟩
#print axioms homE_any
#print axioms contained_any
theorem vsB_bit (l : List HAt) (i : Nat) : ∀ k, k ≤ l.length → ((vsB l k).testBit i = true ↔ i < 8 ∧ ∃ j, j < k ∧ (i : Int) ∈ aA l j)
  | 0, _ => by simp [vsB]
  | k + 1, hk => by
    rw [vsB, Nat.testBit_or, Bool.or_eq_true, vsB_bit l i k (by omega)]
    unfold vsA
    rw [vsT_bit _ _ _ (Nat.le_refl _), List.take_length]
    constructor
    · rintro (⟨a, j, hj, h⟩ | ⟨a, h⟩)
      · exact ⟨a, j, by omega, h⟩
      · exact ⟨a, k, by omega, h⟩
    · rintro ⟨a, j, hj, h⟩
      by_cases e : j = k
      · subst e; exact .inr ⟨a, h⟩
      · exact .inl ⟨a, j, by omega, h⟩
theorem vsQ_bit (l : List HAt) (i : Nat) : (vsQ l).testBit i = true ↔ i < 8 ∧ occ l i := by
  unfold vsQ
  rw [vsB_bit l i _ (Nat.le_refl _)]
  refine and_congr_right fun _ => ⟨fun ⟨j, hj, h⟩ => ⟨l[j], List.getElem_mem hj, by rw [at_get hj]; exact h⟩, fun ⟨a, ha, h⟩ => ?_⟩
  obtain ⟨j, hj, rfl⟩ := List.getElem_of_mem ha
  exact ⟨j, hj, by rw [at_get hj] at h; exact h⟩
/-- the term that a term leads to -/
def app (h : List Int) (t : Int) : Int := if 0 ≤ t then h.getD t.toNat 0 else t
structure HomP (p q : HQ) (h : List Int) : Prop where
  len : h.length = 8
  img : ∀ a, a ∈ p.2 → (a.1, a.2.map (app h)) ∈ q.2
  out : ∀ i, i < 8 → ¬ occ p.2 i → h.getD i 0 = 99
  hd : agr h p.1 q.1
theorem thw_fz {t : Int} (h : -9 ≤ t ∧ t ≤ 7) : thw (numOf fz t) = t ∧ numOf fz t ≠ 0 := by
  obtain ⟨h1, h2⟩ := numOf_fz (t := t) h
  by_cases c : 0 ≤ t
  · rw [h1 c]; unfold thw; rw [if_pos (by omega)]; omega
  · rw [h2 (by omega)]; unfold thw; rw [if_neg (by omega)]; omega
theorem getD_map0 {v : List Int} {f : Int → Int} {i : Nat} (hi : i < v.length) : (v.map f).getD i 0 = f (v.getD i 0) := by
  rw [List.getD_eq_getElem?_getD, List.getElem?_map, List.getElem?_eq_getElem hi, List.getD_eq_getElem?_getD, List.getElem?_eq_getElem hi]; rfl
theorem occ_of {body : List At'} {a : At'} (ha : a ∈ body) {t : Int} (ht : t ∈ a.2) (h0 : 0 ≤ t) : occ body t.toNat := ⟨a, ha, by rw [Int.toNat_of_nonneg h0]; exact ht⟩
open Classical in
/-- a match or a homomorphism from what is given to the variables that occur -/
noncomputable def mkV (body : List At') (f : Nat → Int) : List Int := (List.range 8).map fun i => if occ body i then f i else 0
theorem mkV_len (body : List At') (f : Nat → Int) : (mkV body f).length = 8 := by simp [mkV]
theorem mkV_at {body : List At'} {f : Nat → Int} {i : Nat} (hi : i < 8) (h : occ body i) : (mkV body f).getD i 0 = f i := by
  unfold mkV
  rw [List.getD_eq_getElem?_getD, List.getElem?_map, List.getElem?_range hi]
  simp [h]
theorem mkV_no {body : List At'} {f : Nat → Int} {i : Nat} (hi : i < 8) (h : ¬ occ body i) : (mkV body f).getD i 0 = 0 := by
  unfold mkV
  rw [List.getD_eq_getElem?_getD, List.getElem?_map, List.getElem?_range hi]
  simp [h]
theorem homP_of {p q : HQ} (hp : QrV p) (hq : QrV q) {h : List Int} (hh : IsH p q h) : HomP p q h := by
  obtain ⟨v, hv, rfl, ha⟩ := hh
  have h8 := hv.len
  refine ⟨by simp [trm, h8], fun a hap => ?_, fun i hi ho => ?_, ha⟩
  · obtain ⟨f, hf, e1, e2⟩ := hv.fit a hap
    obtain ⟨b, hb, rfl⟩ := List.mem_map.1 hf
    have e3 : a.2.map (app (trm v)) = b.2 := by
      have hb2 : b.2 = (b.2.map (numOf fz)).map thw := by
        rw [List.map_map]
        refine (List.map_id b.2).symm.trans (List.map_congr_left fun t ht => ?_)
        exact (thw_fz (qrV_arg hq hb t ht)).1.symm
      have e2' : a.2.map (numOf v) = b.2.map (numOf fz) := e2
      rw [hb2, ← e2', List.map_map]
      refine List.map_congr_left fun t ht => ?_
      have := qrV_arg hp hap t ht
      show app (trm v) t = thw (numOf v t)
      unfold app numOf
      by_cases c : 0 ≤ t
      · rw [if_pos c, if_pos c]
        unfold trm
        rw [getD_map0 (by omega)]
        unfold trm1
        rw [if_neg ((hv.sup t.toNat (by omega)).2 (occ_of hap ht c))]
      · rw [if_neg c, if_neg c]
        unfold thw
        rw [if_neg (by omega)]; omega
    rw [e3, show (a.1, b.2) = b from Prod.ext e1 rfl]
    exact hb
  · have : v.getD i 0 = 0 := Classical.byContradiction fun c => ho ((hv.sup i hi).1 c)
    unfold trm
    rw [getD_map0 (by omega), this]; rfl
/-- what a homomorphism gives a variable that occurs is a term of the other query -/
theorem HomP.term {p q : HQ} {h : List Int} (H : HomP p q h) {i : Nat} (hi : occ p.2 i) : ∃ b, b ∈ q.2 ∧ h.getD i 0 ∈ b.2 := by
  obtain ⟨a, ha, hm⟩ := hi
  refine ⟨_, H.img a ha, List.mem_map.2 ⟨_, hm, ?_⟩⟩
  unfold app
  rw [if_pos (by omega), Int.toNat_natCast]
theorem isH_of {p q : HQ} (hp : QrV p) (hq : QrV q) {h : List Int} (H : HomP p q h) : IsH p q h := by
  have h8 := H.len
  have hterm : ∀ i, occ p.2 i → -9 ≤ h.getD i 0 ∧ h.getD i 0 ≤ 7 := fun i hi => by
    obtain ⟨b, hb, hm⟩ := H.term hi
    exact qrV_arg hq hb _ hm
  refine ⟨mkV p.2 fun i => numOf fz (h.getD i 0), ⟨mkV_len _ _, fun a ha => ?_, fun i hi => ?_⟩, ?_, H.hd⟩
  · refine ⟨frA (a.1, a.2.map (app h)), List.mem_map.2 ⟨_, H.img a ha, rfl⟩, rfl, ?_⟩
    show a.2.map _ = (a.2.map (app h)).map (numOf fz)
    rw [List.map_map]
    refine List.map_congr_left fun t ht => ?_
    have hr := qrV_arg hp ha t ht
    show numOf _ t = numOf fz (app h t)
    by_cases c : 0 ≤ t
    · rw [show app h t = h.getD t.toNat 0 from if_pos c]
      unfold numOf
      rw [if_pos c, mkV_at (by omega) (occ_of ha ht c)]
    · rw [show app h t = t from if_neg c, (numOf_fz hr).2 (by omega)]
      unfold numOf
      rw [if_neg c]
  · by_cases c : occ p.2 i
    · rw [mkV_at hi c]
      exact ⟨fun _ => c, fun _ => (thw_fz (hterm i c)).2⟩
    · rw [mkV_no hi c]
      exact ⟨fun h => absurd rfl h, fun h => absurd h c⟩
  · refine list8 h8 (by simp [trm, mkV_len]) fun i hi => ?_
    unfold trm
    rw [getD_map0 (by rw [mkV_len]; exact hi)]
    by_cases c : occ p.2 i
    · rw [mkV_at hi c]
      unfold trm1
      rw [if_neg (thw_fz (hterm i c)).2, (thw_fz (hterm i c)).1]
    · rw [mkV_no hi c, H.out i hi c]; rfl
theorem isH_iff {p q : HQ} (hp : QrV p) (hq : QrV q) (h : List Int) : IsH p q h ↔ HomP p q h := ⟨homP_of hp hq, isH_of hp hq⟩
theorem head_occ {p : HQ} (hp : QrV p) {k : Nat} (hk : k < p.1.length) : 0 ≤ p.1.getD k 0 ∧ p.1.getD k 0 < 8 ∧ occ p.2 (p.1.getD k 0).toNat := by
  have hm : p.1.getD k 0 ∈ p.1 := by rw [List.getD_eq_getElem?_getD, List.getElem?_eq_getElem hk]; exact List.getElem_mem hk
  obtain ⟨h1, h2⟩ := hp.2.2 _ hm
  exact ⟨h1.1, h1.2, ((vsQ_bit _ _).1 h2).2⟩
theorem hdR_len (hd v : List Int) : (hdR hd v).length = hd.length := by simp [hdR]
theorem hdR_at {hd v : List Int} {k : Nat} (hk : k < hd.length) : (hdR hd v).getD k 0 = v.getD (hd.getD k 0).toNat 0 := by
  unfold hdR
  rw [List.getD_eq_getElem?_getD, List.getElem?_map, List.getElem?_eq_getElem hk, List.getD_eq_getElem?_getD (l := hd), List.getElem?_eq_getElem hk]; rfl
theorem ext_getD {a b : List Int} (h : a.length = b.length) (hi : ∀ i, i < a.length → a.getD i 0 = b.getD i 0) : a = b := by
  refine List.ext_getElem h fun i h1 h2 => ?_
  have := hi i h1
  rwa [List.getD_eq_getElem?_getD, List.getElem?_eq_getElem h1, List.getD_eq_getElem?_getD, List.getElem?_eq_getElem h2] at this
/-- a homomorphism turns every match into one -/
theorem hom_match {p q : HQ} (hp : QrV p) (hq : QrV q) (hl : q.1.length = p.1.length) {h : List Int} (H : HomP q p h) {l : List At'} {v : List Int} (hv : MaP l p.2 v) : ∃ v', MaP l q.2 v' ∧ hdR q.1 v' = hdR p.1 v := by
  refine ⟨mkV q.2 fun i => numOf v (h.getD i 0), ⟨mkV_len _ _, fun a ha => ?_, fun i hi => ?_⟩, ?_⟩
  · obtain ⟨f, hf, e1, e2⟩ := hv.fit _ (H.img a ha)
    refine ⟨f, hf, e1, ?_⟩
    rw [← e2]
    show a.2.map _ = (a.2.map (app h)).map (numOf v)
    rw [List.map_map]
    refine List.map_congr_left fun t ht => ?_
    have hr := qrV_arg hq ha t ht
    show numOf _ t = numOf v (app h t)
    by_cases c : 0 ≤ t
    · rw [show app h t = h.getD t.toNat 0 from if_pos c]
      unfold numOf
      rw [if_pos c, mkV_at (by omega) (occ_of ha ht c)]
    · rw [show app h t = t from if_neg c]
      unfold numOf
      rw [if_neg c, if_neg c]
  · by_cases c : occ q.2 i
    · rw [mkV_at hi c]
      refine ⟨fun _ => c, fun _ => ?_⟩
      obtain ⟨b, hb, hm⟩ := H.term c
      have hr := qrV_arg hp hb _ hm
      unfold numOf
      by_cases d : 0 ≤ h.getD i 0
      · rw [if_pos d]
        exact (hv.sup _ (by omega)).2 (occ_of hb hm d)
      · rw [if_neg d]; omega
    · rw [mkV_no hi c]
      exact ⟨fun h => absurd rfl h, fun h => absurd h c⟩
  · refine ext_getD (by rw [hdR_len, hdR_len, hl]) fun i hi => ?_
    rw [hdR_len] at hi
    rw [hdR_at hi, hdR_at (by omega)]
    obtain ⟨a1, a2, a3⟩ := head_occ hq hi
    rw [mkV_at (by omega) a3, H.hd i hi]
    unfold numOf
    rw [if_pos (head_occ hp (by omega)).1]
/-- homomorphisms compose -/
theorem hom_comp {p q r : HQ} (hp : QrV p) (hq : QrV q) (hl : p.1.length = q.1.length) {h k c : List Int} (H : HomP p q h) (K : HomP q r k) (hc : c.length = 8) (hi : ∀ i, i < 8 → c.getD i 0 = if 0 ≤ h.getD i 0 ∧ h.getD i 0 < 8 then k.getD (h.getD i 0).toNat 0 else h.getD i 0) : HomP p r c := by
  have happ : ∀ t, (∃ a, a ∈ p.2 ∧ t ∈ a.2) → app c t = app k (app h t) := fun t ⟨a, ha, ht⟩ => by
    have hr := qrV_arg hp ha t ht
    unfold app
    by_cases d : 0 ≤ t
    · rw [if_pos d, if_pos d, hi _ (by omega)]
      obtain ⟨b, hb, hm⟩ := H.term (occ_of ha ht d)
      have hr2 := qrV_arg hq hb _ hm
      by_cases e : 0 ≤ h.getD t.toNat 0
      · rw [if_pos ⟨e, by omega⟩, if_pos e]
      · rw [if_neg (fun x => e x.1), if_neg e]
    · rw [if_neg d, if_neg d, if_neg d]
  refine ⟨hc, fun a ha => ?_, fun i hi8 ho => ?_, fun i hi8 => ?_⟩
  · have := K.img _ (H.img a ha)
    have e : (a.2.map (app h)).map (app k) = a.2.map (app c) := by
      rw [List.map_map]
      exact List.map_congr_left fun t ht => (happ t ⟨a, ha, ht⟩).symm
    rw [← e]; exact this
  · rw [hi i hi8, H.out i hi8 ho, if_neg (by omega)]
  · obtain ⟨a1, a2, a3⟩ := head_occ hp hi8
    have e := H.hd i hi8
    rw [hi _ (by omega), e]
    obtain ⟨b1, b2, _⟩ := head_occ hq (k := i) (by omega)
    rw [if_pos ⟨b1, b2⟩]
    exact K.hd i (by omega)
theorem trm1_eq {x y : Int} (hx : 0 ≤ x ∧ x ≤ 99) (hy : 0 ≤ y ∧ y < 8) : trm1 x = y ↔ x = 10 + y := by
  unfold trm1 thw
  split
  · omega
  · split <;> omega
/-- the result of the frozen query among the results in its facts -/
theorem frozen_iff {p q : HQ} (hp : QrV p) (hq : QrV q) (hl : q.1.length = p.1.length) {v : List Int} (hv : Vok v) : p.1.map (10 + ·) = hdR q.1 v ↔ agr (trm v) q.1 p.1 := by
  have key : ∀ i, i < q.1.length → ((p.1.map (10 + ·)).getD i 0 = (hdR q.1 v).getD i 0 ↔ (trm v).getD (q.1.getD i 0).toNat 0 = p.1.getD i 0) := fun i hi => by
    obtain ⟨a1, a2, _⟩ := head_occ hq hi
    obtain ⟨b1, b2, _⟩ := head_occ hp (k := i) (by omega)
    have h8 := hv.1
    have hx : 0 ≤ v.getD (q.1.getD i 0).toNat 0 ∧ v.getD (q.1.getD i 0).toNat 0 ≤ 99 := hv.2 _ (by rw [List.getD_eq_getElem?_getD, List.getElem?_eq_getElem (by omega)]; exact List.getElem_mem _)
    unfold trm
    rw [getD_map0 (by omega), getD_map0 (by omega), hdR_at hi, trm1_eq hx ⟨b1, b2⟩]
    exact ⟨Eq.symm, Eq.symm⟩
  constructor
  · intro h i hi
    exact (key i hi).1 (by rw [h])
  · intro h
    refine ext_getD (by rw [hdR_len, List.length_map, hl]) fun i hi => ?_
    rw [List.length_map] at hi
    exact (key i (by omega)).2 (h i (by omega))
#print axioms hom_comp
#print axioms hom_match
#print axioms isH_iff
end Go.Proofs.Ytfplmdieeabgpaa
