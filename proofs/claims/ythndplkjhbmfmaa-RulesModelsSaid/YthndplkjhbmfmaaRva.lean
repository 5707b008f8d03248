/- Contracts of the small tests of the rules: sameArity, isVariable, isConstant, validFact, validAtom. -/
import Derived.Test.YthndplkjhbmfmaaRkt
import Derived.Test.YthndplkjhbmfmaaRul
namespace Go.Proofs.Ythndplkjhbmfmaa
open Go.RowKit
/-- the arities that a program has noted stand for the uses so far -/
def AInv (E : List Int) (O : List (Int × Nat)) : Prop := E.length = 6 ∧ ∀ r : Nat, r < 6 → (E.getD r 0 = 0 ∧ ∀ o, o ∈ O → o.1 ≠ (r : Int)) ∨ (1 ≤ E.getD r 0 ∧ (∃ o, o ∈ O ∧ o.1 = (r : Int)) ∧ ∀ o, o ∈ O → o.1 = (r : Int) → (o.2 : Int) = E.getD r 0)
/-- one use more is allowed -/
def OkU (r : Int) (n : Nat) (O : List (Int × Nat)) : Prop := (0 ≤ r ∧ r ≤ 5) ∧ (1 ≤ n ∧ n ≤ 2) ∧ ∀ o, o ∈ O → o.1 = r → o.2 = n
instance (r : Int) (n : Nat) (O : List (Int × Nat)) : Decidable (OkU r n O) := inferInstanceAs (Decidable (_ ∧ _ ∧ _))
theorem aInv_0 : AInv [0, 0, 0, 0, 0, 0] [] := ⟨rfl, fun r hr => .inl ⟨by match r, hr with | 0, _ => rfl | 1, _ => rfl | 2, _ => rfl | 3, _ => rfl | 4, _ => rfl | 5, _ => rfl, fun o ho => by cases ho⟩⟩
def ArB (w : World) (g : Nat) (E : List Int) : Prop := w.heap[g]? = some (.cells (E.map (Value.int .i64)).toArray 186 (0, 0))
theorem ArB.keep {w w' : World} {g : Nat} {E : List Int} (h : ArB w g E) (hb : Below w.heap.size w w') : ArB w' g E := blk_keep2 h hb
theorem ArB.at {w : World} {g : Nat} {E : List Int} (h : ArB w g E) {r : Nat} (hr : r < E.length) : w.cell? ⟨g, r, none⟩ = some (.int .i64 (E.getD r 0)) := by
  rw [cell_of_row w g r _ _ _ h]
  simp [hr]
theorem aInv_same {E : List Int} {O : List (Int × Nat)} (h : AInv E O) {r n : Nat} (hr : r < 6) (he : E.getD r 0 = n) (hn : 1 ≤ n) : AInv E (O ++ [((r : Int), n)]) := ⟨h.1, fun s hs => by
  rcases h.2 s hs with ⟨h1, h2⟩ | ⟨h1, ⟨o, ho, hor⟩, h3⟩
  · by_cases e : s = r
    · subst e; omega
    · refine .inl ⟨h1, fun o ho => ?_⟩
      rcases List.mem_append.1 ho with ho | ho
      · exact h2 o ho
      · rw [List.mem_singleton.1 ho]; simp; omega
  · refine .inr ⟨h1, ⟨o, List.mem_append.2 (.inl ho), hor⟩, fun o ho hor => ?_⟩
    rcases List.mem_append.1 ho with ho | ho
    · exact h3 o ho hor
    · rw [List.mem_singleton.1 ho] at hor ⊢
      have : s = r := by simp at hor; omega
      subst this
      exact he.symm⟩
theorem aInv_new {E : List Int} {O : List (Int × Nat)} (h : AInv E O) {r n : Nat} (hr : r < 6) (he : E.getD r 0 = 0) (hn : 1 ≤ n) : AInv (E.set r n) (O ++ [((r : Int), n)]) := ⟨by rw [List.length_set]; exact h.1, fun s hs => by
  have hl := h.1
  rw [List.getD_eq_getElem?_getD, List.getElem?_set]
  by_cases e : r = s
  · subst e
    rw [if_pos rfl, if_pos (by omega)]
    simp only [Option.getD_some]
    refine .inr ⟨by omega, ⟨_, List.mem_append.2 (.inr (List.mem_singleton.2 rfl)), rfl⟩, fun o ho hor => ?_⟩
    rcases List.mem_append.1 ho with ho | ho
    · rcases h.2 r hr with ⟨_, h2⟩ | ⟨h1, _⟩
      · exact absurd hor (h2 o ho)
      · omega
    · rw [List.mem_singleton.1 ho]
  · rw [if_neg e, ← List.getD_eq_getElem?_getD]
    rcases h.2 s hs with ⟨h1, h2⟩ | ⟨h1, ⟨o, ho, hor⟩, h3⟩
    · refine .inl ⟨h1, fun o ho => ?_⟩
      rcases List.mem_append.1 ho with ho | ho
      · exact h2 o ho
      · rw [List.mem_singleton.1 ho]; simp; omega
    · refine .inr ⟨h1, ⟨o, List.mem_append.2 (.inl ho), hor⟩, fun o ho hor => ?_⟩
      rcases List.mem_append.1 ho with ho | ho
      · exact h3 o ho hor
      · rw [List.mem_singleton.1 ho] at hor; simp at hor; omega⟩
theorem okU_iff {E : List Int} {O : List (Int × Nat)} (h : AInv E O) {r n : Nat} (hr : r < 6) (hn : 1 ≤ n ∧ n ≤ 2) : OkU r n O ↔ E.getD r 0 = 0 ∨ E.getD r 0 = n := by
  constructor
  · rintro ⟨_, _, h3⟩
    rcases h.2 r hr with ⟨h1, _⟩ | ⟨h1, ⟨o, ho, hor⟩, h4⟩
    · exact .inl h1
    · exact .inr (by rw [← h4 o ho hor, h3 o ho hor])
  · intro he
    refine ⟨⟨by omega, by omega⟩, hn, fun o ho hor => ?_⟩
    rcases h.2 r hr with ⟨_, h2⟩ | ⟨h1, _, h4⟩
    · exact absurd hor (h2 o ho)
    · have := h4 o ho hor
      omega
theorem grown_refl2 (w : World) (g : Option Nat) : w.grownBy w g := ⟨rfl, rfl, rfl, Nat.le_refl _, fun _ _ _ => rfl⟩
/-- what a test that notes an arity returns -/
def SarE (w w' : World) (g : Nat) (r : Int) (n : Nat) (O : List (Int × Nat)) (e : Ending) : Prop :=
  ∃ B, e = .returned (.bool B) ∧ w.grownBy w' (some g) ∧ (B = true → OkU r n O ∧ ∃ E, ArB w' g E ∧ AInv E (O ++ [(r, n)])) ∧ (B = false → ¬ OkU r n O)
set_option maxRecDepth 100000 in
set_option maxHeartbeats 4000000 in
theorem sameArity_any (r : Int) (n : Nat) (g : Nat) (E : List Int) (O : List (Int × Nat)) (hO : AInv E O) (w : World) (hE : ArB w g E) :
    Calls Try.prog 117 #[.int .i64 r, .int .i64 (n : Int), .pointer (some ⟨g, 0, none⟩)] w fun e w' => SarE w w' g r n O e := by
  have HE := Lib.hid hE
  have HO := Lib.hid hO
  have hl := hO.1
  by_cases hr : (0 ≤ r ∧ r ≤ 5) ∧ (1 ≤ n ∧ n ≤ 2)
  · obtain ⟨⟨r0, r5⟩, n1, n2⟩ := hr
    obtain ⟨k, rfl⟩ : ∃ k : Nat, r = k := ⟨r.toNat, by omega⟩
    have hk : k < 6 := by omega
    have Hok := Lib.hid (okU_iff hO hk ⟨n1, n2⟩)
    have hc := hE.at (r := k) (by omega)
    have n1' : ¬ ((n : Int) < 1) := by omega
    have n2' : ¬ (2 < (n : Int)) := by omega
    have r5' : ¬ (6 ≤ (k : Int)) := by omega
    have hk6 : (k : Int) < 6 := by omega
    have hz := frozen_of_row w g k _ _ hE
    obtain ⟨x, hx⟩ : ∃ x, x = E.getD k 0 := ⟨_, rfl⟩
    rw [← hx] at hc Hok
    have Hx := Lib.hid hx
    clear hE hO hx
    by_cases e : x = 0
    · subst e
      have HN := Lib.hid (show ArB (w.setCell ⟨g, k, none⟩ (.int .i64 (n : Int))) g (E.set k n) from by
        unfold ArB
        rw [heap_setCell_same w g k _ _ _ HE.out]
        congr 2
        apply Array.ext'
        simp [List.map_set])
      have HI := Lib.hid (aInv_new HO.out hk Hx.out.symm n1)
      have hc2 := HN.out.at (r := k) (by rw [List.length_set]; omega)
      have e2 : (E.set k (n : Int)).getD k 0 = n := by rw [List.getD_eq_getElem?_getD, List.getElem?_set, if_pos rfl, if_pos (by omega)]; rfl
      rw [e2] at hc2
      have HG := Lib.hid (grown_setCell w g k (.int .i64 (n : Int)))
      clear e2 hl
      go_enter Try.func117, Try.ntmps117
      go_wp2_with fail
      go_ret
      exact ⟨true, by simp, HG.out, fun _ => ⟨Hok.out.2 (.inl (by trivial)), _, HN.out, HI.out⟩, fun h => by cases h⟩
    · have e0 : (x == 0) = false := beq_eq_false_iff_ne.2 e
      clear hl
      by_cases c : x = n
      · have c0 : (x == (n : Int)) = true := by rw [c]; simp
        have HI := Lib.hid (aInv_same HO.out hk (Hx.out.symm.trans c) n1)
        have Hc := Lib.hid c
        clear c e
        go_enter Try.func117, Try.ntmps117
        go_wp2_with fail
        go_ret
        exact ⟨true, rfl, grown_refl2 _ _, fun _ => ⟨Hok.out.2 (.inr Hc.out), _, HE.out, HI.out⟩, fun h => by cases h⟩
      · have c0 : (x == (n : Int)) = false := beq_eq_false_iff_ne.2 c
        have HN := Lib.hid (show ¬ OkU (k : Int) n O from fun h => by
          rcases Hok.out.1 h with h | h
          · exact e h
          · exact c h)
        clear e c
        go_enter Try.func117, Try.ntmps117
        go_wp2_with fail
        go_ret
        exact ⟨false, rfl, grown_refl2 _ _, fun h => (by cases h), fun _ => HN.out⟩
  · have HN := Lib.hid (show ¬ OkU r n O from fun h => hr ⟨h.1, h.2.1⟩)
    clear hE hO hl
    by_cases r0 : r < 0
    · clear hr
      go_enter Try.func117, Try.ntmps117
      go_wp2_with fail
      go_ret
      exact ⟨false, rfl, grown_refl2 _ _, fun h => (by cases h), fun _ => HN.out⟩
    · by_cases r6 : 6 ≤ r
      · clear hr
        go_enter Try.func117, Try.ntmps117
        go_wp2_with fail
        go_ret
        exact ⟨false, rfl, grown_refl2 _ _, fun h => (by cases h), fun _ => HN.out⟩
      · by_cases n1 : (n : Int) < 1
        · clear hr
          go_enter Try.func117, Try.ntmps117
          go_wp2_with fail
          go_ret
          exact ⟨false, rfl, grown_refl2 _ _, fun h => (by cases h), fun _ => HN.out⟩
        · have n2 : 2 < (n : Int) := by omega
          clear hr
          go_enter Try.func117, Try.ntmps117
          go_wp2_with fail
          go_ret
          exact ⟨false, rfl, grown_refl2 _ _, fun h => (by cases h), fun _ => HN.out⟩
#print axioms sameArity_any
/-- the variables that are ones, and the constants -/
theorem isVariable_any (t : Int) (w : World) : Calls Try.prog 139 #[.int .i64 t] w fun e w' => e = .returned (.bool (decide (0 ≤ t ∧ t ≤ 7))) ∧ w' = w := by
  obtain ⟨B, hB⟩ : ∃ B, B = decide (0 ≤ t ∧ t ≤ 7) := ⟨_, rfl⟩
  rw [← hB]
  by_cases h0 : 0 ≤ t
  · by_cases h7 : t < 8
    · have e : B = true := by rw [hB]; exact decide_eq_true ⟨h0, by omega⟩
      subst e
      clear hB
      go_enter Try.func139, Try.ntmps139
      go_wp2_with fail
      go_ret
      exact ⟨rfl, rfl⟩
    · have e : B = false := by rw [hB]; exact decide_eq_false fun h => h7 (by omega)
      subst e
      clear hB
      go_enter Try.func139, Try.ntmps139
      go_wp2_with fail
      go_ret
      exact ⟨rfl, rfl⟩
  · have e : B = false := by rw [hB]; exact decide_eq_false fun h => h0 h.1
    subst e
    clear hB
    go_enter Try.func139, Try.ntmps139
    go_wp2_with fail
    go_ret
    exact ⟨rfl, rfl⟩
theorem isConstant_any (t : Int) (w : World) : Calls Try.prog 140 #[.int .i64 t] w fun e w' => e = .returned (.bool (decide (-6 ≤ t ∧ t < 0))) ∧ w' = w := by
  obtain ⟨B, hB⟩ : ∃ B, B = decide (-6 ≤ t ∧ t < 0) := ⟨_, rfl⟩
  rw [← hB]
  by_cases h0 : t < 0
  · by_cases h7 : -6 ≤ t
    · have e : B = true := by rw [hB]; exact decide_eq_true ⟨h7, by omega⟩
      subst e
      clear hB
      go_enter Try.func140, Try.ntmps140
      go_wp2_with fail
      go_ret
      exact ⟨rfl, rfl⟩
    · have e : B = false := by rw [hB]; exact decide_eq_false fun h => h7 h.1
      subst e
      clear hB
      go_enter Try.func140, Try.ntmps140
      go_wp2_with fail
      go_ret
      exact ⟨rfl, rfl⟩
  · have e : B = false := by rw [hB]; exact decide_eq_false fun h => h0 h.2
    subst e
    clear hB
    go_enter Try.func140, Try.ntmps140
    go_wp2_with fail
    go_ret
    exact ⟨rfl, rfl⟩
#print axioms isConstant_any
set_option maxRecDepth 100000 in
set_option maxHeartbeats 4000000 in
theorem validFact_any (f : RAt) (v : Value) (w : World) (hv : Ints w v f.2) (B : Bool) (hB : decide (FcR f) = B) :
    Calls Try.prog 84 #[.agg #[.int .i64 f.1, v]] w fun e w' => e = .returned (.bool B) ∧ Below w.heap.size w w' := by
  obtain ⟨r, A⟩ := f
  simp only at hv ⊢
  obtain ⟨a, b, off, cap, rfl, hle, hia, hc⟩ := Ints.get hv
  obtain ⟨n, hn⟩ : ∃ x, x = A.length := ⟨_, rfl⟩
  have Hn := Lib.hid hn
  have Hc := Lib.hid (show ∀ k, k < n → w.cell? ⟨b, off + k, none⟩ = some (.int .i64 (A.getD k 0)) from fun k hk => by rw [hc k (by omega), List.getD_eq_getElem?_getD, List.getElem?_eq_getElem (by omega)]; rfl)
  rw [← hn] at hle hia ⊢
  have Hix := Lib.hid (run_ix (P := Try.prog) (t := 23) (a := a) (len := n) (cap := cap) (b := b) (off := off) (s := 1) Try.underlying23 (by intro w; kernel_rfl) hia)
  simp only [Nat.mul_one] at Hix
  have HT := Lib.hid (fun h : FcR (r, A) => show B = true from by rw [← hB]; exact decide_eq_true h)
  have HF := Lib.hid (fun h : ¬ FcR (r, A) => show B = false from by rw [← hB]; exact decide_eq_false h)
  obtain ⟨w1, hw1⟩ : ∃ x, x = w.alloc (.cells #[.int .i64 r, .slice a n cap] 50) := ⟨_, rfl⟩
  have hb1 : Below w.heap.size w w1 := by rw [hw1]; exact below_alloc _ _
  obtain ⟨bf, hbf⟩ : ∃ x, x = w.heap.size := ⟨_, rfl⟩
  have HG := Lib.hid (show w1.heap[bf]? = some (.cells #[.int .i64 r, .slice a n cap] 50 (0, 0)) from by rw [hw1, hbf]; exact heap_alloc_new _ _)
  have Hb1 := Lib.hid hb1
  have Hw1 := Lib.hid hw1
  have Hbf := Lib.hid hbf
  obtain ⟨w2, hw2⟩ : ∃ x, x = w1.alloc (.cells #[.int .i64 0, .int .i64 0, .int .i64 0, .int .i64 0, .int .i64 0, .int .i64 0] 186) := ⟨_, rfl⟩
  have hb2 : Below w1.heap.size w1 w2 := by rw [hw2]; exact below_alloc _ _
  obtain ⟨g, hg⟩ : ∃ x, x = w1.heap.size := ⟨_, rfl⟩
  have HA := Lib.hid (show ArB w2 g [0, 0, 0, 0, 0, 0] from by rw [hw2, hg]; exact heap_alloc_new _ _)
  have Hgl := Lib.hid (show w.heap.size ≤ g ∧ g < w2.heap.size from ⟨by rw [hg]; exact hb1.size, by rw [hw2, hg]; simp⟩)
  have Hb2 := Lib.hid (Below.tr hb1 hb2)
  have Hw2 := Lib.hid hw2
  have Hw2' := Lib.hid hw2
  have Hg := Lib.hid hg
  have g0 := aCell HG.out 0 rfl
  have g1 := aCell HG.out 1 rfl
  clear hv hc hia hn hB hw1 hb1 hbf hw2 hb2 hg
  go_enter Try.func84, Try.ntmps84
  go_upto_region 1 with fail
  rw [← Hw1.out, ← Hbf.out]
  clear Hw1
  go_wp2_with fail
  go_loopw [8] (fun vi wr => ∃ k : Nat, vi = .int .i64 k ∧ k ≤ n ∧ wr = w1 ∧ ∀ j, j < k → 1 ≤ A.getD j 0 ∧ A.getD j 0 ≤ 6) (fun vi _ => n - (intOf vi).toNat)
  case atStart => exact ⟨0, rfl, Nat.zero_le _, rfl, fun j hj => by omega⟩
  case round =>
    obtain ⟨k, rfl, hk, hwr, hin⟩ := hrel
    obtain rfl : w1 = wr := hwr.symm
    have Hin := Lib.hid hin
    clear hin
    by_cases hlt : k < n
    · have hck := Below.keep Hb1.out (Hc.out k hlt)
      have hixk := Hix.out k
      have HM := Lib.hid (show A.getD k 0 ∈ A from by rw [List.getD_eq_getElem?_getD, List.getElem?_eq_getElem (by rw [← Hn.out]; exact hlt)]; exact List.getElem_mem _)
      obtain ⟨x, hx⟩ : ∃ x, x = A.getD k 0 := ⟨_, rfl⟩
      have Hx := Lib.hid hx
      rw [← hx] at hck HM
      clear hx
      by_cases c1 : x < 1
      · have R := Lib.hid (HF.out fun h => by have := h.2.2 x HM.out; omega)
        go_wp2_with fail
        go_ret
        exact ⟨by rw [R.out]; rfl, Hb1.out⟩
      · by_cases c6 : 6 < x
        · have R := Lib.hid (HF.out fun h => by have := h.2.2 x HM.out; omega)
          go_wp2_with fail
          go_ret
          exact ⟨by rw [R.out]; rfl, Hb1.out⟩
        · have HI := Lib.hid (show ∀ j, j < k + 1 → 1 ≤ A.getD j 0 ∧ A.getD j 0 ≤ 6 from fun j hj => by
            by_cases e : j = k
            · subst e; rw [← Hx.out]; omega
            · exact Hin.out j (by omega))
          go_wp2_with fail
          go_roundw
          case rel => exact ⟨k + 1, by go_num, by omega, by first | rfl | trivial, HI.out⟩
          case measure => simp [intOf]; omega
    · obtain rfl : k = n := by omega
      have HE := Lib.hid (show OkU r k [] ↔ FcR (r, A) from ⟨fun h => ⟨h.1, by rw [← Hn.out]; exact h.2.1, fun x hx => by
        obtain ⟨j, hj, rfl⟩ := List.getElem_of_mem hx
        have := Hin.out j (by rw [Hn.out]; exact hj)
        rwa [List.getD_eq_getElem?_getD, List.getElem?_eq_getElem hj] at this⟩, fun h => ⟨h.1, by have := h.2.1; simp only at this; rwa [← Hn.out] at this, fun o ho => by cases ho⟩⟩)
      have HS := sameArity_any r k g [0, 0, 0, 0, 0, 0] [] aInv_0 w2 HA.out
      rw [Hw2.out, Hg.out] at HS
      have HS := Lib.hid HS
      clear Hw2
      go_wp2_with fail
      refine HS.out.mono ?_
      rintro e w3 ⟨C, rfl, hg3, hT, hF⟩
      have HB := Lib.hid (show B = C from by
        cases C
        · exact HF.out fun h => hF rfl (HE.out.2 h)
        · exact HT.out (HE.out.1 (hT rfl).1))
      have HW := Lib.hid (show Below w.heap.size w w3 from by
        rw [← Hw2'.out, ← Hg.out] at hg3
        exact Hb2.out.trans ((below_grown hg3 Hgl.out.2).mono Hgl.out.1))
      clear hg3 hT hF
      go_wp2_with fail
      go_ret
      exact ⟨by rw [HB.out]; rfl, HW.out⟩
#print axioms validFact_any
/-- a term of rules -/
def Tm (x : Int) : Prop := -6 ≤ x ∧ x ≤ 7
set_option maxRecDepth 100000 in
set_option maxHeartbeats 4000000 in
theorem validAtom_any (f : RAt) (v : Value) (g : Nat) (E : List Int) (O : List (Int × Nat)) (hO : AInv E O) (w : World) (hv : Ints w v f.2) (hE : ArB w g E) :
    Calls Try.prog 115 #[.agg #[.int .i64 f.1, v], .pointer (some ⟨g, 0, none⟩)] w fun e w' =>
      ∃ B, e = .returned (.bool B) ∧ w.grownBy w' (some g) ∧ (B = true → AtR f ∧ OkU f.1 f.2.length O ∧ ∃ E, ArB w' g E ∧ AInv E (O ++ [(f.1, f.2.length)])) ∧ (B = false → ¬ (AtR f ∧ OkU f.1 f.2.length O)) := by
  obtain ⟨r, A⟩ := f
  simp only at hv ⊢
  obtain ⟨a, b, off, cap, rfl, hle, hia, hc⟩ := Ints.get hv
  obtain ⟨n, hn⟩ : ∃ x, x = A.length := ⟨_, rfl⟩
  have Hn := Lib.hid hn
  have Hc := Lib.hid (show ∀ k, k < n → w.cell? ⟨b, off + k, none⟩ = some (.int .i64 (A.getD k 0)) from fun k hk => by rw [hc k (by omega), List.getD_eq_getElem?_getD, List.getElem?_eq_getElem (by omega)]; rfl)
  rw [← hn] at hle hia ⊢
  have Hix := Lib.hid (run_ix (P := Try.prog) (t := 23) (a := a) (len := n) (cap := cap) (b := b) (off := off) (s := 1) Try.underlying23 (by intro w; kernel_rfl) hia)
  simp only [Nat.mul_one] at Hix
  obtain ⟨w1, hw1⟩ : ∃ x, x = w.alloc (.cells #[.int .i64 r, .slice a n cap] 94) := ⟨_, rfl⟩
  have hb1 : Below w.heap.size w w1 := by rw [hw1]; exact below_alloc _ _
  obtain ⟨bf, hbf⟩ : ∃ x, x = w.heap.size := ⟨_, rfl⟩
  have HG := Lib.hid (show w1.heap[bf]? = some (.cells #[.int .i64 r, .slice a n cap] 94 (0, 0)) from by rw [hw1, hbf]; exact heap_alloc_new _ _)
  have HE := Lib.hid (ArB.keep hE hb1)
  have HO := Lib.hid hO
  have Hb1 := Lib.hid hb1
  have Hw1 := Lib.hid hw1
  have Hbf := Lib.hid hbf
  have HW := Lib.hid (show w.grownBy w1 (some g) from grown_below2 hb1)
  have g0 := aCell HG.out 0 rfl
  have g1 := aCell HG.out 1 rfl
  clear hv hc hia hn hw1 hb1 hbf hE hO
  go_enter Try.func115, Try.ntmps115
  go_upto_region 1 with fail
  rw [← Hw1.out, ← Hbf.out]
  clear Hw1
  go_wp2_with fail
  go_loopw [10] (fun vi wr => ∃ k : Nat, vi = .int .i64 k ∧ k ≤ n ∧ wr = w1 ∧ ∀ j, j < k → Tm (A.getD j 0)) (fun vi _ => n - (intOf vi).toNat)
  case atStart => exact ⟨0, rfl, Nat.zero_le _, rfl, fun j hj => by omega⟩
  case round =>
    obtain ⟨k, rfl, hk, hwr, hin⟩ := hrel
    obtain rfl : w1 = wr := hwr.symm
    have Hin := Lib.hid hin
    clear hin
    by_cases hlt : k < n
    · have hck := Below.keep Hb1.out (Hc.out k hlt)
      have hixk := Hix.out k
      have HM := Lib.hid (show A.getD k 0 ∈ A from by rw [List.getD_eq_getElem?_getD, List.getElem?_eq_getElem (by rw [← Hn.out]; exact hlt)]; exact List.getElem_mem _)
      obtain ⟨x, hx⟩ : ∃ x, x = A.getD k 0 := ⟨_, rfl⟩
      have Hx := Lib.hid hx
      rw [← hx] at hck HM
      clear hx
      have HV := Lib.hid (isVariable_any x w1)
      have HC := Lib.hid (isConstant_any x w1)
      obtain ⟨B1, hB1⟩ : ∃ B, B = decide (0 ≤ x ∧ x ≤ 7) := ⟨_, rfl⟩
      obtain ⟨B2, hB2⟩ : ∃ B, B = decide (-6 ≤ x ∧ x < 0) := ⟨_, rfl⟩
      rw [← hB1] at HV
      rw [← hB2] at HC
      have HT := Lib.hid (show (B1 = true ∨ B2 = true) ↔ Tm x from by
        rw [hB1, hB2, decide_eq_true_iff, decide_eq_true_iff]; unfold Tm; omega)
      clear hB1 hB2
      go_wp2_with fail
      refine HV.out.mono ?_
      rintro e w2 ⟨rfl, rfl⟩
      by_cases q1 : B1 = true
      · subst q1
        have HI := Lib.hid (show ∀ j, j < k + 1 → Tm (A.getD j 0) from fun j hj => by
            by_cases e : j = k
            · subst e; rw [← Hx.out]; exact HT.out.1 (.inl rfl)
            · exact Hin.out j (by omega))
        go_wp2_with fail
        go_roundw
        case rel => exact ⟨k + 1, by go_num, by omega, by first | rfl | trivial, HI.out⟩
        case measure => simp [intOf]; omega
      · obtain rfl : B1 = false := by revert q1; cases B1 <;> simp
        clear q1
        go_wp2_with fail
        refine HC.out.mono ?_
        rintro e w3 ⟨rfl, rfl⟩
        by_cases q2 : B2 = true
        · subst q2
          have HI := Lib.hid (show ∀ j, j < k + 1 → Tm (A.getD j 0) from fun j hj => by
              by_cases e : j = k
              · subst e; rw [← Hx.out]; exact HT.out.1 (.inr rfl)
              · exact Hin.out j (by omega))
          go_wp2_with fail
          go_roundw
          case rel => exact ⟨k + 1, by go_num, by omega, by first | rfl | trivial, HI.out⟩
          case measure => simp [intOf]; omega
        · obtain rfl : B2 = false := by revert q2; cases B2 <;> simp
          have R := Lib.hid (show ¬ (AtR (r, A) ∧ OkU r k O) ∧ ¬ (AtR (r, A) ∧ OkU r n O) from by
            have : ¬ AtR (r, A) := fun h => by
              have h2 := h.2.2 x HM.out
              rcases HT.out.2 h2 with h | h <;> cases h
            exact ⟨fun h => this h.1, fun h => this h.1⟩)
          clear q2
          go_wp2_with fail
          go_ret
          exact ⟨false, rfl, HW.out, fun h => (by cases h), fun _ => R.out.2⟩
    · obtain rfl : k = n := by omega
      have HS := Lib.hid (sameArity_any r k g E O HO.out w1 HE.out)
      have HA := Lib.hid (show OkU r k O → AtR (r, A) from fun h => ⟨h.1, by rw [← Hn.out]; exact h.2.1, fun x hx => by
        obtain ⟨j, hj, rfl⟩ := List.getElem_of_mem hx
        have := Hin.out j (by rw [Hn.out]; exact hj)
        rwa [List.getD_eq_getElem?_getD, List.getElem?_eq_getElem hj] at this⟩)
      go_wp2_with fail
      refine HS.out.mono ?_
      rintro e w3 ⟨C, rfl, hg3, hT, hF⟩
      have H := Lib.hid (show w.grownBy w3 (some g) ∧ (C = true → AtR (r, A) ∧ OkU r k O ∧ ∃ E, ArB w3 g E ∧ AInv E (O ++ [(r, k)])) ∧ (C = false → ¬ (AtR (r, A) ∧ OkU r k O)) from
        ⟨grown_trans2 HW.out hg3, fun h => ⟨HA.out (hT h).1, hT h⟩, fun h k => hF h k.2⟩)
      clear hg3 hT hF
      go_wp2_with fail
      go_ret
      exact ⟨C, rfl, H.out⟩
#print axioms validAtom_any
end Go.Proofs.Ythndplkjhbmfmaa
