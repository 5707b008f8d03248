/- Contracts of Rest and JoinTree. -/
import Derived.Test.YtfplmdieeabgpaaEar
namespace Go.Proofs.Ytfplmdieeabgpaa
open Go.RowKit
def OneL (L : Nat) : Prop := ∀ i j, mem' L i → mem' L j → i = j
/-- what is left of a query in the end -/
structure FinL (q : HQ) (L : Nat) : Prop where
  r : Reach (Vq q.2) (2 ^ q.2.length - 1) L
  d : Done (Vq q.2) L
  s : ∀ i, mem' L i → i < q.2.length
  e : ∃ i, mem' L i
theorem finL_same {q : HQ} {L M : Nat} (h : FinL q L) (k : FinL q M) : L = M := reach_det _ _ L M (Nat.le_refl _) h.r h.d k.r k.d
theorem FinL.lt {q : HQ} (hq : QrV q) {L : Nat} (h : FinL q L) : L < 32 ∧ 0 < L := by
  have h5 : q.2.length ≤ 5 := hq.1.2.1
  constructor
  · apply Nat.lt_of_lt_of_le (m := 2 ^ q.2.length) ?_ (Nat.pow_le_pow_right (n := 2) (by decide) h5)
    apply Nat.lt_pow_two_of_testBit
    intro i hi
    cases c : L.testBit i with
    | false => rfl
    | true => have := h.s i c; omega
  · obtain ⟨i, hi⟩ := h.e
    rcases Nat.eq_zero_or_pos L with c | c
    · rw [c] at hi; simp [mem'] at hi
    · exact c
def RestC (q : HQ) (m c : Int) : Prop := (¬ QrV q ∧ m = 0 ∧ c = 2) ∨ (QrV q ∧ c = 0 ∧ ∃ L : Nat, FinL q L ∧ ((OneL L ∧ m = 0) ∨ (¬ OneL L ∧ m = L)))
def JoinC (q : HQ) (w : World) (u : Value) (c : Int) : Prop := (¬ QrV q ∧ u = .slice none 0 0 ∧ c = 2) ∨ (QrV q ∧ c = 8 ∧ u = .slice none 0 0 ∧ ∃ L, FinL q L ∧ ¬ OneL L) ∨
  (QrV q ∧ c = 0 ∧ ∃ L par, FinL q L ∧ OneL L ∧ Ints w u par ∧ IsTree (Vq q.2) q.2.length par)
theorem JoinC.keep {q : HQ} {w w' : World} {u : Value} {c : Int} (h : JoinC q w u c) (hb : Below w.heap.size w w') : JoinC q w' u c := by
  rcases h with h | h | ⟨h1, h2, L, par, h3, h4, h5, h6⟩
  · exact .inl h
  · exact .inr (.inl h)
  · exact .inr (.inr ⟨h1, h2, L, par, h3, h4, h5.keep hb, h6⟩)
set_option maxRecDepth 100000 in
set_option maxHeartbeats 8000000 in
theorem rest_any {q : HQ} (v : Value) (w : World) (hq : Qr w v q) :
    Calls Try.prog 40 #[v] w fun e w' => ∃ m c : Int, e = .returned (.tuple #[.int .i64 m, .int .i64 c]) ∧ RestC q m c ∧ Below w.heap.size w w' := by
  obtain ⟨h0, b0, rfl, hh, hb⟩ := hq
  have Hq := Lib.hid (show Qr w (.agg #[h0, b0]) q from ⟨_, _, rfl, hh, hb⟩)
  obtain ⟨ha, hc, rfl⟩ := ints_slice hh
  obtain ⟨ba, bc, rfl⟩ := atoms_slice hb
  obtain ⟨n0, hn0⟩ : ∃ x, x = q.1.length := ⟨_, rfl⟩
  obtain ⟨n1, hn1⟩ : ∃ x, x = q.2.length := ⟨_, rfl⟩
  rw [← hn0, ← hn1] at Hq
  rw [← hn0, ← hn1]
  obtain ⟨w1, hw1⟩ : ∃ x, x = w.alloc (.cells #[.slice ha n0 hc, .slice ba n1 bc] 33) := ⟨_, rfl⟩
  obtain ⟨bq, hbq⟩ : ∃ x, x = w.heap.size := ⟨_, rfl⟩
  have HB := Lib.hid (show Below w.heap.size w w1 from by rw [hw1]; exact below_alloc _ _)
  have HQ := Lib.hid (show w1.heap[bq]? = some (.cells #[.slice ha n0 hc, .slice ba n1 bc] 33 (0, 0)) from by rw [hbq, hw1]; exact heap_alloc_new _ _)
  have Hw1 := Lib.hid hw1
  have Hbq := Lib.hid hbq
  clear hh hb hw1 hbq hn0 hn1
  go_enter Try.func40, Try.ntmps40
  go_upto_region 1 with fail
  rw [← Hw1.out, ← Hbq.out]
  clear Hw1 Hbq
  have g0 := aCell HQ.out 0 rfl
  have g1 := aCell HQ.out 1 rfl
  by_cases hv : QrV q
  · have HV := Lib.hid (qryValid_any q _ w1 (Hq.out.keep HB.out) true (decide_eq_true hv))
    have Hv := Lib.hid hv
    clear hv
    go_wp2_with fail
    refine HV.out.mono ?_
    rintro e w2 ⟨rfl, hb⟩
    have HB2 := Lib.hid (Below.tr HB.out hb)
    have HQ2 := Lib.hid (blk_keep2 HQ.out hb)
    clear hb g0 g1
    have g0 := aCell HQ2.out 0 rfl
    have g1 := aCell HQ2.out 1 rfl
    go_wp2_with fail
    refine (earTree_any Hv.out _ w2 (Hq.out.keep HB2.out)).mono ?_
    rintro e w3 ⟨L, a, n, k, par, rk, rem, rfl, hO, hR, hRe, hD, hb⟩
    have HB3 := Lib.hid (Below.tr HB2.out hb)
    have HO := Lib.hid hO.ints
    have HR := Lib.hid hR
    have HF := Lib.hid (show FinL q L from ⟨hRe, hD, hR.sub, hR.some⟩)
    clear hO hR hRe hD hb g0 g1
    obtain ⟨l1, l2⟩ := HF.out.lt Hv.out
    have hob := one_bit l1 l2
    have e1 : IntKind.i64.wrap ((L : Int) - 1) = ((L - 1 : Nat) : Int) := by rw [show (L : Int) - 1 = ((L - 1 : Nat) : Int) by omega]; exact wrap_nat _ (by omega)
    have e2 := bits_and_nat L (L - 1) (by omega) (by omega)
    obtain ⟨N, hN⟩ : ∃ N, N = L &&& (L - 1) := ⟨_, rfl⟩
    rw [← hN] at e2 hob
    have Hob := Lib.hid hob
    clear hN hob
    by_cases h0 : N = 0
    · have hz : ((N : Int) == 0) = true := by rw [h0]; rfl
      have HOne := Lib.hid (show OneL L from Hob.out.1 h0)
      clear h0
      go_wp2_with fail
      go_ret2
      exact ⟨0, 0, rfl, .inr ⟨Hv.out, rfl, L, HF.out, .inl ⟨HOne.out, rfl⟩⟩, HB3.out⟩
    · have hz : ((N : Int) == 0) = false := by rw [beq_eq_false_iff_ne]; omega
      have HOne := Lib.hid (show ¬ OneL L from fun h => h0 (Hob.out.2 h))
      clear h0
      go_wp2_with fail
      go_ret2
      exact ⟨L, 0, rfl, .inr ⟨Hv.out, rfl, L, HF.out, .inr ⟨HOne.out, rfl⟩⟩, HB3.out⟩
  · have HV := Lib.hid (qryValid_any q _ w1 (Hq.out.keep HB.out) false (decide_eq_false hv))
    have Hv := Lib.hid hv
    clear hv
    go_wp2_with fail
    refine HV.out.mono ?_
    rintro e w2 ⟨rfl, hb⟩
    have HB2 := Lib.hid (Below.tr HB.out hb)
    clear hb g0 g1
    go_wp2_with fail
    go_ret2
    exact ⟨0, 2, rfl, .inl ⟨Hv.out, rfl, rfl⟩, HB2.out⟩
set_option maxRecDepth 100000 in
set_option maxHeartbeats 8000000 in
theorem joinTree_any {q : HQ} (v : Value) (w : World) (hq : Qr w v q) :
    Calls Try.prog 41 #[v] w fun e w' => ∃ a n k c, e = .returned (.tuple #[.slice a n k, .int .i64 c]) ∧ JoinC q w' (.slice a n k) c ∧ Below w.heap.size w w' := by
  obtain ⟨h0, b0, rfl, hh, hb⟩ := hq
  have Hq := Lib.hid (show Qr w (.agg #[h0, b0]) q from ⟨_, _, rfl, hh, hb⟩)
  obtain ⟨ha, hc, rfl⟩ := ints_slice hh
  obtain ⟨ba, bc, rfl⟩ := atoms_slice hb
  obtain ⟨n0, hn0⟩ : ∃ x, x = q.1.length := ⟨_, rfl⟩
  obtain ⟨n1, hn1⟩ : ∃ x, x = q.2.length := ⟨_, rfl⟩
  rw [← hn0, ← hn1] at Hq
  rw [← hn0, ← hn1]
  obtain ⟨w1, hw1⟩ : ∃ x, x = w.alloc (.cells #[.slice ha n0 hc, .slice ba n1 bc] 33) := ⟨_, rfl⟩
  obtain ⟨bq, hbq⟩ : ∃ x, x = w.heap.size := ⟨_, rfl⟩
  have HB := Lib.hid (show Below w.heap.size w w1 from by rw [hw1]; exact below_alloc _ _)
  have HQ := Lib.hid (show w1.heap[bq]? = some (.cells #[.slice ha n0 hc, .slice ba n1 bc] 33 (0, 0)) from by rw [hbq, hw1]; exact heap_alloc_new _ _)
  have Hw1 := Lib.hid hw1
  have Hbq := Lib.hid hbq
  clear hh hb hw1 hbq hn0 hn1
  go_enter Try.func41, Try.ntmps41
  go_upto_region 1 with fail
  rw [← Hw1.out, ← Hbq.out]
  clear Hw1 Hbq
  have g0 := aCell HQ.out 0 rfl
  have g1 := aCell HQ.out 1 rfl
  by_cases hv : QrV q
  · have HV := Lib.hid (qryValid_any q _ w1 (Hq.out.keep HB.out) true (decide_eq_true hv))
    have Hv := Lib.hid hv
    clear hv
    go_wp2_with fail
    refine HV.out.mono ?_
    rintro e w2 ⟨rfl, hb⟩
    have HB2 := Lib.hid (Below.tr HB.out hb)
    have HQ2 := Lib.hid (blk_keep2 HQ.out hb)
    clear hb g0 g1
    have g0 := aCell HQ2.out 0 rfl
    have g1 := aCell HQ2.out 1 rfl
    go_wp2_with fail
    refine (earTree_any Hv.out _ w2 (Hq.out.keep HB2.out)).mono ?_
    rintro e w3 ⟨L, a, n, k, par, rk, rem, rfl, hO, hR, hRe, hD, hb⟩
    have HB3 := Lib.hid (Below.tr HB2.out hb)
    have HO := Lib.hid hO.ints
    have HR := Lib.hid hR
    have HF := Lib.hid (show FinL q L from ⟨hRe, hD, hR.sub, hR.some⟩)
    clear hO hR hRe hD hb g0 g1
    obtain ⟨l1, l2⟩ := HF.out.lt Hv.out
    have hob := one_bit l1 l2
    have e1 : IntKind.i64.wrap ((L : Int) - 1) = ((L - 1 : Nat) : Int) := by rw [show (L : Int) - 1 = ((L - 1 : Nat) : Int) by omega]; exact wrap_nat _ (by omega)
    have e2 := bits_and_nat L (L - 1) (by omega) (by omega)
    obtain ⟨N, hN⟩ : ∃ N, N = L &&& (L - 1) := ⟨_, rfl⟩
    rw [← hN] at e2 hob
    have Hob := Lib.hid hob
    clear hN hob
    by_cases h0 : N = 0
    · have hz : ((N : Int) != 0) = false := by rw [h0]; rfl
      have HOne := Lib.hid (show OneL L from Hob.out.1 h0)
      clear h0
      go_wp2_with fail
      go_ret2
      exact ⟨_, _, _, 0, rfl, .inr (.inr ⟨Hv.out, rfl, L, par, HF.out, HOne.out, HO.out, run_tree HR.out HOne.out⟩), HB3.out⟩
    · have hz : ((N : Int) != 0) = true := by rw [bne_iff_ne]; omega
      have HOne := Lib.hid (show ¬ OneL L from fun h => h0 (Hob.out.2 h))
      clear h0
      go_wp2_with fail
      go_ret2
      exact ⟨none, 0, 0, 8, rfl, .inr (.inl ⟨Hv.out, rfl, rfl, L, HF.out, HOne.out⟩), HB3.out⟩
  · have HV := Lib.hid (qryValid_any q _ w1 (Hq.out.keep HB.out) false (decide_eq_false hv))
    have Hv := Lib.hid hv
    clear hv
    go_wp2_with fail
    refine HV.out.mono ?_
    rintro e w2 ⟨rfl, hb⟩
    have HB2 := Lib.hid (Below.tr HB.out hb)
    clear hb g0 g1
    go_wp2_with fail
    go_ret2
    exact ⟨none, 0, 0, 2, rfl, .inl ⟨Hv.out, rfl, rfl⟩, HB2.out⟩
#print axioms rest_any
#print axioms joinTree_any
end Go.Proofs.Ytfplmdieeabgpaa
