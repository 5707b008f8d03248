/- Contract of the reference's Count. -/
import Derived.Test.YtfplmdieeabgpaaMar
import Derived.Test.YtfplmdieeabgpaaPrd
import Derived.Test.YtfplmdieeabgpaaRq
import Derived.Test.YtfplmdieeabgpaaRfa
namespace Go.Proofs.Ytfplmdieeabgpaa
open Go.RowKit
/-- what the reference's matches returns, in one shape -/
def MatU (q : HQ) (l : List HAt) (w : World) (u : Value) (n : Nat) (N : List (List Int)) (c : Int) : Prop :=
  VR w u N ∧ n = N.length ∧ N.length ≤ 20000 ∧ (∀ v, v ∈ N → v.length = 8) ∧ ((Big l q.2 ∧ N = [] ∧ c = 3) ∨ (¬ Big l q.2 ∧ c = 0 ∧ N.Nodup ∧ ∀ v, v ∈ N ↔ MaP l q.2 v))
theorem MatU.keep {q : HQ} {l : List HAt} {w w' : World} {u : Value} {n : Nat} {N : List (List Int)} {c : Int} (h : MatU q l w u n N c) (hb : Below w.heap.size w w') : MatU q l w' u n N c := ⟨h.1.keep hb, h.2⟩
theorem matchesU_any (q : HQ) (l : List HAt) (hq : QrV q) (hl : FsV l) (v u : Value) (w : World) (hv : Qr w v q) (hu : Atoms w u l) :
    Calls Try.prog 70 #[v, u] w fun e w' => ∃ a n k N c, e = .returned (.tuple #[.slice a n k, .int .i64 c]) ∧ MatU q l w' (.slice a n k) n N c ∧ Below w.heap.size w w' :=
  (matchesR_any q l hq hl v u w hv hu).mono fun e w' ⟨h, hb⟩ => by
    rcases h with ⟨h1, h2⟩ | ⟨h1, a, n, k, N, h2, h3, h4, h5⟩
    · exact ⟨none, 0, 0, [], 3, h2, ⟨⟨rfl, Nat.zero_le _, none, 0, 0, 0, rfl, ⟨fun h => by simp at h, by simp⟩, fun j hj => by simp [cV] at hj⟩, rfl, Nat.zero_le _, fun v hv => (by cases hv), .inl ⟨h1, rfl, rfl⟩⟩, hb⟩
    · have e : n = N.length := by
        obtain ⟨_, _, _, _, _, _, e, _⟩ := h3
        injection e with _ e _
      exact ⟨a, n, k, N, 0, h2, ⟨h3, e, count_le hq.1.1 h1 h4 h5, fun v hv => ((h5 v).1 hv).len, .inr ⟨h1, rfl, h4, h5⟩⟩, hb⟩
set_option maxRecDepth 100000 in
set_option maxHeartbeats 4000000 in
theorem countR_any {q : HQ} {l : List HAt} (v u : Value) (w : World) (hv : Qr w v q) (hu : Atoms w u l) :
    Calls Try.prog 24 #[v, u] w fun e w' => ∃ n c, e = .returned (.tuple #[.int .i64 n, .int .i64 c]) ∧ CntC q l n c ∧ Below w.heap.size w w' := by
  obtain ⟨h0, b0, rfl, hh, hb⟩ := hv
  have Hq := Lib.hid (show Qr w (.agg #[h0, b0]) q from ⟨_, _, rfl, hh, hb⟩)
  have Hu := Lib.hid hu
  obtain ⟨w1, hw1⟩ : ∃ x, x = w.alloc (.cells #[h0, b0] 25) := ⟨_, rfl⟩
  have hb1 : Below w.heap.size w w1 := by rw [hw1]; exact below_alloc _ _
  obtain ⟨bq, hbq⟩ : ∃ x, x = w.heap.size := ⟨_, rfl⟩
  have HB1 := Lib.hid (show Bx w1 bq h0 b0 from by rw [hw1, hbq]; exact heap_alloc_new _ _)
  have Hb1 := Lib.hid hb1
  have Hw1 := Lib.hid hw1
  have Hbq := Lib.hid hbq
  clear hh hb hu hw1 hb1 hbq
  go_enter Try.func24, Try.ntmps24
  go_upto_region 1 with fail
  rw [← Hw1.out, ← Hbq.out]
  clear Hw1 Hbq
  have g0 := aCell HB1.out 0 rfl
  have g1 := aCell HB1.out 1 rfl
  by_cases hq : QrV q
  · have HV := Lib.hid (validQR_any q _ w1 (Hq.out.keep Hb1.out) true (decide_eq_true hq))
    go_wp2_with fail
    refine HV.out.mono ?_
    rintro e w2 ⟨rfl, hb⟩
    have HB2 := Lib.hid (HB1.out.keep hb)
    have Hb2 := Lib.hid (Below.tr Hb1.out hb)
    clear hb g0 g1 HV HB1 Hb1
    have g0 := aCell HB2.out 0 rfl
    have g1 := aCell HB2.out 1 rfl
    by_cases hl : FsV l
    · have HF := Lib.hid (factsR_any l _ w2 (Hu.out.keep Hb2.out) true (decide_eq_true hl))
      go_wp2_with fail
      refine HF.out.mono ?_
      rintro e w3 ⟨rfl, hb⟩
      have HB3 := Lib.hid (HB2.out.keep hb)
      have Hb3 := Lib.hid (Below.tr Hb2.out hb)
      clear hb g0 g1 HF HB2 Hb2
      have g0 := aCell HB3.out 0 rfl
      have g1 := aCell HB3.out 1 rfl
      have HM := Lib.hid (matchesU_any q l hq hl _ _ w3 (Hq.out.keep Hb3.out) (Hu.out.keep Hb3.out))
      go_wp2_with fail
      refine HM.out.mono ?_
      rintro e w4 ⟨a, n, k, N, c, rfl, hU, hb⟩
      have Hb4 := Lib.hid (Below.tr Hb3.out hb)
      have HC := Lib.hid (show CntC q l n c from by
        obtain ⟨_, e, _, _, ⟨k1, k2, k3⟩ | ⟨k1, k2, k3, k4⟩⟩ := hU
        · exact .inr (.inl ⟨hq, hl, k1, by rw [e, k2]; rfl, k3⟩)
        · exact .inr (.inr ⟨hq, hl, k1, k2, N, k3, k4, by rw [e]⟩))
      clear hU hb g0 g1
      go_wp2_with fail
      go_ret2
      exact ⟨n, c, rfl, HC.out, Hb4.out⟩
    · have HF := Lib.hid (factsR_any l _ w2 (Hu.out.keep Hb2.out) false (decide_eq_false hl))
      have HC := Lib.hid (show CntC q l 0 2 from .inl ⟨fun h => hl h.2, rfl, rfl⟩)
      go_wp2_with fail
      refine HF.out.mono ?_
      rintro e w3 ⟨rfl, hb⟩
      have Hb3 := Lib.hid (Below.tr Hb2.out hb)
      clear hb g0 g1
      go_wp2_with fail
      go_ret2
      exact ⟨0, 2, rfl, HC.out, Hb3.out⟩
  · have HV := Lib.hid (validQR_any q _ w1 (Hq.out.keep Hb1.out) false (decide_eq_false hq))
    have HC := Lib.hid (show CntC q l 0 2 from .inl ⟨fun h => hq h.1, rfl, rfl⟩)
    go_wp2_with fail
    refine HV.out.mono ?_
    rintro e w2 ⟨rfl, hb⟩
    have Hb2 := Lib.hid (Below.tr Hb1.out hb)
    clear hb g0 g1
    go_wp2_with fail
    go_ret2
    exact ⟨0, 2, rfl, HC.out, Hb2.out⟩
#print axioms countR_any
end Go.Proofs.Ytfplmdieeabgpaa
