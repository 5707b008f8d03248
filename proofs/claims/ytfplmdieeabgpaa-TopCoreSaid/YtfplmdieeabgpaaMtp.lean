/- Contract of the whole's matches: a fact is matched. -/
import Derived.Test.YtfplmdieeabgpaaAwk
namespace Go.Proofs.Ytfplmdieeabgpaa
open Go.RowKit
theorem topR {R : List (List Int)} (h : IsRes ([0], [(1, [0, 0])]) [(1, [4, 4]), (1, [4, 5])] R) : R = [[4]] := by
  have ok : Ok [((1 : Int), [(4 : Int), 4]), (1, [4, 5])] [((1 : Int), [(0 : Int), 0])] := ⟨fun b hb t ht => by simp at hb; subst hb; simp at ht; omega, fun f hf x hx => by simp at hf; rcases hf with rfl | rfl <;> simp at hx <;> omega⟩
  refine strict_eq h.1 (by simp [Strict]) fun x => (h.2 x).trans ?_
  have hm : ∀ v, MaP [((1 : Int), [(4 : Int), 4]), (1, [4, 5])] [((1 : Int), [(0 : Int), 0])] v ↔ v = [4, 0, 0, 0, 0, 0, 0, 0] := fun v => by
    have := mem_mL ok (w := v) 1 (by simp)
    rw [show mL [((1 : Int), [(4 : Int), 4]), (1, [4, 5])] [((1 : Int), [(0 : Int), 0])] 1 = [[4, 0, 0, 0, 0, 0, 0, 0]] by decide] at this
    rw [show List.take 1 [((1 : Int), [(0 : Int), 0])] = [((1 : Int), [(0 : Int), 0])] from rfl] at this
    rw [← this]; simp
  constructor
  · rintro ⟨v, hv, rfl⟩
    rw [(hm v).1 hv]; simp [hdR]
  · intro hx
    exact ⟨_, (hm _).2 rfl, by simpa [hdR] using hx⟩
theorem topB : ¬ Big [((1 : Int), [(4 : Int), 4]), (1, [4, 5])] [((1 : Int), [(0 : Int), 0])] := by
  rintro ⟨k, h1, h2, h3⟩
  have hk : k = 1 := by simp at h2; omega
  subst hk
  have ok : OkB [((1 : Int), [(4 : Int), 4]), (1, [4, 5])] [((1 : Int), [(0 : Int), 0])] := ⟨fun b hb t ht => by simp at hb; subst hb; simp at ht; omega, fun f hf x hx => by simp at hf; rcases hf with rfl | rfl <;> simp at hx <;> omega⟩
  rw [bigAt_iff ok (F' := [((1 : Int), [(4 : Int), 4]), (1, [4, 5])]) (by simp) (fun f => Iff.rfl) (by simp), show mL [((1 : Int), [(4 : Int), 4]), (1, [4, 5])] [((1 : Int), [(0 : Int), 0])] 1 = [[4, 0, 0, 0, 0, 0, 0, 0]] by decide] at h3
  simp at h3
theorem topV : QrV ([0], [(1, [0, 0])]) ∧ FsV [(1, [4, 4]), (1, [4, 5])] := by decide
theorem atoms_at2 (w : World) (r s : Int) (u v : Value) (l m : List Int) (g : Nat) (e : TypeId) (hs : g = w.heap.size) (hu : Ints w u l) (hv : Ints w v m) : Atoms (w.alloc (.cells #[.int .i64 r, u, .int .i64 s, v] e)) (.slice (some ⟨g, 0, none⟩) 2 2) [(r, l), (s, m)] := by
  subst hs
  refine ⟨[u, v], rfl, ?_, fun i hi => ?_⟩
  · have := rd_new w #[.int .i64 r, u, .int .i64 s, v] e 2 2 rfl (by unfold maxLen; omega)
    exact this
  · match i, hi with
    | 0, _ => exact hu.keep (below_alloc _ _)
    | 1, _ => exact hv.keep (below_alloc _ _)
theorem top_args (w : World) : ∃ w6, w6 = ((((((w.alloc (.cells #[.int .i64 0] 3)).alloc (.cells #[.int .i64 0, .int .i64 0] 3)).alloc (.cells #[.int .i64 1, .slice (some ⟨w.heap.size + 1, 0, none⟩) 2 2] 88)).alloc (.cells #[.int .i64 4, .int .i64 4] 3)).alloc (.cells #[.int .i64 4, .int .i64 5] 3)).alloc (.cells #[.int .i64 1, .slice (some ⟨w.heap.size + 1 + 1 + 1, 0, none⟩) 2 2, .int .i64 1, .slice (some ⟨w.heap.size + 1 + 1 + 1 + 1, 0, none⟩) 2 2] 77)) ∧
    Qr w6 (.agg #[.slice (some ⟨w.heap.size, 0, none⟩) 1 1, .slice (some ⟨w.heap.size + 1 + 1, 0, none⟩) 1 1]) ([0], [(1, [0, 0])]) ∧ Atoms w6 (.slice (some ⟨w.heap.size + 1 + 1 + 1 + 1 + 1, 0, none⟩) 2 2) [(1, [4, 4]), (1, [4, 5])] ∧ Below w.heap.size w w6 := by
  obtain ⟨w1, e1⟩ : ∃ x, x = w.alloc (.cells #[.int .i64 0] 3) := ⟨_, rfl⟩
  obtain ⟨w2, e2⟩ : ∃ x, x = w1.alloc (.cells #[.int .i64 0, .int .i64 0] 3) := ⟨_, rfl⟩
  obtain ⟨w3, e3⟩ : ∃ x, x = w2.alloc (.cells #[.int .i64 1, .slice (some ⟨w.heap.size + 1, 0, none⟩) 2 2] 88) := ⟨_, rfl⟩
  obtain ⟨w4, e4⟩ : ∃ x, x = w3.alloc (.cells #[.int .i64 4, .int .i64 4] 3) := ⟨_, rfl⟩
  obtain ⟨w5, e5⟩ : ∃ x, x = w4.alloc (.cells #[.int .i64 4, .int .i64 5] 3) := ⟨_, rfl⟩
  obtain ⟨w6, e6⟩ : ∃ x, x = w5.alloc (.cells #[.int .i64 1, .slice (some ⟨w.heap.size + 1 + 1 + 1, 0, none⟩) 2 2, .int .i64 1, .slice (some ⟨w.heap.size + 1 + 1 + 1 + 1, 0, none⟩) 2 2] 77) := ⟨_, rfl⟩
  have z1 : w.heap.size + 1 = w1.heap.size := by rw [e1]; simp
  have z2 : w1.heap.size + 1 = w2.heap.size := by rw [e2]; simp
  have z3 : w2.heap.size + 1 = w3.heap.size := by rw [e3]; simp
  have z4 : w3.heap.size + 1 = w4.heap.size := by rw [e4]; simp
  have z5 : w4.heap.size + 1 = w5.heap.size := by rw [e5]; simp
  have b1 : Below w.heap.size w w1 := by rw [e1]; exact below_alloc _ _
  have b2 : Below w1.heap.size w1 w2 := by rw [e2]; exact below_alloc _ _
  have b3 : Below w2.heap.size w2 w3 := by rw [e3]; exact below_alloc _ _
  have b4 : Below w3.heap.size w3 w4 := by rw [e4]; exact below_alloc _ _
  have b5 : Below w4.heap.size w4 w5 := by rw [e5]; exact below_alloc _ _
  have b6 : Below w5.heap.size w5 w6 := by rw [e6]; exact below_alloc _ _
  have i1 : Ints w1 (.slice (some ⟨w.heap.size, 0, none⟩) 1 1) [0] := by rw [e1]; exact ints_at w [0] _ _ _ rfl rfl (by simp [maxLen])
  have i2 : Ints w2 (.slice (some ⟨w.heap.size + 1, 0, none⟩) 2 2) [0, 0] := by rw [e2]; exact ints_at w1 [0, 0] _ _ _ z1 rfl (by simp [maxLen])
  have i3 : Atoms w3 (.slice (some ⟨w.heap.size + 1 + 1, 0, none⟩) 1 1) [(1, [0, 0])] := by rw [e3]; exact atoms_at w2 1 _ _ _ _ (by omega) i2
  have i4 : Ints w4 (.slice (some ⟨w.heap.size + 1 + 1 + 1, 0, none⟩) 2 2) [4, 4] := by rw [e4]; exact ints_at w3 [4, 4] _ _ _ (by omega) rfl (by simp [maxLen])
  have i5 : Ints w5 (.slice (some ⟨w.heap.size + 1 + 1 + 1 + 1, 0, none⟩) 2 2) [4, 5] := by rw [e5]; exact ints_at w4 [4, 5] _ _ _ (by omega) rfl (by simp [maxLen])
  have i6 : Atoms w6 (.slice (some ⟨w.heap.size + 1 + 1 + 1 + 1 + 1, 0, none⟩) 2 2) [(1, [4, 4]), (1, [4, 5])] := by rw [e6]; exact atoms_at2 w5 1 1 _ _ _ _ _ _ (by omega) (i4.keep b5) i5
  exact ⟨w6, by rw [e6, e5, e4, e3, e2, e1], ⟨_, _, rfl, i1.keep (Below.tr b2 (Below.tr b3 (Below.tr b4 (Below.tr b5 b6)))), i3.keep (Below.tr b4 (Below.tr b5 b6))⟩, i6, Below.tr b1 (Below.tr b2 (Below.tr b3 (Below.tr b4 (Below.tr b5 b6))))⟩
set_option maxRecDepth 100000 in
theorem matchesT_any (w : World) : Calls Try.prog 63 #[] w fun e w' => e = .returned (.bool true) ∧ Below w.heap.size w w' := by
  obtain ⟨w5, e5, a1, a2, hb⟩ := top_args w
  have H := Lib.hid (results_any _ _ w5 a1 a2)
  have He5 := Lib.hid e5
  have Hb5 := Lib.hid hb
  clear e5 a1 a2 hb
  go_enter Try.func63, Try.ntmps63
  go_wp2_with fail
  rw [← He5.out]
  refine H.out.mono ?_
  rintro e w6 ⟨hR, hb6⟩
  obtain ⟨h1, _⟩ | ⟨_, _, h1, _⟩ | ⟨_, _, _, u, R, rfl, hr, hi⟩ := hR
  · exact absurd topV h1
  · exact absurd h1 topB
  · obtain rfl := topR hi
    obtain ⟨ua, uc, rfl⟩ := hr.slice
    have Hr := Lib.hid hr.rows
    have Hb6 := Lib.hid (Below.tr Hb5.out hb6)
    clear hr hi hb6 H He5
    obtain ⟨w7, e7⟩ : ∃ x, x = w6.alloc (.cells #[.int .i64 4] 3) := ⟨_, rfl⟩
    obtain ⟨w8, e8⟩ : ∃ x, x = w7.alloc (.cells #[.slice (some ⟨w6.heap.size, 0, none⟩) 1 1] 22) := ⟨_, rfl⟩
    have z7 : w6.heap.size + 1 = w7.heap.size := by rw [e7]; simp
    have b7 : Below w6.heap.size w6 w7 := by rw [e7]; exact below_alloc _ _
    have b8 : Below w7.heap.size w7 w8 := by rw [e8]; exact below_alloc _ _
    have i7 : Ints w7 (.slice (some ⟨w6.heap.size, 0, none⟩) 1 1) [4] := by rw [e7]; exact ints_at w6 [4] _ _ _ rfl rfl (by simp [maxLen])
    have i8 : Rows w8 (.slice (some ⟨w6.heap.size + 1, 0, none⟩) 1 1) [[4]] := by rw [e8]; exact rows_at w7 _ _ _ _ z7 i7
    have HR := Lib.hid (eqF_any _ _ _ _ w8 (Hr.out.keep (Below.tr b7 b8)) i8)
    have Hb8 := Lib.hid (Below.tr Hb6.out (Below.tr b7 b8))
    have E := Lib.hid (show w8 = (w6.alloc (.cells #[.int .i64 4] 3)).alloc (.cells #[.slice (some ⟨w6.heap.size, 0, none⟩) 1 1] 22) by rw [e8, e7])
    clear e7 e8 z7 b7 b8 i7 i8
    go_wp2_with fail
    rw [← E.out]
    refine HR.out.mono ?_
    rintro e w9 ⟨rfl, m, hm⟩
    have Hb9 := Lib.hid (show Below w.heap.size w w9 from by rw [hm]; exact ⟨Hb8.out.os, Hb8.out.tape, Hb8.out.output, Hb8.out.size, Hb8.out.block⟩)
    clear hm
    go_wp2_with fail
    go_ret
    exact ⟨rfl, Hb9.out⟩
#print axioms matchesT_any
end Go.Proofs.Ytfplmdieeabgpaa
