/- Contracts of slices.EqualFunc over rows, rows, awake. -/
import Derived.Test.YtfplmdieeabgpaaRsl
namespace Go.Proofs.Ytfplmdieeabgpaa
open Go.RowKit
set_option maxRecDepth 100000 in
set_option maxHeartbeats 8000000 in
theorem eqF_any (R R' : List (List Int)) (u u' : Value) (w : World) (hu : Rows w u R) (hu' : Rows w u' R') :
    Calls Try.prog 72 #[u, u', .func (.func 30) #[] #[]] w fun e w' => e = .returned (.bool (decide (R = R'))) ∧ ∃ n, w' = w.drewN n := by
  obtain ⟨a, b, off, cap, vs, rfl, hle, ha, hvs, hc, hr⟩ := hu.get
  obtain ⟨a', b', off', cap', vs', rfl, hle', ha', hvs', hc', hr'⟩ := hu'.get
  have Hix := Lib.hid (run_ix (P := Try.prog) (t := 27) (a := a) (len := R.length) (cap := cap) (b := b) (off := off) (s := 1) Try.underlying27 (by intro w; kernel_rfl) ha)
  have Hix' := Lib.hid (run_ix (P := Try.prog) (t := 27) (a := a') (len := R'.length) (cap := cap') (b := b') (off := off') (s := 1) Try.underlying27 (by intro w; kernel_rfl) ha')
  simp only [Nat.mul_one] at Hix Hix'
  have Hc := Lib.hid (show ∀ i, i < R.length → w.cell? ⟨b, off + i, none⟩ = some (vs.getD i (.bool false)) from fun i hi => by rw [hc i (by omega), List.getD_eq_getElem?_getD, List.getElem?_eq_getElem (by omega)]; rfl)
  have Hc' := Lib.hid (show ∀ i, i < R'.length → w.cell? ⟨b', off' + i, none⟩ = some (vs'.getD i (.bool false)) from fun i hi => by rw [hc' i (by omega), List.getD_eq_getElem?_getD, List.getElem?_eq_getElem (by omega)]; rfl)
  have Hr := Lib.hid (show ∀ i, i < R.length → ∀ d, Ints (w.drewN d) (vs.getD i (.bool false)) (R.getD i []) from fun i hi d => by
    have := hr i hi (by omega)
    rw [List.getD_eq_getElem?_getD, List.getElem?_eq_getElem (by omega), List.getD_eq_getElem?_getD, List.getElem?_eq_getElem hi]; exact this)
  have Hr' := Lib.hid (show ∀ i, i < R'.length → ∀ d, Ints (w.drewN d) (vs'.getD i (.bool false)) (R'.getD i []) from fun i hi d => by
    have := hr' i hi (by omega)
    rw [List.getD_eq_getElem?_getD, List.getElem?_eq_getElem (by omega), List.getD_eq_getElem?_getD, List.getElem?_eq_getElem hi]; exact this)
  clear hu hu' ha ha' hvs hvs' hc hc' hr hr'
  by_cases hl : R.length = R'.length
  · have Hl := Lib.hid hl
    rw [← hl] at Hix' hle' ⊢
    clear hl
    go_enter Try.func72, Try.ntmps72
    go_wp2_with fail
    go_loopw [17] (fun vi wr => ∃ k q : Nat, vi = .int .i64 k ∧ k ≤ R.length ∧ wr = w.drewN q ∧ ∀ j, j < k → R.getD j [] = R'.getD j []) (fun vi _ => R.length - (intOf vi).toNat)
    case atStart => exact ⟨0, 0, rfl, Nat.zero_le _, rfl, fun j hj => by omega⟩
    case round =>
      obtain ⟨k, q, rfl, hk, hwr, hin⟩ := hrel
      have Hwr := Lib.hid hwr
      have Hin := Lib.hid hin
      clear hwr hin
      by_cases hlt : k < R.length
      · have hlt' : k < R'.length := by have := Hl.out; omega
        have hck := (show wr.cell? ⟨b, off + k, none⟩ = w.cell? ⟨b, off + k, none⟩ by rw [Hwr.out]; rfl).trans (Hc.out k hlt)
        have hck' := (show wr.cell? ⟨b', off' + k, none⟩ = w.cell? ⟨b', off' + k, none⟩ by rw [Hwr.out]; rfl).trans (Hc'.out k hlt')
        have hixk := Hix.out k
        have hixk' := Hix'.out k
        have hE := equal_any (R.getD k []) (R'.getD k []) (vs.getD k (.bool false)) (vs'.getD k (.bool false)) wr (by rw [Hwr.out]; exact Hr.out k hlt q) (by rw [Hwr.out]; exact Hr'.out k hlt' q)
        obtain ⟨xa, xc, hxs⟩ := ints_slice (Hr.out k hlt 0)
        obtain ⟨ya, yc, hys⟩ := ints_slice (Hr'.out k hlt' 0)
        rw [hxs, hys] at hE
        rw [hxs] at hck
        rw [hys] at hck'
        clear hxs hys hlt'
        obtain ⟨xn, hxn⟩ : ∃ x, x = (R.getD k []).length := ⟨_, rfl⟩
        obtain ⟨yn, hyn⟩ : ∃ x, x = (R'.getD k []).length := ⟨_, rfl⟩
        rw [← hxn] at hck hE
        rw [← hyn] at hck' hE
        clear hxn hyn
        by_cases c : R.getD k [] = R'.getD k []
        · rw [decide_eq_true c] at hE
          have HI := Lib.hid (show ∀ j, j < k + 1 → R.getD j [] = R'.getD j [] from fun j hj => by
            by_cases e : j = k
            · subst e; exact c
            · exact Hin.out j (by omega))
          have HE := Lib.hid hE
          clear c hE
          go_wp2_with fail
          refine HE.out.mono ?_
          rintro e w5 ⟨rfl, m, hm⟩
          have Hm := Lib.hid (show w5 = w.drewN (q + m) by rw [hm, Hwr.out]; exact World.drewN_drewN _ _ _)
          clear hm
          go_wp2_with fail
          go_roundw
          case rel => exact ⟨k + 1, q + m, by go_num, by omega, Hm.out, HI.out⟩
          case measure => simp [intOf]; omega
        · rw [decide_eq_false c] at hE
          have R := Lib.hid (show decide (R = R') = false from decide_eq_false fun h => c (by rw [h]))
          have HE := Lib.hid hE
          clear c hE
          go_wp2_with fail
          refine HE.out.mono ?_
          rintro e w5 ⟨rfl, m, hm⟩
          have Hm := Lib.hid (show w5 = w.drewN (q + m) by rw [hm, Hwr.out]; exact World.drewN_drewN _ _ _)
          clear hm
          go_wp2_with fail
          go_ret
          exact ⟨by rw [R.out]; rfl, _, Hm.out⟩
      · obtain rfl : k = R.length := by omega
        have Re := Lib.hid (show decide (R = R') = true from decide_eq_true (List.ext_getElem Hl.out fun j h h' => by
          have := Hin.out j h
          rwa [List.getD_eq_getElem?_getD, List.getElem?_eq_getElem h, List.getD_eq_getElem?_getD, List.getElem?_eq_getElem h'] at this))
        go_wp2_with fail
        go_ret
        exact ⟨by rw [Re.out]; rfl, _, Hwr.out⟩
  · have Re := Lib.hid (show decide (R = R') = false from decide_eq_false fun h => hl (by rw [h]))
    have q1 : ((R.length : Int) != (R'.length : Int)) = true := by rw [bne_iff_ne]; omega
    clear hl
    go_enter Try.func72, Try.ntmps72
    go_wp2_with fail
    go_ret
    exact ⟨by rw [Re.out]; rfl, 0, rfl⟩
theorem rows_any (R R' : List (List Int)) (u u' : Value) (w : World) (hu : Rows w u R) (hu' : Rows w u' R') :
    Calls Try.prog 25 #[u, u'] w fun e w' => e = .returned (.bool (decide (R = R'))) ∧ ∃ n, w' = w.drewN n := by
  have H := Lib.hid (eqF_any R R' u u' w hu hu')
  clear hu hu'
  obtain ⟨B, hB⟩ : ∃ B, B = decide (R = R') := ⟨_, rfl⟩
  rw [← hB] at H ⊢
  clear hB
  go_enter Try.func25, Try.ntmps25
  go_wp2_with fail
  refine H.out.mono ?_
  rintro e w5 ⟨rfl, m, hm⟩
  have Hm := Lib.hid hm
  clear hm
  go_wp2_with fail
  go_ret
  exact ⟨rfl, _, Hm.out⟩
theorem awakeR {R : List (List Int)} (h : IsRes ([1], [(2, [-4, 1])]) [(2, [4, 8])] R) : R = [[8]] := by
  have ok : Ok [((2 : Int), [(4 : Int), 8])] [((2 : Int), [(-4 : Int), 1])] := ⟨fun b hb t ht => by simp at hb; subst hb; simp at ht; omega, fun f hf x hx => by simp at hf; subst hf; simp at hx; omega⟩
  refine strict_eq h.1 (by simp [Strict]) fun x => (h.2 x).trans ?_
  have hm : ∀ v, MaP [((2 : Int), [(4 : Int), 8])] [((2 : Int), [(-4 : Int), 1])] v ↔ v = [0, 8, 0, 0, 0, 0, 0, 0] := fun v => by
    have := mem_mL ok (w := v) 1 (by simp)
    rw [show mL [((2 : Int), [(4 : Int), 8])] [((2 : Int), [(-4 : Int), 1])] 1 = [[0, 8, 0, 0, 0, 0, 0, 0]] by decide] at this
    rw [show List.take 1 [((2 : Int), [(-4 : Int), 1])] = [((2 : Int), [(-4 : Int), 1])] from rfl] at this
    rw [← this]; simp
  constructor
  · rintro ⟨v, hv, rfl⟩
    rw [(hm v).1 hv]; simp [hdR]
  · intro hx
    exact ⟨_, (hm _).2 rfl, by simpa [hdR] using hx⟩
theorem awakeB : ¬ Big [((2 : Int), [(4 : Int), 8])] [((2 : Int), [(-4 : Int), 1])] := by
  rintro ⟨k, h1, h2, h3⟩
  have hk : k = 1 := by simp at h2; omega
  subst hk
  have ok : OkB [((2 : Int), [(4 : Int), 8])] [((2 : Int), [(-4 : Int), 1])] := ⟨fun b hb t ht => by simp at hb; subst hb; simp at ht; omega, fun f hf x hx => by simp at hf; subst hf; simp at hx; omega⟩
  rw [bigAt_iff ok (F' := [((2 : Int), [(4 : Int), 8])]) (by simp) (fun f => Iff.rfl) (by simp), show mL [((2 : Int), [(4 : Int), 8])] [((2 : Int), [(-4 : Int), 1])] 1 = [[0, 8, 0, 0, 0, 0, 0, 0]] by decide] at h3
  simp at h3
theorem awakeV : QrV ([1], [(2, [-4, 1])]) ∧ FsV [(2, [4, 8])] := by decide
theorem ints_at (w : World) (l : List Int) (s n : Nat) (e : TypeId) (hs : s = w.heap.size) (hn : n = l.length) (hl : l.length ≤ maxLen) : Ints (w.alloc (.cells (l.map (Value.int .i64)).toArray e)) (.slice (some ⟨s, 0, none⟩) n n) l := by
  subst hs; subst hn
  have := rd_new w (l.map (Value.int .i64)).toArray e 1 l.length (by simp) hl
  simpa [Ints] using this
theorem atoms_at (w : World) (r : Int) (u : Value) (l : List Int) (s : Nat) (e : TypeId) (hs : s = w.heap.size) (hu : Ints w u l) : Atoms (w.alloc (.cells #[.int .i64 r, u] e)) (.slice (some ⟨s, 0, none⟩) 1 1) [(r, l)] := by
  subst hs
  refine ⟨[u], rfl, ?_, fun i hi => ?_⟩
  · have := rd_new w #[.int .i64 r, u] e 2 1 rfl (by unfold maxLen; omega)
    exact this
  · have hi0 : i = 0 := by simp at hi; omega
    subst hi0
    exact hu.keep (below_alloc _ _)
theorem awake_args (w : World) : ∃ w5, w5 = (((((w.alloc (.cells #[.int .i64 1] 3)).alloc (.cells #[.int .i64 (-4), .int .i64 1] 3)).alloc (.cells #[.int .i64 2, .slice (some ⟨w.heap.size + 1, 0, none⟩) 2 2] 88)).alloc (.cells #[.int .i64 4, .int .i64 8] 3)).alloc (.cells #[.int .i64 2, .slice (some ⟨w.heap.size + 1 + 1 + 1, 0, none⟩) 2 2] 77)) ∧
    Qr w5 (.agg #[.slice (some ⟨w.heap.size, 0, none⟩) 1 1, .slice (some ⟨w.heap.size + 1 + 1, 0, none⟩) 1 1]) ([1], [(2, [-4, 1])]) ∧ Atoms w5 (.slice (some ⟨w.heap.size + 1 + 1 + 1 + 1, 0, none⟩) 1 1) [(2, [4, 8])] ∧ Below w.heap.size w w5 := by
  obtain ⟨w1, e1⟩ : ∃ x, x = w.alloc (.cells #[.int .i64 1] 3) := ⟨_, rfl⟩
  obtain ⟨w2, e2⟩ : ∃ x, x = w1.alloc (.cells #[.int .i64 (-4), .int .i64 1] 3) := ⟨_, rfl⟩
  obtain ⟨w3, e3⟩ : ∃ x, x = w2.alloc (.cells #[.int .i64 2, .slice (some ⟨w.heap.size + 1, 0, none⟩) 2 2] 88) := ⟨_, rfl⟩
  obtain ⟨w4, e4⟩ : ∃ x, x = w3.alloc (.cells #[.int .i64 4, .int .i64 8] 3) := ⟨_, rfl⟩
  obtain ⟨w5, e5⟩ : ∃ x, x = w4.alloc (.cells #[.int .i64 2, .slice (some ⟨w.heap.size + 1 + 1 + 1, 0, none⟩) 2 2] 77) := ⟨_, rfl⟩
  have z1 : w.heap.size + 1 = w1.heap.size := by rw [e1]; simp
  have z2 : w1.heap.size + 1 = w2.heap.size := by rw [e2]; simp
  have z3 : w2.heap.size + 1 = w3.heap.size := by rw [e3]; simp
  have z4 : w3.heap.size + 1 = w4.heap.size := by rw [e4]; simp
  have b1 : Below w.heap.size w w1 := by rw [e1]; exact below_alloc _ _
  have b2 : Below w1.heap.size w1 w2 := by rw [e2]; exact below_alloc _ _
  have b3 : Below w2.heap.size w2 w3 := by rw [e3]; exact below_alloc _ _
  have b4 : Below w3.heap.size w3 w4 := by rw [e4]; exact below_alloc _ _
  have b5 : Below w4.heap.size w4 w5 := by rw [e5]; exact below_alloc _ _
  have i1 : Ints w1 (.slice (some ⟨w.heap.size, 0, none⟩) 1 1) [1] := by rw [e1]; exact ints_at w [1] _ _ _ rfl rfl (by simp [maxLen])
  have i2 : Ints w2 (.slice (some ⟨w.heap.size + 1, 0, none⟩) 2 2) [-4, 1] := by rw [e2]; exact ints_at w1 [-4, 1] _ _ _ z1 rfl (by simp [maxLen])
  have i3 : Atoms w3 (.slice (some ⟨w.heap.size + 1 + 1, 0, none⟩) 1 1) [(2, [-4, 1])] := by rw [e3]; exact atoms_at w2 2 _ _ _ _ (by omega) i2
  have i4 : Ints w4 (.slice (some ⟨w.heap.size + 1 + 1 + 1, 0, none⟩) 2 2) [4, 8] := by rw [e4]; exact ints_at w3 [4, 8] _ _ _ (by omega) rfl (by simp [maxLen])
  have i5 : Atoms w5 (.slice (some ⟨w.heap.size + 1 + 1 + 1 + 1, 0, none⟩) 1 1) [(2, [4, 8])] := by rw [e5]; exact atoms_at w4 2 _ _ _ _ (by omega) i4
  exact ⟨w5, by rw [e5, e4, e3, e2, e1], ⟨_, _, rfl, i1.keep (Below.tr b2 (Below.tr b3 (Below.tr b4 b5))), i3.keep (Below.tr b4 b5)⟩, i5, Below.tr b1 (Below.tr b2 (Below.tr b3 (Below.tr b4 b5)))⟩
theorem rows_at (w : World) (l : List Int) (u : Value) (s : Nat) (e : TypeId) (hs : s = w.heap.size) (hu : Ints w u l) : Rows (w.alloc (.cells #[u] e)) (.slice (some ⟨s, 0, none⟩) 1 1) [l] := by
  subst hs
  refine ⟨[u], rfl, ?_, fun i hi hi' => ?_⟩
  · exact rd_new w #[u] e 1 1 rfl (by unfold maxLen; omega)
  · have hi0 : i = 0 := by simp at hi; omega
    subst hi0
    exact hu.keep (below_alloc _ _)
set_option maxRecDepth 100000 in
theorem awake_any (w : World) : Calls Try.prog 26 #[] w fun e w' => e = .returned (.bool true) ∧ Below w.heap.size w w' := by
  obtain ⟨w5, e5, a1, a2, hb⟩ := awake_args w
  have H := Lib.hid (results_any _ _ w5 a1 a2)
  have He5 := Lib.hid e5
  have Hb5 := Lib.hid hb
  clear e5 a1 a2 hb
  go_enter Try.func26, Try.ntmps26
  go_wp2_with fail
  rw [← He5.out]
  refine H.out.mono ?_
  rintro e w6 ⟨hR, hb6⟩
  obtain ⟨h1, _⟩ | ⟨_, _, h1, _⟩ | ⟨_, _, _, u, R, rfl, hr, hi⟩ := hR
  · exact absurd awakeV h1
  · exact absurd h1 awakeB
  · obtain rfl := awakeR hi
    obtain ⟨ua, uc, rfl⟩ := hr.slice
    have Hr := Lib.hid hr.rows
    have Hb6 := Lib.hid (Below.tr Hb5.out hb6)
    clear hr hi hb6 H He5
    obtain ⟨w7, e7⟩ : ∃ x, x = w6.alloc (.cells #[.int .i64 8] 3) := ⟨_, rfl⟩
    obtain ⟨w8, e8⟩ : ∃ x, x = w7.alloc (.cells #[.slice (some ⟨w6.heap.size, 0, none⟩) 1 1] 22) := ⟨_, rfl⟩
    have z7 : w6.heap.size + 1 = w7.heap.size := by rw [e7]; simp
    have b7 : Below w6.heap.size w6 w7 := by rw [e7]; exact below_alloc _ _
    have b8 : Below w7.heap.size w7 w8 := by rw [e8]; exact below_alloc _ _
    have i7 : Ints w7 (.slice (some ⟨w6.heap.size, 0, none⟩) 1 1) [8] := by rw [e7]; exact ints_at w6 [8] _ _ _ rfl rfl (by simp [maxLen])
    have i8 : Rows w8 (.slice (some ⟨w6.heap.size + 1, 0, none⟩) 1 1) [[8]] := by rw [e8]; exact rows_at w7 _ _ _ _ z7 i7
    have HR := Lib.hid (rows_any _ _ _ _ w8 (Hr.out.keep (Below.tr b7 b8)) i8)
    have Hb8 := Lib.hid (Below.tr Hb6.out (Below.tr b7 b8))
    have E := Lib.hid (show w8 = (w6.alloc (.cells #[.int .i64 8] 3)).alloc (.cells #[.slice (some ⟨w6.heap.size, 0, none⟩) 1 1] 22) by rw [e8, e7])
    clear e7 e8 z7 b7 b8 i7 i8
    go_wp2_with fail
    rw [← E.out]
    refine HR.out.mono ?_
    rintro e w9 ⟨rfl, m, hm⟩
    have Hb9 := Lib.hid (show Below w.heap.size w w9 from by rw [hm]; exact ⟨Hb8.out.os, Hb8.out.tape, Hb8.out.output, Hb8.out.size, Hb8.out.block⟩)
    clear hm
    go_wp2_with fail
    go_ret
    exact ⟨rfl, Hb9.out⟩
#print axioms awake_any
end Go.Proofs.Ytfplmdieeabgpaa
