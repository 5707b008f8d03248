/- Contract of slices.DeleteFunc over facts, at the closure of RulesNeeded. -/
import Derived.Test.YthndplkjhbmfmaaRfw
import Derived.Lib.SliceRun
import Derived.Shelf.SlSortCmp.Insertion1
namespace Go.Proofs.Ythndplkjhbmfmaa
open Go.RowKit Go.Lib
/-- an atom with where its arguments lie -/
abbrev AV := (Int × Option Addr × Nat × Nat) × List Int
def encA (x : Int × Option Addr × Nat × Nat) : List Value := [.int .i64 x.1, .slice x.2.1 x.2.2.1 x.2.2.2]
def avV (x : AV) : Value := .slice x.1.2.1 x.1.2.2.1 x.1.2.2.2
def avA (x : AV) : HAt := (x.1.1, x.2)
def avC (L : List AV) : List Value := L.flatMap fun x => encA x.1
theorem av_of : ∀ (l : List HAt) (vs : List Value) (base : Nat) (w : World), vs.length = l.length → (∀ i, i < l.length → OwnInts base w (vs.getD i (.bool false)) (aA l i)) → ∃ L : List AV, L.map avA = l ∧ atC l vs = avC L ∧ ∀ x, x ∈ L → OwnInts base w (avV x) x.2
  | [], vs, base, w, h, hi => ⟨[], rfl, by cases vs <;> rfl, fun x hx => by cases hx⟩
  | a :: l, [], base, w, h, hi => by simp at h
  | a :: l, v :: vs, base, w, h, hi => by
    obtain ⟨L, h1, h2, h3⟩ := av_of l vs base w (by simpa using h) (fun i hl => by have := hi (i + 1) (by simp; omega); simpa [aA] using this)
    have h0 : OwnInts base w v a.2 := by have := hi 0 (by simp); simpa [aA] using this
    obtain ⟨ad, n, c, rfl⟩ := own_slice h0
    refine ⟨((a.1, ad, n, c), a.2) :: L, by simp [h1, avA], ?_, fun x hx => ?_⟩
    · simp only [atC, avC, List.flatMap_cons, encA] at h2 ⊢
      rw [h2]; rfl
    · rcases List.mem_cons.1 hx with rfl | hx
      · exact h0
      · exact h3 x hx
theorem av_to : ∀ (L : List AV), atC (L.map avA) (L.map avV) = avC L
  | [] => rfl
  | x :: L => by
    have := av_to L
    simp only [List.map_cons, atC, avC, List.flatMap_cons] at this ⊢
    rw [this]; rfl
theorem avC_len (L : List AV) : (avC L).length = L.length * 2 := by
  induction L with
  | nil => rfl
  | cons x L ih => simp only [avC, List.flatMap_cons, List.length_append, List.length_cons] at ih ⊢; rw [ih]; simp [encA]; omega
theorem own_av {e : TypeId} {base : Nat} {w : World} {v : Value} {L : List AV} (h : w.ownsRow base e 2 v L.length (avC L)) (hi : ∀ x, x ∈ L → OwnInts base w (avV x) x.2) : OwnAtoms e base w v (L.map avA) := by
  refine ⟨L.map avV, by simp, by rw [av_to, List.length_map]; exact h, fun i hl => ?_⟩
  have hl' : i < L.length := by simpa using hl
  have := hi L[i] (List.getElem_mem hl')
  simpa [aA, List.getD_eq_getElem?_getD, hl', avA] using this
theorem avC_at : ∀ (L : List AV) (i : Nat) (hi : i < L.length), (avC L)[i * 2]? = some (.int .i64 L[i].1.1) ∧ (avC L)[i * 2 + 1]? = some (avV L[i])
  | x :: L, 0, _ => ⟨rfl, rfl⟩
  | x :: L, i + 1, hi => by
    have := avC_at L i (by simpa using hi)
    have e : avC (x :: L) = .int .i64 x.1.1 :: avV x :: avC L := rfl
    rw [e, show (i + 1) * 2 = i * 2 + 1 + 1 by omega]
    simpa using this
def dAV : AV := ((0, none, 0, 0), [])
theorem avC_app (L M : List AV) : avC (L ++ M) = avC L ++ avC M := by simp [avC]
/-- the cells of a row of facts -/
theorem avC_cells {base : Nat} {e : TypeId} {g n cap : Nat} {w : World} {L : List AV} (h : w.ownsRow base e 2 (.slice (some ⟨g, 0, none⟩) n cap) n (avC L)) (hn : n = L.length) {j : Nat} (hj : j < n) :
    w.cell? ⟨g, j * 2, none⟩ = some (.int .i64 (L.getD j dAV).1.1) ∧ w.cell? ⟨g, j * 2 + 1, none⟩ = some (avV (L.getD j dAV)) := by
  have h0 : j < L.length := by omega
  have := avC_at L j h0
  rw [World.ownsRow.cellAt h (j * 2) (by omega), World.ownsRow.cellAt h (j * 2 + 1) (by omega), this.1, this.2, List.getD_eq_getElem?_getD, List.getElem?_eq_getElem h0]
  exact ⟨rfl, rfl⟩
theorem own_takeK {w : World} {base s : Nat} {e : TypeId} {g n cap : Nat} {xs : List Value} (h : w.ownsRow base e s (.slice (some ⟨g, 0, none⟩) n cap) n xs) {k : Nat} (hk : k ≤ n) : w.ownsRow base e s (.slice (some ⟨g, 0, none⟩) k cap) k (xs.take (k * s)) := by
  obtain ⟨h1, h2⟩ := h
  have hks : k * s ≤ n * s := Nat.mul_le_mul_right s hk
  refine ⟨by rw [List.length_take]; omega, ?_⟩
  rcases h2 with ⟨h', _⟩ | ⟨g', cap', cur, h', hb, hg, hnc, hcm, hcs, htake⟩
  · simp at h'
  · simp only [Value.slice.injEq, Option.some.injEq, Addr.mk.injEq, and_true, true_and] at h'
    obtain ⟨rfl, rfl⟩ := h'
    refine .inr ⟨g, cap, cur, rfl, hb, hg, by omega, hcm, hcs, ?_⟩
    rw [← htake, List.take_take]
    congr 1
    omega
theorem own_cellsK {base s : Nat} {e : TypeId} {g n cap k : Nat} : ∀ (vs : List Value) (o : Nat) (w : World) (xs : List Value), k ≤ o → w.ownsRow base e s (.slice (some ⟨g, 0, none⟩) n cap) n xs →
    (∃ ys, (w.setCells g o vs).ownsRow base e s (.slice (some ⟨g, 0, none⟩) n cap) n ys ∧ ys.take k = xs.take k) ∧ w.grownBy (w.setCells g o vs) (some g)
  | [], o, w, xs, _, h => ⟨⟨xs, h, rfl⟩, ⟨rfl, rfl, rfl, Nat.le_refl _, fun _ _ _ => rfl⟩⟩
  | v :: vs, o, w, xs, ho, h => by
    obtain ⟨a, b⟩ := h.stored o v
    obtain ⟨⟨ys, c, d⟩, q⟩ := own_cellsK vs (o + 1) _ _ (Nat.le_succ_of_le ho) a
    refine ⟨⟨ys, c, ?_⟩, b.trans q⟩
    rw [d, List.take_set_of_le (by omega)]
theorem avC_set {A B : List AV} {x y : AV} {kk : Nat} (hA : A.length = kk) : ((avC (A ++ x :: B)).set (kk * 2) (.int .i64 y.1.1)).set (kk * 2 + 1) (avV y) = avC ((A ++ [y]) ++ B) := by
  have e1 : avC (A ++ x :: B) = avC A ++ (.int .i64 x.1.1 :: avV x :: avC B) := by rw [avC_app]; rfl
  have e2 : avC ((A ++ [y]) ++ B) = avC A ++ (.int .i64 y.1.1 :: avV y :: avC B) := by rw [List.append_assoc, avC_app]; rfl
  have hl : (avC A).length = kk * 2 := by rw [avC_len, hA]
  rw [e1, e2, List.set_append_right _ _ (by omega), hl, Nat.sub_self, List.set_cons_zero, List.set_append_right _ _ (by omega), hl, show kk * 2 + 1 - kk * 2 = 1 by omega]; rfl
theorem clear_facts {w : World} {base g n cap : Nat} {xs : List Value} (h : w.ownsRow base 50 2 (.slice (some ⟨g, 0, none⟩) n cap) n xs) {kk : Nat} (hk : kk < n) (c : Nat) : ∃ vs, ∀ ty, (Builtin.clear_ #[39] ty #[.slice (some ⟨g, kk * 2, none⟩) (n - kk) c]).run Try.prog w = .ok (.tuple #[]) (w.setCells g (kk * 2) vs) := by
  refine ⟨(Builtin.zeroCells (Value.agg #[.int .i64 0, .slice none 0 0]).cells (n - kk)).toList, fun ty => ?_⟩
  have hl : (Builtin.zeroCells (Value.agg #[.int .i64 0, .slice none 0 0]).cells (n - kk)).toList.length = (n - kk) * 2 := by simp [Builtin.zeroCells, Value.cells]
  have hx := h.1
  have hst := run_storeCells_cells (P := Try.prog) g (kk * 2) (Builtin.zeroCells (Value.agg #[.int .i64 0, .slice none 0 0]).cells (n - kk)).toList 0 w (fun j hj => by
      rw [World.ownsRow.cellAt h (kk * 2 + 0 + j) (by omega), List.getElem?_eq_getElem (by omega)]; rfl) (fun j hj => World.ownsRow.frozenAt h _) (fun v hv => by
      simp only [Builtin.zeroCells, Value.cells, Array.toList_map, List.mem_map] at hv
      obtain ⟨i, _, rfl⟩ := hv
      rcases Nat.mod_two_eq_zero_or_one i with e | e <;> simp [e, Value.oneCell'])
  simp only [Nat.add_zero] at hst
  obtain ⟨m, hm⟩ : ∃ m, n - kk = m + 1 := ⟨n - kk - 1, by omega⟩
  rw [hm] at hst ⊢
  simp [Builtin.clear_, run_underlying Try.underlying39, hst]
def kpN (q : Int) (L : List AV) (m : Nat) : List AV := (L.take m).filter fun x => decide (x.1.1 = q)
theorem kpN_yes {q : Int} {L : List AV} {m : Nat} (hm : m < L.length) (h : (L.getD m dAV).1.1 = q) : kpN q L (m + 1) = kpN q L m ++ [L.getD m dAV] := by
  have e : L.getD m dAV = L[m] := by rw [List.getD_eq_getElem?_getD, List.getElem?_eq_getElem hm]; rfl
  unfold kpN
  rw [List.take_succ_eq_append_getElem hm, List.filter_append, e, List.filter_cons, List.filter_nil, if_pos (by rw [← e]; exact decide_eq_true h)]
theorem kpN_no {q : Int} {L : List AV} {m : Nat} (hm : m < L.length) (h : ¬ (L.getD m dAV).1.1 = q) : kpN q L (m + 1) = kpN q L m := by
  have e : L.getD m dAV = L[m] := by rw [List.getD_eq_getElem?_getD, List.getElem?_eq_getElem hm]; rfl
  unfold kpN
  rw [List.take_succ_eq_append_getElem hm, List.filter_append, List.filter_cons, List.filter_nil, if_neg (by rw [← e, decide_eq_true_eq]; exact h), List.append_nil]
theorem kpN_all {q : Int} {L : List AV} : ∀ {m}, m ≤ L.length → (∀ i, i < m → (L.getD i dAV).1.1 = q) → kpN q L m = L.take m
  | 0, _, _ => by simp [kpN]
  | m + 1, hm, h => by
    rw [kpN_yes hm (h m (by omega)), kpN_all (by omega) fun i hi => h i (by omega), List.take_succ_eq_append_getElem hm, List.getD_eq_getElem?_getD, List.getElem?_eq_getElem hm]; rfl
theorem cloN_any (s q : Int) (C : List Int) (v : Value) (bq : Nat) (w : World) (hq : w.cell? ⟨bq, 0, none⟩ = some (.int .i64 q)) (hv : Ints w v C) (B : Bool) (hB : B = true ↔ ¬ s = q) :
    Calls Try.prog 55 #[.agg #[.int .i64 s, v], .pointer (some ⟨bq, 0, none⟩)] w fun e w' => e = .returned (.bool B) ∧ Below w.heap.size w w' := by
  obtain ⟨va, vc, rfl⟩ := ints_slice hv
  obtain ⟨vn, hvn⟩ : ∃ x, x = C.length := ⟨_, rfl⟩
  rw [← hvn]
  obtain ⟨w1, hw1⟩ : ∃ x, x = w.alloc (.cells #[.int .i64 s, .slice va vn vc] 50) := ⟨_, rfl⟩
  have hb1 : Below w.heap.size w w1 := by rw [hw1]; exact below_alloc _ _
  obtain ⟨bg, hbg⟩ : ∃ x, x = w.heap.size := ⟨_, rfl⟩
  have hG : w1.heap[bg]? = some (.cells #[.int .i64 s, .slice va vn vc] 50 (0, 0)) := by rw [hw1, hbg]; exact heap_alloc_new _ _
  have hq1 := Below.keep hb1 hq
  have Hb1 := Lib.hid hb1
  have Hw1 := Lib.hid hw1
  have Hbg := Lib.hid hbg
  have g0 := aCell hG 0 rfl
  have HE := Lib.hid (show B = (s != q) from by
    by_cases c : s = q
    · rw [show (s != q) = false from by rw [c]; simp]
      cases B
      · rfl
      · exact absurd c (hB.1 rfl)
    · rw [show (s != q) = true from by rw [bne_iff_ne]; exact c]
      exact hB.2 c)
  clear hv hq hvn hw1 hb1 hbg hG hB
  go_enter Try.func55, Try.ntmps55
  go_upto_region 1 with fail
  rw [← Hw1.out, ← Hbg.out]
  clear Hw1
  go_wp2_with fail
  go_ret
  exact ⟨by rw [HE.out]; rfl, Hb1.out⟩
set_option maxRecDepth 100000 in
set_option maxHeartbeats 8000000 in
theorem idxN_any (q : Int) (bq : Nat) (L : List RAt) (v : Value) (w : World) (hq : w.cell? ⟨bq, 0, none⟩ = some (.int .i64 q)) (hv : Atoms w v L) :
    Calls Try.prog 111 #[v, .func (.func 55) #[] #[.pointer (some ⟨bq, 0, none⟩)]] w fun e w' => ∃ c : Int, e = .returned (.int .i64 c) ∧ ((c = -1 ∧ ∀ j, j < L.length → (L.getD j (0, [])).1 = q) ∨ ∃ k : Nat, c = k ∧ k < L.length ∧ (∀ j, j < k → (L.getD j (0, [])).1 = q) ∧ ¬ (L.getD k (0, [])).1 = q) ∧ Below w.heap.size w w' := by
  obtain ⟨a, b, off, cap, vs, rfl, hle, hia, _, hcs⟩ := Atoms.get hv
  obtain ⟨n, hn⟩ : ∃ x, x = L.length := ⟨_, rfl⟩
  have Hn := Lib.hid hn
  rw [← hn] at hle hia hcs ⊢
  have Hix := Lib.hid (run_ix (P := Try.prog) (t := 39) (a := a) (len := n) (cap := cap) (b := b) (off := off) (s := 2) Try.underlying39 (by intro w; kernel_rfl) hia)
  have Hc := Lib.hid hcs
  have Hq := Lib.hid hq
  clear hv hia hcs hn hq
  go_enter Try.func111, Try.ntmps111
  go_wp2_with fail
  go_loopw [8] (fun vi wr => ∃ k : Nat, vi = .int .i64 k ∧ k ≤ n ∧ Below w.heap.size w wr ∧ ∀ j, j < k → (L.getD j (0, [])).1 = q) (fun vi _ => n - (intOf vi).toNat)
  case atStart => exact ⟨0, rfl, Nat.zero_le _, Below.refl _ _, fun j hj => by omega⟩
  case round =>
    generalize wr = wx at *
    obtain ⟨k, rfl, hk, hb, hQ⟩ := hrel
    have HB := Lib.hid hb
    have HQ := Lib.hid hQ
    clear hb hQ
    by_cases hlt : k < n
    · obtain ⟨q0, q1, q2⟩ := Hc.out k hlt
      have q0 := Below.keep HB.out q0
      have q1 := Below.keep HB.out q1
      have q2 := Ints.keep q2 HB.out
      have hixk := Hix.out k
      unfold aR at q0
      unfold aA at q2
      obtain ⟨⟨s, C⟩, hf⟩ : ∃ x, x = L.getD k (0, []) := ⟨_, rfl⟩
      have Hf := Lib.hid hf
      rw [← hf] at q0 q2
      simp only at q0 q2
      obtain ⟨xa, xc, hxs⟩ := ints_slice q2
      rw [hxs] at q1 q2
      have Hq2 := Lib.hid q2
      obtain ⟨xn, hxn⟩ : ∃ x, x = C.length := ⟨_, rfl⟩
      rw [← hxn] at q1 Hq2
      by_cases c : s = q
      · have HC := Lib.hid (cloN_any s q C _ bq wx (Below.keep HB.out Hq.out) Hq2.out false ⟨fun h => (by cases h), fun h => absurd c h⟩)
        have HN := Lib.hid (show ∀ j, j < k + 1 → (L.getD j (0, [])).1 = q from fun j hj => by
          by_cases e : j = k
          · subst e; rw [← Hf.out]; exact c
          · exact HQ.out j (by omega))
        clear c q2 hxs hf hxn
        go_wp2_with fail
        refine HC.out.mono ?_
        rintro e w5 ⟨rfl, hb5⟩
        have HB5 := Lib.hid (Below.tr HB.out hb5)
        clear hb5
        go_wp2_with fail
        go_roundw
        case rel => exact ⟨k + 1, by go_num, by omega, HB5.out, HN.out⟩
        case measure => simp [intOf]; omega
      · have HC := Lib.hid (cloN_any s q C _ bq wx (Below.keep HB.out Hq.out) Hq2.out true ⟨fun _ => c, fun _ => rfl⟩)
        have HM := Lib.hid (show ¬ (L.getD k (0, [])).1 = q from by rw [← Hf.out]; exact c)
        clear c q2 hxs hf hxn
        go_wp2_with fail
        refine HC.out.mono ?_
        rintro e w5 ⟨rfl, hb5⟩
        have HB5 := Lib.hid (Below.tr HB.out hb5)
        clear hb5
        go_wp2_with fail
        go_ret
        exact ⟨k, rfl, .inr ⟨k, rfl, hlt, HQ.out, HM.out⟩, HB5.out⟩
    · obtain rfl : k = n := by omega
      go_wp2_with fail
      go_ret
      exact ⟨-1, rfl, .inl ⟨rfl, HQ.out⟩, HB.out⟩
theorem av_get {L : List AV} {j : Nat} (hj : j < L.length) : (L.map avA).getD j (0, []) = avA (L.getD j dAV) := by
  rw [List.getD_eq_getElem?_getD, List.getElem?_map, List.getElem?_eq_getElem hj, List.getD_eq_getElem?_getD, List.getElem?_eq_getElem hj]; rfl
theorem grB {w w' : World} {g : Nat} (h : Below w.heap.size w w') : w.grownBy w' (some g) := ⟨h.os, h.tape, h.output, h.size, fun b hb _ => h.block b hb⟩
set_option maxRecDepth 100000 in
set_option maxHeartbeats 16000000 in
theorem delN_any (q : Int) (bq base g cap : Nat) (L : List AV) (hl : L.length ≤ 1000000) (w : World) (hbq : w.heap[bq]? = some (.cells #[.int .i64 q] 3 (0, 0))) (ho : w.ownsRow base 50 2 (.slice (some ⟨g, 0, none⟩) L.length cap) L.length (avC L)) (hr : ∀ p, p ∈ L → OwnInts base w (avV p) p.2) :
    Calls Try.prog 56 #[.slice (some ⟨g, 0, none⟩) L.length cap, .func (.func 55) #[] #[.pointer (some ⟨bq, 0, none⟩)]] w fun e w' =>
      e = .returned (.slice (some ⟨g, 0, none⟩) (kpN q L L.length).length cap) ∧ w'.ownsRow base 50 2 (.slice (some ⟨g, 0, none⟩) (kpN q L L.length).length cap) (kpN q L L.length).length (avC (kpN q L L.length)) ∧ w.grownBy w' (some g) := by
  have Hix := Lib.hid (run_ix (P := Try.prog) (t := 39) (a := some ⟨g, 0, none⟩) (len := L.length) (cap := cap) (b := g) (off := 0) (s := 2) Try.underlying39 (by intro w; kernel_rfl) (fun _ => rfl))
  simp only [Nat.zero_add] at Hix
  have Ho := Lib.hid ho
  have Hr := Lib.hid hr
  have hat : Atoms w (.slice (some ⟨g, 0, none⟩) L.length cap) (L.map avA) := (own_av ho hr).atoms
  have HI := Lib.hid (idxN_any q bq (L.map avA) _ w (aCell hbq 0 rfl) hat)
  have HBQ := Lib.hid hbq
  have Hng := Lib.hid (show bq ≠ g from fun e => by
    rcases ho.2 with ⟨h', _⟩ | ⟨g', cap', cur, h', _, hh, _⟩
    · simp at h'
    · simp only [Value.slice.injEq, Option.some.injEq, Addr.mk.injEq, and_true, true_and] at h'
      obtain ⟨rfl, rfl⟩ := h'
      rw [e] at hbq
      rw [hbq] at hh
      injection hh with hh
      injection hh with _ hh
      exact absurd hh (by decide))
  have hlc : L.length ≤ cap := by
    rcases ho.2 with ⟨h', _⟩ | ⟨g', cap', cur, h', _, _, hnc, _⟩
    · simp at h'
    · simp only [Value.slice.injEq, Option.some.injEq, Addr.mk.injEq, and_true, true_and] at h'
      obtain ⟨_, rfl⟩ := h'; exact hnc
  clear ho hr hat hbq
  obtain ⟨n, hn⟩ : ∃ n, n = L.length := ⟨_, rfl⟩
  rw [List.length_map, ← hn] at HI
  rw [← hn] at Ho Hix hlc hl ⊢
  have Hn := Lib.hid hn
  clear hn
  go_enter Try.func56, Try.ntmps56
  go_wp2_with fail
  refine HI.out.mono ?_
  clear HI
  rintro e w1 ⟨c, rfl, hc, hb1⟩
  have HB1 := Lib.hid hb1
  clear hb1
  rcases hc with ⟨rfl, hall⟩ | ⟨k, rfl, hk, hpre, hnk⟩
  · have R := Lib.hid (show (Value.slice (some ⟨g, 0, none⟩) n cap) = .slice (some ⟨g, 0, none⟩) (kpN q L n).length cap ∧ w1.ownsRow base 50 2 (.slice (some ⟨g, 0, none⟩) (kpN q L n).length cap) (kpN q L n).length (avC (kpN q L n)) ∧ w.grownBy w1 (some g) from by
      have e : kpN q L n = L := by
        rw [kpN_all (by rw [← Hn.out]; exact Nat.le_refl _) fun i hi => ?_, Hn.out, List.take_length]
        have := hall i hi
        rw [av_get (by rw [← Hn.out]; exact hi)] at this
        exact this
      rw [e, ← Hn.out]
      exact ⟨rfl, owns_keep Ho.out HB1.out, grB HB1.out⟩)
    clear hall
    go_wp2_with fail
    go_ret
    exact ⟨congrArg Ending.returned R.out.1, R.out.2⟩
  · have HT0 := Lib.hid (show kpN q L (k + 1) = L.take k from by
      have hk2 : k < L.length := by rw [← Hn.out]; exact hk
      rw [kpN_no hk2 (by have := hnk; rw [av_get hk2] at this; exact this), kpN_all (by omega) fun i hi => ?_]
      have := hpre i hi
      rw [av_get (by omega)] at this
      exact this)
    have Hk1 := Lib.hid (show (kpN q L (k + 1)).length = k from by rw [HT0.out, List.length_take]; have := Hn.out; omega)
    have HO1 := Lib.hid (show w1.ownsRow base 50 2 (.slice (some ⟨g, 0, none⟩) n cap) n (avC (kpN q L (k + 1) ++ L.drop k)) from by
      rw [HT0.out, List.take_append_drop]; exact owns_keep Ho.out HB1.out)
    have hkm1 : ¬ ((k : Int) == -1) = true := by first | (simp; done) | (simp; omega)
    have hkm2 : ((k : Int) == -1) = false := by first | (simp; done) | (simp; omega)
    clear hpre hnk HT0
    go_wp2_with fail
    clear hkm1 hkm2
    go_loopw [5, 6] (fun vk vm wx => ∃ kk m : Nat, vk = .int .i64 kk ∧ vm = .int .i64 m ∧ kk < m ∧ m ≤ n ∧ (kpN q L m).length = kk ∧ wx.ownsRow base 50 2 (.slice (some ⟨g, 0, none⟩) n cap) n (avC (kpN q L m ++ L.drop kk)) ∧ w.grownBy wx (some g)) (fun _ vm _ => n - (intOf vm).toNat)
    case atStart => exact ⟨k, k + 1, rfl, by go_num, by omega, by omega, Hk1.out, HO1.out, grB HB1.out⟩
    case round =>
      clear HO1 Hk1 HB1
      obtain ⟨kk, m, rfl, rfl, hkm, hmn, hT, ho, hg⟩ := hrel
      have HT := Lib.hid hT
      have HO := Lib.hid ho
      have HG := Lib.hid hg
      clear hT ho hg
      generalize wr = wz at *
      have Hat := Lib.hid (show ∀ j, kk ≤ j → (kpN q L m ++ L.drop kk).getD j dAV = L.getD j dAV from fun j hj => by
        rw [List.getD_eq_getElem?_getD, List.getElem?_append_right (show (kpN q L m).length ≤ j from by rw [HT.out]; exact hj), HT.out, List.getElem?_drop, show kk + (j - kk) = j by omega, List.getD_eq_getElem?_getD])
      have Hlen := Lib.hid (show n = (kpN q L m ++ L.drop kk).length from by rw [List.length_append, HT.out, List.length_drop, ← Hn.out]; omega)
      have hcell := fun j (h1 : kk ≤ j) (h2 : j < n) => avC_cells HO.out Hlen.out h2
      have hint : ∀ j, j < n → Ints wz (avV (L.getD j dAV)) (L.getD j dAV).2 := fun j hj => by
        have h1 : OwnInts base w (avV (L.getD j dAV)) (L.getD j dAV).2 := Hr.out _ (by rw [List.getD_eq_getElem?_getD, List.getElem?_eq_getElem (by rw [← Hn.out]; exact hj)]; exact List.getElem_mem _)
        have h2 : OwnInts base wz (avV (L.getD j dAV)) (L.getD j dAV).2 := World.ownsRow.kept h1 HG.out (rows_apart h1 Ho.out (by decide))
        exact h2.ints
      by_cases hlt2 : m < n
      · have hck := hcell m (by omega) hlt2
        rw [Hat.out m (by omega)] at hck
        have Hik := Lib.hid (hint m hlt2)
        have hckk := hcell kk (Nat.le_refl _) (by omega)
        have hfz1 := HO.out.frozenAt (kk * 2)
        have hfz2 := HO.out.frozenAt (kk * 2 + 1)
        rw [Hat.out kk (Nat.le_refl _)] at hckk
        obtain ⟨hckk1, hckk2⟩ := hckk
        have hmL : m < L.length := by rw [← Hn.out]; exact hlt2
        have HY := Lib.hid (fun (h : (L.getD m dAV).1.1 = q) => kpN_yes hmL h)
        have HNo := Lib.hid (fun (h : ¬ (L.getD m dAV).1.1 = q) => kpN_no hmL h)
        obtain ⟨⟨⟨r1, xa, xn, xc⟩, X⟩, hX⟩ : ∃ p : AV, p = L.getD m dAV := ⟨_, rfl⟩
        rw [← hX] at hck Hik HY HNo
        simp only [avV] at hck Hik HY HNo
        clear hX hcell hint hmL
        obtain ⟨hck1, hck2⟩ := hck
        obtain ⟨c0, hc0⟩ : ∃ c, c = (L.getD kk dAV).1.1 := ⟨_, rfl⟩
        obtain ⟨c1, hc1⟩ : ∃ c, c = avV (L.getD kk dAV) := ⟨_, rfl⟩
        rw [← hc0] at hckk1
        rw [← hc1] at hckk2
        clear hc0 hc1
        have hkkn : kk < n := by omega
        have hixkk := fun w => Hix.out kk w hkkn
        have hixmm := fun w => Hix.out m w hlt2
        obtain ⟨w3, hw3⟩ : ∃ x, x = wz.alloc (.cells #[.int .i64 r1, .slice xa xn xc] 50) := ⟨_, rfl⟩
        have hb3 : Below wz.heap.size wz w3 := by rw [hw3]; exact below_alloc _ _
        obtain ⟨bx, hbx⟩ : ∃ x, x = wz.heap.size := ⟨_, rfl⟩
        have HXx := Lib.hid (show w3.heap[bx]? = some (.cells #[.int .i64 r1, .slice xa xn xc] 50 (0, 0)) from by rw [hw3, hbx]; exact heap_alloc_new _ _)
        have Hbz := Lib.hid (show wz.heap[bq]? = some (.cells #[.int .i64 q] 3 (0, 0)) from by
          have hlt := (Array.getElem?_eq_some_iff.1 HBQ.out).1
          rw [HG.out.block bq hlt (fun e => Hng.out (by injection e))]; exact HBQ.out)
        have HC := Lib.hid (fun B hB => cloN_any r1 q X (.slice xa xn xc) bq w3 (aCell (blk_keep2 Hbz.out hb3) 0 rfl) (Hik.out.keep hb3) B hB)
        have HB3 := Lib.hid hb3
        have Hw3 := Lib.hid hw3
        have Hbx := Lib.hid hbx
        clear hw3 hb3 hbx
        go_upto_region 8 with fail
        rw [← Hw3.out, ← Hbx.out]
        clear Hw3 hck1 hck2 hixmm hckk1 hckk2 hfz1 hfz2
        have g0 := aCell HXx.out 0 rfl
        have g1 := aCell HXx.out 1 rfl
        by_cases c : r1 = q
        · have HC := Lib.hid (HC.out false ⟨fun h => (by cases h), fun h => absurd c h⟩)
          have HKy := Lib.hid (HY.out c)
          clear c HY HNo
          go_wp2_with fail
          refine HC.out.mono ?_
          clear HC
          rintro e wd1 ⟨rfl, hb5⟩
          have HW1 := Lib.hid (Below.tr HB3.out hb5)
          have HX5 := Lib.hid (blk_keep2 HXx.out hb5)
          clear hb5 g0 g1
          have g0 := aCell HX5.out 0 rfl
          have g1 := aCell HX5.out 1 rfl
          have hck := avC_cells (owns_keep HO.out HW1.out) Hlen.out hkkn
          obtain ⟨d0, hd0⟩ : ∃ c, c = ((kpN q L m ++ L.drop kk).getD kk dAV).1.1 := ⟨_, rfl⟩
          obtain ⟨d1, hd1⟩ : ∃ c, c = avV ((kpN q L m ++ L.drop kk).getD kk dAV) := ⟨_, rfl⟩
          rw [← hd0, ← hd1] at hck
          obtain ⟨hckk1, hckk2⟩ := hck
          clear hd0 hd1
          have hfz1 := (owns_keep HO.out HW1.out).frozenAt (kk * 2)
          have hfz2 := (owns_keep HO.out HW1.out).frozenAt (kk * 2 + 1)
          have HS9 := Lib.hid (show ((wd1.setCell ⟨g, kk * 2, none⟩ (.int .i64 r1)).setCell ⟨g, kk * 2 + 1, none⟩ (.slice xa xn xc)).ownsRow base 50 2 (.slice (some ⟨g, 0, none⟩) n cap) n (avC (kpN q L (m + 1) ++ L.drop (kk + 1))) ∧ w.grownBy ((wd1.setCell ⟨g, kk * 2, none⟩ (.int .i64 r1)).setCell ⟨g, kk * 2 + 1, none⟩ (.slice xa xn xc)) (some g) from by
            have h0 := owns_keep HO.out HW1.out
            obtain ⟨p1, p2⟩ := h0.stored (kk * 2) (.int .i64 r1)
            obtain ⟨p3, p4⟩ := p1.stored (kk * 2 + 1) (.slice xa xn xc)
            refine ⟨?_, (HG.out.trans (grB HW1.out)).trans (p2.trans p4)⟩
            have hd : L.drop kk = L[kk]'(by rw [← Hn.out]; exact hkkn) :: L.drop (kk + 1) := List.drop_eq_getElem_cons _
            have e := avC_set (A := kpN q L m) (x := L[kk]'(by rw [← Hn.out]; exact hkkn)) (y := ((r1, xa, xn, xc), X)) (B := L.drop (kk + 1)) HT.out
            rw [← hd] at e
            rw [HKy.out, ← e]
            exact p3)
          have HT9 := Lib.hid (show (kpN q L (m + 1)).length = kk + 1 from by rw [HKy.out, List.length_append, HT.out]; rfl)
          go_wp2_with fail
          clear hckk1 hckk2 hfz1 hfz2 g0 g1
          go_roundw
          case rel => exact ⟨kk + 1, m + 1, by go_num, by go_num, by omega, by omega, HT9.out, HS9.out.1, HS9.out.2⟩
          case measure => simp [intOf]; omega
        · have HC := Lib.hid (HC.out true ⟨fun _ => c, fun _ => rfl⟩)
          have HKn := Lib.hid (HNo.out c)
          clear c HY HNo
          go_wp2_with fail
          refine HC.out.mono ?_
          clear HC
          rintro e wd1 ⟨rfl, hb5⟩
          have HW1 := Lib.hid (Below.tr HB3.out hb5)
          clear hb5 g0 g1
          have HO9 := Lib.hid (show wd1.ownsRow base 50 2 (.slice (some ⟨g, 0, none⟩) n cap) n (avC (kpN q L (m + 1) ++ L.drop kk)) from by
            rw [HKn.out]; exact owns_keep HO.out HW1.out)
          have HG9 := Lib.hid (show w.grownBy wd1 (some g) from HG.out.trans (grB HW1.out))
          have HT9 := Lib.hid (show (kpN q L (m + 1)).length = kk from by rw [HKn.out]; exact HT.out)
          go_wp2_with fail
          go_roundw
          case rel => exact ⟨kk, m + 1, rfl, by go_num, by omega, by omega, HT9.out, HO9.out, HG9.out⟩
          case measure => simp [intOf]; omega
      · obtain rfl : m = n := by omega
        have hlow : ¬ cap = kk := by omega
        obtain ⟨zs, hcl⟩ := clear_facts HO.out (show kk < m by omega) (cap - kk)
        have R := Lib.hid (show (Value.slice (some ⟨g, 0, none⟩) kk cap) = .slice (some ⟨g, 0, none⟩) (kpN q L m).length cap ∧ (wz.setCells g (kk * 2) zs).ownsRow base 50 2 (.slice (some ⟨g, 0, none⟩) (kpN q L m).length cap) (kpN q L m).length (avC (kpN q L m)) ∧ w.grownBy (wz.setCells g (kk * 2) zs) (some g) from by
          obtain ⟨⟨ys, o1, o2⟩, o3⟩ := own_cellsK zs (kk * 2) wz _ (Nat.le_refl _) HO.out
          have hl2 : (avC (kpN q L m)).length = kk * 2 := by rw [avC_len, HT.out]
          rw [HT.out]
          refine ⟨rfl, ?_, HG.out.trans o3⟩
          have o4 := own_takeK o1 (k := kk) (by omega)
          rw [o2, avC_app, List.take_append_of_le_length (by omega), List.take_of_length_le (by omega)] at o4
          exact o4)
        clear hcell hint HO HG HT Hat Hlen
        go_wp2_with fail
        go_ret
        exact ⟨congrArg Ending.returned R.out.1, R.out.2⟩
/-- of facts of the call's own those of a relation are kept -/
theorem delF_any (q : Int) (bq base : Nat) (cs : List RAt) (hl : cs.length ≤ 1000000) (v : Value) (w : World) (hbq : w.heap[bq]? = some (.cells #[.int .i64 q] 3 (0, 0))) (ho : OwnAtoms 50 base w v cs) :
    Calls Try.prog 56 #[v, .func (.func 55) #[] #[.pointer (some ⟨bq, 0, none⟩)]] w fun e w' =>
      ∃ a n c, e = .returned (.slice a n c) ∧ OwnAtoms 50 base w' (.slice a n c) (cs.filter fun f => decide (f.1 = q)) ∧ (Value.slice a n c).ownBlock = v.ownBlock ∧ w.grownBy w' v.ownBlock := by
  by_cases h0 : v.ownBlock = none
  · have hv : v = .slice none 0 0 ∧ cs = [] := by
      obtain ⟨vs, e1, e2, _⟩ := ho
      rcases e2.2 with ⟨rfl, h2⟩ | ⟨g', cap', cur, rfl, _⟩
      · exact ⟨rfl, List.length_eq_zero_iff.1 h2⟩
      · cases h0
    obtain ⟨rfl, rfl⟩ := hv
    have HI := Lib.hid (idxN_any q bq [] (.slice none 0 0) w (aCell hbq 0 rfl) (atoms_nil w))
    clear ho hbq h0 hl
    go_enter Try.func56, Try.ntmps56
    go_wp2_with fail
    refine HI.out.mono ?_
    clear HI
    rintro e w1 ⟨c, rfl, hc, hb1⟩
    have HB1 := Lib.hid hb1
    clear hb1
    rcases hc with ⟨rfl, _⟩ | ⟨k, rfl, hk, _⟩
    · go_wp2_with fail
      go_ret
      exact ⟨none, 0, 0, rfl, ownAtoms_nil _ _ _, rfl, ⟨HB1.out.os, HB1.out.tape, HB1.out.output, HB1.out.size, fun b hb _ => HB1.out.block b hb⟩⟩
    · exact absurd hk (Nat.not_lt_zero _)
  · obtain ⟨vs, e1, e2, e3⟩ := ho
    obtain ⟨L, l1, l2, l3⟩ := av_of cs vs base w e1 e3
    have hll : cs.length = L.length := by rw [← l1, List.length_map]
    rw [l2] at e2
    obtain ⟨g, cap, rfl⟩ : ∃ g cap, v = .slice (some ⟨g, 0, none⟩) cs.length cap := by
      rcases e2.2 with ⟨rfl, h2⟩ | ⟨g', cap', cur, rfl, _⟩
      · exact absurd rfl h0
      · exact ⟨g', cap', rfl⟩
    rw [hll] at e2 ⊢
    refine (delN_any q bq base g cap L (by omega) w hbq e2 l3).mono ?_
    rintro e w' ⟨rfl, k1, k2⟩
    refine ⟨_, _, _, rfl, ?_, rfl, k2⟩
    have hm : ∀ p, p ∈ kpN q L L.length → p ∈ L := fun p hp => by
      unfold kpN at hp
      have := (List.mem_filter.1 hp).1
      rwa [List.take_length] at this
    have k3 := own_av k1 fun x hx => World.ownsRow.kept (l3 x (hm x hx)) k2 (rows_apart (l3 x (hm x hx)) e2 (by decide))
    have ef : (kpN q L L.length).map avA = cs.filter fun f => decide (f.1 = q) := by
      unfold kpN
      rw [List.take_length, ← l1, List.filter_map]; rfl
    rwa [ef] at k3
#print axioms delF_any
end Go.Proofs.Ythndplkjhbmfmaa
