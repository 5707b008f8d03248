/- Contract of compareFacts; the order of facts. Contract of slices.CompactFunc over facts. -/
import Derived.Test.YtfplmdieeabgpaaCml
import Derived.Test.YtfplmdieeabgpaaRvf
import Derived.Shelf.SlSortCmp.Insertion1
import Derived.Test.YtfplmdieeabgpaaCpf
import Derived.Test.YtfplmdieeabgpaaHeld
import Derived.Test.YtfplmdieeabgpaaOf
import Derived.Test.YtfplmdieeabgpaaFas
namespace Go.Proofs.Ytfplmdieeabgpaa
open Go.RowKit
open Go.RowKit Go.Shelf Go.Lib Go.Sort
def cmpF (a b : HAt) : Int := if a.1 ≠ b.1 then a.1 - b.1 else cmpL a.2 b.2
def keyF (a : HAt) : List Int := a.1 :: a.2
theorem cmpF_key (a b : HAt) : (cmpF a b < 0 ↔ cmpL (keyF a) (keyF b) < 0) ∧ (cmpF a b = 0 ↔ a = b) := by
  unfold cmpF keyF
  rw [cmpL]
  by_cases h : a.1 = b.1
  · rw [if_neg (fun k => k h), if_neg (by omega), if_neg (by omega)]
    refine ⟨Iff.rfl, fun k => Prod.ext h (cmpL_eq k), fun k => by rw [k]; exact cmpL_refl _⟩
  · rw [if_pos h]
    refine ⟨?_, fun k => by omega, fun k => absurd (by rw [k]) h⟩
    by_cases h2 : a.1 < b.1
    · rw [if_pos h2]; omega
    · rw [if_neg h2, if_pos (by omega)]; omega
theorem keyF_inj {a b : HAt} (h : keyF a = keyF b) : a = b := by
  injection h with h1 h2
  exact Prod.ext h1 h2
set_option maxHeartbeats 1000000 in
theorem compareFacts_any (r s : Int) (A B : List Int) (u v : Value) (w : World) (hu : Ints w u A) (hv : Ints w v B) (hr : 0 ≤ r ∧ r ≤ 5) (hs : 0 ≤ s ∧ s ≤ 5) :
    Calls Try.prog 125 #[.agg #[.int .i64 r, u], .agg #[.int .i64 s, v]] w fun e w' => e = .returned (.int .i64 (cmpF (r, A) (s, B))) ∧ w' = (w.alloc (.cells #[.int .i64 r, u] 77)).alloc (.cells #[.int .i64 s, v] 77) := by
  obtain ⟨ua, uc, rfl⟩ := ints_slice hu
  obtain ⟨va, vc, rfl⟩ := ints_slice hv
  obtain ⟨un, hun⟩ : ∃ n, n = A.length := ⟨_, rfl⟩
  obtain ⟨vn, hvn⟩ : ∃ n, n = B.length := ⟨_, rfl⟩
  rw [← hun] at hu ⊢
  rw [← hvn] at hv ⊢
  have hb : Below w.heap.size w ((w.alloc (.cells #[.int .i64 r, .slice ua un uc] 77)).alloc (.cells #[.int .i64 s, .slice va vn vc] 77)) := Below.tr (below_alloc _ _) (below_alloc _ _)
  have HC := Lib.hid (compare_any A B _ _ _ (hu.keep hb) (hv.keep hb))
  clear hu hv hb hun hvn
  by_cases h : r = s
  · have R := Lib.hid (show cmpF (r, A) (s, B) = cmpL A B from by unfold cmpF; rw [if_neg (fun k => k h)])
    subst h
    have q : (r != r) = false := by simp
    go_enter Try.func125, Try.ntmps125
    go_wp2_with fail
    refine HC.out.mono ?_
    rintro e w' ⟨rfl, rfl⟩
    go_wp2_with fail
    go_ret
    exact ⟨congrArg (fun z => Ending.returned (.int .i64 z)) R.out.symm, rfl⟩
  · have R := Lib.hid (show cmpF (r, A) (s, B) = r - s from by unfold cmpF; rw [if_pos h])
    have q : (r != s) = true := by rw [bne_iff_ne]; exact h
    go_enter Try.func125, Try.ntmps125
    go_wp2_with fail
    go_ret
    exact ⟨congrArg (fun z => Ending.returned (.int .i64 z)) R.out.symm, rfl⟩
set_option maxHeartbeats 1000000 in
theorem eqFact_any (r s : Int) (A B : List Int) (u v : Value) (w : World) (hu : Ints w u A) (hv : Ints w v B) (hr : 0 ≤ r ∧ r ≤ 5) (hs : 0 ≤ s ∧ s ≤ 5) :
    Calls Try.prog 127 #[.agg #[.int .i64 r, u], .agg #[.int .i64 s, v]] w fun e w' => e = .returned (.bool (decide ((r, A) = (s, B)))) ∧ Below w.heap.size w w' := by
  obtain ⟨ua, uc, rfl⟩ := ints_slice hu
  obtain ⟨va, vc, rfl⟩ := ints_slice hv
  obtain ⟨un, hun⟩ : ∃ n, n = A.length := ⟨_, rfl⟩
  obtain ⟨vn, hvn⟩ : ∃ n, n = B.length := ⟨_, rfl⟩
  rw [← hun] at hu ⊢
  rw [← hvn] at hv ⊢
  have hb : Below w.heap.size w ((w.alloc (.cells #[.int .i64 r, .slice ua un uc] 77)).alloc (.cells #[.int .i64 s, .slice va vn vc] 77)) := Below.tr (below_alloc _ _) (below_alloc _ _)
  have HC := Lib.hid (compareFacts_any r s A B _ _ _ (hu.keep hb) (hv.keep hb) hr hs)
  have HB := Lib.hid hb
  clear hu hv hb hun hvn hr hs
  have R := Lib.hid (show (cmpF (r, A) (s, B) == 0) = decide ((r, A) = (s, B)) from by
    rw [Bool.eq_iff_iff, beq_iff_eq, decide_eq_true_iff]; exact (cmpF_key _ _).2)
  go_enter Try.func127, Try.ntmps127
  go_wp2_with fail
  refine HC.out.mono ?_
  rintro e w' ⟨rfl, rfl⟩
  go_wp2_with fail
  go_ret
  exact ⟨congrArg (fun z => Ending.returned (.bool z)) R.out, Below.tr HB.out (Below.tr (below_alloc _ _) (below_alloc _ _))⟩
#print axioms eqFact_any
def dAV : AV := ((0, none, 0, 0), [])
def kpA (L : List AV) (j : Nat) : Prop := j = 0 ∨ avA (L.getD j dAV) ≠ avA (L.getD (j - 1) dAV)
open Classical in
noncomputable def cpA (L : List AV) : Nat → List AV
  | 0 => []
  | j + 1 => cpA L j ++ if kpA L j then [L.getD j dAV] else []
theorem cpA_yes {L : List AV} {j : Nat} (h : kpA L j) : cpA L (j + 1) = cpA L j ++ [L.getD j dAV] := by rw [cpA, if_pos h]
theorem cpA_no {L : List AV} {j : Nat} (h : ¬ kpA L j) : cpA L (j + 1) = cpA L j := by rw [cpA, if_neg h, List.append_nil]
theorem cpA_all {L : List AV} : ∀ {j}, j ≤ L.length → (∀ i, i < j → kpA L i) → cpA L j = L.take j
  | 0, _, _ => rfl
  | j + 1, hj, h => by
    rw [cpA_yes (h j (by omega)), cpA_all (by omega) fun i hi => h i (by omega), List.take_succ_eq_append_getElem (by omega), List.getD_eq_getElem?_getD, List.getElem?_eq_getElem (by omega)]
    rfl
theorem mem_cpA {L : List AV} {j : Nat} (hj : j ≤ L.length) {p : AV} (hp : p ∈ cpA L j) : p ∈ L := by
  induction j with
  | zero => simp [cpA] at hp
  | succ j ih =>
    by_cases h : kpA L j
    · rw [cpA_yes h] at hp
      rcases List.mem_append.1 hp with hp | hp
      · exact ih (by omega) hp
      · rw [List.mem_singleton.1 hp, List.getD_eq_getElem?_getD, List.getElem?_eq_getElem (by omega)]; exact List.getElem_mem _
    · rw [cpA_no h] at hp; exact ih (by omega) hp
/-- as a pair of a value and its key -/
def avP (a : AV) : PV := (avV a, keyF (avA a))
theorem avP_at {L : List AV} {j : Nat} (hj : j < L.length) : (L.map avP).getD j dPV = avP (L.getD j dAV) := by
  rw [List.getD_eq_getElem?_getD, List.getElem?_map, List.getElem?_eq_getElem hj, List.getD_eq_getElem?_getD, List.getElem?_eq_getElem hj]; rfl
theorem kpA_iff {L : List AV} {j : Nat} (hj : j < L.length) : kpA L j ↔ kpP (L.map avP) j := by
  unfold kpA kpP
  rw [avP_at hj, avP_at (show j - 1 < L.length by omega)]
  refine or_congr Iff.rfl (not_congr ⟨fun h => congrArg keyF h, fun h => keyF_inj h⟩)
theorem cpA_map {L : List AV} : ∀ j, j ≤ L.length → (cpA L j).map avP = cpT (L.map avP) j
  | 0, _ => rfl
  | j + 1, hj => by
    by_cases h : kpA L j
    · rw [cpA_yes h, cpT_yes ((kpA_iff (by omega)).1 h), List.map_append, cpA_map j (by omega), avP_at (by omega)]; rfl
    · rw [cpA_no h, cpT_no (fun k => h ((kpA_iff (by omega)).2 k)), cpA_map j (by omega)]
theorem avC_app (L M : List AV) : avC (L ++ M) = avC L ++ avC M := by simp [avC]
/-- the cells of a row of facts -/
theorem avC_cells {base : Nat} {e : TypeId} {g n cap : Nat} {w : World} {L : List AV} (h : w.ownsRow base e 2 (.slice (some ⟨g, 0, none⟩) n cap) n (avC L)) (hn : n = L.length) {j : Nat} (hj : j < n) :
    w.cell? ⟨g, j * 2, none⟩ = some (.int .i64 (L.getD j dAV).1.1) ∧ w.cell? ⟨g, j * 2 + 1, none⟩ = some (avV (L.getD j dAV)) := by
  have h0 : j < L.length := by omega
  have := avC_at L j h0
  rw [World.ownsRow.cellAt h (j * 2) (by omega), World.ownsRow.cellAt h (j * 2 + 1) (by omega), this.1, this.2, List.getD_eq_getElem?_getD, List.getElem?_eq_getElem h0]
  exact ⟨rfl, rfl⟩
theorem own_takeK {w : World} {base s : Nat} {e : TypeId} {g n cap : Nat} {xs : List Value} (h : w.ownsRow base e s (.slice (some ⟨g, 0, none⟩) n cap) n xs) {k : Nat} (hk : k ≤ n) : w.ownsRow base e s (.slice (some ⟨g, 0, none⟩) k cap) k (xs.take (k * s)) := by
  obtain ⟨h1, h2⟩ := h
  have hks : k * s ≤ n * s := Nat.mul_le_mul_right s hk
  refine ⟨by rw [List.length_take]; omega, ?_⟩
  rcases h2 with ⟨h', _⟩ | ⟨g', cap', cur, h', hb, hg, hnc, hcm, hcs, htake⟩
  · simp at h'
  · simp only [Value.slice.injEq, Option.some.injEq, Addr.mk.injEq, and_true, true_and] at h'
    obtain ⟨rfl, rfl⟩ := h'
    refine .inr ⟨g, cap, cur, rfl, hb, hg, by omega, hcm, hcs, ?_⟩
    rw [← htake, List.take_take]
    congr 1
    omega
theorem own_cellsK {base s : Nat} {e : TypeId} {g n cap k : Nat} : ∀ (vs : List Value) (o : Nat) (w : World) (xs : List Value), k ≤ o → w.ownsRow base e s (.slice (some ⟨g, 0, none⟩) n cap) n xs →
    (∃ ys, (w.setCells g o vs).ownsRow base e s (.slice (some ⟨g, 0, none⟩) n cap) n ys ∧ ys.take k = xs.take k) ∧ w.grownBy (w.setCells g o vs) (some g)
  | [], o, w, xs, _, h => ⟨⟨xs, h, rfl⟩, ⟨rfl, rfl, rfl, Nat.le_refl _, fun _ _ _ => rfl⟩⟩
  | v :: vs, o, w, xs, ho, h => by
    obtain ⟨a, b⟩ := h.stored o v
    obtain ⟨⟨ys, c, d⟩, q⟩ := own_cellsK vs (o + 1) _ _ (Nat.le_succ_of_le ho) a
    refine ⟨⟨ys, c, ?_⟩, b.trans q⟩
    rw [d, List.take_set_of_le (by omega)]
theorem avC_set {A B : List AV} {x y : AV} {kk : Nat} (hA : A.length = kk) : ((avC (A ++ x :: B)).set (kk * 2) (.int .i64 y.1.1)).set (kk * 2 + 1) (avV y) = avC ((A ++ [y]) ++ B) := by
  have e1 : avC (A ++ x :: B) = avC A ++ (.int .i64 x.1.1 :: avV x :: avC B) := by rw [avC_app]; rfl
  have e2 : avC ((A ++ [y]) ++ B) = avC A ++ (.int .i64 y.1.1 :: avV y :: avC B) := by rw [List.append_assoc, avC_app]; rfl
  have hl : (avC A).length = kk * 2 := by rw [avC_len, hA]
  rw [e1, e2, List.set_append_right _ _ (by omega), hl, Nat.sub_self, List.set_cons_zero, List.set_append_right _ _ (by omega), hl, show kk * 2 + 1 - kk * 2 = 1 by omega]; rfl
theorem clear_facts {w : World} {base g n cap : Nat} {xs : List Value} (h : w.ownsRow base 77 2 (.slice (some ⟨g, 0, none⟩) n cap) n xs) {kk : Nat} (hk : kk < n) (c : Nat) : ∃ vs, ∀ ty, (Builtin.clear_ #[26] ty #[.slice (some ⟨g, kk * 2, none⟩) (n - kk) c]).run Try.prog w = .ok (.tuple #[]) (w.setCells g (kk * 2) vs) := by
  refine ⟨(Builtin.zeroCells (Value.agg #[.int .i64 0, .slice none 0 0]).cells (n - kk)).toList, fun ty => ?_⟩
  have hl : (Builtin.zeroCells (Value.agg #[.int .i64 0, .slice none 0 0]).cells (n - kk)).toList.length = (n - kk) * 2 := by simp [Builtin.zeroCells, Value.cells]
  have hx := h.1
  have hst := run_storeCells_cells (P := Try.prog) g (kk * 2) (Builtin.zeroCells (Value.agg #[.int .i64 0, .slice none 0 0]).cells (n - kk)).toList 0 w (fun j hj => by
      rw [World.ownsRow.cellAt h (kk * 2 + 0 + j) (by omega), List.getElem?_eq_getElem (by omega)]; rfl) (fun j hj => World.ownsRow.frozenAt h _) (fun v hv => by
      simp only [Builtin.zeroCells, Value.cells, Array.toList_map, List.mem_map] at hv
      obtain ⟨i, _, rfl⟩ := hv
      rcases Nat.mod_two_eq_zero_or_one i with e | e <;> simp [e, Value.oneCell'])
  simp only [Nat.add_zero] at hst
  obtain ⟨m, hm⟩ : ∃ m, n - kk = m + 1 := ⟨n - kk - 1, by omega⟩
  rw [hm] at hst ⊢
  simp [Builtin.clear_, run_underlying Try.underlying26, hst]
/-- what CompactFunc leaves -/
def CpA (base g cap : Nat) (L : List AV) (w : World) (e : Ending) (w' : World) : Prop :=
  e = .returned (.slice (some ⟨g, 0, none⟩) (cpA L L.length).length cap) ∧ w'.ownsRow base 77 2 (.slice (some ⟨g, 0, none⟩) (cpA L L.length).length cap) (cpA L L.length).length (avC (cpA L L.length)) ∧ w.grownBy w' (some g)
set_option maxRecDepth 100000 in
set_option maxHeartbeats 16000000 in
theorem compactA_any (base g cap : Nat) (L : List AV) (hl : L.length ≤ 1000000) (w : World) (ho : w.ownsRow base 77 2 (.slice (some ⟨g, 0, none⟩) L.length cap) L.length (avC L)) (hr : ∀ p, p ∈ L → OwnInts base w (avV p) p.2) (hb : ∀ p, p ∈ L → 0 ≤ p.1.1 ∧ p.1.1 ≤ 5) :
    Calls Try.prog 126 #[.slice (some ⟨g, 0, none⟩) L.length cap, .func (.func 127) #[] #[]] w (CpA base g cap L w) := by
  have Hix := Lib.hid (run_ix (P := Try.prog) (t := 26) (a := some ⟨g, 0, none⟩) (len := L.length) (cap := cap) (b := g) (off := 0) (s := 2) Try.underlying26 (by intro w; kernel_rfl) (fun _ => rfl))
  simp only [Nat.zero_add] at Hix
  have Ho := Lib.hid ho
  have Hr := Lib.hid hr
  have Hbd := Lib.hid (show ∀ j, j < L.length → 0 ≤ (L.getD j dAV).1.1 ∧ (L.getD j dAV).1.1 ≤ 5 from fun j hj => hb _ (by rw [List.getD_eq_getElem?_getD, List.getElem?_eq_getElem hj]; exact List.getElem_mem _))
  have hlc : L.length ≤ cap := by
    rcases ho.2 with ⟨h', _⟩ | ⟨g', cap', cur, h', _, _, hnc, _⟩
    · simp at h'
    · simp only [Value.slice.injEq, Option.some.injEq, Addr.mk.injEq, and_true, true_and] at h'
      obtain ⟨_, rfl⟩ := h'; exact hnc
  clear ho hr hb
  obtain ⟨n, hn⟩ : ∃ n, n = L.length := ⟨_, rfl⟩
  rw [← hn] at Ho Hix hlc hl Hbd ⊢
  have Hn := Lib.hid hn
  clear hn
  by_cases h2 : n < 2
  · have R := Lib.hid (show CpA base g cap L w (.returned (.slice (some ⟨g, 0, none⟩) n cap)) w from by
      have e : cpA L L.length = L := by
        rw [cpA_all (Nat.le_refl _) fun i hi => ?_, List.take_length]
        have := Hn.out
        exact .inl (by omega)
      have := Ho.out
      unfold CpA
      rw [e, ← Hn.out]
      exact ⟨rfl, this, ⟨rfl, rfl, rfl, Nat.le_refl _, fun _ _ _ => rfl⟩⟩)
    have q : (n : Int) < 2 := by omega
    clear h2
    go_enter Try.func126, Try.ntmps126
    go_wp2_with fail
    go_ret
    exact R.out
  · have q : ¬ (n : Int) < 2 := by omega
    go_enter Try.func126, Try.ntmps126
    go_wp2_with fail
    go_loopw [5] (fun vi wr => ∃ k : Nat, vi = .int .i64 k ∧ 1 ≤ k ∧ k ≤ n ∧ Below w.heap.size w wr ∧ ∀ i, i < k → kpA L i) (fun vi _ => n - (intOf vi).toNat)
    case atStart => exact ⟨1, rfl, by omega, by omega, Below.refl _ _, fun i hi => .inl (by omega)⟩
    case round =>
      obtain ⟨k, rfl, hk1, hk, hwr, hall⟩ := hrel
      have Hwr := Lib.hid hwr
      have Hall := Lib.hid hall
      clear hwr hall
      have hcell := fun j (hj : j < n) => avC_cells (owns_keep Ho.out Hwr.out) Hn.out hj
      have hint : ∀ j, j < n → OwnInts base wr (avV (L.getD j dAV)) (L.getD j dAV).2 := fun j hj => (Hr.out _ (by
        rw [List.getD_eq_getElem?_getD, List.getElem?_eq_getElem (by rw [← Hn.out]; exact hj)]; exact List.getElem_mem _)).keep Hwr.out
      by_cases hlt : k < n
      · have hck := hcell k hlt
        have hcp := hcell (k - 1) (by omega)
        have Hik := Lib.hid (hint k hlt).ints
        have Hip := Lib.hid (hint (k - 1) (by omega)).ints
        have Hbk := Lib.hid (Hbd.out k hlt)
        have Hbp := Lib.hid (Hbd.out (k - 1) (by omega))
        have HK := Lib.hid (show kpA L k ↔ ¬ avA (L.getD k dAV) = avA (L.getD (k - 1) dAV) from ⟨fun h => h.resolve_left (by omega), .inr⟩)
        obtain ⟨⟨⟨r1, xa, xn, xc⟩, X⟩, hX⟩ : ∃ p : AV, p = L.getD k dAV := ⟨_, rfl⟩
        obtain ⟨⟨⟨r2, ya, yn, yc⟩, Y⟩, hY⟩ : ∃ p : AV, p = L.getD (k - 1) dAV := ⟨_, rfl⟩
        rw [← hX] at hck Hik Hbk HK
        rw [← hY] at hcp Hip Hbp HK
        simp only [avA, avV] at hck hcp Hik Hip Hbk Hbp HK
        have HX := Lib.hid hX
        clear hX hY hcell hint
        obtain ⟨hck1, hck2⟩ := hck
        obtain ⟨hcp1, hcp2⟩ := hcp
        have hixk := True.intro
        obtain ⟨j, hj⟩ : ∃ j, j = k - 1 := ⟨_, rfl⟩
        have hixp : IntKind.i64.wrap ((k : Int) - 1) = (j : Int) := by rw [IntWalk.i64_in _ (by omega)]; omega
        rw [← hj] at hcp1 hcp2
        have hjn : j < n := by omega
        have Hj := Lib.hid hj
        clear hj
        have HE := Lib.hid (fun (w' : World) (hb : Below wr.heap.size wr w') => eqFact_any r1 r2 X Y (.slice xa xn xc) (.slice ya yn yc) w' (Hik.out.keep hb) (Hip.out.keep hb) Hbk.out Hbp.out)
        by_cases c : (r1, X) = (r2, Y)
        · go_upto_region 6 with fail
          try simp only [Act.put]
          have HS0 := Lib.hid (show (wr.drew.cell? ⟨g, k * 2, none⟩ = some (.int .i64 r1) ∧ wr.drew.cell? ⟨g, k * 2 + 1, none⟩ = some (.slice xa xn xc)) ∧ (wr.drew.cell? ⟨g, j * 2, none⟩ = some (.int .i64 r2) ∧ wr.drew.cell? ⟨g, j * 2 + 1, none⟩ = some (.slice ya yn yc)) from ⟨⟨hck1, hck2⟩, hcp1, hcp2⟩)
          have HW0 := Lib.hid (show Below wr.heap.size wr wr.drew from (Below.refl _ _).drew)
          refine wp_region_held (S := fun w' => (w'.cell? ⟨g, k * 2, none⟩ = some (.int .i64 r1) ∧ w'.cell? ⟨g, k * 2 + 1, none⟩ = some (.slice xa xn xc)) ∧ (w'.cell? ⟨g, j * 2, none⟩ = some (.int .i64 r2) ∧ w'.cell? ⟨g, j * 2 + 1, none⟩ = some (.slice ya yn yc))) wideK ?_
          change wpAnyH _ _ _ _ _ _ _ _ (World.drew _)
          clear hck1 hck2 hcp1 hcp2
          generalize wr.drew = wd0 at *
          refine wpAnyH_take (i := 0) (v := ?_) rfl (by kernel_rfl) (by kernel_rfl) (by kernel_rfl) (fun _ _ _ h => h) (Or.inl ⟨by rfl, ?_⟩) HS0.out ?_
          rotate_left
          focus (intro w hS; clear hS; first | (go_simp; done) | (go_simp; with_reducible rfl))
          simp only [Act.put, List.getElem_toArray, List.getElem_cons_zero, List.setIfInBounds_toArray, List.set_cons_zero, List.set_cons_succ]
          refine wpAnyH_take (i := 1) (v := ?_) rfl (by kernel_rfl) (by kernel_rfl) (by kernel_rfl) (fun _ _ _ h => h) (Or.inl ⟨by rfl, ?_⟩) HS0.out ?_
          rotate_left
          focus (intro w hS; clear hS; first | (go_simp; done) | (go_simp; with_reducible rfl))
          simp only [Act.put, List.getElem_toArray, List.getElem_cons_zero, List.getElem_cons_succ, List.setIfInBounds_toArray, List.set_cons_zero, List.set_cons_succ]
          refine wpAnyH_take (i := 2) (v := ?_) rfl (by kernel_rfl) (by kernel_rfl) (by kernel_rfl) (fun _ _ _ h => h) (Or.inl ⟨by rfl, ?_⟩) HS0.out ?_
          rotate_left
          focus (intro w hS; clear hS; first | (go_simp; done) | (go_simp; with_reducible rfl))
          simp only [Act.put, List.getElem_toArray, List.getElem_cons_zero, List.getElem_cons_succ, List.setIfInBounds_toArray, List.set_cons_zero, List.set_cons_succ]
          refine wpAnyH_take (i := 3) (v := ?_) rfl (by kernel_rfl) (by kernel_rfl) (by kernel_rfl) (fun _ _ _ h => h) (Or.inl ⟨by rfl, ?_⟩) HS0.out ?_
          rotate_left
          focus (intro w hS; clear hS; first | (go_simp; done) | (go_simp; with_reducible rfl))
          simp only [Act.put, List.getElem_toArray, List.getElem_cons_zero, List.getElem_cons_succ, List.setIfInBounds_toArray, List.set_cons_zero, List.set_cons_succ]
          refine wpAnyH_take (i := 4) (v := ?_) rfl (by kernel_rfl) (by kernel_rfl) (by kernel_rfl) (fun _ _ _ h => h) (Or.inl ⟨by rfl, ?_⟩) HS0.out ?_
          rotate_left
          focus (intro w hS; obtain ⟨⟨s0, s1⟩, s2, s3⟩ := hS; first | (go_simp; done) | (go_simp; with_reducible rfl))
          simp only [Act.put, List.getElem_toArray, List.getElem_cons_zero, List.getElem_cons_succ, List.setIfInBounds_toArray, List.set_cons_zero, List.set_cons_succ]
          refine wpAnyH_take (i := 5) (v := ?_) rfl (by kernel_rfl) (by kernel_rfl) (by kernel_rfl) (fun _ _ _ h => h) (Or.inl ⟨by rfl, ?_⟩) HS0.out ?_
          rotate_left
          focus (intro w hS; clear hS; first | (go_simp; done) | (go_simp; with_reducible rfl))
          simp only [Act.put, List.getElem_toArray, List.getElem_cons_zero, List.getElem_cons_succ, List.setIfInBounds_toArray, List.set_cons_zero, List.set_cons_succ]
          refine wpAnyH_take (i := 6) (v := ?_) rfl (by kernel_rfl) (by kernel_rfl) (by kernel_rfl) (fun _ _ _ h => h) (Or.inl ⟨by rfl, ?_⟩) HS0.out ?_
          rotate_left
          focus (intro w hS; clear hS; first | (go_simp; done) | (go_simp; with_reducible rfl))
          simp only [Act.put, List.getElem_toArray, List.getElem_cons_zero, List.getElem_cons_succ, List.setIfInBounds_toArray, List.set_cons_zero, List.set_cons_succ]
          refine wpAnyH_take (i := 7) (v := ?_) rfl (by kernel_rfl) (by kernel_rfl) (by kernel_rfl) (fun _ _ _ h => h) (Or.inl ⟨by rfl, ?_⟩) HS0.out ?_
          rotate_left
          focus (intro w hS; clear hS; first | (go_simp; done) | (go_simp; with_reducible rfl))
          simp only [Act.put, List.getElem_toArray, List.getElem_cons_zero, List.getElem_cons_succ, List.setIfInBounds_toArray, List.set_cons_zero, List.set_cons_succ]
          refine wpAnyH_take (i := 8) (v := ?_) rfl (by kernel_rfl) (by kernel_rfl) (by kernel_rfl) (fun _ _ _ h => h) (Or.inl ⟨by rfl, ?_⟩) HS0.out ?_
          rotate_left
          focus (intro w hS; clear hS; first | (go_simp; done) | (go_simp; with_reducible rfl))
          simp only [Act.put, List.getElem_toArray, List.getElem_cons_zero, List.getElem_cons_succ, List.setIfInBounds_toArray, List.set_cons_zero, List.set_cons_succ]
          refine wpAnyH_take (i := 9) (v := ?_) rfl (by kernel_rfl) (by kernel_rfl) (by kernel_rfl) (fun _ _ _ h => h) (Or.inl ⟨by rfl, ?_⟩) HS0.out ?_
          rotate_left
          focus (intro w hS; obtain ⟨⟨s0, s1⟩, s2, s3⟩ := hS; first | (go_simp; done) | (go_simp; with_reducible rfl))
          simp only [Act.put, List.getElem_toArray, List.getElem_cons_zero, List.getElem_cons_succ, List.setIfInBounds_toArray, List.set_cons_zero, List.set_cons_succ]
          refine wpAnyH_ready (rs := [10]) (by kernel_rfl) (by simp) ?_
          refine RdyH.cons rfl (fun K2 hK => ?_) RdyH.nil
          go_simp
          go_at_call 127
          refine (HE.out _ HW0.out).mono ?_
          rintro e wd1 ⟨he, hb⟩
          rw [decide_eq_true c] at he
          subst he
          have HS1 := Lib.hid (show (wd1.cell? ⟨g, k * 2, none⟩ = some (.int .i64 r1) ∧ wd1.cell? ⟨g, k * 2 + 1, none⟩ = some (.slice xa xn xc)) ∧ (wd1.cell? ⟨g, j * 2, none⟩ = some (.int .i64 r2) ∧ wd1.cell? ⟨g, j * 2 + 1, none⟩ = some (.slice ya yn yc)) from ⟨⟨Below.keep hb HS0.out.1.1, Below.keep hb HS0.out.1.2⟩, Below.keep hb HS0.out.2.1, Below.keep hb HS0.out.2.2⟩)
          have HW1 := Lib.hid (Below.tr HW0.out hb)
          clear hb
          go_simp
          refine hK _ _ HS1.out ?_
          clear hK K2
          refine wpAnyH_done (by kernel_rfl) ?_ _
          have HKn := Lib.hid (show ¬ kpA L k from fun h => HK.out.1 h c)
          have H9 := Lib.hid (Below.tr Hwr.out HW1.out)
          have hlow : ¬ cap = k := by omega
          have HT := Lib.hid (show (cpA L (k + 1)).length = k from by rw [cpA_no HKn.out, cpA_all (by have := Hn.out; omega) Hall.out, List.length_take]; have := Hn.out; omega)
          have HO9 := Lib.hid (show wd1.ownsRow base 77 2 (.slice (some ⟨g, 0, none⟩) n cap) n (avC (cpA L (k + 1) ++ L.drop k)) from by
            rw [cpA_no HKn.out, cpA_all (by have := Hn.out; omega) Hall.out, List.take_append_drop]; exact owns_keep Ho.out H9.out)
          have HG9 := Lib.hid (show w.grownBy wd1 (some g) from ⟨H9.out.os, H9.out.tape, H9.out.output, H9.out.size, fun b hb _ => H9.out.block b hb⟩)
          clear hixk hixp HE c HK HS0 HS1 HW0 HW1 Hik Hip HX Hj hjn
          go_wp2_with fail
          have Hix2 := Lib.hid (run_ix (P := Try.prog) (t := 26) (a := some ⟨g, k * 2, none⟩) (len := n - k) (cap := cap - k) (b := g) (off := k * 2) (s := 2) Try.underlying26 (by intro w; kernel_rfl) (fun _ => rfl))
          clear hlow
          go_loopw [5, 7] (fun vk vm wx => ∃ kk m : Nat, vk = .int .i64 kk ∧ vm = .int .i64 m ∧ 1 ≤ m ∧ k + m ≤ n ∧ (cpA L (k + m)).length = kk ∧ kk + 1 ≤ k + m ∧ wx.ownsRow base 77 2 (.slice (some ⟨g, 0, none⟩) n cap) n (avC (cpA L (k + m) ++ L.drop kk)) ∧ w.grownBy wx (some g)) (fun _ vm _ => n - (intOf vm).toNat)
          case atStart => exact ⟨k, 1, rfl, rfl, Nat.le_refl _, by omega, HT.out, Nat.le_refl _, HO9.out, HG9.out⟩
          case round =>
            clear HO9 HG9 HT H9
            obtain ⟨kk, m, rfl, rfl, hm1, hkm, hT, hkk, ho, hg⟩ := hrel
            have HT := Lib.hid hT
            have HO := Lib.hid ho
            have HG := Lib.hid hg
            clear hT ho hg
            generalize wr = wz at *
            have Hat := Lib.hid (show ∀ j, kk ≤ j → (cpA L (k + m) ++ L.drop kk).getD j dAV = L.getD j dAV from fun j hj => by
              rw [List.getD_eq_getElem?_getD, List.getElem?_append_right (by have := HT.out; omega), HT.out, List.getElem?_drop, show kk + (j - kk) = j by omega, List.getD_eq_getElem?_getD])
            have Hlen := Lib.hid (show n = (cpA L (k + m) ++ L.drop kk).length from by rw [List.length_append, HT.out, List.length_drop, ← Hn.out]; omega)
            have hcell := fun j (h1 : kk ≤ j) (h2 : j < n) => avC_cells HO.out Hlen.out h2
            have hint : ∀ j, j < n → Ints wz (avV (L.getD j dAV)) (L.getD j dAV).2 := fun j hj => by
              have h1 : OwnInts base w (avV (L.getD j dAV)) (L.getD j dAV).2 := Hr.out _ (by rw [List.getD_eq_getElem?_getD, List.getElem?_eq_getElem (by rw [← Hn.out]; exact hj)]; exact List.getElem_mem _)
              have h2 : OwnInts base wz (avV (L.getD j dAV)) (L.getD j dAV).2 := World.ownsRow.kept h1 HG.out (rows_apart h1 Ho.out (by decide))
              exact h2.ints
            by_cases hlt2 : k + m < n
            · have hmn : m < n - k := by omega
              obtain ⟨j, hj⟩ : ∃ j, j = m - 1 := ⟨_, rfl⟩
              have hjm : k + m - 1 = k + j := by omega
              have hck := hcell (k + m) (by omega) hlt2
              have hcp := hcell (k + j) (by omega) (by omega)
              rw [Hat.out _ (by omega)] at hck hcp
              have Hik := Lib.hid (hint (k + m) hlt2)
              have Hip := Lib.hid (hint (k + j) (by omega))
              have Hbk := Lib.hid (Hbd.out (k + m) hlt2)
              have Hbp := Lib.hid (Hbd.out (k + j) (by omega))
              have HK := Lib.hid (show kpA L (k + m) ↔ ¬ avA (L.getD (k + m) dAV) = avA (L.getD (k + j) dAV) from by
                rw [← hjm]; exact ⟨fun h => h.resolve_left (by omega), .inr⟩)
              have hckk := hcell kk (Nat.le_refl _) (by omega)
              have hfz1 := HO.out.frozenAt (kk * 2)
              have hfz2 := HO.out.frozenAt (kk * 2 + 1)
              rw [Hat.out _ (Nat.le_refl _)] at hckk
              obtain ⟨hckk1, hckk2⟩ := hckk
              obtain ⟨⟨⟨r1, xa, xn, xc⟩, X⟩, hX⟩ : ∃ p : AV, p = L.getD (k + m) dAV := ⟨_, rfl⟩
              obtain ⟨⟨⟨r2, ya, yn, yc⟩, Y⟩, hY⟩ : ∃ p : AV, p = L.getD (k + j) dAV := ⟨_, rfl⟩
              rw [← hX] at hck Hik Hbk HK
              rw [← hY] at hcp Hip Hbp HK
              simp only [avA, avV] at hck hcp Hik Hip Hbk Hbp HK
              have HX := Lib.hid hX
              clear hX hY hcell hint
              obtain ⟨hck1, hck2⟩ := hck
              obtain ⟨hcp1, hcp2⟩ := hcp
              rw [Nat.add_mul] at hck1 hck2 hcp1 hcp2
              obtain ⟨c0, hc0⟩ : ∃ c, c = (L.getD kk dAV).1.1 := ⟨_, rfl⟩
              obtain ⟨c1, hc1⟩ : ∃ c, c = avV (L.getD kk dAV) := ⟨_, rfl⟩
              rw [← hc0] at hckk1
              rw [← hc1] at hckk2
              clear hc0 hc1 hjm
              have hixk := True.intro
              have hixp : IntKind.i64.wrap ((m : Int) - 1) = (j : Int) := by rw [IntWalk.i64_in _ (by omega)]; omega
              have hjn : j < n - k := by omega
              have hkkn : kk < n := by omega
              have hixkk := fun w => Hix.out kk w hkkn
              have hixmm := fun w => Hix2.out m w hmn
              have HE := Lib.hid (fun (w' : World) (hb : Below wz.heap.size wz w') => eqFact_any r1 r2 X Y (.slice xa xn xc) (.slice ya yn yc) w' (Hik.out.keep hb) (Hip.out.keep hb) Hbk.out Hbp.out)
              clear hj
              by_cases c : (r1, X) = (r2, Y)
              · go_upto_region 11 with fail
                try simp only [Act.put]
                have HS0 := Lib.hid (show (wz.drew.cell? ⟨g, k * 2 + m * 2, none⟩ = some (.int .i64 r1) ∧ wz.drew.cell? ⟨g, k * 2 + m * 2 + 1, none⟩ = some (.slice xa xn xc)) ∧ (wz.drew.cell? ⟨g, k * 2 + j * 2, none⟩ = some (.int .i64 r2) ∧ wz.drew.cell? ⟨g, k * 2 + j * 2 + 1, none⟩ = some (.slice ya yn yc)) from ⟨⟨hck1, hck2⟩, hcp1, hcp2⟩)
                have HW0 := Lib.hid (show Below wz.heap.size wz wz.drew from (Below.refl _ _).drew)
                refine wp_region_held (S := fun w' => (w'.cell? ⟨g, k * 2 + m * 2, none⟩ = some (.int .i64 r1) ∧ w'.cell? ⟨g, k * 2 + m * 2 + 1, none⟩ = some (.slice xa xn xc)) ∧ (w'.cell? ⟨g, k * 2 + j * 2, none⟩ = some (.int .i64 r2) ∧ w'.cell? ⟨g, k * 2 + j * 2 + 1, none⟩ = some (.slice ya yn yc))) wideK ?_
                change wpAnyH _ _ _ _ _ _ _ _ (World.drew _)
                clear hck1 hck2 hcp1 hcp2
                generalize wz.drew = wd0 at *
                refine wpAnyH_take (i := 0) (v := ?_) rfl (by kernel_rfl) (by kernel_rfl) (by kernel_rfl) (fun _ _ _ h => h) (Or.inl ⟨by rfl, ?_⟩) HS0.out ?_
                rotate_left
                focus (intro w hS; clear hS; first | (go_simp; done) | (go_simp; with_reducible rfl))
                simp only [Act.put, List.getElem_toArray, List.getElem_cons_zero, List.setIfInBounds_toArray, List.set_cons_zero, List.set_cons_succ]
                refine wpAnyH_take (i := 1) (v := ?_) rfl (by kernel_rfl) (by kernel_rfl) (by kernel_rfl) (fun _ _ _ h => h) (Or.inl ⟨by rfl, ?_⟩) HS0.out ?_
                rotate_left
                focus (intro w hS; clear hS; first | (go_simp; done) | (go_simp; with_reducible rfl))
                simp only [Act.put, List.getElem_toArray, List.getElem_cons_zero, List.getElem_cons_succ, List.setIfInBounds_toArray, List.set_cons_zero, List.set_cons_succ]
                refine wpAnyH_take (i := 2) (v := ?_) rfl (by kernel_rfl) (by kernel_rfl) (by kernel_rfl) (fun _ _ _ h => h) (Or.inl ⟨by rfl, ?_⟩) HS0.out ?_
                rotate_left
                focus (intro w hS; clear hS; first | (go_simp; done) | (go_simp; with_reducible rfl))
                simp only [Act.put, List.getElem_toArray, List.getElem_cons_zero, List.getElem_cons_succ, List.setIfInBounds_toArray, List.set_cons_zero, List.set_cons_succ]
                refine wpAnyH_take (i := 3) (v := ?_) rfl (by kernel_rfl) (by kernel_rfl) (by kernel_rfl) (fun _ _ _ h => h) (Or.inl ⟨by rfl, ?_⟩) HS0.out ?_
                rotate_left
                focus (intro w hS; clear hS; first | (go_simp; done) | (go_simp; with_reducible rfl))
                simp only [Act.put, List.getElem_toArray, List.getElem_cons_zero, List.getElem_cons_succ, List.setIfInBounds_toArray, List.set_cons_zero, List.set_cons_succ]
                refine wpAnyH_take (i := 4) (v := ?_) rfl (by kernel_rfl) (by kernel_rfl) (by kernel_rfl) (fun _ _ _ h => h) (Or.inl ⟨by rfl, ?_⟩) HS0.out ?_
                rotate_left
                focus (intro w hS; obtain ⟨⟨s0, s1⟩, s2, s3⟩ := hS; first | (go_simp; done) | (go_simp; with_reducible rfl))
                simp only [Act.put, List.getElem_toArray, List.getElem_cons_zero, List.getElem_cons_succ, List.setIfInBounds_toArray, List.set_cons_zero, List.set_cons_succ]
                refine wpAnyH_take (i := 5) (v := ?_) rfl (by kernel_rfl) (by kernel_rfl) (by kernel_rfl) (fun _ _ _ h => h) (Or.inl ⟨by rfl, ?_⟩) HS0.out ?_
                rotate_left
                focus (intro w hS; clear hS; first | (go_simp; done) | (go_simp; with_reducible rfl))
                simp only [Act.put, List.getElem_toArray, List.getElem_cons_zero, List.getElem_cons_succ, List.setIfInBounds_toArray, List.set_cons_zero, List.set_cons_succ]
                refine wpAnyH_take (i := 6) (v := ?_) rfl (by kernel_rfl) (by kernel_rfl) (by kernel_rfl) (fun _ _ _ h => h) (Or.inl ⟨by rfl, ?_⟩) HS0.out ?_
                rotate_left
                focus (intro w hS; clear hS; first | (go_simp; done) | (go_simp; with_reducible rfl))
                simp only [Act.put, List.getElem_toArray, List.getElem_cons_zero, List.getElem_cons_succ, List.setIfInBounds_toArray, List.set_cons_zero, List.set_cons_succ]
                refine wpAnyH_take (i := 7) (v := ?_) rfl (by kernel_rfl) (by kernel_rfl) (by kernel_rfl) (fun _ _ _ h => h) (Or.inl ⟨by rfl, ?_⟩) HS0.out ?_
                rotate_left
                focus (intro w hS; clear hS; first | (go_simp; done) | (go_simp; with_reducible rfl))
                simp only [Act.put, List.getElem_toArray, List.getElem_cons_zero, List.getElem_cons_succ, List.setIfInBounds_toArray, List.set_cons_zero, List.set_cons_succ]
                refine wpAnyH_take (i := 8) (v := ?_) rfl (by kernel_rfl) (by kernel_rfl) (by kernel_rfl) (fun _ _ _ h => h) (Or.inl ⟨by rfl, ?_⟩) HS0.out ?_
                rotate_left
                focus (intro w hS; clear hS; first | (go_simp; done) | (go_simp; with_reducible rfl))
                simp only [Act.put, List.getElem_toArray, List.getElem_cons_zero, List.getElem_cons_succ, List.setIfInBounds_toArray, List.set_cons_zero, List.set_cons_succ]
                refine wpAnyH_take (i := 9) (v := ?_) rfl (by kernel_rfl) (by kernel_rfl) (by kernel_rfl) (fun _ _ _ h => h) (Or.inl ⟨by rfl, ?_⟩) HS0.out ?_
                rotate_left
                focus (intro w hS; obtain ⟨⟨s0, s1⟩, s2, s3⟩ := hS; first | (go_simp; done) | (go_simp; with_reducible rfl))
                simp only [Act.put, List.getElem_toArray, List.getElem_cons_zero, List.getElem_cons_succ, List.setIfInBounds_toArray, List.set_cons_zero, List.set_cons_succ]
                refine wpAnyH_ready (rs := [10]) (by kernel_rfl) (by simp) ?_
                refine RdyH.cons rfl (fun K2 hK => ?_) RdyH.nil
                go_simp
                go_at_call 127
                refine (HE.out _ HW0.out).mono ?_
                rintro e wd1 ⟨he, hb⟩
                rw [decide_eq_true c] at he
                subst he
                have HS1 := Lib.hid (show (wd1.cell? ⟨g, k * 2 + m * 2, none⟩ = some (.int .i64 r1) ∧ wd1.cell? ⟨g, k * 2 + m * 2 + 1, none⟩ = some (.slice xa xn xc)) ∧ (wd1.cell? ⟨g, k * 2 + j * 2, none⟩ = some (.int .i64 r2) ∧ wd1.cell? ⟨g, k * 2 + j * 2 + 1, none⟩ = some (.slice ya yn yc)) from ⟨⟨Below.keep hb HS0.out.1.1, Below.keep hb HS0.out.1.2⟩, Below.keep hb HS0.out.2.1, Below.keep hb HS0.out.2.2⟩)
                have HW1 := Lib.hid (Below.tr HW0.out hb)
                clear hb
                go_simp
                refine hK _ _ HS1.out ?_
                clear hK K2
                refine wpAnyH_take (i := 11) (v := ?_) rfl (by kernel_rfl) (by kernel_rfl) (by kernel_rfl) (fun _ _ _ h => h) (Or.inl ⟨by rfl, ?_⟩) HS1.out ?_
                rotate_left
                focus (intro w hS; clear hS; first | (go_simp; done) | (go_simp; with_reducible rfl))
                simp only [Act.put, List.getElem_toArray, List.getElem_cons_zero, List.getElem_cons_succ, List.setIfInBounds_toArray, List.set_cons_zero, List.set_cons_succ]
                refine wpAnyH_done (by kernel_rfl) ?_ _
                have HKn := Lib.hid (show ¬ kpA L (k + m) from fun h => HK.out.1 h c)
                have HO9 := Lib.hid (show wd1.ownsRow base 77 2 (.slice (some ⟨g, 0, none⟩) n cap) n (avC (cpA L (k + (m + 1)) ++ L.drop kk)) from by
                  rw [← Nat.add_assoc, cpA_no HKn.out]; exact owns_keep HO.out HW1.out)
                have HG9 := Lib.hid (show w.grownBy wd1 (some g) from HG.out.trans ⟨HW1.out.os, HW1.out.tape, HW1.out.output, HW1.out.size, fun b hb _ => HW1.out.block b hb⟩)
                have HT9 := Lib.hid (show (cpA L (k + (m + 1))).length = kk from by rw [← Nat.add_assoc, cpA_no HKn.out]; exact HT.out)
                clear hixk hixp HE c HK hckk1 hckk2 hfz1 hfz2 hixkk hixmm
                go_wp2_with fail
                go_roundw
                case rel => exact ⟨kk, m + 1, rfl, by go_num, by omega, by omega, HT9.out, by omega, HO9.out, HG9.out⟩
                case measure => simp [intOf]; omega
              · go_upto_region 11 with fail
                try simp only [Act.put]
                have HS0 := Lib.hid (show (wz.drew.cell? ⟨g, k * 2 + m * 2, none⟩ = some (.int .i64 r1) ∧ wz.drew.cell? ⟨g, k * 2 + m * 2 + 1, none⟩ = some (.slice xa xn xc)) ∧ (wz.drew.cell? ⟨g, k * 2 + j * 2, none⟩ = some (.int .i64 r2) ∧ wz.drew.cell? ⟨g, k * 2 + j * 2 + 1, none⟩ = some (.slice ya yn yc)) from ⟨⟨hck1, hck2⟩, hcp1, hcp2⟩)
                have HW0 := Lib.hid (show Below wz.heap.size wz wz.drew from (Below.refl _ _).drew)
                refine wp_region_held (S := fun w' => (w'.cell? ⟨g, k * 2 + m * 2, none⟩ = some (.int .i64 r1) ∧ w'.cell? ⟨g, k * 2 + m * 2 + 1, none⟩ = some (.slice xa xn xc)) ∧ (w'.cell? ⟨g, k * 2 + j * 2, none⟩ = some (.int .i64 r2) ∧ w'.cell? ⟨g, k * 2 + j * 2 + 1, none⟩ = some (.slice ya yn yc))) wideK ?_
                change wpAnyH _ _ _ _ _ _ _ _ (World.drew _)
                clear hck1 hck2 hcp1 hcp2
                generalize wz.drew = wd0 at *
                refine wpAnyH_take (i := 0) (v := ?_) rfl (by kernel_rfl) (by kernel_rfl) (by kernel_rfl) (fun _ _ _ h => h) (Or.inl ⟨by rfl, ?_⟩) HS0.out ?_
                rotate_left
                focus (intro w hS; clear hS; first | (go_simp; done) | (go_simp; with_reducible rfl))
                simp only [Act.put, List.getElem_toArray, List.getElem_cons_zero, List.setIfInBounds_toArray, List.set_cons_zero, List.set_cons_succ]
                refine wpAnyH_take (i := 1) (v := ?_) rfl (by kernel_rfl) (by kernel_rfl) (by kernel_rfl) (fun _ _ _ h => h) (Or.inl ⟨by rfl, ?_⟩) HS0.out ?_
                rotate_left
                focus (intro w hS; clear hS; first | (go_simp; done) | (go_simp; with_reducible rfl))
                simp only [Act.put, List.getElem_toArray, List.getElem_cons_zero, List.getElem_cons_succ, List.setIfInBounds_toArray, List.set_cons_zero, List.set_cons_succ]
                refine wpAnyH_take (i := 2) (v := ?_) rfl (by kernel_rfl) (by kernel_rfl) (by kernel_rfl) (fun _ _ _ h => h) (Or.inl ⟨by rfl, ?_⟩) HS0.out ?_
                rotate_left
                focus (intro w hS; clear hS; first | (go_simp; done) | (go_simp; with_reducible rfl))
                simp only [Act.put, List.getElem_toArray, List.getElem_cons_zero, List.getElem_cons_succ, List.setIfInBounds_toArray, List.set_cons_zero, List.set_cons_succ]
                refine wpAnyH_take (i := 3) (v := ?_) rfl (by kernel_rfl) (by kernel_rfl) (by kernel_rfl) (fun _ _ _ h => h) (Or.inl ⟨by rfl, ?_⟩) HS0.out ?_
                rotate_left
                focus (intro w hS; clear hS; first | (go_simp; done) | (go_simp; with_reducible rfl))
                simp only [Act.put, List.getElem_toArray, List.getElem_cons_zero, List.getElem_cons_succ, List.setIfInBounds_toArray, List.set_cons_zero, List.set_cons_succ]
                refine wpAnyH_take (i := 4) (v := ?_) rfl (by kernel_rfl) (by kernel_rfl) (by kernel_rfl) (fun _ _ _ h => h) (Or.inl ⟨by rfl, ?_⟩) HS0.out ?_
                rotate_left
                focus (intro w hS; obtain ⟨⟨s0, s1⟩, s2, s3⟩ := hS; first | (go_simp; done) | (go_simp; with_reducible rfl))
                simp only [Act.put, List.getElem_toArray, List.getElem_cons_zero, List.getElem_cons_succ, List.setIfInBounds_toArray, List.set_cons_zero, List.set_cons_succ]
                refine wpAnyH_take (i := 5) (v := ?_) rfl (by kernel_rfl) (by kernel_rfl) (by kernel_rfl) (fun _ _ _ h => h) (Or.inl ⟨by rfl, ?_⟩) HS0.out ?_
                rotate_left
                focus (intro w hS; clear hS; first | (go_simp; done) | (go_simp; with_reducible rfl))
                simp only [Act.put, List.getElem_toArray, List.getElem_cons_zero, List.getElem_cons_succ, List.setIfInBounds_toArray, List.set_cons_zero, List.set_cons_succ]
                refine wpAnyH_take (i := 6) (v := ?_) rfl (by kernel_rfl) (by kernel_rfl) (by kernel_rfl) (fun _ _ _ h => h) (Or.inl ⟨by rfl, ?_⟩) HS0.out ?_
                rotate_left
                focus (intro w hS; clear hS; first | (go_simp; done) | (go_simp; with_reducible rfl))
                simp only [Act.put, List.getElem_toArray, List.getElem_cons_zero, List.getElem_cons_succ, List.setIfInBounds_toArray, List.set_cons_zero, List.set_cons_succ]
                refine wpAnyH_take (i := 7) (v := ?_) rfl (by kernel_rfl) (by kernel_rfl) (by kernel_rfl) (fun _ _ _ h => h) (Or.inl ⟨by rfl, ?_⟩) HS0.out ?_
                rotate_left
                focus (intro w hS; clear hS; first | (go_simp; done) | (go_simp; with_reducible rfl))
                simp only [Act.put, List.getElem_toArray, List.getElem_cons_zero, List.getElem_cons_succ, List.setIfInBounds_toArray, List.set_cons_zero, List.set_cons_succ]
                refine wpAnyH_take (i := 8) (v := ?_) rfl (by kernel_rfl) (by kernel_rfl) (by kernel_rfl) (fun _ _ _ h => h) (Or.inl ⟨by rfl, ?_⟩) HS0.out ?_
                rotate_left
                focus (intro w hS; clear hS; first | (go_simp; done) | (go_simp; with_reducible rfl))
                simp only [Act.put, List.getElem_toArray, List.getElem_cons_zero, List.getElem_cons_succ, List.setIfInBounds_toArray, List.set_cons_zero, List.set_cons_succ]
                refine wpAnyH_take (i := 9) (v := ?_) rfl (by kernel_rfl) (by kernel_rfl) (by kernel_rfl) (fun _ _ _ h => h) (Or.inl ⟨by rfl, ?_⟩) HS0.out ?_
                rotate_left
                focus (intro w hS; obtain ⟨⟨s0, s1⟩, s2, s3⟩ := hS; first | (go_simp; done) | (go_simp; with_reducible rfl))
                simp only [Act.put, List.getElem_toArray, List.getElem_cons_zero, List.getElem_cons_succ, List.setIfInBounds_toArray, List.set_cons_zero, List.set_cons_succ]
                refine wpAnyH_ready (rs := [10]) (by kernel_rfl) (by simp) ?_
                refine RdyH.cons rfl (fun K2 hK => ?_) RdyH.nil
                go_simp
                go_at_call 127
                refine (HE.out _ HW0.out).mono ?_
                rintro e wd1 ⟨he, hb⟩
                rw [decide_eq_false c] at he
                subst he
                have HS1 := Lib.hid (show (wd1.cell? ⟨g, k * 2 + m * 2, none⟩ = some (.int .i64 r1) ∧ wd1.cell? ⟨g, k * 2 + m * 2 + 1, none⟩ = some (.slice xa xn xc)) ∧ (wd1.cell? ⟨g, k * 2 + j * 2, none⟩ = some (.int .i64 r2) ∧ wd1.cell? ⟨g, k * 2 + j * 2 + 1, none⟩ = some (.slice ya yn yc)) from ⟨⟨Below.keep hb HS0.out.1.1, Below.keep hb HS0.out.1.2⟩, Below.keep hb HS0.out.2.1, Below.keep hb HS0.out.2.2⟩)
                have HW1 := Lib.hid (Below.tr HW0.out hb)
                clear hb
                go_simp
                refine hK _ _ HS1.out ?_
                clear hK K2
                refine wpAnyH_take (i := 11) (v := ?_) rfl (by kernel_rfl) (by kernel_rfl) (by kernel_rfl) (fun _ _ _ h => h) (Or.inl ⟨by rfl, ?_⟩) HS1.out ?_
                rotate_left
                focus (intro w hS; clear hS; first | (go_simp; done) | (go_simp; with_reducible rfl))
                simp only [Act.put, List.getElem_toArray, List.getElem_cons_zero, List.getElem_cons_succ, List.setIfInBounds_toArray, List.set_cons_zero, List.set_cons_succ]
                refine wpAnyH_done (by kernel_rfl) ?_ _
                have HKy := Lib.hid (show kpA L (k + m) from HK.out.2 c)
                have hk1 := HS1.out.1.1
                have hk2 := HS1.out.1.2
                have hckk1 := Below.keep HW1.out hckk1
                have hckk2 := Below.keep HW1.out hckk2
                have hfz1 := (owns_keep HO.out HW1.out).frozenAt (kk * 2)
                have hfz2 := (owns_keep HO.out HW1.out).frozenAt (kk * 2 + 1)
                have HS9 := Lib.hid (show ((wd1.setCell ⟨g, kk * 2, none⟩ (.int .i64 r1)).setCell ⟨g, kk * 2 + 1, none⟩ (.slice xa xn xc)).ownsRow base 77 2 (.slice (some ⟨g, 0, none⟩) n cap) n (avC (cpA L (k + (m + 1)) ++ L.drop (kk + 1))) ∧ w.grownBy ((wd1.setCell ⟨g, kk * 2, none⟩ (.int .i64 r1)).setCell ⟨g, kk * 2 + 1, none⟩ (.slice xa xn xc)) (some g) from by
                  have h0 := owns_keep HO.out HW1.out
                  obtain ⟨p1, p2⟩ := h0.stored (kk * 2) (.int .i64 r1)
                  obtain ⟨p3, p4⟩ := p1.stored (kk * 2 + 1) (.slice xa xn xc)
                  refine ⟨?_, (HG.out.trans ⟨HW1.out.os, HW1.out.tape, HW1.out.output, HW1.out.size, fun b hb _ => HW1.out.block b hb⟩).trans (p2.trans p4)⟩
                  have hd : L.drop kk = L[kk]'(by rw [← Hn.out]; exact hkkn) :: L.drop (kk + 1) := List.drop_eq_getElem_cons _
                  have e := avC_set (A := cpA L (k + m)) (x := L[kk]'(by rw [← Hn.out]; exact hkkn)) (y := ((r1, xa, xn, xc), X)) (B := L.drop (kk + 1)) HT.out
                  rw [← hd] at e
                  rw [← Nat.add_assoc, cpA_yes HKy.out, ← HX.out, ← e]
                  exact p3)
                have HT9 := Lib.hid (show (cpA L (k + (m + 1))).length = kk + 1 from by rw [← Nat.add_assoc, cpA_yes HKy.out, List.length_append, HT.out]; rfl)
                clear hixk hixp HE c HK
                go_wp2_with fail
                clear hk1 hk2 hckk1 hckk2 hfz1 hfz2
                go_roundw
                case rel => exact ⟨kk + 1, m + 1, by go_num, by go_num, by omega, by omega, HT9.out, by omega, HS9.out.1, HS9.out.2⟩
                case measure => simp [intOf]; omega
            · have hend : k + m = n := by omega
              have hlow : ¬ cap = kk := by omega
              have hmk : ¬ (m : Int) < ((n - k : Nat) : Int) := by omega
              obtain ⟨zs, hcl⟩ := clear_facts HO.out (show kk < n by omega) (cap - kk)
              have R := Lib.hid (show CpA base g cap L w (.returned (.slice (some ⟨g, 0, none⟩) kk cap)) (wz.setCells g (kk * 2) zs) from by
                obtain ⟨⟨ys, o1, o2⟩, o3⟩ := own_cellsK zs (kk * 2) wz _ (Nat.le_refl _) HO.out
                have e : (cpA L L.length).length = kk := by rw [← Hn.out, ← hend]; exact HT.out
                have hl2 : (avC (cpA L (k + m))).length = kk * 2 := by rw [avC_len, HT.out]
                unfold CpA
                rw [e]
                refine ⟨rfl, ?_, HG.out.trans o3⟩
                have o4 := own_takeK o1 (k := kk) (by omega)
                rw [o2, avC_app, List.take_append_of_le_length (by omega), List.take_of_length_le (by omega), hend] at o4
                rw [← Hn.out]; exact o4)
              clear hcell hint HO HG HT Hat Hlen
              go_wp2_with fail
              go_ret
              exact R.out
        · go_upto_region 6 with fail
          try simp only [Act.put]
          have HS0 := Lib.hid (show (wr.drew.cell? ⟨g, k * 2, none⟩ = some (.int .i64 r1) ∧ wr.drew.cell? ⟨g, k * 2 + 1, none⟩ = some (.slice xa xn xc)) ∧ (wr.drew.cell? ⟨g, j * 2, none⟩ = some (.int .i64 r2) ∧ wr.drew.cell? ⟨g, j * 2 + 1, none⟩ = some (.slice ya yn yc)) from ⟨⟨hck1, hck2⟩, hcp1, hcp2⟩)
          have HW0 := Lib.hid (show Below wr.heap.size wr wr.drew from (Below.refl _ _).drew)
          refine wp_region_held (S := fun w' => (w'.cell? ⟨g, k * 2, none⟩ = some (.int .i64 r1) ∧ w'.cell? ⟨g, k * 2 + 1, none⟩ = some (.slice xa xn xc)) ∧ (w'.cell? ⟨g, j * 2, none⟩ = some (.int .i64 r2) ∧ w'.cell? ⟨g, j * 2 + 1, none⟩ = some (.slice ya yn yc))) wideK ?_
          change wpAnyH _ _ _ _ _ _ _ _ (World.drew _)
          clear hck1 hck2 hcp1 hcp2
          generalize wr.drew = wd0 at *
          refine wpAnyH_take (i := 0) (v := ?_) rfl (by kernel_rfl) (by kernel_rfl) (by kernel_rfl) (fun _ _ _ h => h) (Or.inl ⟨by rfl, ?_⟩) HS0.out ?_
          rotate_left
          focus (intro w hS; clear hS; first | (go_simp; done) | (go_simp; with_reducible rfl))
          simp only [Act.put, List.getElem_toArray, List.getElem_cons_zero, List.setIfInBounds_toArray, List.set_cons_zero, List.set_cons_succ]
          refine wpAnyH_take (i := 1) (v := ?_) rfl (by kernel_rfl) (by kernel_rfl) (by kernel_rfl) (fun _ _ _ h => h) (Or.inl ⟨by rfl, ?_⟩) HS0.out ?_
          rotate_left
          focus (intro w hS; clear hS; first | (go_simp; done) | (go_simp; with_reducible rfl))
          simp only [Act.put, List.getElem_toArray, List.getElem_cons_zero, List.getElem_cons_succ, List.setIfInBounds_toArray, List.set_cons_zero, List.set_cons_succ]
          refine wpAnyH_take (i := 2) (v := ?_) rfl (by kernel_rfl) (by kernel_rfl) (by kernel_rfl) (fun _ _ _ h => h) (Or.inl ⟨by rfl, ?_⟩) HS0.out ?_
          rotate_left
          focus (intro w hS; clear hS; first | (go_simp; done) | (go_simp; with_reducible rfl))
          simp only [Act.put, List.getElem_toArray, List.getElem_cons_zero, List.getElem_cons_succ, List.setIfInBounds_toArray, List.set_cons_zero, List.set_cons_succ]
          refine wpAnyH_take (i := 3) (v := ?_) rfl (by kernel_rfl) (by kernel_rfl) (by kernel_rfl) (fun _ _ _ h => h) (Or.inl ⟨by rfl, ?_⟩) HS0.out ?_
          rotate_left
          focus (intro w hS; clear hS; first | (go_simp; done) | (go_simp; with_reducible rfl))
          simp only [Act.put, List.getElem_toArray, List.getElem_cons_zero, List.getElem_cons_succ, List.setIfInBounds_toArray, List.set_cons_zero, List.set_cons_succ]
          refine wpAnyH_take (i := 4) (v := ?_) rfl (by kernel_rfl) (by kernel_rfl) (by kernel_rfl) (fun _ _ _ h => h) (Or.inl ⟨by rfl, ?_⟩) HS0.out ?_
          rotate_left
          focus (intro w hS; obtain ⟨⟨s0, s1⟩, s2, s3⟩ := hS; first | (go_simp; done) | (go_simp; with_reducible rfl))
          simp only [Act.put, List.getElem_toArray, List.getElem_cons_zero, List.getElem_cons_succ, List.setIfInBounds_toArray, List.set_cons_zero, List.set_cons_succ]
          refine wpAnyH_take (i := 5) (v := ?_) rfl (by kernel_rfl) (by kernel_rfl) (by kernel_rfl) (fun _ _ _ h => h) (Or.inl ⟨by rfl, ?_⟩) HS0.out ?_
          rotate_left
          focus (intro w hS; clear hS; first | (go_simp; done) | (go_simp; with_reducible rfl))
          simp only [Act.put, List.getElem_toArray, List.getElem_cons_zero, List.getElem_cons_succ, List.setIfInBounds_toArray, List.set_cons_zero, List.set_cons_succ]
          refine wpAnyH_take (i := 6) (v := ?_) rfl (by kernel_rfl) (by kernel_rfl) (by kernel_rfl) (fun _ _ _ h => h) (Or.inl ⟨by rfl, ?_⟩) HS0.out ?_
          rotate_left
          focus (intro w hS; clear hS; first | (go_simp; done) | (go_simp; with_reducible rfl))
          simp only [Act.put, List.getElem_toArray, List.getElem_cons_zero, List.getElem_cons_succ, List.setIfInBounds_toArray, List.set_cons_zero, List.set_cons_succ]
          refine wpAnyH_take (i := 7) (v := ?_) rfl (by kernel_rfl) (by kernel_rfl) (by kernel_rfl) (fun _ _ _ h => h) (Or.inl ⟨by rfl, ?_⟩) HS0.out ?_
          rotate_left
          focus (intro w hS; clear hS; first | (go_simp; done) | (go_simp; with_reducible rfl))
          simp only [Act.put, List.getElem_toArray, List.getElem_cons_zero, List.getElem_cons_succ, List.setIfInBounds_toArray, List.set_cons_zero, List.set_cons_succ]
          refine wpAnyH_take (i := 8) (v := ?_) rfl (by kernel_rfl) (by kernel_rfl) (by kernel_rfl) (fun _ _ _ h => h) (Or.inl ⟨by rfl, ?_⟩) HS0.out ?_
          rotate_left
          focus (intro w hS; clear hS; first | (go_simp; done) | (go_simp; with_reducible rfl))
          simp only [Act.put, List.getElem_toArray, List.getElem_cons_zero, List.getElem_cons_succ, List.setIfInBounds_toArray, List.set_cons_zero, List.set_cons_succ]
          refine wpAnyH_take (i := 9) (v := ?_) rfl (by kernel_rfl) (by kernel_rfl) (by kernel_rfl) (fun _ _ _ h => h) (Or.inl ⟨by rfl, ?_⟩) HS0.out ?_
          rotate_left
          focus (intro w hS; obtain ⟨⟨s0, s1⟩, s2, s3⟩ := hS; first | (go_simp; done) | (go_simp; with_reducible rfl))
          simp only [Act.put, List.getElem_toArray, List.getElem_cons_zero, List.getElem_cons_succ, List.setIfInBounds_toArray, List.set_cons_zero, List.set_cons_succ]
          refine wpAnyH_ready (rs := [10]) (by kernel_rfl) (by simp) ?_
          refine RdyH.cons rfl (fun K2 hK => ?_) RdyH.nil
          go_simp
          go_at_call 127
          refine (HE.out _ HW0.out).mono ?_
          rintro e wd1 ⟨he, hb⟩
          rw [decide_eq_false c] at he
          subst he
          have HS1 := Lib.hid (show (wd1.cell? ⟨g, k * 2, none⟩ = some (.int .i64 r1) ∧ wd1.cell? ⟨g, k * 2 + 1, none⟩ = some (.slice xa xn xc)) ∧ (wd1.cell? ⟨g, j * 2, none⟩ = some (.int .i64 r2) ∧ wd1.cell? ⟨g, j * 2 + 1, none⟩ = some (.slice ya yn yc)) from ⟨⟨Below.keep hb HS0.out.1.1, Below.keep hb HS0.out.1.2⟩, Below.keep hb HS0.out.2.1, Below.keep hb HS0.out.2.2⟩)
          have HW1 := Lib.hid (Below.tr HW0.out hb)
          clear hb
          go_simp
          refine hK _ _ HS1.out ?_
          clear hK K2
          refine wpAnyH_done (by kernel_rfl) ?_ _
          have HKy := Lib.hid (show kpA L k from HK.out.2 c)
          have H9 := Lib.hid (Below.tr Hwr.out HW1.out)
          have HA9 := Lib.hid (show ∀ i, i < k + 1 → kpA L i from fun i hi => by
            by_cases e : i = k
            · subst e; exact HKy.out
            · exact Hall.out i (by omega))
          clear hixk hixp HE c HK
          go_wp2_with fail
          go_roundw
          case rel => exact ⟨k + 1, by go_num, by omega, by omega, H9.out, HA9.out⟩
          case measure => simp [intOf]; omega
      · obtain rfl : k = n := by omega
        have R := Lib.hid (show CpA base g cap L w (.returned (.slice (some ⟨g, 0, none⟩) k cap)) wr from by
          have e : cpA L L.length = L := by rw [cpA_all (Nat.le_refl _) (by rw [← Hn.out]; exact Hall.out), List.take_length]
          have h := owns_keep Ho.out Hwr.out
          unfold CpA
          rw [e, ← Hn.out]
          exact ⟨rfl, h, ⟨Hwr.out.os, Hwr.out.tape, Hwr.out.output, Hwr.out.size, fun b hb _ => Hwr.out.block b hb⟩⟩)
        clear hcell hint
        go_wp2_with fail
        go_ret
        exact R.out
#print axioms compactA_any
end Go.Proofs.Ytfplmdieeabgpaa
