/- Contract of Results. -/
import Derived.Test.YtfplmdieeabgpaaSrt
import Derived.Test.YtfplmdieeabgpaaFnd
import Derived.Test.YtfplmdieeabgpaaRes
namespace Go.Proofs.Ytfplmdieeabgpaa
open Go.RowKit
/-- rows with what they read as -/
def OwnPV (base : Nat) (w : World) (v : Value) (L : List PV) : Prop := w.ownsRow base 22 1 v L.length (L.map (·.1)) ∧ ∀ p, p ∈ L → OwnInts base w p.1 p.2
theorem ownPV_nil (base : Nat) (w : World) : OwnPV base w (.slice none 0 0) [] := ⟨World.ownsRow_nil _ _ _ _, fun p hp => by simp at hp⟩
theorem OwnPV.keep {base : Nat} {w w' : World} {v : Value} {L : List PV} (h : OwnPV base w v L) (hb : Below w.heap.size w w') : OwnPV base w' v L := ⟨owns_keep h.1 hb, fun p hp => (h.2 p hp).keep hb⟩
theorem OwnPV.slice {base : Nat} {w : World} {v : Value} {L : List PV} (h : OwnPV base w v L) : ∃ a c, v = .slice a L.length c := by
  rcases h.1.2 with ⟨rfl, h0⟩ | ⟨g, cap, cur, rfl, _⟩
  · exact ⟨none, 0, by rw [h0]⟩
  · exact ⟨_, _, rfl⟩
theorem OwnPV.rows {base : Nat} {w : World} {v : Value} {L : List PV} (h : OwnPV base w v L) : OwnRows base w v (L.map (·.2)) := by
  refine ⟨L.map (·.1), by simp, by rw [List.length_map]; exact h.1, fun i a b => ?_⟩
  rw [List.getElem_map, List.getElem_map]
  exact h.2 _ (List.getElem_mem _)
theorem OwnPV.step {base : Nat} {L : List PV} {w1 w2 : World} {o v' u : Value} {x : List Int} {n : Nat} (h : OwnPV base w1 o L) (hu : OwnInts base w1 u x) (hn : n = L.length + 1) (h4 : w2.ownsRow base 22 1 v' n (L.map (·.1) ++ [u])) (hg : w1.grownBy w2 o.ownBlock) : OwnPV base w2 v' (L ++ [(u, x)]) := by
  subst hn
  have key : ∀ z l, OwnInts base w1 z l → OwnInts base w2 z l := fun z l hz => World.ownsRow.kept hz hg (rows_apart hz h.1 (by decide))
  refine ⟨by simpa using h4, fun p hp => ?_⟩
  rcases List.mem_append.1 hp with hp | hp
  · exact key _ _ (h.2 p hp)
  · rw [List.mem_singleton.1 hp]; exact key _ _ hu
/-- a row is no map and no walk over one -/
theorem row_notIt {w : World} {base : Nat} {e : TypeId} {size n : Nat} {v : Value} {xs : List Value} (h : w.ownsRow base e size v n xs) {b r cnt : Nat} {p q : List Int → Prop} (hi : MIt w b r p q cnt) :
    (v.ownBlock = none ∨ v.ownBlock ≠ some r) ∧ (some b ≠ v.ownBlock) ∧ (some r ≠ v.ownBlock) := by
  obtain ⟨D, left, ⟨es, clock, since, seen, c0, hb, _, _, _, hr, _⟩, _⟩ := hi
  rcases h.2 with ⟨rfl, _⟩ | ⟨g, cap, cur, rfl, _, hg, _⟩
  · exact ⟨.inl rfl, by simp [Value.ownBlock], by simp [Value.ownBlock]⟩
  · have h1 : g ≠ r := fun e => by rw [e, hr] at hg; cases hg
    have h2 : g ≠ b := fun e => by rw [e, hb] at hg; cases hg
    refine ⟨.inr ?_, ?_, ?_⟩ <;> simp only [Value.ownBlock, ne_eq, Option.some.injEq]
    · exact h1
    · exact fun e => h2 e.symm
    · exact fun e => h1 e.symm
theorem OwnPV.iter {base : Nat} {w w' : World} {v : Value} {L : List PV} (h : OwnPV base w v L) {b r cnt : Nat} {p q : List Int → Prop} (hi : MIt w b r p q cnt) (hg : w.grownBy w' (some r)) : OwnPV base w' v L :=
  ⟨World.ownsRow.kept h.1 hg (row_notIt h.1 hi).1, fun p hp => World.ownsRow.kept (h.2 p hp) hg (row_notIt (h.2 p hp) hi).1⟩
/-- what a match gives a head -/
def hdR (hd v : List Int) : List Int := hd.map fun t => v.getD t.toNat 0
/-- the results -/
def IsRes (q : HQ) (l : List HAt) (R : List (List Int)) : Prop := Strict R ∧ ∀ x, x ∈ R ↔ ∃ v, MaP l q.2 v ∧ x = hdR q.1 v
def ResE (q : HQ) (l : List HAt) (w : World) (e : Ending) (w' : World) : Prop :=
  (¬ (QrV q ∧ FsV l) ∧ e = .returned (.tuple #[.slice none 0 0, .int .i64 2])) ∨ (QrV q ∧ FsV l ∧ Big l q.2 ∧ e = .returned (.tuple #[.slice none 0 0, .int .i64 3])) ∨
    (QrV q ∧ FsV l ∧ ¬ Big l q.2 ∧ ∃ u R, e = .returned (.tuple #[u, .int .i64 0]) ∧ OwnRows w.heap.size w' u R ∧ IsRes q l R)
theorem small_of {q : HQ} {l : List HAt} (hq : QrV q) (h : ¬ Big l q.2) {w : World} {b n : Nat} (hm : MSetN w b n (MaP l q.2)) : n ≤ 20000 := by
  obtain ⟨L, l1, l2, l3⟩ := hm.count
  have hl := hq.1.1
  refine Classical.byContradiction fun hn => h ⟨q.2.length, by omega, Nat.le_refl _, L, l1, fun v hv => ?_, by omega⟩
  rw [List.take_length]; exact (l3 v).1 hv
/-- the rows that have been gone through -/
def Gone (hd : List Int) (p q : List Int → Prop) (L : List PV) : Prop := ∀ x, (∃ a, a ∈ L ∧ a.2 = x) ↔ ∃ v, p v ∧ ¬ q v ∧ x = hdR hd v
theorem gone_step {hd : List Int} {p q : List Int → Prop} {L : List PV} (h : Gone hd p q L) {v : List Int} (hv : p v) {u : Value} : Gone hd p (fun x => q x ∧ x ≠ v) (L ++ [(u, hdR hd v)]) := fun x => by
  constructor
  · rintro ⟨a, ha, rfl⟩
    rcases List.mem_append.1 ha with ha | ha
    · obtain ⟨z, h1, h2, h3⟩ := (h a.2).1 ⟨a, ha, rfl⟩
      exact ⟨z, h1, fun c => h2 c.1, h3⟩
    · rw [List.mem_singleton.1 ha]
      exact ⟨v, hv, fun c => c.2 rfl, rfl⟩
  · rintro ⟨z, h1, h2, rfl⟩
    by_cases c : q z
    · have : z = v := Classical.byContradiction fun e => h2 ⟨c, e⟩
      subst this
      exact ⟨(u, hdR hd z), by simp, rfl⟩
    · obtain ⟨a, ha, e⟩ := (h _).2 ⟨z, h1, c, rfl⟩
      exact ⟨a, by simp [ha], e⟩
theorem compactNone (w : World) : Calls Try.prog 68 #[.slice none 0 0, .func (.func 30) #[] #[]] w fun e w' => e = .returned (.slice none 0 0) ∧ w = w' := by
  go_enter Try.func68, Try.ntmps68
  go_wp2_with fail
  go_ret
  exact ⟨rfl, rfl⟩
theorem compactV_any {base : Nat} {L : List PV} {v : Value} {w : World} (hl : L.length ≤ 1000000) (hb : base ≤ w.heap.size) (h : OwnPV base w v L) :
    Calls Try.prog 68 #[v, .func (.func 30) #[] #[]] w fun e w' => ∃ u, e = .returned u ∧ OwnPV base w' u (cpT L L.length) ∧ Below base w w' := by
  obtain ⟨h1, h2⟩ := h
  rcases h1.2 with ⟨rfl, h0⟩ | ⟨g, cap, cur, rfl, hbg, hg, hnc, hcm, hcs, htake⟩
  · have hL : L = [] := List.eq_nil_of_length_eq_zero h0
    subst hL
    refine (compactNone w).mono ?_
    rintro e w' ⟨rfl, rfl⟩
    exact ⟨_, rfl, ownPV_nil _ _, Below.refl _ _⟩
  · refine (compactF_any base g cap L hl w h1 h2).mono ?_
    rintro e w' ⟨rfl, k1, k2⟩
    refine ⟨_, rfl, ⟨k1, fun p hp => ?_⟩, grown_below h1 k2 hb⟩
    have := h2 p (mem_cpT (Nat.le_refl _) hp)
    exact World.ownsRow.kept this k2 (rows_apart this h1 (by decide))
theorem sortV_any {base : Nat} {L : List PV} {v : Value} {w : World} (hl : L.length ≤ 1000000) (hb : base ≤ w.heap.size) (h : OwnPV base w v L) :
    Calls Try.prog 67 #[v, .func (.func 59) #[] #[]] w fun e w' => e = .returned (.tuple #[]) ∧ ∃ L' : List PV, L'.Perm L ∧ (∀ i j, i < j → j < L'.length → cmpL (L'.getD i dPV).2 (L'.getD j dPV).2 ≤ 0) ∧ OwnPV base w' v L' ∧ Below base w w' :=
  (sortR_any base L v w hl h.1 h.2).mono fun e w' ⟨he, L', hp, hs, ho, hg⟩ => ⟨he, L', hp, hs, ⟨by rw [hp.length_eq]; exact ho, fun p hpp => World.ownsRow.kept (h.2 p (hp.mem_iff.1 hpp)) hg (rows_apart (h.2 p (hp.mem_iff.1 hpp)) h.1 (by decide))⟩, grown_below h.1 hg hb⟩
theorem isRes_of {q : HQ} {l : List HAt} {p : List Int → Prop} {L L' : List PV} (hp : L'.Perm L) (hs : ∀ i j, i < j → j < L'.length → cmpL (L'.getD i dPV).2 (L'.getD j dPV).2 ≤ 0) (hg : Gone q.1 (MaP l q.2) p L) (hq : ∀ v, ¬ p v) : IsRes q l ((cpT L' L'.length).map (·.2)) := by
  obtain ⟨h1, h2⟩ := cpT_strict hs L'.length (Nat.le_refl _)
  refine ⟨h1, fun x => (h2 x).trans ?_⟩
  constructor
  · rintro ⟨i, hi, rfl⟩
    obtain ⟨v, g1, _, g3⟩ := (hg _).1 ⟨L'.getD i dPV, hp.mem_iff.1 (by rw [List.getD_eq_getElem?_getD, List.getElem?_eq_getElem hi]; exact List.getElem_mem _), rfl⟩
    exact ⟨v, g1, g3⟩
  · rintro ⟨v, g1, rfl⟩
    obtain ⟨a, ha, e⟩ := (hg _).2 ⟨v, g1, hq v, rfl⟩
    obtain ⟨i, hi, e2⟩ := List.getElem_of_mem (hp.mem_iff.2 ha)
    exact ⟨i, hi, by rw [List.getD_eq_getElem?_getD, List.getElem?_eq_getElem hi]; show _ = L'[i].2; rw [e2, e]⟩
theorem vrow8 {v : List Int} (hv : v.length = 8) : Z8.size = (vrow v).size := by rw [vrow_size, hv]; rfl
set_option maxRecDepth 100000 in
set_option maxHeartbeats 16000000 in
theorem results_any {q : HQ} {l : List HAt} (v u : Value) (w : World) (hq : Qr w v q) (hu : Atoms w u l) :
    Calls Try.prog 19 #[v, u] w fun e w' => ResE q l w e w' ∧ Below w.heap.size w w' := by
  obtain ⟨h0, b0, rfl, hh, hb⟩ := hq
  obtain ⟨w1, hw1⟩ : ∃ w1, w1 = w.alloc (.cells #[h0, b0] 33) := ⟨_, rfl⟩
  have hb1 : Below w.heap.size w w1 := by rw [hw1]; exact below_alloc _ _
  have g0 : w1.cell? ⟨w.heap.size, 0, none⟩ = some h0 := by rw [hw1]; exact cell_new w _ _ 0
  have g1 : w1.cell? ⟨w.heap.size, 1, none⟩ = some b0 := by rw [hw1]; exact cell_new w _ _ 1
  have HV := Lib.hid (findAll_any (q := q) (l := l) (.agg #[h0, b0]) u w1 ⟨h0, b0, rfl, hh.keep hb1, hb.keep hb1⟩ (hu.keep hb1))
  obtain ⟨ha, hc, rfl⟩ := ints_slice hh
  obtain ⟨ba, bc, rfl⟩ := atoms_slice hb
  obtain ⟨ua, uc, rfl⟩ := atoms_slice hu
  have Hb1 := Lib.hid hb1
  have Hw1 := Lib.hid hw1
  have Hs1 := Lib.hid (show w1.heap.size = w.heap.size + 1 by rw [hw1]; simp)
  have Hh := Lib.hid hh
  clear hh hb hb1 hw1 hu
  go_enter Try.func19, Try.ntmps19
  go_upto_region 1 with fail
  rw [← Hw1.out]
  clear Hw1
  go_wp2_with fail
  refine HV.out.mono ?_
  rintro e w2 ⟨hE, hb2⟩
  have Hb2 := Lib.hid (Below.tr Hb1.out hb2)
  have Hg0 := Lib.hid (Below.keep hb2 g0)
  have Hs2 := Lib.hid hb2.size
  clear hb2 g0 g1
  rcases hE with ⟨hn, rfl⟩ | ⟨hq, hf, ⟨hB, rfl⟩ | ⟨hB, b, n, rfl, hge, hm⟩⟩
  · have R := Lib.hid (fun w2 => show ResE q l w (.returned (.tuple #[.slice none 0 0, .int .i64 2])) w2 from .inl ⟨hn, rfl⟩)
    clear hn
    go_wp2_with fail
    go_ret2
    exact ⟨R.out _, Hb2.out⟩
  · have R := Lib.hid (fun w2 => show ResE q l w (.returned (.tuple #[.slice none 0 0, .int .i64 3])) w2 from .inr (.inl ⟨hq, hf, hB, rfl⟩))
    clear hB hq hf
    go_wp2_with fail
    go_ret2
    exact ⟨R.out _, Hb2.out⟩
  · have Hn := Lib.hid (small_of hq hB hm)
    have Hm := Lib.hid hm
    have Hge := Lib.hid (show w.heap.size < b by have := Hs1.out; omega)
    have R := Lib.hid (fun u R w2 (h1 : OwnRows w.heap.size w2 u R) (h2 : IsRes q l R) => show ResE q l w (.returned (.tuple #[u, .int .i64 0])) w2 from .inr (.inr ⟨hq, hf, hB, u, R, rfl, h1, h2⟩))
    have Hhd := Lib.hid (show q.1.length ≤ 1000 ∧ ∀ k, k < q.1.length → 0 ≤ q.1.getD k 0 ∧ q.1.getD k 0 < 8 from ⟨by have := hq.1.2.2; omega, fun k hk => (hq.2.2 _ (by rw [List.getD_eq_getElem?_getD, List.getElem?_eq_getElem hk]; exact List.getElem_mem hk)).1⟩)
    clear hge hm hq hf hB HV
    go_wp2_with (first | (at_range; refine wpList_range_match rfl _ rfl _ rfl rfl Hm.out ?_; intro w0 hr0 hg0 hs0))
    obtain ⟨rr, hrr⟩ : ∃ x, x = w2.heap.size := ⟨_, rfl⟩
    have Hrr := Lib.hid (show w.heap.size < rr by rw [hrr]; have := Hm.out.lt; have := Hge.out; omega)
    rw [← hrr] at hr0 ⊢
    have hb0 : Below w2.heap.size w2 w0 := ⟨hg0.os, hg0.tape, hg0.output, hg0.size, fun k hk => hg0.block k hk (by simp)⟩
    have Hr0 := Lib.hid hr0
    have Hg0 := Lib.hid (Below.keep hb0 Hg0.out)
    have Hb0 := Lib.hid (Below.tr Hb2.out hb0)
    obtain ⟨bs, hbs⟩ : ∃ x, x = w.heap.size + 1 := ⟨_, rfl⟩
    have Hbs := Lib.hid hbs
    clear hb0 hr0 hg0 hs0 hrr hbs Hm Hb2 Hb1 Hs1 Hs2
    go_frame
    go_loopw [8] (fun vl wr => ∃ (p : List Int → Prop) (cnt : Nat) (L : List PV), MIt wr b rr (MaP l q.2) p cnt ∧ OwnPV bs wr vl L ∧ Gone q.1 (MaP l q.2) p L ∧ L.length + cnt ≤ 20000 ∧ wr.cell? ⟨w.heap.size, 0, none⟩ = some (.slice ha q.1.length hc) ∧ Below w.heap.size w wr) (fun _ wr => wr.rangeLeft b rr)
    case atStart => exact ⟨_, _, [], Hr0.out, ownPV_nil _ _, fun x => ⟨fun ⟨_, h, _⟩ => by simp at h, fun ⟨_, h1, h2, _⟩ => absurd h1 h2⟩, by have := Hn.out; simp; omega, Hg0.out, Hb0.out⟩
    case round =>
      clear Hr0 Hg0 Hb0
      obtain ⟨p, cnt, L, hr, hl, hgo, hcn, hg, hb⟩ := hrel
      obtain ⟨la, lc, rfl⟩ := hl.slice
      have Hr := Lib.hid hr
      have Hl := Lib.hid hl
      have Hgo := Lib.hid hgo
      have Hb := Lib.hid hb
      have Hg := Lib.hid hg
      have Hcn := Lib.hid hcn
      clear hr hl hgo hb hg hcn
      go_wp2_with (first | (at_next; refine wpList_next_match rfl _ rfl _ rfl rfl Hr.out ?_ ?_))
      · intro hq
        have Hq := Lib.hid hq
        clear hq
        have HBs := Lib.hid (show bs ≤ wr.heap.size from by have := cell_lt Hg.out; rw [Hbs.out]; exact this)
        go_wp2_with fail
        refine (sortV_any (by have := Hcn.out; omega) HBs.out Hl.out).mono ?_
        rintro e w5 ⟨rfl, L', hp, hso, ho5, hb5⟩
        have HR := Lib.hid (isRes_of hp hso Hgo.out Hq.out)
        have HL5 := Lib.hid (show L'.length ≤ 1000000 from by rw [hp.length_eq]; have := Hcn.out; omega)
        have HO5 := Lib.hid ho5
        have HB5 := Lib.hid (Hb.out.trans (hb5.mono (by have := Hbs.out; omega)))
        have HS5 := Lib.hid (Nat.le_trans HBs.out hb5.size)
        clear hp hso ho5 hb5
        go_wp2_with fail
        refine (compactV_any HL5.out HS5.out HO5.out).mono ?_
        rintro e w6 ⟨u6, rfl, ho6, hb6⟩
        obtain ⟨ca, cc, rfl⟩ := ho6.slice
        have R6 := Lib.hid (R.out _ _ _ (ho6.rows.base (by have := Hbs.out; omega)) HR.out)
        have HB6 := Lib.hid (HB5.out.trans (hb6.mono (by have := Hbs.out; omega)))
        clear ho6 hb6
        go_wp2_with fail
        go_ret2
        exact ⟨R6.out, HB6.out⟩
      · intro v c w3 cnt3 hqv hvk hr3 hlt3 hg3 hs3 hen
        have hb3 : Below w.heap.size w w3 := Hb.out.grown hg3 Hb.out.size (fun j hj => by cases hj; have := Hrr.out; omega)
        have Hl3 := Lib.hid (Hl.out.iter Hr.out hg3)
        have hc3 := (World.cell?_of_block (a := ⟨w.heap.size, 0, none⟩) (hg3.block w.heap.size (cell_lt Hg.out) (by have := Hrr.out; intro e; injection e with e; omega))).trans Hg.out
        have HMv := Lib.hid (show MaP l q.2 v from by obtain ⟨D, left, _, _, _, _, h6⟩ := Hr.out; exact h6 v hqv)
        have hz8 := heap_alloc_new w3 (.cells Z8 95)
        have h8 := hvk.1
        have HSv := Lib.hid (sizeVr h8)
        have Hzs := Lib.hid (vrow8 h8)
        have H1v := Lib.hid (vrow_one v)
        have Hcall := Lib.hid (fun w' (hb' : Below w.heap.size w w') => result_any v h8 q.1 Hhd.out.1 Hhd.out.2 (.slice ha q.1.length hc) w' (Hh.out.keep hb'))
        obtain ⟨X, hX⟩ : ∃ X, X = vrow v := ⟨_, rfl⟩
        rw [← hX] at HSv Hzs H1v hen Hcall
        obtain ⟨wv, hwv⟩ : ∃ wv, wv = (w3.alloc (.cells Z8 95)).setRow w3.heap.size X := ⟨_, rfl⟩
        have Hv := Lib.hid (show wv.heap[w3.heap.size]? = some (.cells X 95 (0, 0)) from by rw [hwv]; exact setRow_heap _ _ _ X _ _ hz8)
        have hbb : Below w3.heap.size w3 wv := by rw [hwv]; exact below_setRow (below_alloc _ _) (Nat.le_refl _) _
        have Hrv := Lib.hid (hr3.keep hbb)
        have Hlv := Lib.hid (Hl3.out.keep hbb)
        have Hcv := Lib.hid (Below.keep hbb hc3)
        have Hbv := Lib.hid (Below.tr hb3 hbb)
        have Hz8 := Lib.hid hz8
        have Hwv := Lib.hid hwv
        have Hlt3 := Lib.hid hlt3
        clear hbb hz8 hwv hX hg3 hs3 hb3 hr3 hc3 hvk hqv h8 hlt3 Hl3
        go_upto_region 8 with (first | (refine wpList_store_row rfl 95 (.tmp 9) (.tmp 24) rfl w3.heap.size X rfl rfl 95 _ Hz8.out HSv.out Hzs.out H1v.out ?_))
        go_frame
        rw [← Hwv.out]
        clear Hwv Hz8 hen
        have hcv := Hcv.out
        go_wp2_with (first | (refine wpList_load_row rfl 95 (.tmp 9) rfl w3.heap.size rfl 95 X (0, 0) _ Hv.out undV rfl HSv.out ?_))
        refine (Hcall.out _ Hbv.out).mono ?_
        rintro e w4 ⟨y, rfl, hy, hb4⟩
        obtain ⟨ya, yn, yc, rfl⟩ := own_slice hy
        obtain ⟨w7, hw7⟩ : ∃ w7, w7 = w4.alloc (.cells #[.slice ya yn yc] 22) := ⟨_, rfl⟩
        have hb7 : Below w4.heap.size w4 w7 := by rw [hw7]; exact below_alloc _ _
        have hb47 := Below.tr hb4 hb7
        have HR7 := Lib.hid (Hrv.out.keep hb47)
        have HL7 := Lib.hid (Hlv.out.keep hb47)
        have HC7 := Lib.hid (Below.keep hb47 Hcv.out)
        have HB7 := Lib.hid (Below.tr Hbv.out hb47)
        have HY7 := Lib.hid (show OwnInts bs w7 (.slice ya yn yc) (hdR q.1 v) from (hy.keep hb7).base (by have := cell_lt Hcv.out; rw [Hbs.out]; exact this))
        have Hcell := Lib.hid (show ∀ (j : Nat) (u : Value), [Value.slice ya yn yc][j]? = some u → w7.cell? ⟨w4.heap.size, j, none⟩ = some u from fun j u hj => by
          rw [hw7, cell_new]
          match j, hj with
          | 0, hj => simpa using hj
          | j + 1, hj => simp at hj)
        have H1o := Lib.hid (show ∀ u, u ∈ [Value.slice ya yn yc] → u.oneCell' = true from fun u hu => by rw [List.mem_singleton.1 hu]; rfl)
        have Hw7 := Lib.hid hw7
        have HN := Lib.hid (show L.length + 1 ≤ 100000000000 by have := Hcn.out; omega)
        have HS7 := Lib.hid (show bs ≤ w7.heap.size from by have := cell_lt HC7.out; rw [Hbs.out]; exact this)
        clear hw7 hb7 hb47 hy hb4 hcv Hcall Hv HSv Hzs H1v
        go_wp2_with (at_builtin; rw [← Hw7.out]; refine append_own rfl (.tmp 25) (.tmp 30) 27 rfl elemRows rfl HL7.out.1 [.slice ya yn yc] rfl rfl Hcell.out H1o.out HN.out HS7.out ?_; intro v9 w9 h91 h92 h93)
        have hne := row_notIt HL7.out.1 HR7.out
        have HRn := Lib.hid (HR7.out.kept h93 hne.2.1 hne.2.2)
        have HLn := Lib.hid (OwnPV.step HL7.out HY7.out rfl h91 h93)
        have HGn := Lib.hid (gone_step Hgo.out HMv.out (u := .slice ya yn yc))
        have HBn := Lib.hid (HB7.out.trans (h92.mono (by have := Hbs.out; omega)))
        have HCn := Lib.hid ((h92.cell (p := ⟨w.heap.size, 0, none⟩) (by have := Hbs.out; simp; omega)).trans HC7.out)
        have HNn := Lib.hid (show (L ++ [(Value.slice ya yn yc, hdR q.1 v)]).length + cnt3 ≤ 20000 from by have := Hcn.out; have := Hlt3.out; simp; omega)
        clear hne h91 h92 h93
        go_roundw
        case rel => exact ⟨_, cnt3, _, HRn.out, HLn.out, HGn.out, HNn.out, HCn.out, HBn.out⟩
        case measure => rw [HRn.out.left_eq, Hr.out.left_eq]; exact Hlt3.out
#print axioms results_any
end Go.Proofs.Ytfplmdieeabgpaa
