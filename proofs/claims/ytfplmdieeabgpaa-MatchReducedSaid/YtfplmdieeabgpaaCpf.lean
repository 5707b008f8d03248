/- Contract of slices.CompactFunc over rows of ints, by slices.Equal. -/
import Derived.Test.YtfplmdieeabgpaaRws
import Derived.Test.YtfplmdieeabgpaaCml
import Derived.Test.YtfplmdieeabgpaaEqq
import Derived.Lib.SliceRun
import Derived.Laws.OwnMore
import Derived.BigQuiet
import Derived.Deep.DeepCutAuto
namespace Go.Proofs.Ytfplmdieeabgpaa
open Go.RowKit
abbrev PV := Value × List Int
def dPV : PV := (.bool false, [])
/-- is element j kept -/
def kpP (L : List PV) (j : Nat) : Prop := j = 0 ∨ (L.getD j dPV).2 ≠ (L.getD (j - 1) dPV).2
open Classical in
/-- what is kept of the first j -/
noncomputable def cpT (L : List PV) : Nat → List PV
  | 0 => []
  | j + 1 => cpT L j ++ if kpP L j then [L.getD j dPV] else []
theorem cpT_yes {L : List PV} {j : Nat} (h : kpP L j) : cpT L (j + 1) = cpT L j ++ [L.getD j dPV] := by rw [cpT, if_pos h]
theorem cpT_no {L : List PV} {j : Nat} (h : ¬ kpP L j) : cpT L (j + 1) = cpT L j := by rw [cpT, if_neg h, List.append_nil]
theorem cpT_len (L : List PV) : ∀ j, (cpT L j).length ≤ j
  | 0 => by simp [cpT]
  | j + 1 => by
    by_cases h : kpP L j
    · rw [cpT_yes h, List.length_append]; have := cpT_len L j; simp; omega
    · rw [cpT_no h]; have := cpT_len L j; omega
theorem cpT_all {L : List PV} : ∀ {j}, j ≤ L.length → (∀ i, i < j → kpP L i) → cpT L j = L.take j
  | 0, _, _ => rfl
  | j + 1, hj, h => by
    rw [cpT_yes (h j (by omega)), cpT_all (by omega) fun i hi => h i (by omega), List.take_succ_eq_append_getElem (by omega), List.getD_eq_getElem?_getD, List.getElem?_eq_getElem (by omega)]
    rfl
theorem mem_cpT {L : List PV} {j : Nat} (hj : j ≤ L.length) {p : PV} (hp : p ∈ cpT L j) : p ∈ L := by
  induction j with
  | zero => simp [cpT] at hp
  | succ j ih =>
    by_cases h : kpP L j
    · rw [cpT_yes h] at hp
      rcases List.mem_append.1 hp with hp | hp
      · exact ih (by omega) hp
      · rw [List.mem_singleton.1 hp, List.getD_eq_getElem?_getD, List.getElem?_eq_getElem (by omega)]; exact List.getElem_mem _
    · rw [cpT_no h] at hp; exact ih (by omega) hp
/-- of rows in order just the different ones are left -/
theorem cpT_strict {L : List PV} (hs : ∀ i j, i < j → j < L.length → cmpL (L.getD i dPV).2 (L.getD j dPV).2 ≤ 0) : ∀ j, j ≤ L.length →
    Strict ((cpT L j).map (·.2)) ∧ (∀ x, x ∈ (cpT L j).map (·.2) ↔ ∃ i, i < j ∧ x = (L.getD i dPV).2)
  | 0, _ => ⟨by simp [Strict, cpT], fun x => by simp [cpT]⟩
  | j + 1, hj => by
    obtain ⟨h1, h2⟩ := cpT_strict hs j (by omega)
    by_cases h : kpP L j
    · rw [cpT_yes h, List.map_append]
      refine ⟨List.pairwise_append.2 ⟨h1, by simp, fun x hx y hy => ?_⟩, fun x => ?_⟩
      · obtain ⟨i, hi, rfl⟩ := (h2 x).1 hx
        simp only [List.map_cons, List.map_nil, List.mem_singleton] at hy
        subst hy
        have hne := h.resolve_left (by omega)
        have a := hs (j - 1) j (by omega) (by omega)
        have a2 : cmpL (L.getD (j - 1) dPV).2 (L.getD j dPV).2 < 0 := by
          rcases Int.lt_or_eq_of_le a with a | a
          · exact a
          · exact absurd (cmpL_eq a).symm hne
        by_cases e : i = j - 1
        · rw [e]; exact a2
        · have b := hs i (j - 1) (by omega) (by omega)
          rcases Int.lt_or_eq_of_le b with b | b
          · exact cmpL_trans b a2
          · rw [cmpL_eq b]; exact a2
      · rw [List.mem_append, h2]
        simp only [List.map_cons, List.map_nil, List.mem_singleton]
        constructor
        · rintro (⟨i, hi, rfl⟩ | rfl)
          · exact ⟨i, by omega, rfl⟩
          · exact ⟨j, by omega, rfl⟩
        · rintro ⟨i, hi, rfl⟩
          by_cases e : i = j
          · subst e; exact .inr rfl
          · exact .inl ⟨i, by omega, rfl⟩
    · rw [cpT_no h]
      refine ⟨h1, fun x => (h2 x).trans ⟨fun ⟨i, hi, e⟩ => ⟨i, by omega, e⟩, fun ⟨i, hi, e⟩ => ?_⟩⟩
      by_cases c : i = j
      · subst c
        have hn : ¬ (i = 0) ∧ (L.getD i dPV).2 = (L.getD (i - 1) dPV).2 := by
          unfold kpP at h
          exact ⟨fun q => h (.inl q), Classical.byContradiction fun q => h (.inr q)⟩
        exact ⟨i - 1, by omega, by rw [e, hn.2]⟩
      · exact ⟨i, by omega, e⟩
theorem own_take {w : World} {base : Nat} {e : TypeId} {g n cap : Nat} {xs : List Value} (h : w.ownsRow base e 1 (.slice (some ⟨g, 0, none⟩) n cap) n xs) {k : Nat} (hk : k ≤ n) : w.ownsRow base e 1 (.slice (some ⟨g, 0, none⟩) k cap) k (xs.take k) := by
  obtain ⟨h1, h2⟩ := h
  refine ⟨by rw [List.length_take]; omega, ?_⟩
  rcases h2 with ⟨h', _⟩ | ⟨g', cap', cur, h', hb, hg, hnc, hcm, hcs, htake⟩
  · simp at h'
  · simp only [Value.slice.injEq, Option.some.injEq, Addr.mk.injEq, and_true, true_and] at h'
    obtain ⟨rfl, rfl⟩ := h'
    refine .inr ⟨g, cap, cur, rfl, hb, hg, by omega, hcm, hcs, ?_⟩
    rw [← htake, List.take_take]
    congr 1
    omega
theorem own_cells {base : Nat} {e : TypeId} {g n cap k : Nat} : ∀ (vs : List Value) (o : Nat) (w : World) (xs : List Value), k ≤ o → w.ownsRow base e 1 (.slice (some ⟨g, 0, none⟩) n cap) n xs →
    (∃ ys, (w.setCells g o vs).ownsRow base e 1 (.slice (some ⟨g, 0, none⟩) n cap) n ys ∧ ys.take k = xs.take k) ∧ w.grownBy (w.setCells g o vs) (some g)
  | [], o, w, xs, _, h => ⟨⟨xs, h, rfl⟩, ⟨rfl, rfl, rfl, Nat.le_refl _, fun _ _ _ => rfl⟩⟩
  | v :: vs, o, w, xs, ho, h => by
    obtain ⟨a, b⟩ := h.stored o v
    obtain ⟨⟨ys, c, d⟩, q⟩ := own_cells vs (o + 1) _ _ (Nat.le_succ_of_le ho) a
    refine ⟨⟨ys, c, ?_⟩, b.trans q⟩
    rw [d, List.take_set_of_le (by omega)]
theorem zeroInts (w : World) : (zeroValue 22).run Try.prog w = .ok (.slice none 0 0) w := by kernel_rfl
/-- what CompactFunc leaves -/
def CpE (base g cap : Nat) (L : List PV) (w : World) (e : Ending) (w' : World) : Prop :=
  e = .returned (.slice (some ⟨g, 0, none⟩) (cpT L L.length).length cap) ∧ w'.ownsRow base 22 1 (.slice (some ⟨g, 0, none⟩) (cpT L L.length).length cap) (cpT L L.length).length ((cpT L L.length).map (·.1)) ∧ w.grownBy w' (some g)
set_option maxRecDepth 100000 in
set_option maxHeartbeats 16000000 in
theorem compactF_any (base g cap : Nat) (L : List PV) (hl : L.length ≤ 1000000) (w : World) (ho : w.ownsRow base 22 1 (.slice (some ⟨g, 0, none⟩) L.length cap) L.length (L.map (·.1))) (hr : ∀ p, p ∈ L → OwnInts base w p.1 p.2) :
    Calls Try.prog 68 #[.slice (some ⟨g, 0, none⟩) L.length cap, .func (.func 30) #[] #[]] w (CpE base g cap L w) := by
  have Hix := Lib.hid (run_ix (P := Try.prog) (t := 27) (a := some ⟨g, 0, none⟩) (len := L.length) (cap := cap) (b := g) (off := 0) (s := 1) Try.underlying27 (by intro w; kernel_rfl) (fun _ => rfl))
  simp only [Nat.mul_one, Nat.zero_add] at Hix
  have Ho := Lib.hid ho
  have Hr := Lib.hid hr
  have hlc : L.length ≤ cap := by
    rcases ho.2 with ⟨h', _⟩ | ⟨g', cap', cur, h', _, _, hnc, _⟩
    · simp at h'
    · simp only [Value.slice.injEq, Option.some.injEq, Addr.mk.injEq, and_true, true_and] at h'
      obtain ⟨_, rfl⟩ := h'; exact hnc
  clear ho hr
  obtain ⟨n, hn⟩ : ∃ n, n = L.length := ⟨_, rfl⟩
  rw [← hn] at Ho Hix hlc hl ⊢
  have Hn := Lib.hid hn
  clear hn
  by_cases h2 : n < 2
  · have R := Lib.hid (show CpE base g cap L w (.returned (.slice (some ⟨g, 0, none⟩) n cap)) w from by
      have e : cpT L L.length = L := by
        rw [cpT_all (Nat.le_refl _) fun i hi => ?_, List.take_length]
        have := Hn.out
        exact .inl (by omega)
      have := Ho.out
      unfold CpE
      rw [e, ← Hn.out]
      exact ⟨rfl, this, ⟨rfl, rfl, rfl, Nat.le_refl _, fun _ _ _ => rfl⟩⟩)
    have q : (n : Int) < 2 := by omega
    clear h2
    go_enter Try.func68, Try.ntmps68
    go_wp2_with fail
    go_ret
    exact R.out
  · have q : ¬ (n : Int) < 2 := by omega
    go_enter Try.func68, Try.ntmps68
    go_wp2_with fail
    go_loopw [5] (fun vi wr => ∃ k q : Nat, vi = .int .i64 k ∧ 1 ≤ k ∧ k ≤ n ∧ wr = w.drewN q ∧ ∀ i, i < k → kpP L i) (fun vi _ => n - (intOf vi).toNat)
    case atStart => exact ⟨1, 0, rfl, by omega, by omega, rfl, fun i hi => .inl (by omega)⟩
    case round =>
      obtain ⟨k, q, rfl, hk1, hk, hwr, hall⟩ := hrel
      have Hwr := Lib.hid hwr
      have Hall := Lib.hid hall
      clear hwr hall
      have hcell : ∀ j, j < n → wr.cell? ⟨g, j, none⟩ = some (L.getD j dPV).1 := fun j hj => by
        rw [Hwr.out]
        refine (Ho.out.cellAt j (by omega)).trans ?_
        rw [List.getElem?_map, List.getD_eq_getElem?_getD, List.getElem?_eq_getElem (by rw [← Hn.out]; exact hj)]; rfl
      have hint : ∀ j, j < n → ∀ d, Ints (wr.drewN d) (L.getD j dPV).1 (L.getD j dPV).2 := fun j hj d => by
        rw [Hwr.out]
        refine (Hr.out _ ?_).ints
        rw [List.getD_eq_getElem?_getD, List.getElem?_eq_getElem (by rw [← Hn.out]; exact hj)]; exact List.getElem_mem _
      by_cases hlt : k < n
      · have hck := hcell k hlt
        have hcp := hcell (k - 1) (by omega)
        have Hik := Lib.hid (hint k hlt)
        have Hip := Lib.hid (hint (k - 1) (by omega))
        have HK := Lib.hid (show kpP L k ↔ ¬ (L.getD k dPV).2 = (L.getD (k - 1) dPV).2 from ⟨fun h => h.resolve_left (by omega), .inr⟩)
        obtain ⟨x, hx⟩ : ∃ x, x = (L.getD k dPV).1 := ⟨_, rfl⟩
        obtain ⟨X, hX⟩ : ∃ x, x = (L.getD k dPV).2 := ⟨_, rfl⟩
        obtain ⟨y, hy⟩ : ∃ x, x = (L.getD (k - 1) dPV).1 := ⟨_, rfl⟩
        obtain ⟨Y, hY⟩ : ∃ x, x = (L.getD (k - 1) dPV).2 := ⟨_, rfl⟩
        rw [← hx] at hck Hik
        rw [← hX] at Hik HK
        rw [← hy] at hcp Hip
        rw [← hY] at Hip HK
        clear hx hX hy hY hcell hint
        obtain ⟨xa, xc, hxs⟩ := ints_slice (Hik.out 0)
        obtain ⟨ya, yc, hys⟩ := ints_slice (Hip.out 0)
        have HE := Lib.hid (fun d => equal_any X Y x y (wr.drewN d) (Hik.out d) (Hip.out d))
        rw [hxs] at hck HE
        rw [hys] at hcp HE
        clear hxs hys Hik Hip
        have hixk := Hix.out k
        have hixp := Hix.out (k - 1)
        rw [show ((k - 1 : Nat) : Int) = (k : Int) - 1 by omega] at hixp
        by_cases c : X = Y
        · rw [decide_eq_true c] at HE
          have HKn := Lib.hid (show ¬ kpP L k from fun h => HK.out.1 h c)
          clear c HK
          go_upto_region 6 with fail
          go_quiet ((go_at_call 30; exact Calls.quiet_of (HE.out _)))
          generalize hw9 : wr.drewN _ = w9
          have H9 := Lib.hid (show ∃ q9, w9 = w.drewN q9 from ⟨_, by rw [← hw9, Hwr.out]; exact World.drewN_drewN _ _ _⟩)
          have hlow : ¬ cap = k := by omega
          have HO9 := Lib.hid (show w9.ownsRow base 22 1 (.slice (some ⟨g, 0, none⟩) n cap) n ((cpT L (k + 1) ++ L.drop k).map (·.1)) from by
            obtain ⟨q9, h9⟩ := H9.out
            rw [h9, cpT_no HKn.out, cpT_all (by have := Hn.out; omega) Hall.out, List.take_append_drop]; exact Ho.out)
          have HG9 := Lib.hid (show w.grownBy w9 (some g) from by
            obtain ⟨q9, h9⟩ := H9.out
            rw [h9]; exact ⟨rfl, rfl, rfl, Nat.le_refl _, fun _ _ _ => rfl⟩)
          have HT := Lib.hid (show (cpT L (k + 1)).length = k from by rw [cpT_no HKn.out, cpT_all (by have := Hn.out; omega) Hall.out, List.length_take]; have := Hn.out; omega)
          clear hw9 hck hcp hixk hixp HE
          go_wp2_with fail
          have Hix2 := Lib.hid (run_ix (P := Try.prog) (t := 27) (a := some ⟨g, k, none⟩) (len := n - k) (cap := cap - k) (b := g) (off := k) (s := 1) Try.underlying27 (by intro w; kernel_rfl) (fun _ => rfl))
          simp only [Nat.mul_one] at Hix2
          clear hlow
          go_loopw [5, 7] (fun vk vm wx => ∃ kk m : Nat, vk = .int .i64 kk ∧ vm = .int .i64 m ∧ 1 ≤ m ∧ k + m ≤ n ∧ (cpT L (k + m)).length = kk ∧ kk + 1 ≤ k + m ∧ wx.ownsRow base 22 1 (.slice (some ⟨g, 0, none⟩) n cap) n ((cpT L (k + m) ++ L.drop kk).map (·.1)) ∧ w.grownBy wx (some g)) (fun _ vm _ => n - (intOf vm).toNat)
          case atStart => exact ⟨k, 1, rfl, rfl, Nat.le_refl _, by omega, HT.out, Nat.le_refl _, HO9.out, HG9.out⟩
          case round =>
            clear HO9 HG9 HT H9
            obtain ⟨kk, m, rfl, rfl, hm1, hkm, hT, hkk, ho, hg⟩ := hrel
            have HT := Lib.hid hT
            have HO := Lib.hid ho
            have HG := Lib.hid hg
            clear hT ho hg
            have hcell : ∀ j, kk ≤ j → j < n → wr.cell? ⟨g, j, none⟩ = some (L.getD j dPV).1 := fun j hj hjn => by
              refine (HO.out.cellAt j (by omega)).trans ?_
              rw [List.getElem?_map, List.getElem?_append_right (by have := HT.out; omega), HT.out, List.getElem?_drop, show kk + (j - kk) = j by omega, List.getD_eq_getElem?_getD, List.getElem?_eq_getElem (by rw [← Hn.out]; exact hjn)]; rfl
            have hint : ∀ j, j < n → ∀ d, Ints (wr.drewN d) (L.getD j dPV).1 (L.getD j dPV).2 := fun j hj d => by
              have h1 : OwnInts base w (L.getD j dPV).1 (L.getD j dPV).2 := Hr.out _ (by rw [List.getD_eq_getElem?_getD, List.getElem?_eq_getElem (by rw [← Hn.out]; exact hj)]; exact List.getElem_mem _)
              have h2 : OwnInts base wr (L.getD j dPV).1 (L.getD j dPV).2 := World.ownsRow.kept h1 HG.out (rows_apart h1 Ho.out (by decide))
              exact h2.ints
            by_cases hlt2 : k + m < n
            · have hck := hcell (k + m) (by omega) hlt2
              have hcp := hcell (k + (m - 1)) (by omega) (by omega)
              have Hik := Lib.hid (hint (k + m) hlt2)
              have Hip := Lib.hid (hint (k + (m - 1)) (by omega))
              have HK := Lib.hid (show kpP L (k + m) ↔ ¬ (L.getD (k + m) dPV).2 = (L.getD (k + (m - 1)) dPV).2 from by
                rw [show k + (m - 1) = k + m - 1 by omega]
                exact ⟨fun h => h.resolve_left (by omega), .inr⟩)
              have HX1 := Lib.hid (show L.getD (k + m) dPV = ((L.getD (k + m) dPV).1, (L.getD (k + m) dPV).2) from rfl)
              obtain ⟨x, hx⟩ : ∃ x, x = (L.getD (k + m) dPV).1 := ⟨_, rfl⟩
              obtain ⟨X, hX⟩ : ∃ x, x = (L.getD (k + m) dPV).2 := ⟨_, rfl⟩
              obtain ⟨y, hy⟩ : ∃ x, x = (L.getD (k + (m - 1)) dPV).1 := ⟨_, rfl⟩
              obtain ⟨Y, hY⟩ : ∃ x, x = (L.getD (k + (m - 1)) dPV).2 := ⟨_, rfl⟩
              rw [← hx] at hck Hik
              rw [← hX] at Hik HK
              rw [← hy] at hcp Hip
              rw [← hY] at Hip HK
              have Hx := Lib.hid hx
              clear hx hX hy hY hint HX1
              obtain ⟨xa, xc, hxs⟩ := ints_slice (Hik.out 0)
              obtain ⟨ya, yc, hys⟩ := ints_slice (Hip.out 0)
              have HE := Lib.hid (fun d => equal_any X Y x y (wr.drewN d) (Hik.out d) (Hip.out d))
              rw [hxs] at hck HE Hx
              rw [hys] at hcp HE
              clear hxs hys Hik Hip
              have hixk := Hix2.out m
              have hixp := Hix2.out (m - 1)
              rw [show ((m - 1 : Nat) : Int) = (m : Int) - 1 by omega] at hixp
              have hckk := hcell kk (Nat.le_refl _) (by omega)
              have hixkk := Hix.out kk
              obtain ⟨c0, hc0⟩ : ∃ x, x = (L.getD kk dPV).1 := ⟨_, rfl⟩
              rw [← hc0] at hckk
              have hfz := HO.out.frozenAt kk
              have hmk : (m : Int) < ((n - k : Nat) : Int) := by omega
              clear hc0 hcell
              by_cases c : X = Y
              · rw [decide_eq_true c] at HE
                have HKn := Lib.hid (show ¬ kpP L (k + m) from fun h => HK.out.1 h c)
                clear c HK
                go_upto_region 11 with fail
                go_quiet ((go_at_call 30; exact Calls.quiet_of (HE.out _)))
                generalize hw9 : wr.drewN _ = w9
                have HO9 := Lib.hid (show w9.ownsRow base 22 1 (.slice (some ⟨g, 0, none⟩) n cap) n ((cpT L (k + (m + 1)) ++ L.drop kk).map (·.1)) from by
                  rw [← hw9, ← Nat.add_assoc, cpT_no HKn.out]; exact HO.out)
                have HG9 := Lib.hid (show w.grownBy w9 (some g) from by rw [← hw9]; exact ⟨HG.out.os, HG.out.tape, HG.out.output, HG.out.size, HG.out.block⟩)
                have HT9 := Lib.hid (show (cpT L (k + (m + 1))).length = kk from by rw [← Nat.add_assoc, cpT_no HKn.out]; exact HT.out)
                clear hw9 hck hcp hixk hixp HE hckk hixkk hfz HO HG
                go_wp2_with fail
                go_roundw
                case rel => exact ⟨kk, m + 1, rfl, by go_num, by omega, by omega, HT9.out, by omega, HO9.out, HG9.out⟩
                case measure => simp [intOf]; omega
              · rw [decide_eq_false c] at HE
                have HKy := Lib.hid (show kpP L (k + m) from HK.out.2 c)
                clear c HK
                go_upto_region 11 with fail
                go_quiet ((go_at_call 30; exact Calls.quiet_of (HE.out _)))
                generalize hw9 : wr.drewN _ = w9
                have hck9 : w9.cell? ⟨g, k + m, none⟩ = some (.slice xa X.length xc) := by rw [← hw9]; exact hck
                have hckk9 : w9.cell? ⟨g, kk, none⟩ = some c0 := by rw [← hw9]; exact hckk
                have hfz9 : w9.frozen? ⟨g, kk, none⟩ = false := by rw [← hw9]; exact hfz
                have HO9 := Lib.hid (show (w9.setCell ⟨g, kk, none⟩ (.slice xa X.length xc)).ownsRow base 22 1 (.slice (some ⟨g, 0, none⟩) n cap) n ((cpT L (k + (m + 1)) ++ L.drop (kk + 1)).map (·.1)) ∧ w.grownBy (w9.setCell ⟨g, kk, none⟩ (.slice xa X.length xc)) (some g) from by
                  have ho : w9.ownsRow base 22 1 (.slice (some ⟨g, 0, none⟩) n cap) n ((cpT L (k + m) ++ L.drop kk).map (·.1)) := by rw [← hw9]; exact HO.out
                  have hg : w.grownBy w9 (some g) := by rw [← hw9]; exact ⟨HG.out.os, HG.out.tape, HG.out.output, HG.out.size, HG.out.block⟩
                  obtain ⟨a1, a2⟩ := ho.stored kk (.slice xa X.length xc)
                  refine ⟨?_, hg.trans a2⟩
                  have e : ((cpT L (k + m) ++ L.drop kk).map (·.1)).set kk (.slice xa X.length xc) = (cpT L (k + (m + 1)) ++ L.drop (kk + 1)).map (·.1) := by
                    rw [← Nat.add_assoc, cpT_yes HKy.out, List.map_append, List.set_append_right _ _ (by rw [List.length_map, HT.out]; exact Nat.le_refl _), List.length_map, HT.out, Nat.sub_self, List.drop_eq_getElem_cons (by have := Hn.out; omega), List.map_cons, List.set_cons_zero, List.map_append, List.map_append, List.append_assoc, Hx.out]
                    rfl
                  rw [← e]; exact a1)
                have HT9 := Lib.hid (show (cpT L (k + (m + 1))).length = kk + 1 from by rw [← Nat.add_assoc, cpT_yes HKy.out, List.length_append, HT.out]; rfl)
                clear hw9 hck hcp hixp HE hckk hfz HO HG
                go_wp2_with fail
                go_roundw
                case rel => exact ⟨kk + 1, m + 1, by go_num, by go_num, by omega, by omega, HT9.out, by omega, HO9.out.1, HO9.out.2⟩
                case measure => simp [intOf]; omega
            · have hend : k + m = n := by omega
              have hlow : ¬ cap = kk := by omega
              have hcl : ∀ ty, (Builtin.clear_ #[27] ty #[.slice (some ⟨g, kk, none⟩) (n - kk) (cap - kk)]).run Try.prog wr = .ok (.tuple #[]) (wr.setCells g kk (List.replicate (n - kk) (.slice none 0 0))) :=
                fun ty => Lib.run_clear_slice wr _ _ ty _ Try.underlying27 zeroInts rfl rfl g kk _ _ (by omega) (fun j hj => by rw [hcell (kk + j) (by omega) (by omega)]; rfl) (fun j hj => HO.out.frozenAt _)
              have hmk : ¬ (m : Int) < ((n - k : Nat) : Int) := by omega
              have R := Lib.hid (show CpE base g cap L w (.returned (.slice (some ⟨g, 0, none⟩) kk cap)) (wr.setCells g kk (List.replicate (n - kk) (.slice none 0 0))) from by
                obtain ⟨⟨ys, o1, o2⟩, o3⟩ := own_cells (List.replicate (n - kk) (.slice none 0 0)) kk wr _ (Nat.le_refl _) HO.out
                have e : (cpT L L.length).length = kk := by rw [← Hn.out, ← hend]; exact HT.out
                unfold CpE
                rw [e]
                refine ⟨rfl, ?_, HG.out.trans o3⟩
                have o4 := own_take o1 (k := kk) (by omega)
                rw [o2, List.map_append, List.take_append_of_le_length (by rw [List.length_map, HT.out]; exact Nat.le_refl _), List.take_of_length_le (by rw [List.length_map, HT.out]; exact Nat.le_refl _), hend] at o4
                rw [← Hn.out]; exact o4)
              clear hcell hint HO HG HT
              go_wp2_with fail
              go_ret
              exact R.out
        · rw [decide_eq_false c] at HE
          have HKy := Lib.hid (show kpP L k from HK.out.2 c)
          clear c HK
          go_upto_region 6 with fail
          go_quiet ((go_at_call 30; exact Calls.quiet_of (HE.out _)))
          generalize hw9 : wr.drewN _ = w9
          have H9 := Lib.hid (show ∃ q9, w9 = w.drewN q9 from ⟨_, by rw [← hw9, Hwr.out]; exact World.drewN_drewN _ _ _⟩)
          have HA9 := Lib.hid (show ∀ i, i < k + 1 → kpP L i from fun i hi => by
            by_cases e : i = k
            · subst e; exact HKy.out
            · exact Hall.out i (by omega))
          clear hw9 hck hcp hixk hixp HE
          go_wp2_with fail
          obtain ⟨q9, h9⟩ := H9.out
          have H9' := Lib.hid h9
          clear h9
          go_roundw
          case rel => exact ⟨k + 1, q9, by go_num, by omega, by omega, H9'.out, HA9.out⟩
          case measure => simp [intOf]; omega
      · obtain rfl : k = n := by omega
        have R := Lib.hid (show CpE base g cap L w (.returned (.slice (some ⟨g, 0, none⟩) k cap)) wr from by
          have e : cpT L L.length = L := by rw [cpT_all (Nat.le_refl _) (by rw [← Hn.out]; exact Hall.out), List.take_length]
          have := Ho.out
          unfold CpE
          rw [e, ← Hn.out, Hwr.out]
          exact ⟨rfl, this, ⟨rfl, rfl, rfl, Nat.le_refl _, fun _ _ _ => rfl⟩⟩)
        clear hcell hint
        go_wp2_with fail
        go_ret
        exact R.out
#print axioms compactF_any
end Go.Proofs.Ytfplmdieeabgpaa
