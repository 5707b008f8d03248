/- Strata: math. -/
import Derived.Test.YthndplkjhbmfmaaRvc
namespace Go.Proofs.Ythndplkjhbmfmaa
open Go.RowKit
def atL (L : List Int) (r : Int) : Int := L.getD r.toNat 0
def nt (b : Bool) : Int := if b = true then 1 else 0
/-- a literal is where it may be -/
def SolB (L : List Int) (r : RRule) (b : RLit) : Prop := atL L b.2.1 + nt b.1 ≤ atL L r.1.1
def Sol (l : List RRule) (L : List Int) : Prop := ∀ r, r ∈ l → ∀ b, b ∈ r.2 → SolB L r b
def PSol (l : List RRule) (T : List Int) : Prop := (∀ i, i < 6 → 0 ≤ T.getD i 0) ∧ Sol l T
def LeL (L T : List Int) : Prop := ∀ i, i < 6 → L.getD i 0 ≤ T.getD i 0
/-- strata under way: no greater than any solution -/
structure Sv (l : List RRule) (L : List Int) : Prop where
  len : L.length = 6
  rng : ∀ i, i < 6 → 0 ≤ L.getD i 0 ∧ L.getD i 0 ≤ 5
  low : ∀ T, PSol l T → LeL L T
/-- the strata: the least solution -/
structure Str (l : List RRule) (L : List Int) : Prop where
  sv : Sv l L
  sol : Sol l L
/-- there are none -/
def NoStr (l : List RRule) : Prop := ∀ T, PSol l T → ∃ i, i < 6 ∧ 5 < T.getD i 0
theorem sv_0 (l : List RRule) : Sv l [0, 0, 0, 0, 0, 0] := by
  have h : ∀ i, i < 6 → ([0, 0, 0, 0, 0, 0] : List Int).getD i 0 = 0 := fun i hi => by match i, hi with | 0, _ => rfl | 1, _ => rfl | 2, _ => rfl | 3, _ => rfl | 4, _ => rfl | 5, _ => rfl
  exact ⟨rfl, fun i hi => by rw [h i hi]; omega, fun T hT i hi => by rw [h i hi]; exact hT.1 i hi⟩
def s6 (L : List Int) : Int := L.getD 0 0 + L.getD 1 0 + L.getD 2 0 + L.getD 3 0 + L.getD 4 0 + L.getD 5 0
theorem s6_rng {l : List RRule} {L : List Int} (h : Sv l L) : 0 ≤ s6 L ∧ s6 L ≤ 30 := by
  have a0 := h.rng 0 (by omega)
  have a1 := h.rng 1 (by omega)
  have a2 := h.rng 2 (by omega)
  have a3 := h.rng 3 (by omega)
  have a4 := h.rng 4 (by omega)
  have a5 := h.rng 5 (by omega)
  unfold s6; omega
theorem getD_setI {L : List Int} {i j : Nat} {x : Int} (hi : i < L.length) : (L.set i x).getD j 0 = if i = j then x else L.getD j 0 := by
  rw [List.getD_eq_getElem?_getD, List.getElem?_set]
  by_cases e : i = j
  · rw [if_pos e, if_pos hi, if_pos e]; rfl
  · rw [if_neg e, if_neg e, List.getD_eq_getElem?_getD]
theorem s6_set {L : List Int} (h : L.length = 6) {i : Nat} (hi : i < 6) (x : Int) : s6 (L.set i x) = s6 L - L.getD i 0 + x := by
  unfold s6
  have hl : i < L.length := by omega
  simp only [getD_setI hl]
  match i, hi with
  | 0, _ => simp <;> omega
  | 1, _ => simp <;> omega
  | 2, _ => simp <;> omega
  | 3, _ => simp <;> omega
  | 4, _ => simp <;> omega
  | 5, _ => simp <;> omega
/-- a step: the head's stratum is raised -/
theorem sv_step {l : List RRule} {L : List Int} (h : Sv l L) {r : RRule} (hr : r ∈ l) {b : RLit} (hb : b ∈ r.2) (h1 : 0 ≤ r.1.1 ∧ r.1.1 ≤ 5) (h2 : 0 ≤ b.2.1 ∧ b.2.1 ≤ 5) (h5 : atL L b.2.1 + nt b.1 ≤ 5) :
    Sv l (L.set r.1.1.toNat (atL L b.2.1 + nt b.1)) := by
  have hl : r.1.1.toNat < L.length := by rw [h.len]; omega
  have hn : 0 ≤ nt b.1 := by unfold nt; split <;> omega
  have ha := h.rng b.2.1.toNat (by omega)
  refine ⟨by rw [List.length_set]; exact h.len, fun i hi => ?_, fun T hT i hi => ?_⟩
  · rw [getD_setI hl]
    split
    · unfold atL at *; omega
    · exact h.rng i hi
  · rw [getD_setI hl]
    split
    · rename_i e
      have k1 := hT.2 r hr b hb
      have k2 := h.low T hT b.2.1.toNat (by omega)
      unfold SolB at k1
      unfold atL at *
      rw [e] at k1
      omega
    · exact h.low T hT i hi
theorem no_str {l : List RRule} {L : List Int} (h : Sv l L) {r : RRule} (hr : r ∈ l) {b : RLit} (hb : b ∈ r.2) (h1 : 0 ≤ r.1.1 ∧ r.1.1 ≤ 5) (h2 : 0 ≤ b.2.1 ∧ b.2.1 ≤ 5) (h5 : 6 ≤ atL L b.2.1 + nt b.1) : NoStr l := fun T hT => by
  have k1 := hT.2 r hr b hb
  have k2 := h.low T hT b.2.1.toNat (by omega)
  unfold SolB at k1
  unfold atL at *
  exact ⟨r.1.1.toNat, by omega, by omega⟩
/-- all rules before the k-th, and of it the first j literals, are where they may be -/
def UpTo (L : List Int) (l : List RRule) (k j : Nat) : Prop := (∀ r, r ∈ l.take k → ∀ b, b ∈ r.2 → SolB L r b) ∧ ∀ b, b ∈ (rR l k).2.take j → SolB L (rR l k) b
theorem upTo_0 (L : List Int) (l : List RRule) : UpTo L l 0 0 := ⟨fun r h => (by rw [List.take_zero] at h; cases h), fun b h => (by rw [List.take_zero] at h; cases h)⟩
theorem upTo_next {L : List Int} {l : List RRule} {k j : Nat} (hk : k < l.length) (hj : j = (rR l k).2.length) (h : UpTo L l k j) : UpTo L l (k + 1) 0 := ⟨fun r hr => by
  subst hj
  rw [List.take_succ_eq_append_getElem hk, ← rR_get hk] at hr
  rcases List.mem_append.1 hr with hr | hr
  · exact h.1 r hr
  · rw [List.mem_singleton.1 hr]
    intro b hb
    exact h.2 b (by rw [List.take_length]; exact hb), fun b h => (by rw [List.take_zero] at h; cases h)⟩
theorem upTo_lit {L : List Int} {l : List RRule} {k j : Nat} (hj : j < (rR l k).2.length) (h : UpTo L l k j) (hb : SolB L (rR l k) (lL (rR l k).2 j)) : UpTo L l k (j + 1) := ⟨h.1, fun b hb2 => by
  rw [List.take_succ_eq_append_getElem hj, ← lL_get hj] at hb2
  rcases List.mem_append.1 hb2 with hb2 | hb2
  · exact h.2 b hb2
  · rw [List.mem_singleton.1 hb2]; exact hb⟩
theorem upTo_all {L : List Int} {l : List RRule} (h : UpTo L l l.length 0) : Sol l L := fun r hr => h.1 r (by rw [List.take_length]; exact hr)
/-- what one round keeps -/
structure Rnd (l : List RRule) (L0 L : List Int) (C : Bool) (k j : Nat) : Prop where
  sv : Sv l L
  up : C = false → L = L0 ∧ UpTo L0 l k j
  gr : C = true → s6 L0 < s6 L
theorem str_unique {l : List RRule} {L T : List Int} (h : Str l L) (k : Str l T) : L = T := by
  refine List.ext_getElem (h.sv.len.trans k.sv.len.symm) fun i a b => ?_
  have hi : i < 6 := by have := h.sv.len; omega
  have h1 := h.sv.low T ⟨fun i hi => (k.sv.rng i hi).1, k.sol⟩ i hi
  have h2 := k.sv.low L ⟨fun i hi => (h.sv.rng i hi).1, h.sol⟩ i hi
  have e1 : L.getD i 0 = L[i] := by rw [List.getD_eq_getElem?_getD, List.getElem?_eq_getElem a]; rfl
  have e2 : T.getD i 0 = T[i] := by rw [List.getD_eq_getElem?_getD, List.getElem?_eq_getElem b]; rfl
  rw [e1, e2] at h1 h2
  omega
theorem str_no {l : List RRule} {L : List Int} (h : Str l L) (k : NoStr l) : False := by
  obtain ⟨i, hi, h5⟩ := k L ⟨fun i hi => (h.sv.rng i hi).1, h.sol⟩
  have := h.sv.rng i hi
  omega
/-- the sum of a row of six in the heap -/
def cN (w : World) (g i : Nat) : Int := match w.cell? ⟨g, i, none⟩ with | some (.int _ x) => x | _ => 0
def m6 (w : World) (g : Nat) : Nat := (36 - (cN w g 0 + cN w g 1 + cN w g 2 + cN w g 3 + cN w g 4 + cN w g 5)).toNat
theorem ownI_cellR {B : Nat} {w : World} {g n cap : Nat} {l : List Int} (h : OwnInts B w (.slice (some ⟨g, 0, none⟩) n cap) l) (hn : n = l.length) {k : Nat} (hk : k < l.length) :
    w.cell? ⟨g, k, none⟩ = some (.int .i64 (l.getD k 0)) := by
  subst hn
  have h1 := World.ownsRow.cellAt h k (by omega)
  rw [List.getElem?_map, List.getElem?_eq_getElem hk] at h1
  rw [h1, List.getD_eq_getElem?_getD, List.getElem?_eq_getElem hk]; rfl
theorem own_setR {B : Nat} {w : World} {g n cap : Nat} {l : List Int} (h : OwnInts B w (.slice (some ⟨g, 0, none⟩) n cap) l) (hn : n = l.length) (k : Nat) (x : Int) :
    OwnInts B (w.setCell ⟨g, k, none⟩ (.int .i64 x)) (.slice (some ⟨g, 0, none⟩) n cap) (l.set k x) ∧ w.grownBy (w.setCell ⟨g, k, none⟩ (.int .i64 x)) (some g) := by
  subst hn
  obtain ⟨h1, h2⟩ := World.ownsRow.stored h k (.int .i64 x)
  refine ⟨?_, h2⟩
  unfold OwnInts
  rw [List.length_set, List.map_set]; exact h1
theorem m6_eq {l : List RRule} {B g cap : Nat} {w : World} {L : List Int} (h : Sv l L) (ho : OwnInts B w (.slice (some ⟨g, 0, none⟩) 6 cap) L) : (m6 w g : Int) = 36 - s6 L := by
  have hc : ∀ i, i < 6 → cN w g i = L.getD i 0 := fun i hi => by
    unfold cN
    rw [ownI_cellR ho h.len.symm (by rw [h.len]; exact hi)]
  have := s6_rng h
  unfold m6
  rw [hc 0 (by omega), hc 1 (by omega), hc 2 (by omega), hc 3 (by omega), hc 4 (by omega), hc 5 (by omega)]
  unfold s6 at *
  omega
#print axioms str_unique
#print axioms m6_eq
end Go.Proofs.Ythndplkjhbmfmaa
