/- The stable sort: of no program. -/
import Derived.Sort.AssemblyPlain
import Derived.Lib.Hide
namespace Go.Proofs.Ytbnlkmblkokooaa
open Go
open Go.Sort (PermIn SortedIn swp Ins SWO permIn_trans permIn_mono permIn_all permIn_refl)
/-- a range and one behind it exchanged -/
def swF (x y n : Nat) (f : Nat → Int) (t : Nat) : Int := if x ≤ t ∧ t < x + n then f (t + (y - x)) else if y ≤ t ∧ t < y + n then f (t - (y - x)) else f t
/-- i elements from lo on, and the j behind them, exchanged -/
def rotF (lo i j : Nat) (f : Nat → Int) (t : Nat) : Int := if lo ≤ t ∧ t < lo + j then f (t + i) else if lo + j ≤ t ∧ t < lo + j + i then f (t - j) else f t
theorem rot_gt {lo i j : Nat} (h : j < i) (f : Nat → Int) : rotF lo i j f = rotF (lo + j) (i - j) j (swF lo (lo + i) j f) := by
  funext t
  unfold rotF swF
  repeat' split
  all_goals first | rfl | (congr 1; omega) | (exfalso; omega)
theorem rot_lt {lo i j : Nat} (h : i < j) (f : Nat → Int) : rotF lo i j f = rotF lo i (j - i) (swF lo (lo + j) i f) := by
  funext t
  unfold rotF swF
  repeat' split
  all_goals first | rfl | (congr 1; omega) | (exfalso; omega)
theorem rot_eq (lo i : Nat) (f : Nat → Int) : rotF lo i i f = swF lo (lo + i) i f := by
  funext t
  unfold rotF swF
  repeat' split
  all_goals first | rfl | (congr 1; omega) | (exfalso; omega)
theorem sw_zero (x y : Nat) (f : Nat → Int) : swF x y 0 f = f := by
  funext t
  unfold swF
  repeat' split
  all_goals first | rfl | (exfalso; omega)
/-- what a sort of numbers by a key compares, equals by their number -/
def rho (K : Int → Int) (x : Int) : Int := K x * 1000000 + x
def ltR (K : Int → Int) (x y : Int) : Bool := decide (rho K x < rho K y)
theorem swoR (K : Int → Int) : SWO (ltR K) where
  irrefl := fun x => by simp [ltR]
  trans := fun x y z h1 h2 => by
    unfold ltR at *
    rw [decide_eq_true_eq] at *
    omega
  ntrans := fun x y z h1 h2 => by
    unfold ltR at *
    rw [decide_eq_false_iff_not] at *
    omega
/-- the elements lie in a range -/
def InB (a b : Nat) (d : Array Int) : Prop := ∀ t, a ≤ t → t < b → (a : Int) ≤ d[t]! ∧ d[t]! < (b : Int)
def Srt (K : Int → Int) (a b : Nat) (d : Array Int) : Prop := ∀ i j, a ≤ i → i < j → j < b → rho K d[i]! ≤ rho K d[j]!
/-- where two keys are equal, the right one is greater -/
def Stb (K : Int → Int) (a m b : Nat) (d : Array Int) : Prop := ∀ i j, a ≤ i → i < m → m ≤ j → j < b → (K d[i]! = K d[j]! → d[i]! < d[j]!) ∧ 0 ≤ d[i]! ∧ d[i]! < 1000000 ∧ 0 ≤ d[j]! ∧ d[j]! < 1000000
theorem key_iff (K : Int → Int) {l r : Int} (h : K l = K r → l < r) (h1 : 0 ≤ l) (h2 : l < 1000000) (h3 : 0 ≤ r) (h4 : r < 1000000) : K r < K l ↔ rho K r < rho K l := by
  unfold rho
  constructor
  · intro g; omega
  · intro g
    by_cases e : K l = K r
    · have := h e; omega
    · omega
theorem srt_of {K : Int → Int} {a b : Nat} {d : Array Int} (h : SortedIn (ltR K) a b d) : Srt K a b d := fun i j h1 h2 h3 => by
  have := h i j h1 h2 h3
  unfold ltR at this
  rw [decide_eq_false_iff_not] at this
  omega
theorem inB_perm {a b x y : Nat} {d d' : Array Int} (h : InB a b d) (hp : PermIn x y d d') (hb : b ≤ d.size) (hx : a ≤ x) (hy : y ≤ b) : InB a b d' := by
  have hp2 := permIn_mono d d' x y a b hx hy hb hp
  exact permIn_all d d' a b (fun v => (a : Int) ≤ v ∧ v < (b : Int)) hb hp2 h
theorem inB_out {a b x y : Nat} {d d' : Array Int} (h : InB a b d) (hp : PermIn x y d d') (ho : b ≤ x ∨ y ≤ a) : InB a b d' := fun t h1 h2 => by
  rw [hp.2.1 t (by omega)]
  exact h t h1 h2
theorem srt_out {K : Int → Int} {a b x y : Nat} {d d' : Array Int} (h : Srt K a b d) (hp : PermIn x y d d') (ho : b ≤ x ∨ y ≤ a) : Srt K a b d' := fun i j h1 h2 h3 => by
  rw [hp.2.1 i (by omega), hp.2.1 j (by omega)]
  exact h i j h1 h2 h3
/-- a block that is sorted and has its own elements -/
def Good (K : Int → Int) (a b : Nat) (d : Array Int) : Prop := InB a b d ∧ Srt K a b d
theorem good_out {K : Int → Int} {a b x y : Nat} {d d' : Array Int} (h : Good K a b d) (hp : PermIn x y d d') (ho : b ≤ x ∨ y ≤ a) : Good K a b d' := ⟨inB_out h.1 hp ho, srt_out h.2 hp ho⟩
/-- [lo, hi) in blocks of s -/
def Blks (K : Int → Int) (s lo hi : Nat) (d : Array Int) : Prop := ∀ k, lo + k * s < hi → Good K (lo + k * s) (min (lo + k * s + s) hi) d
theorem blks_zero (K : Int → Int) (s lo : Nat) (d : Array Int) : Blks K s lo lo d := fun k h => by omega
theorem blks_snoc {K : Int → Int} {s hi e : Nat} {d : Array Int} {j : Nat} (hs : 0 < s) (he : hi = j * s) (hh : hi < e) (hes : e ≤ hi + s) (h : Blks K s 0 hi d) (hg : Good K hi e d) : Blks K s 0 e d := by
  intro k hk
  rw [Nat.zero_add] at hk ⊢
  by_cases hlt : k * s < hi
  · have hkj : k < j := by
      refine Nat.lt_of_not_le fun g => ?_
      have := Nat.mul_le_mul_right s g
      omega
    have h2 : (k + 1) * s ≤ j * s := Nat.mul_le_mul_right s hkj
    rw [Nat.succ_mul] at h2
    have h3 := h k (by omega)
    rw [Nat.zero_add] at h3
    rw [Nat.min_eq_left (by omega)] at h3 ⊢
    exact h3
  · have hkj : k = j := by
      refine Nat.le_antisymm (Nat.le_of_not_lt fun g => ?_) (Nat.le_of_not_lt fun g => ?_)
      · have h2 : (j + 1) * s ≤ k * s := Nat.mul_le_mul_right s g
        rw [Nat.succ_mul] at h2
        omega
      · have h2 : (k + 1) * s ≤ j * s := Nat.mul_le_mul_right s g
        rw [Nat.succ_mul] at h2
        omega
    subst hkj
    rw [← he, Nat.min_eq_right (by omega)]
    exact hg
theorem blks_keep {K : Int → Int} {s lo hi x y : Nat} {d d' : Array Int} (h : Blks K s lo hi d) (hp : PermIn x y d d') (ho : hi ≤ x ∨ y ≤ lo) : Blks K s lo hi d' := fun k hk =>
  good_out (h k hk) hp (by
    rcases ho with ho | ho
    · left; omega
    · right; omega)
theorem blks_tail {K : Int → Int} {s lo hi : Nat} {d : Array Int} (h : Blks K s lo hi d) (k0 : Nat) : Blks K s (lo + k0 * s) hi d := fun k hk => by
  have e : lo + k0 * s + k * s = lo + (k0 + k) * s := by rw [Nat.add_mul]; omega
  rw [e] at hk ⊢
  exact h (k0 + k) hk
theorem blks_one {K : Int → Int} {s hi : Nat} {d : Array Int} (h : Blks K s 0 hi d) (hs : hi ≤ s) (h0 : 0 < hi) : Good K 0 hi d := by
  have := h 0 (by omega)
  rw [Nat.zero_mul, Nat.zero_add, Nat.zero_add, Nat.min_eq_right hs] at this
  exact this
theorem stb_of {K : Int → Int} {a m b : Nat} {d : Array Int} (h1 : InB a m d) (h2 : InB m b d) (hb : b ≤ 1000000) : Stb K a m b d := fun i j hi hm hj hb' => by
  have e1 := h1 i hi hm
  have e2 := h2 j hj hb'
  exact ⟨fun _ => by omega, by omega, by omega, by omega, by omega⟩
theorem inB_join {a m b : Nat} {d : Array Int} (h1 : InB a m d) (h2 : InB m b d) (ham : a ≤ m) (hmb : m ≤ b) : InB a b d := fun t ht1 ht2 => by
  by_cases h : t < m
  · have := h1 t ht1 h; omega
  · have := h2 t (by omega) ht2; omega
#print axioms blks_tail
#print axioms swoR
/-- what symMerge does -/
def Mrg (K : Int → Int) (a b : Nat) (d d' : Array Int) : Prop := PermIn a b d d' ∧ Srt K a b d'
/-- the binary search of symMerge has found its place: start; stop is its mirror -/
structure Cut (K : Int → Int) (a m b mid start stop : Nat) (d : Array Int) : Prop where
  h1 : a ≤ start
  h2 : start ≤ m
  h3 : m ≤ stop
  h4 : stop ≤ b
  h5 : start + stop = mid + m
  h6 : a < mid
  h7 : mid < b
  low : ∀ i j, a ≤ i → i < start → stop ≤ j → j < b → rho K d[i]! ≤ rho K d[j]!
  high : ∀ i j, start ≤ i → i < m → m ≤ j → j < stop → rho K d[j]! ≤ rho K d[i]!
/-- after the rotation the lower half is below the upper one, and each is two sorted parts -/
theorem cut_rot {K : Int → Int} {a m b mid start stop : Nat} {d d1 : Array Int} (hc : Cut K a m b mid start stop d) (hl : Srt K a m d) (hr : Srt K m b d) (hst : Stb K a m b d)
    (hd : ∀ t, a ≤ t → t < b → d1[t]! = rotF start (m - start) (stop - m) (fun t => d[t]!) t) :
    Srt K a start d1 ∧ Srt K start mid d1 ∧ Srt K mid stop d1 ∧ Srt K stop b d1 ∧ Stb K a start mid d1 ∧ Stb K mid stop b d1 ∧ (∀ i j, a ≤ i → i < mid → mid ≤ j → j < b → rho K d1[i]! ≤ rho K d1[j]!) := by
  obtain ⟨h1, h2, h3, h4, h5, h6, h7, low, high⟩ := hc
  have e1 : ∀ t, a ≤ t → t < start → d1[t]! = d[t]! := fun t g1 g2 => by
    rw [hd t g1 (by omega)]; unfold rotF; rw [if_neg (by omega), if_neg (by omega)]
  have e2 : ∀ t, start ≤ t → t < mid → d1[t]! = d[t + (m - start)]! := fun t g1 g2 => by
    rw [hd t (by omega) (by omega)]; unfold rotF; rw [if_pos (by omega)]
  have e3 : ∀ t, mid ≤ t → t < stop → d1[t]! = d[t - (stop - m)]! := fun t g1 g2 => by
    rw [hd t (by omega) (by omega)]; unfold rotF; rw [if_neg (by omega), if_pos (by omega)]
  have e4 : ∀ t, stop ≤ t → t < b → d1[t]! = d[t]! := fun t g1 g2 => by
    rw [hd t (by omega) g2]; unfold rotF; rw [if_neg (by omega), if_neg (by omega)]
  refine ⟨fun i j g1 g2 g3 => ?_, fun i j g1 g2 g3 => ?_, fun i j g1 g2 g3 => ?_, fun i j g1 g2 g3 => ?_, fun i j g1 g2 g3 g4 => ?_, fun i j g1 g2 g3 g4 => ?_, fun i j g1 g2 g3 g4 => ?_⟩
  · rw [e1 i g1 (by omega), e1 j (by omega) g3]; exact hl i j g1 g2 (by omega)
  · rw [e2 i g1 (by omega), e2 j (by omega) g3]; exact hr _ _ (by omega) (by omega) (by omega)
  · rw [e3 i g1 (by omega), e3 j (by omega) g3]; exact hl _ _ (by omega) (by omega) (by omega)
  · rw [e4 i g1 (by omega), e4 j (by omega) g3]; exact hr _ _ (by omega) g2 g3
  · rw [e1 i g1 g2, e2 j g3 g4]; exact hst _ _ g1 (by omega) (by omega) (by omega)
  · rw [e3 i g1 g2, e4 j g3 g4]; exact hst _ _ (by omega) (by omega) (by omega) g4
  · by_cases q1 : i < start
    · rw [e1 i g1 q1]
      by_cases q2 : j < stop
      · rw [e3 j g3 q2]
        by_cases e : i = j - (stop - m)
        · rw [e]; exact Int.le_refl _
        · exact hl _ _ g1 (by omega) (by omega)
      · rw [e4 j (by omega) g4]; exact low _ _ g1 q1 (by omega) g4
    · rw [e2 i (by omega) g2]
      by_cases q2 : j < stop
      · rw [e3 j g3 q2]; exact high _ _ (by omega) (by omega) (by omega) (by omega)
      · rw [e4 j (by omega) g4]
        by_cases e : i + (m - start) = j
        · rw [e]; exact Int.le_refl _
        · exact hr _ _ (by omega) (by omega) g4
/-- two halves sorted, the lower one below the upper one -/
theorem srt_join {K : Int → Int} {a mid b : Nat} {d1 d2 d3 : Array Int} (hb : b ≤ d1.size) (ham : a ≤ mid) (hmb : mid ≤ b) (hx : ∀ i j, a ≤ i → i < mid → mid ≤ j → j < b → rho K d1[i]! ≤ rho K d1[j]!)
    (h1 : Mrg K a mid d1 d2) (h2 : Mrg K mid b d2 d3) : Mrg K a b d1 d3 := by
  refine ⟨permIn_trans _ _ _ _ _ (permIn_mono _ _ _ _ a b (Nat.le_refl _) hmb hb h1.1) (permIn_mono _ _ _ _ a b ham (Nat.le_refl _) (by rw [h1.1.1]; exact hb) h2.1), fun i j g1 g2 g3 => ?_⟩
  by_cases q1 : j < mid
  · rw [h2.1.2.1 i (by omega), h2.1.2.1 j (by omega)]; exact h1.2 i j g1 g2 q1
  · by_cases q2 : i < mid
    · have k1 : ∀ v, (∀ t, mid ≤ t → t < b → v ≤ rho K d1[t]!) → ∀ t, mid ≤ t → t < b → v ≤ rho K d3[t]! := fun v hv =>
        permIn_all d2 d3 mid b (fun x => v ≤ rho K x) (by rw [h1.1.1]; exact hb) h2.1 fun t g1 g2 => by rw [h1.1.2.1 t (by omega)]; exact hv t g1 g2
      have k2 : ∀ t, a ≤ t → t < mid → rho K d2[t]! ≤ rho K d3[j]! :=
        permIn_all d1 d2 a mid (fun x => rho K x ≤ rho K d3[j]!) (by omega) h1.1 fun t g1 g2 => k1 _ (fun u g3 g4 => hx t u g1 g2 g3 g4) j (by omega) g3
      rw [h2.1.2.1 i (by omega)]
      exact k2 i g1 q2
    · exact h2.2 i j (by omega) g2 g3
theorem mrg_refl {K : Int → Int} {a b : Nat} {d : Array Int} (h : Srt K a b d) : Mrg K a b d d := ⟨permIn_refl _ _ _, h⟩
/-- one part is empty: nothing to merge -/
theorem srt_one {K : Int → Int} {a m b : Nat} {d : Array Int} (h1 : Srt K a m d) (h2 : Srt K m b d) (h : m ≤ a ∨ b ≤ m) : Srt K a b d := fun i j g1 g2 g3 => by
  rcases h with h | h
  · exact h2 i j (by omega) g2 g3
  · exact h1 i j g1 g2 (by omega)
#print axioms cut_rot
#print axioms srt_join
end Go.Proofs.Ytbnlkmblkokooaa
