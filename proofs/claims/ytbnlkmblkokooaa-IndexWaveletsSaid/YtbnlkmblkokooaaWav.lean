/- The wavelet tree: of no program. -/
import Derived.Test.YtbnlkmblkokooaaLts
namespace Go.Proofs.Ytbnlkmblkokooaa
/-- how many of the first bytes are high -/
def high (c x : UInt8) : Bool := decide (c ≤ x)
def onesAt (c : UInt8) (S : Bs) (i : Nat) : Nat := (S.take i).countP (high c)
def loS (c : UInt8) (S : Bs) : Bs := S.filter fun x => !high c x
def hiS (c : UInt8) (S : Bs) : Bs := S.filter (high c)
theorem onesAt_le (c : UInt8) (S : Bs) (i : Nat) : onesAt c S i ≤ i := by
  unfold onesAt
  have := List.countP_le_length (p := high c) (l := S.take i)
  rw [List.length_take] at this
  omega
theorem onesAt_zero (c : UInt8) (S : Bs) : onesAt c S 0 = 0 := by simp [onesAt]
theorem onesAt_succ {c : UInt8} {S : Bs} {i : Nat} (h : i < S.length) : onesAt c S (i + 1) = onesAt c S i + (if high c S[i] then 1 else 0) := by
  unfold onesAt
  rw [List.take_succ_eq_append_getElem h, List.countP_append]
  simp [List.countP_cons]
theorem filter_take (p : UInt8 → Bool) (S : Bs) (i : Nat) : (S.filter p).take ((S.take i).countP p) = (S.take i).filter p := by
  conv => lhs; rw [← List.take_append_drop i S, List.filter_append]
  rw [List.countP_eq_length_filter, List.take_left' (by rw [List.take_append_drop])]
theorem countP_not (p : UInt8 → Bool) (S : Bs) : S.countP (fun x => !p x) + S.countP p = S.length := by
  induction S with
  | nil => rfl
  | cons x S ih =>
    simp only [List.countP_cons, List.length_cons]
    cases p x <;> simp <;> omega
theorem loAt (c : UInt8) (S : Bs) (i : Nat) (h : i ≤ S.length) : (S.take i).countP (fun x => !high c x) = i - onesAt c S i := by
  have := countP_not (high c) (S.take i)
  rw [List.length_take] at this
  unfold onesAt
  omega
theorem hiS_take (c : UInt8) (S : Bs) (i : Nat) : (hiS c S).take (onesAt c S i) = (S.take i).filter (high c) := filter_take _ _ _
theorem loS_take (c : UInt8) (S : Bs) (i : Nat) (h : i ≤ S.length) : (loS c S).take (i - onesAt c S i) = (S.take i).filter (fun x => !high c x) := by
  rw [← loAt c S i h]; exact filter_take _ _ _
theorem hiS_len (c : UInt8) (S : Bs) (i : Nat) : onesAt c S i ≤ (hiS c S).length := by
  have h1 : onesAt c S i ≤ S.countP (high c) := by unfold onesAt; exact (List.take_sublist i S).countP_le
  unfold hiS
  rw [← List.countP_eq_length_filter]; exact h1
theorem loS_len (c : UInt8) (S : Bs) {i : Nat} (h : i ≤ S.length) : i - onesAt c S i ≤ (loS c S).length := by
  rw [← loAt c S i h]
  unfold loS
  rw [← List.countP_eq_length_filter]; exact (List.take_sublist i S).countP_le
/-- how often a byte stands in the first ones -/
def cnt (c : UInt8) (S : Bs) : Nat := S.countP (· == c)
theorem count_filter {p : UInt8 → Bool} {c : UInt8} (h : p c = true) (S : Bs) : cnt c (S.filter p) = cnt c S := by
  unfold cnt
  rw [List.countP_filter]
  refine List.countP_congr fun x _ => ?_
  constructor
  · intro g; simp only [Bool.and_eq_true] at g; exact g.1
  · intro g; simp only [beq_iff_eq] at g; subst g; simp [h]
theorem cnt_hi {c d : UInt8} (h : high d c = true) (S : Bs) (i : Nat) : cnt c ((hiS d S).take (onesAt d S i)) = cnt c (S.take i) := by
  rw [hiS_take, count_filter h]
theorem cnt_lo {c d : UInt8} (h : high d c = false) (S : Bs) (i : Nat) (hi : i ≤ S.length) : cnt c ((loS d S).take (i - onesAt d S i)) = cnt c (S.take i) := by
  rw [loS_take d S i hi, count_filter (by simp [h])]
theorem get_hi {d : UInt8} {S : Bs} {i : Nat} (hi : i < S.length) (h : high d S[i] = true) : (hiS d S)[onesAt d S i]? = some S[i] := by
  have h1 : (hiS d S).take (onesAt d S (i + 1)) = (S.take (i + 1)).filter (high d) := hiS_take _ _ _
  rw [onesAt_succ hi, if_pos h, List.take_succ_eq_append_getElem hi, List.filter_append, ← hiS_take] at h1
  have h2 := congrArg (fun l => l[onesAt d S i]?) h1
  rw [List.getElem?_take_of_lt (by omega)] at h2
  rw [h2, List.getElem?_append_right (by rw [List.length_take]; omega), List.length_take, Nat.min_eq_left (hiS_len d S i)]
  simp [h]
theorem get_lo {d : UInt8} {S : Bs} {i : Nat} (hi : i < S.length) (h : high d S[i] = false) : (loS d S)[i - onesAt d S i]? = some S[i] := by
  have h1 : (loS d S).take (i + 1 - onesAt d S (i + 1)) = (S.take (i + 1)).filter (fun x => !high d x) := loS_take _ _ _ (by omega)
  have hle := onesAt_le d S i
  rw [onesAt_succ hi, h, if_neg (by simp), List.take_succ_eq_append_getElem hi, List.filter_append, ← loS_take d S i (by omega), Nat.add_zero] at h1
  have h2 := congrArg (fun l => l[i - onesAt d S i]?) h1
  rw [List.getElem?_take_of_lt (by omega)] at h2
  rw [h2, List.getElem?_append_right (by rw [List.length_take]; omega), List.length_take, Nat.min_eq_left (loS_len d S (by omega))]
  simp [h]
/-- the half, rounded up -/
def half (k : Nat) : Nat := (k + 1) / 2
theorem half_lt {k : Nat} (h : 2 ≤ k) : 0 < half k ∧ half k < k := by unfold half; omega
def spl (L : Bs) : UInt8 := L.getD (half L.length) 0
/-- the letters of a string are among some that rise -/
structure Over (L S : Bs) : Prop where
  rise : L.Pairwise (· < ·)
  mem : ∀ x ∈ S, x ∈ L
theorem rise_split {L : Bs} (h : L.Pairwise (· < ·)) (h2 : 2 ≤ L.length) : (∀ x ∈ L.take (half L.length), high (spl L) x = false) ∧ (∀ x ∈ L.drop (half L.length), high (spl L) x = true) := by
  have hk := half_lt h2
  have hs : spl L = L[half L.length] := by simp [spl, List.getD, List.getElem?_eq_getElem hk.2]
  refine ⟨fun x hx => ?_, fun x hx => ?_⟩
  · obtain ⟨i, hi, rfl⟩ := List.getElem_of_mem hx
    rw [List.length_take] at hi
    rw [List.getElem_take, hs]
    have := List.pairwise_iff_getElem.1 h i (half L.length) (by omega) hk.2 (by omega)
    unfold high
    rw [decide_eq_false_iff_not]
    intro g
    have := UInt8.lt_iff_toNat_lt.1 this
    have := UInt8.le_iff_toNat_le.1 g
    omega
  · obtain ⟨i, hi, rfl⟩ := List.getElem_of_mem hx
    rw [List.length_drop] at hi
    rw [List.getElem_drop, hs]
    unfold high
    rw [decide_eq_true_eq]
    by_cases e : i = 0
    · subst e; exact UInt8.le_iff_toNat_le.2 (Nat.le_refl _)
    · have := List.pairwise_iff_getElem.1 h (half L.length) (half L.length + i) hk.2 (by omega) (by omega)
      have := UInt8.lt_iff_toNat_lt.1 this
      exact UInt8.le_iff_toNat_le.2 (by omega)
theorem Over.lo {L S : Bs} (h : Over L S) (h2 : 2 ≤ L.length) : Over (L.take (half L.length)) (loS (spl L) S) where
  rise := h.rise.sublist (List.take_sublist _ _)
  mem := fun x hx => by
    have hx' := List.mem_filter.1 hx
    have hm := h.mem x hx'.1
    rw [← List.take_append_drop (half L.length) L] at hm
    rcases List.mem_append.1 hm with g | g
    · exact g
    · have := (rise_split h.rise h2).2 x g
      rw [this] at hx'
      exact absurd hx'.2 (by simp)
theorem Over.hi {L S : Bs} (h : Over L S) (h2 : 2 ≤ L.length) : Over (L.drop (half L.length)) (hiS (spl L) S) where
  rise := h.rise.sublist (List.drop_sublist _ _)
  mem := fun x hx => by
    have hx' := List.mem_filter.1 hx
    have hm := h.mem x hx'.1
    rw [← List.take_append_drop (half L.length) L] at hm
    rcases List.mem_append.1 hm with g | g
    · have := (rise_split h.rise h2).1 x g
      rw [this] at hx'
      exact absurd hx'.2 (by simp)
    · exact g
theorem over_lets (S : Bs) : Over (lets S) S := ⟨lets_rise S, fun _ h => lets_mem.2 h⟩
/-- the bits of the tree of S over L -/
def bitsOf (c : UInt8) (S : Bs) : Bs := S.map fun x => if high c x then 49 else 48
def wav (L S : Bs) : Bs :=
  if _h : 2 ≤ L.length then bitsOf (spl L) S ++ wav (L.take (half L.length)) (loS (spl L) S) ++ wav (L.drop (half L.length)) (hiS (spl L) S) else []
termination_by L.length
decreasing_by
  · rw [List.length_take]; have := half_lt _h; omega
  · rw [List.length_drop]; have := half_lt _h; omega
theorem wav_small {L S : Bs} (h : ¬ 2 ≤ L.length) : wav L S = [] := by rw [wav, dif_neg h]
theorem wav_node {L S : Bs} (h : 2 ≤ L.length) : wav L S = bitsOf (spl L) S ++ wav (L.take (half L.length)) (loS (spl L) S) ++ wav (L.drop (half L.length)) (hiS (spl L) S) := by rw [wav, dif_pos h]
#print axioms wav_node
#print axioms get_lo
#print axioms cnt_lo
end Go.Proofs.Ytbnlkmblkokooaa
