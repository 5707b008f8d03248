/- Turning the transform back: of no program. -/
import Derived.Test.YtbnlkmblkokooaaLf
import Derived.Test.YtbnlkmblkokooaaSta
namespace Go.Proofs.Ytbnlkmblkokooaa
open Go
theorem countP_not' {α : Type} (p : α → Bool) (S : List α) : S.countP p + S.countP (fun x => !p x) = S.length := by
  induction S with
  | nil => rfl
  | cons x S ih =>
    simp only [List.countP_cons, List.length_cons]
    cases p x <;> simp <;> omega
/-- before the byte at i, in a stable order -/
def bf (s : Bs) (i x : Nat) : Bool := decide (s.getD x 0 < s.getD i 0) || (s.getD x 0 == s.getD i 0 && decide (x < i))
/-- the place of i when the bytes are sorted stably -/
def pl (s : Bs) (i : Nat) : Nat := (List.range s.length).countP (bf s i)
theorem bf_self (s : Bs) (i : Nat) : bf s i i = false := by
  unfold bf
  have : decide (s.getD i 0 < s.getD i 0) = false := decide_eq_false (u8_irr _)
  rw [this]
  simp
theorem pl_lt {s : Bs} {i : Nat} (hi : i < s.length) : pl s i < s.length := by
  unfold pl
  have h1 : (List.range s.length).countP (bf s i) + (List.range s.length).countP (fun x => !bf s i x) = s.length := by
    have := countP_not' (bf s i) (List.range s.length)
    rw [List.length_range] at this
    exact this
  have h2 : 0 < (List.range s.length).countP (fun x => !bf s i x) := List.countP_pos_iff.2 ⟨i, List.mem_range.2 hi, by rw [bf_self]; rfl⟩
  omega
theorem bf_rho {s : Bs} {K : Int → Int} (hK : ∀ x : Nat, x < s.length → K x = ((s.getD x 0).toNat : Int)) {x i : Nat} (hx : x < s.length) (hi : i < s.length) (hs : s.length ≤ 1000000) : bf s i x = true ↔ rho K (x : Int) < rho K (i : Int) := by
  unfold bf rho
  rw [hK x hx, hK i hi, Bool.or_eq_true, Bool.and_eq_true, decide_eq_true_eq, decide_eq_true_eq, beq_iff_eq, UInt8.lt_iff_toNat_lt, ← UInt8.toNat_inj]
  omega
theorem rho_inj {s : Bs} {K : Int → Int} (hK : ∀ x : Nat, x < s.length → K x = ((s.getD x 0).toNat : Int)) {x i : Nat} (hx : x < s.length) (hi : i < s.length) (hs : s.length ≤ 1000000) (h : rho K (x : Int) = rho K (i : Int)) : x = i := by
  unfold rho at h
  rw [hK x hx, hK i hi] at h
  omega
/-- in a list sorted by rho a number stands at its place -/
theorem sorted_pl {s : Bs} {K : Int → Int} (hK : ∀ x : Nat, x < s.length → K x = ((s.getD x 0).toNat : Int)) (hn : s.length ≤ 1000000) {L : List Nat} (hp : L.Perm (List.range s.length)) (hs : ∀ i j (hi : i < j) (hj : j < L.length), rho K (L[i] : Int) ≤ rho K (L[j] : Int)) {p : Nat} (hpl : p < L.length) : pl s L[p] = p := by
  have hlen : L.length = s.length := by rw [hp.length_eq, List.length_range]
  have hmem : ∀ t (ht : t < L.length), L[t] < s.length := fun t ht => List.mem_range.1 (hp.mem_iff.1 (List.getElem_mem ht))
  have hnd : L.Nodup := hp.nodup_iff.2 List.nodup_range
  unfold pl
  rw [← hp.countP_eq]
  have hsp : L.countP (bf s L[p]) = (L.take p).countP (bf s L[p]) + (L.drop p).countP (bf s L[p]) := by rw [← List.countP_append, List.take_append_drop]
  rw [hsp]
  have h1 : (L.take p).countP (bf s L[p]) = p := by
    have : (L.take p).countP (bf s L[p]) = (L.take p).length := List.countP_eq_length.2 fun x hx => by
      obtain ⟨t, ht, rfl⟩ := List.getElem_of_mem hx
      rw [List.length_take] at ht
      rw [List.getElem_take]
      have h2 := hs t p (by omega) hpl
      refine (bf_rho hK (hmem t (by omega)) (hmem p hpl) hn).2 ?_
      rcases Int.lt_or_eq_of_le h2 with h3 | h3
      · exact h3
      · have := rho_inj hK (hmem t (by omega)) (hmem p hpl) hn h3
        have := (List.getElem_inj hnd).1 this
        omega
    rw [this, List.length_take]; omega
  have h2 : (L.drop p).countP (bf s L[p]) = 0 := List.countP_eq_zero.2 fun x hx => by
    obtain ⟨t, ht, rfl⟩ := List.getElem_of_mem hx
    rw [List.length_drop] at ht
    rw [List.getElem_drop]
    intro h3
    have h4 := (bf_rho hK (hmem (p + t) (by omega)) (hmem p hpl) hn).1 h3
    by_cases e : t = 0
    · subst e; simp at h4
    · have := hs p (p + t) (by omega) (by omega); omega
  rw [h1, h2, Nat.add_zero]
#print axioms sorted_pl
#print axioms pl_lt
theorem range_split {i n : Nat} (h : i ≤ n) (P : Nat → Bool) : (List.range n).countP (fun x => P x && decide (x < i)) = (List.range i).countP P := by
  obtain ⟨r, rfl⟩ : ∃ r, n = i + r := ⟨n - i, by omega⟩
  rw [List.range_add, List.countP_append]
  have h1 : (List.range i).countP (fun x => P x && decide (x < i)) = (List.range i).countP P := List.countP_congr fun x hx => by
    have := List.mem_range.1 hx
    simp [this]
  have h2 : ((List.range r).map (i + ·)).countP (fun x => P x && decide (x < i)) = 0 := List.countP_eq_zero.2 fun x hx => by
    obtain ⟨y, _, rfl⟩ := List.mem_map.1 hx
    simp
  rw [h1, h2]; rfl
theorem tr_getD {l : Bs} {x : Nat} (h : x ≤ l.length) : (tr l).getD x 0 = tc l x := by
  unfold tr
  rw [List.getD_eq_getElem?_getD, List.getElem?_map, List.getElem?_range (by omega)]; rfl
theorem pl_tr {l : Bs} {k : Nat} (hk : k ≤ l.length) : pl (tr l) k = bel l (tc l k) + rk l (tc l k) k := by
  unfold pl bel rk
  rw [tr_length]
  have h1 : (List.range (l.length + 1)).countP (bf (tr l) k) = (List.range (l.length + 1)).countP (fun x => decide (tc l x < tc l k) || (tc l x == tc l k && decide (x < k))) := List.countP_congr fun x hx => by
    have := List.mem_range.1 hx
    unfold bf
    rw [tr_getD (by omega), tr_getD hk]
  rw [h1, count_or_disj, range_split (by omega)]
  intro x _ hx
  rw [Bool.and_eq_true, beq_iff_eq] at hx
  rw [hx.1]
  exact decide_eq_false (u8_irr _)
/-- the reference's step: as if the byte 10 stood first -/
def pr (s : Bs) (i : Nat) : Nat := 1 + (List.range s.length).countP fun x => s.getD x 0 != 10 && bf s i x
theorem range_count (s : Bs) (P : UInt8 → Bool) : (List.range s.length).countP (fun x => P (s.getD x 0)) = s.countP P := by
  have : (List.range s.length).map (fun x => s.getD x 0) = s := by
    apply List.ext_getElem
    · simp
    · intro i h1 h2
      simp [List.getD, List.getElem?_eq_getElem h2]
  conv => rhs; rw [← this, List.countP_map]
  rfl
theorem pr_tr {l : Bs} (hl : ∀ c ∈ l, 10 < c) {k : Nat} (hk : k ≤ l.length) (h0 : tc l k ≠ 10) : pr (tr l) k = pl (tr l) k := by
  unfold pr pl
  have hc : 10 < tc l k := by
    have hm : tc l k ∈ tr l := by
      unfold tr
      exact List.mem_map.2 ⟨k, List.mem_range.2 (by omega), rfl⟩
    rcases List.mem_cons.1 ((tr_perm l).mem_iff.1 hm) with h | h
    · exact absurd h h0
    · exact hl _ h
  have h10 : (tr l).countP (fun c => c == 10) = 1 := by
    rw [(tr_perm l).countP_eq, List.countP_cons]
    have : l.countP (fun c => c == 10) = 0 := List.countP_eq_zero.2 fun c h e => by
      rw [beq_iff_eq] at e
      subst e
      exact u8_irr _ (hl _ h)
    rw [this]; rfl
  have hsplit : (List.range (tr l).length).countP (bf (tr l) k) = (List.range (tr l).length).countP (fun x => ((tr l).getD x 0 != 10 && bf (tr l) k x) || ((tr l).getD x 0 == 10)) := List.countP_congr fun x hx => by
    have := List.mem_range.1 hx
    rw [tr_length] at this
    by_cases e : (tr l).getD x 0 = 10
    · have hb : bf (tr l) k x = true := by
        unfold bf
        rw [e, tr_getD hk, decide_eq_true hc]; rfl
      have e1 : ((tr l).getD x 0 != 10) = false := by rw [e]; rfl
      have e2 : ((tr l).getD x 0 == 10) = true := by rw [e]; rfl
      rw [e1, e2, hb]; simp
    · have e1 : ((tr l).getD x 0 != 10) = true := bne_iff_ne.2 e
      have e2 : ((tr l).getD x 0 == 10) = false := beq_eq_false_iff_ne.2 e
      rw [e1, e2]; simp
  rw [hsplit, count_or_disj, range_count (tr l) (fun c => c == 10), h10]
  · omega
  · intro x _ hx
    rw [beq_iff_eq] at hx
    rw [hx]; rfl
/-- one step back in a transform -/
theorem step_pl {l : Bs} (hl : ∀ c ∈ l, 10 < c) {k : Nat} (hk : k ≤ l.length) (h0 : saAt l k ≠ 0) : saAt l (pl (tr l) k) = saAt l k - 1 ∧ pl (tr l) k ≤ l.length := by
  rw [pl_tr hk]
  exact back_step hl hk h0
theorem step_pr {l : Bs} (hl : ∀ c ∈ l, 10 < c) {k : Nat} (hk : k ≤ l.length) (h0 : saAt l k ≠ 0) : saAt l (pr (tr l) k) = saAt l k - 1 ∧ pr (tr l) k ≤ l.length := by
  rw [pr_tr hl hk (fun e => h0 ((tc_end hl).1 e))]
  exact step_pl hl hk h0
/-- the byte before the suffix -/
theorem tc_at {l : Bs} {k m : Nat} (h : saAt l k = m + 1) (hm : m < l.length) : tc l k = l[m] := by
  simp [tc, chB, h, List.getD, List.getElem?_eq_getElem hm]
#print axioms step_pr
end Go.Proofs.Ytbnlkmblkokooaa
