/- consequences: math. What is missing, what is got. -/
import Derived.Test.YthndplkjhbmfmaaRgm
namespace Go.Proofs.Ythndplkjhbmfmaa
open Go.RowKit
/-- an instance that counts -/
def Live (cnt : Nat → Bool) (K : Int → Prop) (i : PIn) : Prop := cnt i.rule = true ∧ ∀ c, c ∈ i.avoid → ¬ K c
open Classical in
noncomputable def bas (cnt : Nat → Bool) (K : Int → Prop) (i : PIn) : Int := if Live cnt K i then i.need.length else -1
/-- how many needs are processed -/
def dn (P : List Int) (i : PIn) : Nat := (i.need.filter fun c => decide (c ∈ P)).length
theorem dn_le (P : List Int) (i : PIn) : dn P i ≤ i.need.length := List.length_filter_le _ _
theorem dn_nil (i : PIn) : dn [] i = 0 := by
  unfold dn
  rw [List.length_eq_zero_iff, List.filter_eq_nil_iff]
  intro a _ h
  simp at h
theorem dn_snoc {P : List Int} {c : Int} (hc : c ∉ P) (i : PIn) : dn (P ++ [c]) i = dn P i + i.need.count c := by
  unfold dn
  induction i.need with
  | nil => rfl
  | cons a l ih =>
    rw [List.filter_cons, List.filter_cons, List.count_cons]
    by_cases h1 : a = c
    · subst h1
      have e1 : decide (a ∈ P ++ [a]) = true := by simp
      have e2 : decide (a ∈ P) = false := by simp [hc]
      rw [e1, e2]
      simp only [if_true, List.length_cons, ih, beq_self_eq_true]
      simp
      omega
    · have e1 : decide (a ∈ P ++ [c]) = decide (a ∈ P) := by simp [h1]
      have e2 : (a == c) = false := by simp [h1]
      rw [e1, e2]
      cases decide (a ∈ P) with
      | true =>
        simp only [if_true, List.length_cons]
        rw [ih]
        simp only [Bool.false_eq_true, if_false]
        omega
      | false =>
        simp only [Bool.false_eq_true, if_false]
        rw [ih]
        omega
theorem dn_all {P : List Int} {i : PIn} (h : dn P i = i.need.length) : ∀ c, c ∈ i.need → c ∈ P := fun c hc => by
  unfold dn at h
  rw [List.length_filter_eq_length_iff] at h
  simpa using h c hc
theorem dn_full {P : List Int} {i : PIn} (h : ∀ c, c ∈ i.need → c ∈ P) : dn P i = i.need.length := by
  unfold dn
  rw [List.length_filter_eq_length_iff]
  intro c hc
  simpa using h c hc
/-- the sets under way: P is processed, Qu waits -/
structure CQ (I : List PIn) (cnt : Nat → Bool) (S K got : Int → Prop) (P Qu : List Int) : Prop where
  iff : ∀ x, got x ↔ x ∈ P ++ Qu
  nod : (P ++ Qu).Nodup
  snd : ∀ x, got x → ConsI I cnt S K x
/-- get(c) -/
theorem CQ.get {I : List PIn} {cnt : Nat → Bool} {S K got : Int → Prop} {P Qu : List Int} (h : CQ I cnt S K got P Qu) {c : Int} (hn : ¬ got c) (hc : ConsI I cnt S K c) : CQ I cnt S K (fun x => got x ∨ x = c) P (Qu ++ [c]) := by
  have hm : c ∉ P ++ Qu := fun k => hn ((h.iff c).2 k)
  refine ⟨fun x => ?_, ?_, fun x hx => ?_⟩
  · rw [← List.append_assoc, List.mem_append, ← h.iff, List.mem_singleton]
  · rw [← List.append_assoc]
    exact List.nodup_append.2 ⟨h.nod, by simp, fun a ha b hb e => by rw [List.mem_singleton] at hb; subst hb; exact hm (e ▸ ha)⟩
  · rcases hx with hx | rfl
    · exact h.snd x hx
    · exact hc
theorem CQ.pop {I : List PIn} {cnt : Nat → Bool} {S K got : Int → Prop} {P Qu : List Int} {c : Int} (h : CQ I cnt S K got P (c :: Qu)) : CQ I cnt S K got (P ++ [c]) Qu := by
  have e : P ++ [c] ++ Qu = P ++ c :: Qu := by simp
  exact ⟨fun x => by rw [e]; exact h.iff x, by rw [e]; exact h.nod, h.snd⟩
theorem CQ.congr {I : List PIn} {cnt : Nat → Bool} {S K got got' : Int → Prop} {P Qu : List Int} (h : CQ I cnt S K got P Qu) (hg : ∀ x, got' x ↔ got x) : CQ I cnt S K got' P Qu :=
  ⟨fun x => (hg x).trans (h.iff x), h.nod, fun x hx => h.snd x ((hg x).1 hx)⟩
/-- what is missing: u counts those of the users under way -/
structure CM (I : List PIn) (cnt : Nat → Bool) (K got : Int → Prop) (P : List Int) (u : Nat → Nat) (ms : List Int) : Prop where
  len : ms.length = I.length
  val : ∀ i (h : i < I.length), ms.getD i 0 = bas cnt K I[i] - dn P I[i] - u i
  head : ∀ i (h : i < I.length), Live cnt K I[i] → dn P I[i] + u i = I[i].need.length → got I[i].head
theorem bas_live {cnt : Nat → Bool} {K : Int → Prop} {i : PIn} (h : Live cnt K i) : bas cnt K i = i.need.length := if_pos h
theorem bas_dead {cnt : Nat → Bool} {K : Int → Prop} {i : PIn} (h : ¬ Live cnt K i) : bas cnt K i = -1 := if_neg h
theorem CM.more {I : List PIn} {cnt : Nat → Bool} {K got got' : Int → Prop} {P : List Int} {u : Nat → Nat} {ms : List Int} (h : CM I cnt K got P u ms) (hg : ∀ x, got x → got' x) : CM I cnt K got' P u ms :=
  ⟨h.len, h.val, fun i hi h1 h2 => hg _ (h.head i hi h1 h2)⟩
def bump (u : Nat → Nat) (i : Nat) : Nat → Nat := fun k => if k = i then u k + 1 else u k
/-- missing[i]-- -/
theorem CM.dec {I : List PIn} {cnt : Nat → Bool} {K got : Int → Prop} {P : List Int} {u : Nat → Nat} {ms : List Int} (h : CM I cnt K got P u ms) {i : Nat} (hi : i < I.length) (hg : ms.getD i 0 - 1 = 0 → got I[i].head) : CM I cnt K got P (bump u i) (ms.set i (ms.getD i 0 - 1)) := by
  have hl : i < ms.length := by rw [h.len]; exact hi
  refine ⟨by rw [List.length_set]; exact h.len, fun k hk => ?_, fun k hk h1 h2 => ?_⟩
  · rw [getD_setI hl]
    unfold bump
    by_cases e : k = i
    · subst e
      rw [if_pos rfl, if_pos rfl, h.val k hk]; omega
    · rw [if_neg (fun q => e q.symm), if_neg e]; exact h.val k hk
  · unfold bump at h2
    by_cases e : k = i
    · subst e
      rw [if_pos rfl] at h2
      refine hg ?_
      rw [h.val k hk, bas_live h1]; omega
    · rw [if_neg e] at h2; exact h.head k hk h1 h2
/-- when it is 0 all needs are there -/
theorem CM.zero {I : List PIn} {cnt : Nat → Bool} {K got : Int → Prop} {P : List Int} {u : Nat → Nat} {ms : List Int} (h : CM I cnt K got P u ms) {i : Nat} (hi : i < I.length) (h0 : ms.getD i 0 - 1 = 0) {c : Int} (hc : c ∉ P) (hu : u i + 1 ≤ I[i].need.count c) : Live cnt K I[i] ∧ ∀ x, x ∈ I[i].need → x ∈ P ++ [c] := by
  have e := h.val i hi
  have hlv : Live cnt K I[i] := Classical.byContradiction fun hn => by rw [bas_dead hn] at e; omega
  rw [bas_live hlv] at e
  have e2 := dn_snoc hc I[i]
  have e3 := dn_le (P ++ [c]) I[i]
  exact ⟨hlv, dn_all (by omega)⟩
theorem CM.next {I : List PIn} {cnt : Nat → Bool} {K got : Int → Prop} {P : List Int} {u : Nat → Nat} {ms : List Int} (h : CM I cnt K got P u ms) {c : Int} (hc : c ∉ P) (hu : ∀ i (h : i < I.length), u i = I[i].need.count c) : CM I cnt K got (P ++ [c]) (fun _ => 0) ms :=
  ⟨h.len, fun i hi => by rw [h.val i hi, dn_snoc hc, hu i hi]; omega, fun i hi h1 h2 => h.head i hi h1 (by rw [dn_snoc hc] at h2; rw [hu i hi]; omega)⟩
theorem cq_step {I : List PIn} {cnt : Nat → Bool} {S K got : Int → Prop} {P Qu : List Int} (h : CQ I cnt S K got P Qu) {i : PIn} (hi : i ∈ I) (hl : Live cnt K i) (hn : ∀ x, x ∈ i.need → x ∈ P) : ConsI I cnt S K i.head :=
  .step hi hl.1 (fun c hc => h.snd c ((h.iff c).2 (List.mem_append_left _ (hn c hc)))) hl.2
/-- in the end -/
theorem cq_end {I : List PIn} {cnt : Nat → Bool} {S K got : Int → Prop} {P : List Int} {ms : List Int} (h : CQ I cnt S K got P []) (hm : CM I cnt K got P (fun _ => 0) ms) (hS : ∀ x, S x → got x) (x : Int) : got x ↔ ConsI I cnt S K x := by
  refine ⟨h.snd x, fun hx => ConsI.least hS (fun i hi h1 h2 h3 => ?_) hx⟩
  obtain ⟨k, hk, rfl⟩ := List.getElem_of_mem hi
  exact hm.head k hk ⟨h1, h3⟩ (by
    rw [dn_full fun c hc => by have := (h.iff c).1 (h2 c hc); simpa using this]; rfl)
/-- the start: the first k instances -/
structure CS (I : List PIn) (cnt : Nat → Bool) (K got : Int → Prop) (k : Nat) (ms : List Int) : Prop where
  len : ms.length = I.length
  val : ∀ i (h : i < I.length), i < k → ms.getD i 0 = bas cnt K I[i]
  head : ∀ i (h : i < I.length), i < k → Live cnt K I[i] → I[i].need.length = 0 → got I[i].head
theorem cs_0 (I : List PIn) (cnt : Nat → Bool) (K got : Int → Prop) : CS I cnt K got 0 (List.replicate I.length 0) := ⟨by simp, fun _ _ h => by omega, fun _ _ h => by omega⟩
theorem CS.more {I : List PIn} {cnt : Nat → Bool} {K got got' : Int → Prop} {k : Nat} {ms : List Int} (h : CS I cnt K got k ms) (hg : ∀ x, got x → got' x) : CS I cnt K got' k ms :=
  ⟨h.len, h.val, fun i hi h0 h1 h2 => hg _ (h.head i hi h0 h1 h2)⟩
theorem CS.next {I : List PIn} {cnt : Nat → Bool} {K got : Int → Prop} {k : Nat} {ms : List Int} (h : CS I cnt K got k ms) (hk : k < I.length) {x : Int} (hx : x = bas cnt K I[k]) (hg : x = 0 → got I[k].head) : CS I cnt K got (k + 1) (ms.set k x) := by
  have hl : k < ms.length := by rw [h.len]; exact hk
  refine ⟨by rw [List.length_set]; exact h.len, fun i hi h1 => ?_, fun i hi h1 h2 h3 => ?_⟩
  · rw [getD_setI hl]
    by_cases e : i = k
    · subst e; rw [if_pos rfl]; exact hx
    · rw [if_neg (fun q => e q.symm)]; exact h.val i hi (by omega)
  · by_cases e : i = k
    · subst e; exact hg (by rw [hx, bas_live h2]; omega)
    · exact h.head i hi (by omega) h2 h3
theorem CS.cm {I : List PIn} {cnt : Nat → Bool} {K got : Int → Prop} {ms : List Int} (h : CS I cnt K got I.length ms) : CM I cnt K got [] (fun _ => 0) ms :=
  ⟨h.len, fun i hi => by rw [h.val i hi hi, dn_nil]; omega, fun i hi h1 h2 => h.head i hi hi h1 (by rw [dn_nil] at h2; omega)⟩
theorem count_take_succ {U : List Int} {j : Nat} (hj : j < U.length) (x : Int) : (U.take (j + 1)).count x = (U.take j).count x + if U.getD j 0 = x then 1 else 0 := by
  rw [List.take_succ_eq_append_getElem hj, List.count_append, List.getD_eq_getElem?_getD, List.getElem?_eq_getElem hj]
  congr 1
  simp [List.count_cons]
theorem count_take_le (U : List Int) (j : Nat) (x : Int) : (U.take j).count x ≤ U.count x := (List.take_sublist j U).count_le x
#print axioms cq_end
end Go.Proofs.Ythndplkjhbmfmaa
