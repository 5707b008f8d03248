/- ground: math. What the program holds while facts are joined, and in the end. -/
import Derived.Test.YthndplkjhbmfmaaRjm
namespace Go.Proofs.Ythndplkjhbmfmaa
open Go.RowKit
def zero8 : List Int := [0, 0, 0, 0, 0, 0, 0, 0]
theorem zero8_at (i : Nat) : zero8.getD i 0 = 0 := by
  match i with
  | 0 | 1 | 2 | 3 | 4 | 5 | 6 | 7 => rfl
  | n + 8 => rfl
/-- what is processed and what waits -/
structure GI (l : List RRule) (S : PSt) (Q : List Int) : Prop where
  ok : ∀ x, x ∈ Q ++ S.R 303 → ∃ f, FcR f ∧ pcd f = x
  nod : (Q ++ S.R 303).Nodup
  rch : ∀ x, S.rch x ↔ x ∈ Q ++ S.R 303
  kn : ∀ t, t < 6 → S.R (297 + t) = Q.filter fun x => decide (x / 49 = (t : Int))
  cnt : ∀ c, KOk c → ∀ i (h : i < S.I.length), (S.R (2 + c.toNat)).count (i : Int) = S.I[i].need.count c
  mem : ∀ c, KOk c → ∀ x, x ∈ S.R (2 + c.toNat) → ∃ i : Nat, x = i ∧ i < S.I.length
  sound : ∀ i, i ∈ S.I → ∃ r m, l[i.rule]? = some r ∧ Num6 r m ∧ i = insOf i.rule r m
def Clo (S : PSt) : Prop := ∀ i, i ∈ S.I → S.rch i.head
/-- no row is long -/
def RL (S : PSt) (n : Nat) : Prop := ∀ j, (S.R j).length ≤ 4 * S.I.length + n
/-- all instances whose needs are processed are there -/
def Full (l : List RRule) (S : PSt) (Q : List Int) : Prop := ∀ k r m, l[k]? = some r → Num6 r m → (∀ b, b ∈ r.2 → b.1 = false → pcd (gnd m b.2) ∈ Q) → insOf k r m ∈ S.I
theorem gi_0 (l : List RRule) : GI l ⟨[], fun _ => [], fun _ => False⟩ [] :=
  ⟨fun x h => (by cases h), List.nodup_nil, fun x => (by simp), fun t _ => rfl, fun c _ i h => (by cases h), fun c _ x h => (by cases h), fun i h => (by cases h)⟩
theorem kok_pcd {f : RAt} (h : FcR f) : KOk (pcd f) := pcd_range h
theorem GI.reach {l : List RRule} {S : PSt} {Q : List Int} (h : GI l S Q) {f : RAt} (hf : FcR f) : GI l (reachS S (pcd f)) Q := by
  by_cases hr : S.rch (pcd f)
  · rw [reachS_in hr]
    refine ⟨h.ok, h.nod, fun x => ?_, h.kn, h.cnt, h.mem, h.sound⟩
    rw [← h.rch]
    exact ⟨fun k => k.elim id fun e => e ▸ hr, .inl⟩
  · have hn : pcd f ∉ Q ++ S.R 303 := fun k => hr ((h.rch _).2 k)
    have e3 : (reachS S (pcd f)).R 303 = S.R 303 ++ [pcd f] := by rw [reachS_new hr]; show upd S.R 303 (S.R 303 ++ [pcd f]) 303 = _; exact upd_same _ _ _
    have eo : ∀ j, j ≠ 303 → (reachS S (pcd f)).R j = S.R j := fun j hj => reachS_other S _ hj
    refine ⟨fun x hx => ?_, ?_, fun x => ?_, fun t ht => ?_, fun c hc i hi => ?_, fun c hc x hx => ?_, h.sound⟩
    · rw [e3, ← List.append_assoc] at hx
      rcases List.mem_append.1 hx with hx | hx
      · exact h.ok x hx
      · rw [List.mem_singleton] at hx
        exact ⟨f, hf, hx.symm⟩
    · rw [e3, ← List.append_assoc]
      exact List.nodup_append.2 ⟨h.nod, by simp, fun a ha b hb e => by rw [List.mem_singleton] at hb; subst hb; exact hn (e ▸ ha)⟩
    · rw [reachS_rch, e3, ← List.append_assoc, List.mem_append, ← h.rch, List.mem_singleton]
    · rw [eo _ (by omega)]; exact h.kn t ht
    · rw [eo _ (by obtain ⟨a, b⟩ := hc; omega)]; exact h.cnt c hc i hi
    · rw [eo _ (by obtain ⟨a, b⟩ := hc; omega)] at hx; exact h.mem c hc x hx
theorem useR_at (idx : Int) (R : Nat → List Int) {c d : Int} (hc : KOk c) (hd : KOk d) : useR idx R d (2 + c.toNat) = R (2 + c.toNat) ++ List.replicate (if d = c then 1 else 0) idx := by
  unfold useR
  by_cases e : d = c
  · subst e; rw [upd_same, if_pos rfl]; rfl
  · rw [upd_other _ _ (by obtain ⟨a, b⟩ := hc; obtain ⟨a2, b2⟩ := hd; omega), if_neg e]; simp
theorem addU_at (idx : Int) : ∀ (cs : List Int) (R : Nat → List Int) {c : Int} (_ : KOk c) (_ : ∀ x, x ∈ cs → KOk x), addU idx R cs (2 + c.toNat) = R (2 + c.toNat) ++ List.replicate (cs.count c) idx
  | [], R, c, _, _ => by simp [addU]
  | d :: cs, R, c, hc, h => by
    show addU idx (useR idx R d) cs (2 + c.toNat) = _
    rw [addU_at idx cs _ hc fun x hx => h x (List.mem_cons_of_mem _ hx), useR_at idx R hc (h d (by simp)), List.append_assoc, List.replicate_append_replicate, List.count_cons]
    by_cases e : d = c
    · subst e; simp [Nat.add_comm]
    · simp [e]
theorem insOf_need (i : Nat) (r : RRule) (m : List Int) : (insOf i r m).need = needC r m r.2.length := by rw [insOf_eq]
theorem GI.ins {l : List RRule} {S : PSt} {Q : List Int} (h : GI l S Q) {k : Nat} {r : RRule} (hk : l[k]? = some r) (hat : ∀ b, b ∈ r.2 → AtR b.2) {m : List Int} (hm : Num6 r m) : GI l ⟨S.I ++ [insOf k r m], addU (S.I.length : Int) S.R (needC r m r.2.length), S.rch⟩ Q := by
  have hn : ∀ x, x ∈ needC r m r.2.length → KOk x := fun x hx => needC_ok hat hm hx
  have eo : ∀ j, 296 ≤ j → addU (S.I.length : Int) S.R (needC r m r.2.length) j = S.R j := fun j hj => addU_other _ _ _ fun c hc e => by
    obtain ⟨a, b⟩ := hn c hc
    omega
  have e3 := eo 303 (by omega)
  refine ⟨fun x hx => ?_, ?_, fun x => ?_, fun t ht => ?_, fun c hc i hi => ?_, fun c hc x hx => ?_, fun i hi => ?_⟩
  · exact h.ok x (by rw [← e3]; exact hx)
  · show (Q ++ addU (S.I.length : Int) S.R (needC r m r.2.length) 303).Nodup
    rw [e3]; exact h.nod
  · show S.rch x ↔ x ∈ Q ++ addU (S.I.length : Int) S.R (needC r m r.2.length) 303
    rw [e3]; exact h.rch x
  · show addU (S.I.length : Int) S.R (needC r m r.2.length) (297 + t) = _
    rw [eo _ (by omega)]; exact h.kn t ht
  · show (addU (S.I.length : Int) S.R (needC r m r.2.length) (2 + c.toNat)).count (i : Int) = (S.I ++ [insOf k r m])[i].need.count c
    rw [addU_at _ _ _ hc hn, List.count_append, List.count_replicate]
    have hi : i < (S.I ++ [insOf k r m]).length := hi
    rw [List.length_append] at hi
    by_cases e : i < S.I.length
    · have hne : ((S.I.length : Int) == (i : Int)) = false := by simp; omega
      rw [h.cnt c hc i e, hne, List.getElem_append_left e]
      simp
    · have e2 : i = S.I.length := by simp at hi; omega
      subst e2
      have h0 : (S.R (2 + c.toNat)).count (S.I.length : Int) = 0 := List.count_eq_zero.2 fun hx => by
        obtain ⟨q, e1, e2⟩ := h.mem c hc _ hx
        omega
      rw [h0, List.getElem_append_right (Nat.le_refl _)]
      simp [insOf_need]
  · have hx : x ∈ addU (S.I.length : Int) S.R (needC r m r.2.length) (2 + c.toNat) := hx
    rw [addU_at _ _ _ hc hn] at hx
    show ∃ i : Nat, x = i ∧ i < (S.I ++ [insOf k r m]).length
    rw [List.length_append]
    rcases List.mem_append.1 hx with hx | hx
    · obtain ⟨q, e1, e2⟩ := h.mem c hc _ hx
      exact ⟨q, e1, by omega⟩
    · exact ⟨S.I.length, (List.mem_replicate.1 hx).2, by simp⟩
  · rcases List.mem_append.1 hi with hi | hi
    · exact h.sound i hi
    · rw [List.mem_singleton] at hi
      subst hi
      exact ⟨r, m, hk, hm, rfl⟩
theorem GI.add {l : List RRule} {S : PSt} {Q : List Int} (h : GI l S Q) (hl : RuV l) {k : Nat} {r : RRule} (hk : l[k]? = some r) {m : List Int} (hm : Num6 r m) : GI l (addS S k r m) Q := by
  have hr := hl r (List.mem_of_getElem? hk)
  exact (h.ins hk hr.2 hm).reach (gnd_fc hr.1 fun t ht => hm t (.inl ht))
theorem GI.adds {l : List RRule} {Q : List Int} (hl : RuV l) {k : Nat} {r : RRule} (hk : l[k]? = some r) : ∀ (ms : List (List Int)) {S : PSt} (_ : GI l S Q) (_ : ∀ m, m ∈ ms → Num6 r m), GI l (addsS S k r ms) Q
  | [], _, h, _ => h
  | m :: ms, S, h, hm => GI.adds hl hk ms (h.add hl hk (hm m (by simp))) fun x hx => hm x (List.mem_cons_of_mem _ hx)
theorem Clo.reach {S : PSt} (h : Clo S) (c : Int) : Clo (reachS S c) := fun i hi => .inl (h i hi)
theorem Clo.adds {k : Nat} {r : RRule} {S : PSt} (h : Clo S) (ms : List (List Int)) : Clo (addsS S k r ms) := fun i hi => by
  rw [addsS_I] at hi
  rw [addsS_rch]
  rcases List.mem_append.1 hi with hi | hi
  · exact .inl (h i hi)
  · obtain ⟨m, hm, rfl⟩ := List.mem_map.1 hi
    exact .inr ⟨m, hm, rfl⟩
theorem RL.reach {S : PSt} {n : Nat} (h : RL S n) (c : Int) : RL (reachS S c) (n + 1) := fun j => by
  have a := reachS_len S c j
  have b := h j
  rw [reachS_I]; omega
theorem RL.add {S : PSt} {n : Nat} (h : RL S n) (i : Nat) (r : RRule) (m : List Int) (h3 : r.2.length ≤ 3) : RL (addS S i r m) n := fun j => by
  have e1 := reachS_len ⟨S.I ++ [insOf i r m], addU (S.I.length : Int) S.R (needC r m r.2.length), S.rch⟩ (pcd (gnd m r.1)) j
  have e2 := addU_len (S.I.length : Int) (needC r m r.2.length) S.R j
  have e3 := (codes_len r m r.2.length).1
  have e4 := h j
  have e1 : ((addS S i r m).R j).length ≤ (addU (S.I.length : Int) S.R (needC r m r.2.length) j).length + 1 := e1
  rw [addS_I, List.length_append, List.length_singleton]
  omega
theorem RL.adds {n : Nat} {i : Nat} {r : RRule} (h3 : r.2.length ≤ 3) : ∀ (ms : List (List Int)) {S : PSt} (_ : RL S n), RL (addsS S i r ms) n
  | [], _, h => h
  | m :: ms, _, h => RL.adds h3 ms (h.add i r m h3)
theorem Full.more {l : List RRule} {S : PSt} {Q : List Int} (h : Full l S Q) (k : Nat) (r : RRule) (ms : List (List Int)) : Full l (addsS S k r ms) Q := fun k' r' m' h1 h2 h3 => by
  rw [addsS_I]; exact List.mem_append_left _ (h k' r' m' h1 h2 h3)
/-- the newest fact -/
def popS (S : PSt) (c : Int) (q : List Int) : PSt := ⟨S.I, upd (upd S.R 303 q) (297 + (c / 49).toNat) (S.R (297 + (c / 49).toNat) ++ [c]), S.rch⟩
theorem popS_known {S : PSt} {c : Int} (hc : KOk c) {q : List Int} {t : Nat} (ht : t < 6) : (popS S c q).R (297 + t) = S.R (297 + t) ++ (if c / 49 = (t : Int) then [c] else []) := by
  obtain ⟨a, b⟩ := hc
  unfold popS
  by_cases e : c / 49 = (t : Int)
  · have e2 : (c / 49).toNat = t := by omega
    simp only [e2]
    rw [upd_same, if_pos e]
  · have e2 : (297 + t) ≠ 297 + (c / 49).toNat := by omega
    show upd (upd S.R 303 q) (297 + (c / 49).toNat) (S.R (297 + (c / 49).toNat) ++ [c]) (297 + t) = _
    rw [upd_other _ _ e2, upd_other _ _ (by omega), if_neg e, List.append_nil]
theorem popS_queue {S : PSt} {c : Int} (hc : KOk c) {q : List Int} : (popS S c q).R 303 = q := by
  obtain ⟨a, b⟩ := hc
  show upd (upd S.R 303 q) (297 + (c / 49).toNat) (S.R (297 + (c / 49).toNat) ++ [c]) 303 = _
  rw [upd_other _ _ (by omega), upd_same]
theorem popS_other {S : PSt} {c : Int} {q : List Int} {j : Nat} (hj : j < 297) : (popS S c q).R j = S.R j := by
  show upd (upd S.R 303 q) (297 + (c / 49).toNat) (S.R (297 + (c / 49).toNat) ++ [c]) j = _
  rw [upd_other _ _ (by omega), upd_other _ _ (by omega)]
theorem GI.pop {l : List RRule} {S : PSt} {Q : List Int} (h : GI l S Q) {c : Int} {q : List Int} (hq : S.R 303 = c :: q) : GI l (popS S c q) (Q ++ [c]) := by
  have hc : KOk c := by
    obtain ⟨f, hf, e⟩ := h.ok c (by rw [hq]; simp)
    rw [← e]; exact kok_pcd hf
  have e3 := popS_queue (S := S) hc (q := q)
  have ee : Q ++ [c] ++ (popS S c q).R 303 = Q ++ S.R 303 := by rw [e3, hq]; simp
  refine ⟨fun x hx => h.ok x (by rw [← ee]; exact hx), by rw [ee]; exact h.nod, fun x => by rw [ee]; exact h.rch x, fun t ht => ?_, fun d hd i hi => ?_, fun d hd x hx => ?_, h.sound⟩
  · rw [popS_known hc ht, h.kn t ht, List.filter_append]
    congr 1
    by_cases e : c / 49 = (t : Int)
    · simp [e]
    · simp [e]
  · rw [popS_other (by obtain ⟨a, b⟩ := hd; omega)]; exact h.cnt d hd i hi
  · rw [popS_other (by obtain ⟨a, b⟩ := hd; omega)] at hx; exact h.mem d hd x hx
theorem RL.pop {S : PSt} {n : Nat} (h : RL S n) {c : Int} {q : List Int} (hq : S.R 303 = c :: q) : RL (popS S c q) (n + 1) := fun j => by
  show (upd (upd S.R 303 q) (297 + (c / 49).toNat) (S.R (297 + (c / 49).toNat) ++ [c]) j).length ≤ 4 * S.I.length + (n + 1)
  unfold upd
  split
  · rw [List.length_append, List.length_singleton]
    have := h (297 + (c / 49).toNat)
    omega
  · split
    · have := h 303
      rw [hq, List.length_cons] at this
      omega
    · have := h j
      omega
/-- the atoms that a rule needs -/
theorem mem_needL {r : RRule} {a : RAt} : a ∈ needL r ↔ ∃ b, b ∈ r.2 ∧ b.1 = false ∧ b.2 = a := by
  unfold needL
  rw [List.mem_map]
  constructor
  · rintro ⟨b, hb, e⟩
    obtain ⟨h1, h2⟩ := List.mem_filter.1 hb
    exact ⟨b, h1, by revert h2; cases b.1 <;> simp, e⟩
  · rintro ⟨b, h1, h2, e⟩
    exact ⟨b, List.mem_filter.2 ⟨h1, by rw [h2]; rfl⟩, e⟩
theorem needL_len (r : RRule) : (needL r).length ≤ r.2.length := by unfold needL; rw [List.length_map]; exact List.length_filter_le _ _
theorem atOk_of {a : RAt} (h : AtR a) : AtOk a := fun t ht => (h.2.2 t ht).2
theorem fcOk_of {f : RAt} (h : FcR f) : FcOk f := fun x hx => (h.2.2 x hx).1
theorem numOf_same {x y : List Int} {t : Int} (h : 0 ≤ t → x.getD t.toNat 0 = y.getD t.toNat 0) : numOf x t = numOf y t := by
  unfold numOf
  by_cases c : 0 ≤ t
  · rw [if_pos c, if_pos c, h c]
  · rw [if_neg c, if_neg c]
/-- the known facts are facts -/
def KnV (K : Nat → List Int) : Prop := ∀ t, t < 6 → ∀ x, x ∈ K t → ∃ f, FcR f ∧ pcd f = x
theorem rel_lt {a : RAt} (h : AtR a) : a.1.toNat < 6 := by obtain ⟨h1, _⟩ := h; omega
/-- what join finds agrees with what it began with, and has a number for each term -/
theorem joinM_sound {K : Nat → List Int} (hK : KnV K) {place : Nat} {c : Int} : ∀ (q : List RAt) (_ : ∀ a, a ∈ q → AtR a) (k : Nat) (m x : List Int) (_ : m.length = 8) (_ : x ∈ joinM K place c q k m),
    x.length = 8 ∧ (∀ i, i < 8 → m.getD i 0 ≠ 0 → x.getD i 0 = m.getD i 0) ∧ ∀ a, a ∈ q → ∀ t, t ∈ a.2 → 1 ≤ numOf x t ∧ numOf x t ≤ 6
  | [], _, k, m, x, hm, hx => by
    have : x = m := by simpa [joinM] using hx
    subst this
    exact ⟨hm, fun _ _ _ => rfl, fun a ha => by cases ha⟩
  | a :: q, hq, k, m, x, hm, hx => by
    have ha := hq a (by simp)
    unfold joinM at hx
    obtain ⟨z, hz, hx⟩ := List.mem_flatMap.1 hx
    have hf := unpc_spec (hK _ (rel_lt ha) z hz)
    cases hs : skipJ k place z c with
    | true => rw [hs] at hx; simp at hx
    | false =>
      rw [hs] at hx
      cases he : extA m a (unpc z) with
      | none => rw [he] at hx; simp at hx
      | some y =>
        rw [he] at hx
        obtain ⟨g, y8, y1, y2⟩ := (extA_iff hm (atOk_of ha) (fcOk_of hf.1)).1 he
        obtain ⟨h8, h1, h2⟩ := joinM_sound hK q (fun a ha => hq a (List.mem_cons_of_mem _ ha)) (k + 1) y x y8 hx
        refine ⟨h8, fun i hi hne => ?_, fun b hb t ht => ?_⟩
        · have e := y1 i hi hne
          rw [← e]
          exact h1 i hi (by rw [e]; exact hne)
        · rcases List.mem_cons.1 hb with rfl | hb
          · have e1 : numOf y t ∈ (unpc z).2 := by rw [← g.2]; exact List.mem_map.2 ⟨t, ht, rfl⟩
            have e2 := hf.1.2.2 _ e1
            have e3 : numOf x t = numOf y t := numOf_same fun h0 => h1 t.toNat (by have := (ha.2.2 t ht).2; omega) (by
              unfold numOf at e2
              rw [if_pos h0] at e2
              omega)
            rw [e3]; exact e2
          · exact h2 b hb t ht
/-- so it has one for each term of a safe rule -/
theorem num_safe {r : RRule} (hr : AtR r.1 ∧ ∀ b, b ∈ r.2 → AtR b.2) (hs : SafeR r) {x : List Int} (h : ∀ a, a ∈ needL r → ∀ t, t ∈ a.2 → 1 ≤ numOf x t ∧ numOf x t ≤ 6) : Num6 r x := fun t ht => by
  have hrg : -6 ≤ t ∧ (t < 0 ∨ 0 ≤ t) ∧ t ≤ 7 ∧ (t < 0 → t ≤ -1) := by
    have : -6 ≤ t ∧ t ≤ 7 := by
      rcases ht with ht | ⟨b, hb, ht⟩
      · exact hr.1.2.2 t ht
      · exact (hr.2 b hb).2.2 t ht
    omega
  by_cases h0 : 0 ≤ t
  · obtain ⟨b, hb, hn, hbt⟩ := hs t h0 (by omega) ht
    exact h b.2 (mem_needL.2 ⟨b, hb, hn, rfl⟩) t hbt
  · rw [numOf_neg h0]; omega
theorem joinM_num {K : Nat → List Int} (hK : KnV K) {place : Nat} {c : Int} {r : RRule} (hr : AtR r.1 ∧ ∀ b, b ∈ r.2 → AtR b.2) (hs : SafeR r) {x : List Int} (hx : x ∈ joinM K place c (needL r) 0 zero8) : Num6 r x :=
  num_safe hr hs (joinM_sound hK (needL r) (fun a ha => by obtain ⟨b, hb, _, e⟩ := mem_needL.1 ha; rw [← e]; exact hr.2 b hb) 0 zero8 x rfl hx).2.2
/-- numbers with those of an atom -/
def addN (y mu : List Int) (a : RAt) : List Int := (List.range 8).map fun (i : Nat) => if (i : Int) ∈ a.2 then mu.getD i 0 else y.getD i 0
theorem addN_at (y mu : List Int) (a : RAt) {i : Nat} (hi : i < 8) : (addN y mu a).getD i 0 = if (i : Int) ∈ a.2 then mu.getD i 0 else y.getD i 0 := by
  unfold addN
  rw [List.getD_eq_getElem?_getD, List.getElem?_map, List.getElem?_range hi]
  rfl
theorem joinM_full {K : Nat → List Int} {place : Nat} {c : Int} {mu : List Int} : ∀ (q : List RAt) (_ : ∀ a, a ∈ q → AtR a ∧ FcR (gnd mu a) ∧ pcd (gnd mu a) ∈ K a.1.toNat) (k : Nat) (_ : ∀ j (h : j < q.length), skipJ (k + j) place (pcd (gnd mu q[j])) c = false) (y : List Int) (_ : y.length = 8) (_ : ∀ i, i < 8 → y.getD i 0 ≠ 0 → y.getD i 0 = mu.getD i 0),
    ∃ x, x ∈ joinM K place c q k y ∧ (∀ i, i < 8 → y.getD i 0 ≠ 0 → x.getD i 0 = mu.getD i 0) ∧ ∀ a, a ∈ q → ∀ t, t ∈ a.2 → numOf x t = numOf mu t
  | [], _, k, _, y, _, hy => ⟨y, by simp [joinM], hy, fun a ha => by cases ha⟩
  | a :: q, hq, k, hs, y, h8, hy => by
    obtain ⟨ha, hf, hin⟩ := hq a (by simp)
    have hz : unpc (pcd (gnd mu a)) = gnd mu a := unpc_pcd hf
    have hgv : Gives (addN y mu a) a (gnd mu a) := ⟨rfl, by
      show a.2.map (numOf (addN y mu a)) = a.2.map (numOf mu)
      refine List.map_congr_left fun t ht => numOf_same fun h0 => ?_
      have h7 := (ha.2.2 t ht).2
      rw [addN_at _ _ _ (by omega), Int.toNat_of_nonneg h0, if_pos ht]⟩
    have he : extA y a (gnd mu a) = some (addN y mu a) := (extA_iff h8 (atOk_of ha) (fcOk_of hf)).2 ⟨hgv, by simp [addN], fun i hi hne => by
      rw [addN_at _ _ _ hi]
      split
      · exact (hy i hi hne).symm
      · rfl, fun i hi h0 hne => by
      rw [addN_at _ _ _ hi] at hne
      by_cases e : (i : Int) ∈ a.2
      · exact e
      · rw [if_neg e] at hne; exact absurd h0 hne⟩
    have hy2 : ∀ i, i < 8 → (addN y mu a).getD i 0 ≠ 0 → (addN y mu a).getD i 0 = mu.getD i 0 := fun i hi hne => by
      rw [addN_at _ _ _ hi] at hne ⊢
      by_cases e : (i : Int) ∈ a.2
      · rw [if_pos e]
      · rw [if_neg e] at hne ⊢; exact hy i hi hne
    obtain ⟨x, h1, h2, h3⟩ := joinM_full q (fun a ha => hq a (List.mem_cons_of_mem _ ha)) (k + 1) (fun j hj => by
      have := hs (j + 1) (by simpa using hj)
      rw [show k + 1 + j = k + (j + 1) by omega]
      simpa using this) (addN y mu a) (by simp [addN]) hy2
    refine ⟨x, ?_, fun i hi hne => ?_, fun b hb t ht => ?_⟩
    · unfold joinM
      refine List.mem_flatMap.2 ⟨_, hin, ?_⟩
      have hs0 := hs 0 (by simp)
      simp only [Nat.add_zero, List.getElem_cons_zero] at hs0
      rw [hs0, hz, he]
      exact h1
    · refine h2 i hi ?_
      rw [addN_at _ _ _ hi]
      split
      · rw [← hy i hi hne]; exact hne
      · exact hne
    · rcases List.mem_cons.1 hb with rfl | hb
      · refine numOf_same fun h0 => h2 t.toNat (by have := (ha.2.2 t ht).2; omega) ?_
        have h7 := (ha.2.2 t ht).2
        rw [addN_at _ _ _ (by omega), Int.toNat_of_nonneg h0, if_pos ht]
        have e1 : numOf mu t ∈ (gnd mu b).2 := List.mem_map.2 ⟨t, ht, rfl⟩
        have e2 := hf.2.2 _ e1
        unfold numOf at e2
        rw [if_pos h0] at e2
        omega
      · exact h3 b hb t ht
theorem first_of {p : Nat → Prop} : ∀ n, (∃ j, j < n ∧ p j) → ∃ j, j < n ∧ p j ∧ ∀ i, i < j → ¬ p i
  | 0, h => by obtain ⟨j, hj, _⟩ := h; omega
  | n + 1, h => by
    by_cases e : ∃ j, j < n ∧ p j
    · obtain ⟨j, h1, h2⟩ := first_of n e
      exact ⟨j, by omega, h2⟩
    · obtain ⟨j, h1, h2⟩ := h
      have : j = n := Classical.byContradiction fun hne => e ⟨j, by omega, h2⟩
      subst this
      exact ⟨j, h1, h2, fun i hi hp => e ⟨i, hi, hp⟩⟩
/-- the instances that join adds for a rule at a place are there -/
def JDone (S : PSt) (K : Nat → List Int) (c : Int) (k : Nat) (r : RRule) (p : Nat) : Prop := ∀ m, m ∈ joinM K p c (needL r) 0 zero8 → insOf k r m ∈ S.I
theorem JDone.more {S : PSt} {K : Nat → List Int} {c : Int} {k p : Nat} {r : RRule} (h : JDone S K c k r p) (k' : Nat) (r' : RRule) (ms : List (List Int)) : JDone (addsS S k' r' ms) K c k r p := fun m hm => by
  rw [addsS_I]; exact List.mem_append_left _ (h m hm)
theorem jdone_new (S : PSt) (K : Nat → List Int) (c : Int) (k p : Nat) (r : RRule) : JDone (addsS S k r (joinM K p c (needL r) 0 zero8)) K c k r p := fun m hm => by
  rw [addsS_I]; exact List.mem_append_right _ (List.mem_map.2 ⟨m, hm, rfl⟩)
/-- two numberings of a safe rule with the same facts for its needs -/
theorem insOf_same {k : Nat} {r : RRule} (hr : AtR r.1 ∧ ∀ b, b ∈ r.2 → AtR b.2) (hs : SafeR r) {x mu : List Int} (h : ∀ a, a ∈ needL r → ∀ t, t ∈ a.2 → numOf x t = numOf mu t) : insOf k r x = insOf k r mu := by
  have hv : ∀ t, VarR r t → numOf x t = numOf mu t := fun t ht => by
    by_cases h0 : 0 ≤ t
    · have h7 : t ≤ 7 := by
        rcases ht with ht | ⟨b, hb, ht⟩
        · exact (hr.1.2.2 t ht).2
        · exact ((hr.2 b hb).2.2 t ht).2
      obtain ⟨b, hb, hn, hbt⟩ := hs t h0 (by omega) ht
      exact h b.2 (mem_needL.2 ⟨b, hb, hn, rfl⟩) t hbt
    · rw [numOf_neg h0, numOf_neg h0]
  have hg : ∀ a : RAt, (∀ t, t ∈ a.2 → VarR r t) → gnd x a = gnd mu a := fun a ha => by
    unfold gnd
    rw [List.map_congr_left fun t ht => hv t (ha t ht)]
  unfold insOf
  rw [hg r.1 fun t ht => .inl ht]
  congr 1
  · refine List.map_congr_left fun b hb => ?_
    rw [hg b.2 fun t ht => .inr ⟨b, (List.mem_filter.1 hb).1, ht⟩]
  · refine List.map_congr_left fun b hb => ?_
    rw [hg b.2 fun t ht => .inr ⟨b, (List.mem_filter.1 hb).1, ht⟩]
theorem pcd_rel {f : RAt} (h : FcR f) : pcd f / 49 = f.1 := by
  rcases fc_cases h with ⟨r, a, rfl, h1, h2⟩ | ⟨r, a, b, rfl, h1, h2, h3⟩
  · simp [pcd]; omega
  · simp [pcd]; omega
/-- with the newest fact -/
theorem Full.step {l : List RRule} (hl : RuV l) (hsf : ∀ r, r ∈ l → SafeR r) {S : PSt} {Q : List Int} {c : Int} (h : Full l S Q) {K : Nat → List Int} (hK : ∀ t, t < 6 → K t = (Q ++ [c]).filter fun x => decide (x / 49 = (t : Int)))
    (hJ : ∀ k r, l[k]? = some r → ∀ p, p < (needL r).length → JDone S K c k r p) : Full l S (Q ++ [c]) := fun k r m hk hm hn => by
  have hrl := List.mem_of_getElem? hk
  have hr := hl r hrl
  by_cases ho : ∀ b, b ∈ r.2 → b.1 = false → pcd (gnd m b.2) ∈ Q
  · exact h k r m hk hm ho
  · have hfc : ∀ a, a ∈ needL r → AtR a ∧ FcR (gnd m a) ∧ pcd (gnd m a) ∈ K a.1.toNat := fun a ha => by
      obtain ⟨b, hb, h2, e⟩ := mem_needL.1 ha
      have hat := hr.2 b hb
      have hfc : FcR (gnd m b.2) := gnd_fc hat fun t ht => hm t (.inr ⟨b, hb, ht⟩)
      rw [← e]
      refine ⟨hat, hfc, ?_⟩
      rw [hK _ (rel_lt hat), List.mem_filter]
      refine ⟨hn b hb h2, ?_⟩
      rw [pcd_rel hfc]
      simp only [decide_eq_true_eq]
      have := hat.1
      show b.2.1 = _
      omega
    have hex : ∃ j, j < (needL r).length ∧ ∀ h : j < (needL r).length, pcd (gnd m (needL r)[j]) = c := by
      refine Classical.byContradiction fun hno => ho fun b hb h2 => ?_
      have ha := mem_needL.2 ⟨b, hb, h2, rfl⟩
      obtain ⟨j, hj, e⟩ := List.getElem_of_mem ha
      rcases List.mem_append.1 (hn b hb h2) with q | q
      · exact q
      · rw [List.mem_singleton] at q
        exact absurd ⟨j, hj, fun _ => by rw [e]; exact q⟩ hno
    obtain ⟨p, hp, hpc, hbf⟩ := first_of (p := fun j => ∀ h : j < (needL r).length, pcd (gnd m (needL r)[j]) = c) _ hex
    obtain ⟨x, hx, _, he⟩ := joinM_full (K := K) (place := p) (c := c) (mu := m) (needL r) hfc 0 (fun j hj => by
      unfold skipJ
      rw [Nat.zero_add]
      by_cases e1 : j < p
      · have := hbf j e1
        have : pcd (gnd m (needL r)[j]) ≠ c := fun q => this fun _ => q
        have e3 : (j == p) = false := by simp; omega
        simp [this, e3]
      · by_cases e2 : j = p
        · subst e2
          have := hpc hj
          simp [this]
        · have e3 : (j == p) = false := by simp; exact e2
          simp [e1, e3]) zero8 rfl (fun i _ h0 => absurd (zero8_at i) h0)
    rw [← insOf_same hr (hsf r hrl) he]
    exact hJ k r hk p hp x hx
/-- rules that need nothing -/
theorem Full.start {l : List RRule} (hl : RuV l) (hsf : ∀ r, r ∈ l → SafeR r) {S : PSt} (h : ∀ k r, l[k]? = some r → needL r = [] → insOf k r zero8 ∈ S.I) : Full l S [] := fun k r m hk hm hn => by
  have hrl := List.mem_of_getElem? hk
  have he : needL r = [] := by
    cases e : needL r with
    | nil => rfl
    | cons a q =>
      obtain ⟨b, hb, h2, _⟩ := mem_needL.1 (show a ∈ needL r from by rw [e]; simp)
      exact absurd (hn b hb h2) (by simp)
  rw [insOf_same (x := m) (mu := zero8) (hl r hrl) (hsf r hrl) fun a ha => by rw [he] at ha; cases ha]
  exact h k r hk he
/-- a rule that needs nothing has no variables -/
theorem num_zero {r : RRule} (hr : AtR r.1 ∧ ∀ b, b ∈ r.2 → AtR b.2) (hs : SafeR r) (he : needL r = []) : Num6 r zero8 := num_safe hr hs fun a ha => by rw [he] at ha; cases ha
theorem flatMap_len {α β : Type} {f : α → List β} {B : Nat} (hB : ∀ x, (f x).length ≤ B) : ∀ l : List α, (l.flatMap f).length ≤ l.length * B
  | [] => by simp
  | x :: l => by
    rw [List.flatMap_cons, List.length_append, List.length_cons, Nat.add_mul]
    have := flatMap_len hB l
    have := hB x
    omega
/-- few facts of a relation -/
theorem rel_few {L : List Int} (hn : L.Nodup) {t : Nat} (h : ∀ x, x ∈ L → (∃ f, FcR f ∧ pcd f = x) ∧ x / 49 = (t : Int)) : L.length ≤ 42 := by
  have := len_le hn (m := (List.range 42).map fun (i : Nat) => (t : Int) * 49 + 7 + (i : Int)) fun x hx => by
    obtain ⟨⟨f, hf, e⟩, ht⟩ := h x hx
    rw [← e, pcd_rel hf] at ht
    refine List.mem_map.2 ⟨(x - (t : Int) * 49 - 7).toNat, List.mem_range.2 ?_, ?_⟩ <;> rcases fc_cases hf with ⟨r, a, rfl, h1, h2⟩ | ⟨r, a, b, rfl, h1, h2, h3⟩ <;> simp [pcd] at e ht <;> omega
  simpa using this
theorem joinM_len {K : Nat → List Int} (hK : ∀ t, (K t).length ≤ 42) (place : Nat) (c : Int) : ∀ (q : List RAt) (k : Nat) (m : List Int), (joinM K place c q k m).length ≤ 42 ^ q.length
  | [], k, m => by simp [joinM]
  | a :: q, k, m => by
    unfold joinM
    refine Nat.le_trans (flatMap_len (B := 42 ^ q.length) (fun x => ?_) _) ?_
    · split
      · simp
      · split
        · exact joinM_len hK place c q (k + 1) _
        · simp
    · rw [List.length_cons, Nat.pow_succ, Nat.mul_comm]
      exact Nat.mul_le_mul_left _ (hK _)
theorem pow42 {n : Nat} (h : n ≤ 3) : 42 ^ n ≤ 74088 := by
  match n, h with
  | 0, _ | 1, _ | 2, _ | 3, _ => decide
/-- the program in the end -/
structure Gd (l : List RRule) (fs : List RAt) (S : PSt) : Prop where
  gr : Ground l S.I S.rch
  giv : ∀ f, f ∈ fs → S.rch (pcd f)
  cnt : ∀ c, KOk c → ∀ i (h : i < S.I.length), (S.R (2 + c.toNat)).count (i : Int) = S.I[i].need.count c
  mem : ∀ c, KOk c → ∀ x, x ∈ S.R (2 + c.toNat) → ∃ i : Nat, x = i ∧ i < S.I.length
  le : S.I.length ≤ 1000000000
theorem gd_of {l : List RRule} {fs : List RAt} {S : PSt} {Q : List Int} (h : GI l S Q) (he : S.R 303 = []) (hc : Clo S) (hf : Full l S Q) (hg : ∀ f, f ∈ fs → S.rch (pcd f)) (hle : S.I.length ≤ 1000000000) : Gd l fs S := by
  have hq : ∀ x, S.rch x ↔ x ∈ Q := fun x => by rw [h.rch, he, List.append_nil]
  exact ⟨⟨h.sound, fun k r m h1 h2 h3 => hf k r m h1 h2 fun b hb hn => (hq _).1 (h3 b hb hn), hc⟩, hg, h.cnt, h.mem, hle⟩
/-- all that holds under way -/
structure G2 (l : List RRule) (fs : List RAt) (S : PSt) (Q : List Int) (b : Nat) : Prop where
  gi : GI l S Q
  clo : Clo S
  rl : RL S (20 + Q.length)
  le : S.I.length ≤ b
  giv : ∀ f, f ∈ fs → S.rch (pcd f)
theorem G2.adds {l : List RRule} {fs : List RAt} (hl : RuV l) {S : PSt} {Q : List Int} {b : Nat} (h : G2 l fs S Q b) {k : Nat} {r : RRule} (hk : l[k]? = some r) (h3 : r.2.length ≤ 3) {ms : List (List Int)} (hm : ∀ m, m ∈ ms → Num6 r m) {x : Nat} (hx : ms.length ≤ x) : G2 l fs (addsS S k r ms) Q (b + x) :=
  ⟨h.gi.adds hl hk ms hm, h.clo.adds ms, RL.adds h3 ms h.rl, by rw [addsS_I, List.length_append, List.length_map]; have := h.le; omega, fun f hf => (addsS_rch k r ms S _).2 (.inl (h.giv f hf))⟩
theorem G2.up {l : List RRule} {fs : List RAt} {S : PSt} {Q : List Int} {b b' : Nat} (h : G2 l fs S Q b) (hb : b ≤ b') : G2 l fs S Q b' := ⟨h.gi, h.clo, h.rl, Nat.le_trans h.le hb, h.giv⟩
theorem G2.pop {l : List RRule} {fs : List RAt} {S : PSt} {Q : List Int} {b : Nat} (h : G2 l fs S Q b) {c : Int} {q : List Int} (hq : S.R 303 = c :: q) : G2 l fs (popS S c q) (Q ++ [c]) b :=
  ⟨h.gi.pop hq, h.clo, by rw [List.length_append, List.length_singleton]; exact h.rl.pop hq, h.le, h.giv⟩
/-- the rules before k that need nothing have their instances -/
def Zer (l : List RRule) (S : PSt) (k : Nat) : Prop := ∀ k' r, k' < k → l[k']? = some r → needL r = [] → insOf k' r zero8 ∈ S.I
/-- the rules before k are joined with the newest fact -/
def JAll (l : List RRule) (S : PSt) (K : Nat → List Int) (c : Int) (k : Nat) : Prop := ∀ k' r, k' < k → l[k']? = some r → ∀ p, p < (needL r).length → JDone S K c k' r p
theorem JAll.more {l : List RRule} {S : PSt} {K : Nat → List Int} {c : Int} {k : Nat} (h : JAll l S K c k) (k' : Nat) (r' : RRule) (ms : List (List Int)) : JAll l (addsS S k' r' ms) K c k := fun k2 r2 h1 h2 p hp => (h k2 r2 h1 h2 p hp).more k' r' ms
theorem JAll.next {l : List RRule} {S : PSt} {K : Nat → List Int} {c : Int} {k : Nat} (h : JAll l S K c k) {r : RRule} (hk : l[k]? = some r) (hp : ∀ p, p < (needL r).length → JDone S K c k r p) : JAll l S K c (k + 1) := fun k2 r2 h1 h2 p hp2 => by
  by_cases e : k2 = k
  · subst e
    rw [hk] at h2
    injection h2 with h2
    subst h2
    exact hp p hp2
  · exact h k2 r2 (by omega) h2 p hp2
/-- what is known when the newest fact is -/
def knK (Q : List Int) (t : Nat) : List Int := Q.filter fun x => decide (x / 49 = (t : Int))
theorem knK_42 {l : List RRule} {S : PSt} {Q : List Int} (h : GI l S Q) (t : Nat) : (knK Q t).length ≤ 42 := rel_few ((List.filter_sublist).nodup (List.nodup_append.1 h.nod).1) fun x hx => by
  obtain ⟨h1, h2⟩ := List.mem_filter.1 hx
  exact ⟨h.ok x (List.mem_append_left _ h1), by simpa using h2⟩
theorem knK_v {l : List RRule} {S : PSt} {Q : List Int} (h : GI l S Q) : KnV (knK Q) := fun _ _ x hx => h.ok x (List.mem_append_left _ (List.mem_filter.1 hx).1)
theorem join_74088 {l : List RRule} {S : PSt} {Q : List Int} (h : GI l S Q) (place : Nat) (c : Int) {r : RRule} (h3 : r.2.length ≤ 3) : (joinM (knK Q) place c (needL r) 0 zero8).length ≤ 74088 :=
  Nat.le_trans (joinM_len (knK_42 h) place c (needL r) 0 zero8) (pow42 (Nat.le_trans (needL_len r) h3))
theorem G2.room {l : List RRule} {fs : List RAt} {S : PSt} {Q : List Int} {b n : Nat} (h : G2 l fs S Q b) (hb : b ≤ 700000000) (hq : Q.length ≤ 294) (hn : n ≤ 74088) : ShN n S := by
  have h1 := h.le
  refine ⟨by omega, fun j => ?_⟩
  have := h.rl j
  omega
#print axioms Full.step
#print axioms gd_of
end Go.Proofs.Ythndplkjhbmfmaa
