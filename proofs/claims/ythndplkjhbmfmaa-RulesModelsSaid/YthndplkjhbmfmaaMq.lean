/- Math: the sets of matches, atom by atom. -/
import Derived.Test.YthndplkjhbmfmaaMm
namespace Go.Proofs.Ythndplkjhbmfmaa
/-- a match -/
def Vok (v : List Int) : Prop := v.length = 8 ∧ ∀ x, x ∈ v → 0 ≤ x ∧ x ≤ 99
theorem getA_at {l : List At'} {i : Nat} (h : i < l.length) : l.getD i (0, []) = l[i] := by
  rw [List.getD_eq_getElem?_getD, List.getElem?_eq_getElem h]; rfl
theorem len_le {α : Type} : ∀ {l m : List α}, l.Nodup → (∀ x, x ∈ l → x ∈ m) → l.length ≤ m.length
  | [], _, _, _ => Nat.zero_le _
  | x :: l, m, hn, h => by
    obtain ⟨h1, h2⟩ := List.nodup_cons.1 hn
    obtain ⟨a, b, rfl⟩ := List.append_of_mem (h x (by simp))
    have := len_le (l := l) (m := a ++ b) h2 (fun y hy => by
      have := h y (by simp [hy])
      simp only [List.mem_append, List.mem_cons] at this ⊢
      rcases this with h | rfl | h
      · exact .inl h
      · exact absurd hy h1
      · exact .inr h)
    simp only [List.length_append, List.length_cons] at *; omega
theorem len_same {α : Type} {l m : List α} (hl : l.Nodup) (hm : m.Nodup) (h : ∀ x, x ∈ l ↔ x ∈ m) : l.length = m.length := by
  have a := len_le hl (fun x hx => (h x).1 hx)
  have b := len_le hm (fun x hx => (h x).2 hx)
  omega
/-- the numbers of facts -/
def FcB (f : At') : Prop := ∀ x, x ∈ f.2 → 1 ≤ x ∧ x ≤ 99
structure OkB (facts body : List At') : Prop where
  b : ∀ b, b ∈ body → AtOk b
  f : ∀ f, f ∈ facts → FcB f
theorem OkB.ok {facts body : List At'} (h : OkB facts body) : Ok facts body := ⟨h.b, fun f hf x hx => (h.f f hf x hx).1⟩
theorem vok_of_maP {facts body : List At'} (h : OkB facts body) {w : List Int} (hw : MaP facts body w) : Vok w := by
  refine ⟨hw.len, fun x hx => ?_⟩
  obtain ⟨i, hi, rfl⟩ := List.getElem_of_mem hx
  have e : w.getD i 0 = w[i] := by rw [List.getD_eq_getElem?_getD, List.getElem?_eq_getElem hi]; rfl
  have hl := hw.len
  by_cases z : w[i] = 0
  · omega
  · obtain ⟨a, ha, hia⟩ := (hw.sup i (by omega)).1 (by rw [e]; exact z)
    obtain ⟨f, hf, _, hg⟩ := hw.fit a ha
    have hm : numOf w (i : Int) ∈ f.2 := by rw [← hg]; exact List.mem_map.2 ⟨_, hia, rfl⟩
    have hn : numOf w (i : Int) = w[i] := by unfold numOf; rw [if_pos (by omega), Int.toNat_natCast, e]
    rw [hn] at hm
    have := h.f f hf _ hm
    omega
theorem OkB.take {facts body : List At'} (h : OkB facts body) (k : Nat) : OkB facts (body.take k) := ⟨fun b hb => h.b b (List.mem_of_mem_take hb), h.f⟩
/-- the matches of the first k atoms, and then one more -/
theorem maP_take {facts body : List At'} (h : OkB facts body) {k : Nat} (hk : k < body.length) (w : List Int) :
    MaP facts (body.take (k + 1)) w ↔ ∃ v f, MaP facts (body.take k) v ∧ f ∈ facts ∧ extA v (body.getD k (0, [])) f = some w := by
  rw [take_get hk]
  exact maP_snoc (fun b hb => h.b b (List.mem_of_mem_take hb)) (h.b _ (getA_mem hk)) h.ok.f w
/-- the first k atoms have more matches than there may be -/
def BigAt (facts body : List At') (k : Nat) : Prop := ∃ L : List (List Int), L.Nodup ∧ (∀ v, v ∈ L → MaP facts (body.take k) v) ∧ 20000 < L.length
def Big (facts body : List At') : Prop := ∃ k, 0 < k ∧ k ≤ body.length ∧ BigAt facts body k
theorem bigAt_iff {facts F' body : List At'} (h : OkB facts body) (hn : F'.Nodup) (hm : ∀ f, f ∈ F' ↔ f ∈ facts) {k : Nat} (hk : k ≤ body.length) : BigAt facts body k ↔ 20000 < (mL F' body k).length := by
  have ok : Ok F' body := ⟨h.b, fun f hf => h.ok.f f ((hm f).1 hf)⟩
  have hmem : ∀ v, v ∈ mL F' body k ↔ MaP facts (body.take k) v := fun v => (mem_mL ok k hk).trans (maP_same hm v)
  constructor
  · rintro ⟨L, h1, h2, h3⟩
    have := len_le h1 (m := mL F' body k) fun v hv => (hmem v).2 (h2 v hv)
    omega
  · intro hb
    exact ⟨_, nodup_mL ok hn k hk, fun v hv => (hmem v).1 hv, hb⟩
theorem bigAt_same {facts facts' body : List At'} (h : ∀ f, f ∈ facts ↔ f ∈ facts') {k : Nat} : BigAt facts body k ↔ BigAt facts' body k :=
  ⟨fun ⟨L, a, b, c⟩ => ⟨L, a, fun v hv => (maP_same h v).1 (b v hv), c⟩, fun ⟨L, a, b, c⟩ => ⟨L, a, fun v hv => (maP_same h v).2 (b v hv), c⟩⟩
theorem big_same {facts facts' body : List At'} (h : ∀ f, f ∈ facts ↔ f ∈ facts') : Big facts body ↔ Big facts' body :=
  ⟨fun ⟨k, a, b, c⟩ => ⟨k, a, b, (bigAt_same h).1 c⟩, fun ⟨k, a, b, c⟩ => ⟨k, a, b, (bigAt_same h).2 c⟩⟩
/-- what has come of the matches that are gone through, of the first k atoms -/
def Came (facts body : List At') (k : Nat) (q : List Int → Prop) (x : List Int) : Prop := ∃ v f, MaP facts (body.take k) v ∧ ¬ q v ∧ f ∈ facts ∧ extA v (body.getD k (0, [])) f = some x
theorem came_maP {facts body : List At'} (h : OkB facts body) {k : Nat} (hk : k < body.length) {q : List Int → Prop} {x : List Int} (hc : Came facts body k q x) : MaP facts (body.take (k + 1)) x := by
  obtain ⟨v, f, h1, _, h3, h4⟩ := hc
  exact (maP_take h hk x).2 ⟨v, f, h1, h3, h4⟩
theorem came_all {facts body : List At'} (h : OkB facts body) {k : Nat} (hk : k < body.length) {q : List Int → Prop} (hq : ∀ v, ¬ q v) (x : List Int) : Came facts body k q x ↔ MaP facts (body.take (k + 1)) x :=
  ⟨came_maP h hk, fun hx => by
    obtain ⟨v, f, h1, h2, h3⟩ := (maP_take h hk x).1 hx
    exact ⟨v, f, h1, hq v, h2, h3⟩⟩
theorem came_none {facts body : List At'} {k : Nat} (x : List Int) : Came facts body k (MaP facts (body.take k)) x ↔ False :=
  ⟨fun ⟨_, _, h1, h2, _⟩ => h2 h1, fun h => h.elim⟩
/-- .. and of the first j facts with v -/
def CameV (facts body : List At') (k : Nat) (q : List Int → Prop) (v : List Int) (j : Nat) (x : List Int) : Prop := Came facts body k q x ∨ ∃ i, i < j ∧ extA v (body.getD k (0, [])) (facts.getD i (0, [])) = some x
theorem camev_none {facts body : List At'} {k : Nat} {q : List Int → Prop} {v x : List Int} : CameV facts body k q v 0 x ↔ Came facts body k q x :=
  ⟨fun h => h.elim id fun ⟨_, h, _⟩ => by omega, .inl⟩
theorem camev_yes {facts body : List At'} {k : Nat} {q : List Int → Prop} {v y : List Int} {j : Nat} (h : extA v (body.getD k (0, [])) (facts.getD j (0, [])) = some y) (x : List Int) : (CameV facts body k q v j x ∨ x = y) ↔ CameV facts body k q v (j + 1) x := by
  constructor
  · rintro ((h | ⟨i, hi, e⟩) | rfl)
    · exact .inl h
    · exact .inr ⟨i, by omega, e⟩
    · exact .inr ⟨j, by omega, h⟩
  · rintro (h | ⟨i, hi, e⟩)
    · exact .inl (.inl h)
    · by_cases c : i = j
      · subst c; rw [h] at e; exact .inr (Option.some.inj e).symm
      · exact .inl (.inr ⟨i, by omega, e⟩)
theorem camev_no {facts body : List At'} {k : Nat} {q : List Int → Prop} {v : List Int} {j : Nat} (h : extA v (body.getD k (0, [])) (facts.getD j (0, [])) = none) (x : List Int) : CameV facts body k q v j x ↔ CameV facts body k q v (j + 1) x := by
  constructor
  · rintro (h | ⟨i, hi, e⟩)
    · exact .inl h
    · exact .inr ⟨i, by omega, e⟩
  · rintro (h | ⟨i, hi, e⟩)
    · exact .inl h
    · by_cases c : i = j
      · subst c; rw [h] at e; cases e
      · exact .inr ⟨i, by omega, e⟩
theorem camev_all {facts body : List At'} {k : Nat} {q : List Int → Prop} {v : List Int} (hv : MaP facts (body.take k) v) (x : List Int) :
    CameV facts body k q v facts.length x ↔ Came facts body k (fun z => q z ∧ z ≠ v) x := by
  constructor
  · rintro (⟨u, f, h1, h2, h3, h4⟩ | ⟨i, hi, e⟩)
    · exact ⟨u, f, h1, fun h => h2 h.1, h3, h4⟩
    · exact ⟨v, _, hv, fun h => h.2 rfl, by rw [getA_at hi]; exact List.getElem_mem hi, e⟩
  · rintro ⟨u, f, h1, h2, h3, h4⟩
    by_cases c : q u
    · have : u = v := Classical.byContradiction fun h => h2 ⟨c, h⟩
      subst this
      obtain ⟨i, hi, e⟩ := List.getElem_of_mem h3
      refine .inr ⟨i, hi, ?_⟩
      rw [getA_at hi, e]; exact h4
    · exact .inl ⟨u, f, h1, c, h3, h4⟩
theorem camev_maP {facts body : List At'} (h : OkB facts body) {k : Nat} (hk : k < body.length) {q : List Int → Prop} {v : List Int} (hv : MaP facts (body.take k) v) {j : Nat} (hj : j ≤ facts.length) {x : List Int} (hc : CameV facts body k q v j x) : MaP facts (body.take (k + 1)) x := by
  rcases hc with hc | ⟨i, hi, e⟩
  · exact came_maP h hk hc
  · exact (maP_take h hk x).2 ⟨v, _, hv, by rw [getA_at (by omega : i < facts.length)]; exact List.getElem_mem _, e⟩
#print axioms camev_all
end Go.Proofs.Ythndplkjhbmfmaa
