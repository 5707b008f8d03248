/- The shortest absent string: of no program. -/
import Derived.Test.YtbnlkmblkokooaaMat
namespace Go.Proofs.Ytbnlkmblkokooaa
open Go

/-- all strings of k letters, in order -/
def lvl (L : Bs) : Nat → List Bs
  | 0 => [[]]
  | k + 1 => (lvl L k).flatMap fun s => L.map fun c => s ++ [c]
theorem lvl_len {L : Bs} : ∀ {k : Nat} {s : Bs}, s ∈ lvl L k → s.length = k
  | 0, s, h => by simp [lvl] at h; subst h; rfl
  | k + 1, s, h => by
    simp only [lvl, List.mem_flatMap, List.mem_map] at h
    obtain ⟨u, hu, c, _, rfl⟩ := h
    rw [List.length_append, lvl_len hu]; rfl
theorem lvl_ne {L : Bs} (h : L ≠ []) : ∀ k, lvl L k ≠ []
  | 0 => by simp [lvl]
  | k + 1 => by
    obtain ⟨c, L', rfl⟩ := List.exists_cons_of_ne_nil h
    obtain ⟨u, m, e⟩ := List.exists_cons_of_ne_nil (lvl_ne h k)
    simp [lvl, e]
theorem nodup_map {α β : Type} {f : α → β} (hf : ∀ a b, f a = f b → a = b) : ∀ {l : List α}, l.Nodup → (l.map f).Nodup
  | [], _ => List.nodup_nil
  | a :: l, h => by
    rw [List.nodup_cons] at h
    rw [List.map_cons, List.nodup_cons]
    refine ⟨fun g => ?_, nodup_map hf h.2⟩
    obtain ⟨b, hb, e⟩ := List.mem_map.1 g
    rw [hf _ _ e] at hb
    exact h.1 hb
theorem lvl_nodup {L : Bs} (h : L.Nodup) : ∀ k, (lvl L k).Nodup
  | 0 => by simp [lvl]
  | k + 1 => by
    have ih := lvl_nodup h k
    show ((lvl L k).flatMap fun s => L.map fun c => s ++ [c]).Nodup
    generalize lvl L k = M at *
    induction M with
    | nil => simp
    | cons u m ihm =>
      rw [List.nodup_cons] at ih
      rw [List.flatMap_cons, List.nodup_append]
      refine ⟨nodup_map (fun a b e => by simpa using e) h, ihm ih.2, ?_⟩
      intro x hx y hy e
      subst e
      obtain ⟨c, _, rfl⟩ := List.mem_map.1 hx
      obtain ⟨v, hv, hx2⟩ := List.mem_flatMap.1 hy
      obtain ⟨d, _, e⟩ := List.mem_map.1 hx2
      have : v = u := (List.append_inj' e rfl).1
      subst this
      exact ih.1 hv
/-- different numbers below n are at most n -/
theorem nodup_lt : ∀ {n : Nat} {l : List Nat}, l.Nodup → (∀ x ∈ l, x < n) → l.length ≤ n
  | 0, [], _, _ => Nat.le_refl _
  | 0, a :: _, _, h => by have := h a (by simp); omega
  | n + 1, l, hd, h => by
    by_cases hm : n ∈ l
    · have h2 := nodup_lt (n := n) (l := l.erase n) (hd.erase n) (fun x hx => by
        have h3 := h x (List.mem_of_mem_erase hx)
        have : x ≠ n := fun e => by subst e; exact hd.not_mem_erase hx
        omega)
      rw [List.length_erase_of_mem hm] at h2
      omega
    · have := nodup_lt (n := n) hd (fun x hx => by
        have h3 := h x hx
        have : x ≠ n := fun e => by subst e; exact hm hx
        omega)
      omega
/-- strings of one length that all occur are at most as many as places -/
theorem occ_few {t : Bs} {k : Nat} {m : List Bs} (hd : m.Nodup) (hk : ∀ s ∈ m, s.length = k) (ho : ∀ s ∈ m, Lib.contains t s = true) : m.length ≤ t.length + 1 := by
  have hf : ∀ s ∈ m, ∃ j, j < t.length + 1 ∧ s = (t.drop j).take k := fun s hs => by
    obtain ⟨j, hj, h⟩ := (contains_iff t s).1 (ho s hs)
    unfold Lib.occAt at h
    rw [List.isPrefixOf_iff_prefix, List.prefix_iff_eq_take, hk s hs] at h
    exact ⟨j, by omega, h⟩
  have key : ∀ m : List Bs, m.Nodup → (∀ s ∈ m, ∃ j, j < t.length + 1 ∧ s = (t.drop j).take k) → ∃ is : List Nat, is.length = m.length ∧ is.Nodup ∧ ∀ i ∈ is, i < t.length + 1 ∧ (t.drop i).take k ∈ m := by
    intro m
    induction m with
    | nil => intro _ _; exact ⟨[], rfl, List.nodup_nil, fun i h => by simp at h⟩
    | cons s m ih =>
      intro hd hf
      rw [List.nodup_cons] at hd
      obtain ⟨is, h1, h2, h3⟩ := ih hd.2 fun s hs => hf s (by simp [hs])
      obtain ⟨j, hj, e⟩ := hf s (by simp)
      refine ⟨j :: is, by simp [h1], List.nodup_cons.2 ⟨fun hji => ?_, h2⟩, fun i hi => ?_⟩
      · have := (h3 j hji).2
        rw [← e] at this
        exact hd.1 this
      · rcases List.mem_cons.1 hi with rfl | hi
        · exact ⟨hj, by rw [← e]; simp⟩
        · exact ⟨(h3 i hi).1, by simp [(h3 i hi).2]⟩
  obtain ⟨is, h1, h2, h3⟩ := key m hd hf
  rw [← h1]
  exact nodup_lt h2 fun i hi => (h3 i hi).1
theorem occ_len {t s : Bs} (h : Lib.contains t s = true) : s.length ≤ t.length := by
  obtain ⟨j, _, h⟩ := (contains_iff t s).1 h
  have h2 := (List.isPrefixOf_iff_prefix.1 h).length_le
  rw [List.length_drop] at h2
  omega
/-- all strings of k letters occur in t -/
def Full (t L : Bs) (k : Nat) : Prop := ∀ s ∈ lvl L k, Lib.contains t s = true
/-- the first string that does not occur -/
def IsAbs (t L x : Bs) : Prop := ∃ k a : Nat, (∀ j : Nat, j ≤ k → Full t L j) ∧ (lvl L (k + 1))[a]? = some x ∧ Lib.contains t x = false ∧ ∀ (b : Nat) (y : Bs), b < a → (lvl L (k + 1))[b]? = some y → Lib.contains t y = true
theorem full_le {t L : Bs} (hL : L ≠ []) {k : Nat} (h : Full t L k) : k ≤ t.length := by
  obtain ⟨s, m, e⟩ := List.exists_cons_of_ne_nil (lvl_ne hL k)
  have hs : s ∈ lvl L k := by rw [e]; simp
  rw [← lvl_len hs]
  exact occ_len (h s hs)
theorem full_few {t L : Bs} (hd : L.Nodup) {k : Nat} (h : Full t L k) : (lvl L k).length ≤ t.length + 1 :=
  occ_few (lvl_nodup hd k) (fun _ hs => lvl_len hs) h
theorem isAbs_unique {t L x y : Bs} (h : IsAbs t L x) (g : IsAbs t L y) : x = y := by
  obtain ⟨k, a, h1, h2, h3, h4⟩ := h
  obtain ⟨k', a', g1, g2, g3, g4⟩ := g
  have hx : x ∈ lvl L (k + 1) := List.mem_of_getElem? h2
  have hy : y ∈ lvl L (k' + 1) := List.mem_of_getElem? g2
  obtain rfl : k = k' := by
    rcases Nat.lt_trichotomy k k' with e | e | e
    · have := g1 (k + 1) e x hx; rw [h3] at this; cases this
    · exact e
    · have := h1 (k' + 1) e y hy; rw [g3] at this; cases this
  rcases Nat.lt_trichotomy a a' with e | e | e
  · have := g4 a x e h2; rw [h3] at this; cases this
  · subst e; rw [h2] at g2; exact Option.some.inj g2
  · have := h4 a' y e g2; rw [g3] at this; cases this
theorem full_zero (t L : Bs) : Full t L 0 := fun s hs => by
  simp [lvl] at hs; subst hs
  exact (contains_iff t []).2 ⟨0, Nat.zero_le _, by simp [Lib.occAt]⟩
/-- what is done of the next level: all of the first a strings, and of the next one b letters -/
def part (L : Bs) (k a b : Nat) : List Bs := ((lvl L k).take a).flatMap (fun s => L.map fun c => s ++ [c]) ++ (L.take b).map fun c => ((lvl L k).getD a []) ++ [c]
theorem part_zero (L : Bs) (k : Nat) : part L k 0 0 = [] := by simp [part]
theorem part_succ {L : Bs} {k a b : Nat} (hb : b < L.length) : part L k a (b + 1) = part L k a b ++ [((lvl L k).getD a []) ++ [L[b]]] := by
  unfold part
  rw [List.take_succ_eq_append_getElem hb, List.map_append, List.append_assoc]; rfl
theorem part_row {L : Bs} {k a : Nat} (ha : a < (lvl L k).length) : part L k a L.length = part L k (a + 1) 0 := by
  unfold part
  rw [List.take_succ_eq_append_getElem ha, List.flatMap_append, List.take_length, List.getD_eq_getElem?_getD, List.getElem?_eq_getElem ha]
  simp
theorem part_all (L : Bs) (k : Nat) : part L k (lvl L k).length 0 = lvl L (k + 1) := by
  unfold part
  rw [List.take_length]
  simp [lvl]
theorem part_prefix {L : Bs} {k a b : Nat} (ha : a < (lvl L k).length) : part L k a b <+: lvl L (k + 1) := by
  show _ <+: (lvl L k).flatMap _
  have h1 : (lvl L k) = (lvl L k).take a ++ (lvl L k)[a] :: (lvl L k).drop (a + 1) := by
    rw [List.getElem_cons_drop, List.take_append_drop]
  conv => rhs; rw [h1]
  rw [List.flatMap_append, List.flatMap_cons]
  unfold part
  rw [List.getD_eq_getElem?_getD, List.getElem?_eq_getElem ha]
  refine List.prefix_append_right_inj _ |>.2 ?_
  refine List.IsPrefix.trans ?_ (List.prefix_append _ _)
  simp only [Option.getD_some]
  exact (List.take_prefix _ _).map _
#print axioms isAbs_unique
#print axioms part_prefix
end Go.Proofs.Ytbnlkmblkokooaa
