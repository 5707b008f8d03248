/- Matches: plain facts, of no program. -/
namespace Go.Proofs.Ythndplkjhbmfmaa
/-- the number that a match gives a term -/
def numOf (v : List Int) (t : Int) : Int := if 0 ≤ t then v.getD t.toNat 0 else -t
/-- a match with the variables of terms what stands beside them, if it agrees -/
def ext : List Int → List (Int × Int) → Option (List Int)
  | v, [] => some v
  | v, (t, x) :: r => if numOf (if 0 ≤ t ∧ v.getD t.toNat 0 = 0 then v.set t.toNat x else v) t = x then ext (if 0 ≤ t ∧ v.getD t.toNat 0 = 0 then v.set t.toNat x else v) r else none
def okP (l : List (Int × Int)) : Prop := ∀ p, p ∈ l → 1 ≤ p.2 ∧ p.1 ≤ 7
/-- w is v with the variables of l, and gives the terms of l what stands beside them -/
structure ExtP (v : List Int) (l : List (Int × Int)) (w : List Int) : Prop where
  len : w.length = 8
  old : ∀ i, i < 8 → v.getD i 0 ≠ 0 → w.getD i 0 = v.getD i 0
  fit : ∀ p, p ∈ l → numOf w p.1 = p.2
  new : ∀ i, i < 8 → v.getD i 0 = 0 → w.getD i 0 ≠ 0 → ∃ x, ((i : Int), x) ∈ l
theorem getD_set {v : List Int} {i j : Nat} {x : Int} (hi : i < v.length) : (v.set i x).getD j 0 = if j = i then x else v.getD j 0 := by
  rw [List.getD_eq_getElem?_getD, List.getElem?_set, List.getD_eq_getElem?_getD]
  by_cases e : i = j
  · subst e; simp [hi]
  · rw [if_neg e, if_neg (fun q => e q.symm)]
theorem list8 {v w : List Int} (hv : v.length = 8) (hw : w.length = 8) (h : ∀ i, i < 8 → v.getD i 0 = w.getD i 0) : v = w := by
  refine List.ext_getElem (by omega) fun i h1 h2 => ?_
  have := h i (by omega)
  rw [List.getD_eq_getElem?_getD, List.getElem?_eq_getElem h1, List.getD_eq_getElem?_getD, List.getElem?_eq_getElem h2] at this
  exact this
theorem ext_iff : ∀ {l : List (Int × Int)} {v w : List Int}, v.length = 8 → okP l → (ext v l = some w ↔ ExtP v l w)
  | [], v, w, hv, _ => by
    rw [ext]
    constructor
    · rintro ⟨⟩
      exact ⟨hv, fun _ _ _ => rfl, fun p hp => by simp at hp, fun i _ h1 h2 => absurd h1 h2⟩
    · intro h
      refine congrArg some (list8 hv h.len fun i hi => ?_)
      by_cases e : v.getD i 0 = 0
      · rw [e]
        refine Classical.byContradiction fun c => ?_
        obtain ⟨x, hx⟩ := h.new i hi e (fun q => c q.symm)
        simp at hx
      · exact (h.old i hi e).symm
  | (t, x) :: r, v, w, hv, ho => by
    have hx : 1 ≤ x ∧ t ≤ 7 := ho (t, x) (by simp)
    have hr : okP r := fun p hp => ho p (by simp [hp])
    rw [ext]
    by_cases c : 0 ≤ t ∧ v.getD t.toNat 0 = 0
    · rw [if_pos c]
      have ht : t.toNat < v.length := by omega
      have hlen : (v.set t.toNat x).length = 8 := by simp [hv]
      have hn : numOf (v.set t.toNat x) t = x := by unfold numOf; rw [if_pos c.1, getD_set ht, if_pos rfl]
      rw [if_pos hn, ext_iff hlen hr]
      constructor
      · intro h
        have hw : w.getD t.toNat 0 = x := by
          have := h.old t.toNat (by omega) (by rw [getD_set ht, if_pos rfl]; omega)
          rwa [getD_set ht, if_pos rfl] at this
        refine ⟨h.len, fun i hi q => ?_, fun p hp => ?_, fun i hi q1 q2 => ?_⟩
        · by_cases e : i = t.toNat
          · subst e; exact absurd c.2 q
          · have := h.old i hi (by rw [getD_set ht, if_neg e]; exact q)
            rwa [getD_set ht, if_neg e] at this
        · rcases List.mem_cons.1 hp with rfl | hp
          · unfold numOf; rw [if_pos c.1]; exact hw
          · exact h.fit p hp
        · by_cases e : i = t.toNat
          · subst e; exact ⟨x, by rw [Int.toNat_of_nonneg c.1]; simp⟩
          · obtain ⟨y, hy⟩ := h.new i hi (by rw [getD_set ht, if_neg e]; exact q1) q2
            exact ⟨y, by simp [hy]⟩
      · intro h
        have hw : w.getD t.toNat 0 = x := by
          have := h.fit (t, x) (by simp)
          unfold numOf at this
          rwa [if_pos c.1] at this
        refine ⟨h.len, fun i hi q => ?_, fun p hp => h.fit p (by simp [hp]), fun i hi q1 q2 => ?_⟩
        · rw [getD_set ht] at q ⊢
          by_cases e : i = t.toNat
          · subst e; rw [if_pos rfl]; exact hw
          · rw [if_neg e] at q ⊢; exact h.old i hi q
        · rw [getD_set ht] at q1
          by_cases e : i = t.toNat
          · subst e; rw [if_pos rfl] at q1; omega
          · rw [if_neg e] at q1
            obtain ⟨y, hy⟩ := h.new i hi q1 q2
            rcases List.mem_cons.1 hy with hy | hy
            · injection hy with hy _
              exact absurd (by omega) e
            · exact ⟨y, hy⟩
    · rw [if_neg c]
      by_cases hn : numOf v t = x
      · rw [if_pos hn, ext_iff hv hr]
        constructor
        · intro h
          refine ⟨h.len, h.old, fun p hp => ?_, fun i hi q1 q2 => ?_⟩
          · rcases List.mem_cons.1 hp with rfl | hp
            · unfold numOf at hn ⊢
              by_cases c0 : 0 ≤ t
              · rw [if_pos c0] at hn ⊢
                rw [h.old t.toNat (by omega) (fun q => c ⟨c0, q⟩)]; exact hn
              · rw [if_neg c0] at hn ⊢; exact hn
            · exact h.fit p hp
          · obtain ⟨y, hy⟩ := h.new i hi q1 q2
            exact ⟨y, by simp [hy]⟩
        · intro h
          refine ⟨h.len, h.old, fun p hp => h.fit p (by simp [hp]), fun i hi q1 q2 => ?_⟩
          obtain ⟨y, hy⟩ := h.new i hi q1 q2
          rcases List.mem_cons.1 hy with hy | hy
          · injection hy with hy _
            refine absurd ⟨by omega, ?_⟩ c
            rw [← hy]; simpa using q1
          · exact ⟨y, hy⟩
      · rw [if_neg hn]
        refine ⟨fun q => (by cases q), fun h => absurd ?_ hn⟩
        have := h.fit (t, x) (by simp)
        unfold numOf at this ⊢
        by_cases c0 : 0 ≤ t
        · rw [if_pos c0] at this ⊢
          rw [← h.old t.toNat (by omega) (fun q => c ⟨c0, q⟩)]; exact this
        · rw [if_neg c0] at this ⊢; exact this
abbrev At' := Int × List Int
/-- extends a match by one that gives an atom a fact -/
def extA (v : List Int) (a f : At') : Option (List Int) := if a.1 = f.1 ∧ a.2.length = f.2.length then ext v (a.2.zip f.2) else none
/-- the atoms are ones, and the facts are -/
def AtOk (a : At') : Prop := ∀ t, t ∈ a.2 → t ≤ 7
def FcOk (f : At') : Prop := ∀ x, x ∈ f.2 → 1 ≤ x
def occ (body : List At') (i : Nat) : Prop := ∃ a, a ∈ body ∧ (i : Int) ∈ a.2
/-- w gives the atom a the fact f -/
def Gives (w : List Int) (a f : At') : Prop := a.1 = f.1 ∧ a.2.map (numOf w) = f.2
/-- w is a match of a body in facts -/
structure MaP (facts body : List At') (w : List Int) : Prop where
  len : w.length = 8
  fit : ∀ a, a ∈ body → ∃ f, f ∈ facts ∧ Gives w a f
  sup : ∀ i, i < 8 → (w.getD i 0 ≠ 0 ↔ occ body i)
theorem zip_fit {g : Int → Int} : ∀ {l m : List Int}, l.length = m.length → ((∀ p, p ∈ l.zip m → g p.1 = p.2) ↔ l.map g = m)
  | [], [], _ => by simp
  | x :: l, y :: m, h => by
    have := zip_fit (g := g) (l := l) (m := m) (by simpa using h)
    simp only [List.zip_cons_cons, List.map_cons, List.cons.injEq]
    rw [← this]
    constructor
    · intro q
      exact ⟨q (x, y) (by simp), fun p hp => q p (by simp [hp])⟩
    · rintro ⟨q1, q2⟩ p hp
      rcases List.mem_cons.1 hp with rfl | hp
      · exact q1
      · exact q2 p hp
theorem mem_zip {l m : List Int} (h : l.length = m.length) {t : Int} (ht : t ∈ l) : ∃ x, (t, x) ∈ l.zip m := by
  obtain ⟨i, hi, rfl⟩ := List.getElem_of_mem ht
  exact ⟨m[i], List.mem_iff_getElem.2 ⟨i, by simp; omega, by simp⟩⟩
theorem okP_zip {a f : At'} (ha : AtOk a) (hf : FcOk f) : okP (a.2.zip f.2) := fun p hp => by
  have := List.of_mem_zip hp
  exact ⟨hf _ this.2, ha _ this.1⟩
theorem extA_iff {v w : List Int} {a f : At'} (hv : v.length = 8) (ha : AtOk a) (hf : FcOk f) : extA v a f = some w ↔ Gives w a f ∧ w.length = 8 ∧ (∀ i, i < 8 → v.getD i 0 ≠ 0 → w.getD i 0 = v.getD i 0) ∧ ∀ i, i < 8 → v.getD i 0 = 0 → w.getD i 0 ≠ 0 → (i : Int) ∈ a.2 := by
  unfold extA Gives
  by_cases h : a.1 = f.1 ∧ a.2.length = f.2.length
  · rw [if_pos h, ext_iff hv (okP_zip ha hf)]
    constructor
    · intro e
      exact ⟨⟨h.1, (zip_fit h.2).1 e.fit⟩, e.len, e.old, fun i hi q1 q2 => by
        obtain ⟨x, hx⟩ := e.new i hi q1 q2
        exact (List.of_mem_zip hx).1⟩
    · rintro ⟨⟨_, h2⟩, h3, h4, h5⟩
      exact ⟨h3, h4, (zip_fit h.2).2 h2, fun i hi q1 q2 => mem_zip h.2 (h5 i hi q1 q2)⟩
  · rw [if_neg h]
    refine ⟨fun q => (by cases q), fun q => absurd ⟨q.1.1, ?_⟩ h⟩
    rw [← q.1.2, List.length_map]
theorem gives_var {w : List Int} {a f : At'} (h : Gives w a f) (hf : FcOk f) {i : Nat} (hi : (i : Int) ∈ a.2) : w.getD i 0 ≠ 0 := by
  have : numOf w i ∈ f.2 := by rw [← h.2]; exact List.mem_map_of_mem hi
  have := hf _ this
  unfold numOf at this
  rw [if_pos (by omega)] at this
  simp only [Int.toNat_natCast] at this
  omega
theorem gives_same {v w : List Int} {a f : At'} (h : ∀ i : Nat, (i : Int) ∈ a.2 → v.getD i 0 = w.getD i 0) : Gives v a f ↔ Gives w a f := by
  have e : a.2.map (numOf v) = a.2.map (numOf w) := by
    refine List.map_congr_left fun t ht => ?_
    unfold numOf
    by_cases c : 0 ≤ t
    · rw [if_pos c, if_pos c]
      exact h t.toNat (by rw [Int.toNat_of_nonneg c]; exact ht)
    · rw [if_neg c, if_neg c]
  unfold Gives
  rw [e]
theorem occ_snoc {body : List At'} {a : At'} {i : Nat} : occ (body ++ [a]) i ↔ occ body i ∨ (i : Int) ∈ a.2 := by
  unfold occ
  constructor
  · rintro ⟨b, hb, hi⟩
    rcases List.mem_append.1 hb with hb | hb
    · exact .inl ⟨b, hb, hi⟩
    · rw [List.mem_singleton] at hb
      subst hb; exact .inr hi
  · rintro (⟨b, hb, hi⟩ | hi)
    · exact ⟨b, by simp [hb], hi⟩
    · exact ⟨a, by simp, hi⟩
theorem maP_snoc {facts body : List At'} {a : At'} (hb : ∀ b, b ∈ body → AtOk b) (ha : AtOk a) (hf : ∀ f, f ∈ facts → FcOk f) (w : List Int) : MaP facts (body ++ [a]) w ↔ ∃ v f, MaP facts body v ∧ f ∈ facts ∧ extA v a f = some w := by
  open Classical in
  constructor
  · intro h
    obtain ⟨f, hfm, hg⟩ := h.fit a (by simp)
    have hlen := h.len
    refine ⟨(List.range 8).map (fun i => if occ body i then w.getD i 0 else 0), f, ?_, hfm, ?_⟩
    · have hget : ∀ i, i < 8 → ((List.range 8).map (fun i => if occ body i then w.getD i 0 else 0)).getD i 0 = if occ body i then w.getD i 0 else 0 := fun i hi => by
        rw [List.getD_eq_getElem?_getD, List.getElem?_map, List.getElem?_range hi]; rfl
      refine ⟨by simp, fun b hbm => ?_, fun i hi => ?_⟩
      · obtain ⟨f', hf', hg'⟩ := h.fit b (by simp [hbm])
        refine ⟨f', hf', (gives_same fun i hi => ?_).1 hg'⟩
        have hi8 : i < 8 := by have := hb b hbm _ hi; omega
        rw [hget i hi8, if_pos ⟨b, hbm, hi⟩]
      · rw [hget i hi]
        by_cases c : occ body i
        · rw [if_pos c]
          exact ⟨fun _ => c, fun _ => (h.sup i hi).2 (occ_snoc.2 (.inl c))⟩
        · rw [if_neg c]
          exact ⟨fun q => absurd rfl q, fun q => absurd q c⟩
    · have hget : ∀ i, i < 8 → ((List.range 8).map (fun i => if occ body i then w.getD i 0 else 0)).getD i 0 = if occ body i then w.getD i 0 else 0 := fun i hi => by
        rw [List.getD_eq_getElem?_getD, List.getElem?_map, List.getElem?_range hi]; rfl
      rw [extA_iff (by simp) ha (hf f hfm)]
      refine ⟨hg, hlen, fun i hi q => ?_, fun i hi q1 q2 => ?_⟩
      · rw [hget i hi] at q ⊢
        by_cases c : occ body i
        · rw [if_pos c]
        · rw [if_neg c] at q; exact absurd rfl q
      · rw [hget i hi] at q1
        by_cases c : occ body i
        · rw [if_pos c] at q1; exact absurd q1 q2
        · rcases occ_snoc.1 ((h.sup i hi).1 q2) with r | r
          · exact absurd r c
          · exact r
  · rintro ⟨v, f, hv, hfm, he⟩
    obtain ⟨hg, hlen, h1, h2⟩ := (extA_iff hv.len ha (hf f hfm)).1 he
    refine ⟨hlen, fun b hbm => ?_, fun i hi => ?_⟩
    · rcases List.mem_append.1 hbm with hbm | hbm
      · obtain ⟨f', hf', hg'⟩ := hv.fit b hbm
        refine ⟨f', hf', (gives_same fun i hi => ?_).1 hg'⟩
        have hi8 : i < 8 := by have := hb b hbm _ hi; omega
        exact (h1 i hi8 ((hv.sup i hi8).2 ⟨b, hbm, hi⟩)).symm
      · rw [List.mem_singleton] at hbm
        subst hbm; exact ⟨f, hfm, hg⟩
    · rw [occ_snoc]
      constructor
      · intro q
        by_cases c : v.getD i 0 = 0
        · exact .inr (h2 i hi c q)
        · exact .inl ((hv.sup i hi).1 c)
      · rintro (q | q)
        · have := (hv.sup i hi).2 q
          rw [h1 i hi this]; exact this
        · exact gives_var hg (hf f hfm) q
theorem maP_nil {facts : List At'} (w : List Int) : MaP facts [] w ↔ w = [0, 0, 0, 0, 0, 0, 0, 0] := by
  constructor
  · intro h
    refine list8 h.len rfl fun i hi => ?_
    have := h.sup i hi
    have e : w.getD i 0 = 0 := Classical.byContradiction fun q => by
      obtain ⟨a, ha, _⟩ := this.1 q
      simp at ha
    rw [e]
    rcases i with _ | _ | _ | _ | _ | _ | _ | _ | i <;> first | rfl | omega
  · rintro rfl
    refine ⟨rfl, fun a ha => by simp at ha, fun i hi => ⟨fun q => absurd ?_ q, fun ⟨a, ha, _⟩ => by simp at ha⟩⟩
    rcases i with _ | _ | _ | _ | _ | _ | _ | _ | i <;> first | rfl | omega
/-- two matches that one match comes from are one -/
theorem maP_from {facts body : List At'} {a : At'} (ha : AtOk a) (hf : ∀ f, f ∈ facts → FcOk f) {v v' w : List Int} {f f' : At'} (hv : MaP facts body v) (hv' : MaP facts body v') (hfm : f ∈ facts) (hfm' : f' ∈ facts) (h : extA v a f = some w) (h' : extA v' a f' = some w) : v = v' ∧ f = f' := by
  obtain ⟨g, l, h1, h2⟩ := (extA_iff hv.len ha (hf f hfm)).1 h
  obtain ⟨g', l', h1', h2'⟩ := (extA_iff hv'.len ha (hf f' hfm')).1 h'
  constructor
  · refine list8 hv.len hv'.len fun i hi => ?_
    by_cases c : occ body i
    · rw [← h1 i hi ((hv.sup i hi).2 c), ← h1' i hi ((hv'.sup i hi).2 c)]
    · have e1 : v.getD i 0 = 0 := Classical.byContradiction fun q => c ((hv.sup i hi).1 q)
      have e2 : v'.getD i 0 = 0 := Classical.byContradiction fun q => c ((hv'.sup i hi).1 q)
      rw [e1, e2]
  · exact Prod.ext (g.1.symm.trans g'.1) (g.2.symm.trans g'.2)
/-! ### the matches as a list -/
def stepL (facts : List At') (a : At') (now : List (List Int)) : List (List Int) := now.flatMap fun v => facts.filterMap (extA v a)
/-- the matches of the first k atoms, each once where no fact is there twice -/
def mL (facts body : List At') : Nat → List (List Int)
  | 0 => [[0, 0, 0, 0, 0, 0, 0, 0]]
  | k + 1 => stepL facts (body.getD k (0, [])) (mL facts body k)
structure Ok (facts body : List At') : Prop where
  b : ∀ b, b ∈ body → AtOk b
  f : ∀ f, f ∈ facts → FcOk f
theorem take_get {body : List At'} {k : Nat} (hk : k < body.length) : body.take (k + 1) = body.take k ++ [body.getD k (0, [])] := by
  rw [List.take_succ_eq_append_getElem hk, List.getD_eq_getElem?_getD, List.getElem?_eq_getElem hk]; rfl
theorem getA_mem {body : List At'} {k : Nat} (hk : k < body.length) : body.getD k (0, []) ∈ body := by
  rw [List.getD_eq_getElem?_getD, List.getElem?_eq_getElem hk]; exact List.getElem_mem hk
theorem mem_stepL {facts : List At'} {a : At'} {now : List (List Int)} {w : List Int} : w ∈ stepL facts a now ↔ ∃ v f, v ∈ now ∧ f ∈ facts ∧ extA v a f = some w := by
  unfold stepL
  rw [List.mem_flatMap]
  constructor
  · rintro ⟨v, hv, h⟩
    obtain ⟨f, hf, e⟩ := List.mem_filterMap.1 h
    exact ⟨v, f, hv, hf, e⟩
  · rintro ⟨v, f, hv, hf, e⟩
    exact ⟨v, hv, List.mem_filterMap.2 ⟨f, hf, e⟩⟩
theorem mem_mL {facts body : List At'} (ok : Ok facts body) {w : List Int} : ∀ k, k ≤ body.length → (w ∈ mL facts body k ↔ MaP facts (body.take k) w)
  | 0, _ => by rw [mL, List.take_zero, maP_nil]; simp
  | k + 1, hk => by
    have hm := getA_mem (show k < body.length by omega)
    rw [mL, mem_stepL, take_get (by omega), maP_snoc (fun b hb => ok.b b (List.mem_of_mem_take hb)) (ok.b _ hm) ok.f]
    constructor
    · rintro ⟨v, f, h1, h2, h3⟩
      exact ⟨v, f, (mem_mL ok k (by omega)).1 h1, h2, h3⟩
    · rintro ⟨v, f, h1, h2, h3⟩
      exact ⟨v, f, (mem_mL ok k (by omega)).2 h1, h2, h3⟩
theorem nodup_filterMap {α β : Type} {f : α → Option β} : ∀ {l : List α}, l.Nodup → (∀ x y z, x ∈ l → y ∈ l → f x = some z → f y = some z → x = y) → (l.filterMap f).Nodup
  | [], _, _ => by simp
  | a :: l, hn, h => by
    obtain ⟨h1, h2⟩ := List.nodup_cons.1 hn
    have ih := nodup_filterMap (f := f) h2 fun x y z hx hy => h x y z (by simp [hx]) (by simp [hy])
    cases e : f a with
    | none => rw [List.filterMap_cons_none e]; exact ih
    | some z =>
      rw [List.filterMap_cons_some e]
      refine List.nodup_cons.2 ⟨fun q => ?_, ih⟩
      obtain ⟨y, hy, e2⟩ := List.mem_filterMap.1 q
      exact h1 (h a y z (by simp) (by simp [hy]) e e2 ▸ hy)
theorem nodup_flatMap {α β : Type} {f : α → List β} : ∀ {l : List α}, l.Nodup → (∀ x, x ∈ l → (f x).Nodup) → (∀ x y z, x ∈ l → y ∈ l → z ∈ f x → z ∈ f y → x = y) → (l.flatMap f).Nodup
  | [], _, _, _ => by simp
  | a :: l, hn, h1, h2 => by
    obtain ⟨g1, g2⟩ := List.nodup_cons.1 hn
    rw [List.flatMap_cons]
    refine List.nodup_append.2 ⟨h1 a (by simp), nodup_flatMap g2 (fun x hx => h1 x (by simp [hx])) fun x y z hx hy => h2 x y z (by simp [hx]) (by simp [hy]), fun x hx y hy e => ?_⟩
    subst e
    obtain ⟨b, hb, hxb⟩ := List.mem_flatMap.1 hy
    exact g1 (h2 a b x (by simp) (by simp [hb]) hx hxb ▸ hb)
theorem nodup_mL {facts body : List At'} (ok : Ok facts body) (hn : facts.Nodup) : ∀ k, k ≤ body.length → (mL facts body k).Nodup
  | 0, _ => by simp [mL]
  | k + 1, hk => by
    have hm := getA_mem (show k < body.length by omega)
    rw [mL]
    refine nodup_flatMap (nodup_mL ok hn k (by omega)) (fun v hv => nodup_filterMap hn fun f f' w hf hf' e e' => ?_) fun v v' w hv hv' hw hw' => ?_
    · have hM := (mem_mL ok k (by omega)).1 hv
      exact (maP_from (ok.b _ hm) ok.f hM hM hf hf' e e').2
    · obtain ⟨f, hf, e⟩ := List.mem_filterMap.1 hw
      obtain ⟨f', hf', e'⟩ := List.mem_filterMap.1 hw'
      exact (maP_from (ok.b _ hm) ok.f ((mem_mL ok k (by omega)).1 hv) ((mem_mL ok k (by omega)).1 hv') hf hf' e e').1
/-- matches ask only which facts there are -/
theorem maP_same {facts facts' body : List At'} (h : ∀ f, f ∈ facts ↔ f ∈ facts') (w : List Int) : MaP facts body w ↔ MaP facts' body w :=
  ⟨fun q => ⟨q.len, fun a ha => (q.fit a ha).elim fun f r => ⟨f, (h f).1 r.1, r.2⟩, q.sup⟩, fun q => ⟨q.len, fun a ha => (q.fit a ha).elim fun f r => ⟨f, (h f).2 r.1, r.2⟩, q.sup⟩⟩
#print axioms nodup_mL
#print axioms maP_from
#print axioms maP_snoc
end Go.Proofs.Ythndplkjhbmfmaa
