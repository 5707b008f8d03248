/- Contracts of slices.Clone, few, Table. -/
import Derived.Test.YtnidalbfmicoiaaWalkT
import Derived.WalkSpells
namespace Go.Proofs.Ytnidalbfmicoiaa
open Go.RowKit

/-- ints in a row of the call's own -/
def OwnInts (base : Nat) (w : World) (v : Value) (l : List Int) : Prop := w.ownsRow base 3 1 v l.length (l.map (Value.int .i64))
theorem OwnInts.ints {base : Nat} {w : World} {v : Value} {l : List Int} (h : OwnInts base w v l) : Ints w v l := by
  have := owns_rd h
  simpa [Ints] using this
theorem OwnInts.keep {base : Nat} {w w' : World} {v : Value} {l : List Int} (h : OwnInts base w v l) (hb : Below w.heap.size w w') : OwnInts base w' v l := owns_keep h hb
theorem owns_base {w : World} {base base' : Nat} {e : TypeId} {size : Nat} {v : Value} {n : Nat} {xs : List Value} (h : w.ownsRow base e size v n xs) (hb : base' ≤ base) : w.ownsRow base' e size v n xs := by
  obtain ⟨h1, h2⟩ := h
  refine ⟨h1, ?_⟩
  rcases h2 with h2 | ⟨g, cap, cur, a, b, r⟩
  · exact .inl h2
  · exact .inr ⟨g, cap, cur, a, by omega, r⟩
/-- two rows of different element types lie apart -/
theorem own_slice {base : Nat} {w : World} {v : Value} {l : List Int} (h : OwnInts base w v l) : ∃ a n c, v = .slice a n c := by
  rcases h.2 with ⟨rfl, _⟩ | ⟨g, cap, cur, rfl, _⟩ <;> exact ⟨_, _, _, rfl⟩
theorem own_one {base : Nat} {w : World} {v : Value} {l : List Int} (h : OwnInts base w v l) : v.oneCell' = true := by
  rcases h.2 with ⟨rfl, _⟩ | ⟨g, cap, cur, rfl, _⟩ <;> rfl
theorem rows_apart {w : World} {b1 b2 : Nat} {e1 e2 : TypeId} {s1 s2 : Nat} {u v : Value} {n1 n2 : Nat} {xs ys : List Value} (h : w.ownsRow b1 e1 s1 u n1 xs) (k : w.ownsRow b2 e2 s2 v n2 ys) (he : e1 ≠ e2) : u.ownBlock = none ∨ u.ownBlock ≠ v.ownBlock := by
  rcases h.2 with ⟨rfl, _⟩ | ⟨g, cap, cur, rfl, _, hg, _⟩
  · exact .inl rfl
  · right
    rcases k.2 with ⟨rfl, _⟩ | ⟨g', cap', cur', rfl, _, hg', _⟩
    · simp [Value.ownBlock]
    · simp only [Value.ownBlock, ne_eq, Option.some.injEq]
      intro e
      subst e
      rw [hg] at hg'
      injection hg' with h1
      injection h1 with _ h2
      exact he h2
theorem clone_any (l : List Int) (v : Value) (w : World) (hl : l.length ≤ 1000000) (hv : Ints w v l) :
    Calls Try.prog 66 #[v] w fun e w' => ∃ v', e = .returned v' ∧ OwnInts w.heap.size w' v' l ∧ Below w.heap.size w w' := by
  obtain ⟨a, b, off, cap, rfl, hle, ha, hc⟩ := Ints.get hv
  cases a with
  | none =>
    have h0 : l = [] := by
      cases l with
      | nil => rfl
      | cons x l => exact absurd (ha (by simp)) (by simp)
    subst h0
    have heq := fun w' => Lib.run_eql_slice_nil (P := Try.prog) w' 56 3 none 0 cap 0 0 Try.underlying56
    clear hc ha hle hv
    go_enter Try.func66, Try.ntmps66
    go_wp2
    go_ret
    exact ⟨_, rfl, World.ownsRow_nil _ _ _ _, Below.refl _ _⟩
  | some ad =>
    have hnews : ∀ j u, (l.map (Value.int .i64))[j]? = some u → w.cell? (ad.add j) = some u := by
      intro j u hj
      have hjl : j < l.length := by
        have := (List.getElem?_eq_some_iff.1 hj).1
        simpa using this
      have e := Option.some.inj (ha (by omega))
      rw [e, Addr.add_lit, hc j hjl]
      simpa [hjl] using hj
    have hown : (w.alloc (.cells #[] 3)).ownsRow w.heap.size 3 1 (.slice (some ⟨w.heap.size, 0, none⟩) 0 0) 0 [] := World.ownsRow_lit w #[] 0 (Nat.le_refl _) (by unfold maxLen; omega) rfl
    have heq := fun w' => Lib.run_eql_slice_nil (P := Try.prog) w' 56 3 (some ad) l.length cap 0 0 Try.underlying56
    have Hn := Lib.hid hnews
    have Hown := Lib.hid hown
    clear hc ha hv hnews hown
    go_enter Try.func66, Try.ntmps66
    go_wp2_with (at_builtin; refine append_own_at rfl (.tmp 5) (.tmp 6) 56 rfl elem56 rfl Hown.out (l.map (Value.int .i64)) rfl ?c1 ?c2 ?c3 ?c4 ?c5 ?_)
    case c1 => simp
    case c2 => intro j u hj; exact Below.keep (below_alloc _ _) (Hn.out j u hj)
    case c3 => exact ints_oneCell _ _
    case c4 => omega
    case c5 => simp
    intro v' w' h1 h2 _
    have hR : OwnInts w.heap.size w' v' l := by
      unfold OwnInts
      simpa using h1
    have HR := Lib.hid hR
    have HB := Lib.hid (show Below w.heap.size w w' from (below_alloc _ _).trans h2)
    clear hR h1 h2
    go_wp2
    go_ret
    exact ⟨_, rfl, HR.out, HB.out⟩

/-- what few makes of a table -/
def fewR (R : List (List Int)) : List (List Int) := (R.take 62).map (·.take 10)
/-- the rows that few has copied -/
def FewRow (base : Nat) (R : List (List Int)) (w : World) (o : Value) (k : Nat) : Prop :=
  ∃ vs : List Value, vs.length = k ∧ w.ownsRow base 56 1 o k vs ∧ ∀ i (h : i < vs.length) (h' : i < R.length), OwnInts base w vs[i] (R[i].take 10)
theorem FewRow.keep {base k : Nat} {R : List (List Int)} {w w' : World} {o : Value} (h : FewRow base R w o k) (hb : Below w.heap.size w w') : FewRow base R w' o k := by
  obtain ⟨vs, h1, h2, h3⟩ := h
  exact ⟨vs, h1, owns_keep h2 hb, fun i a b => (h3 i a b).keep hb⟩
theorem FewRow.rows {base k : Nat} {R : List (List Int)} {w : World} {o : Value} (h : FewRow base R w o k) (hk : k = min 62 R.length) : Rows w o (fewR R) := by
  obtain ⟨vs, h1, h2, h3⟩ := h
  have hl : (fewR R).length = k := by simp [fewR, hk]
  refine ⟨vs, by omega, by rw [hl]; exact owns_rd h2, fun i a b => ?_⟩
  have := (h3 i b (by omega)).ints
  simpa [fewR] using this
theorem FewRow.step {base k : Nat} {R : List (List Int)} {w1 w2 : World} {o v' u : Value} {vs : List Value} (h1 : vs.length = k) (h2 : w1.ownsRow base 56 1 o k vs) (h3 : ∀ i (h : i < vs.length) (h' : i < R.length), OwnInts base w1 vs[i] (R[i].take 10))
    (hk : k < R.length) (hu : OwnInts base w1 u (R[k].take 10)) (h4 : w2.ownsRow base 56 1 v' (k + 1) (vs ++ [u])) (hg : w1.grownBy w2 o.ownBlock) : FewRow base R w2 v' (k + 1) := by
  refine ⟨vs ++ [u], by simp [h1], h4, fun i a b => ?_⟩
  have key : ∀ z l, OwnInts base w1 z l → OwnInts base w2 z l := fun z l hz => World.ownsRow.kept hz hg (rows_apart hz h2 (by decide))
  by_cases e : i < vs.length
  · rw [List.getElem_append_left e]; exact key _ _ (h3 i e b)
  · have : i = k := by simp at a; omega
    subst this
    rw [List.getElem_append_right (by omega)]
    simp [h1]
    exact key _ _ hu

set_option maxRecDepth 100000 in
theorem few_any (R : List (List Int)) (v : Value) (w : World) (hv : Rows w v R) :
    Calls Try.prog 47 #[v] w fun e w' => ∃ v', e = .returned v' ∧ Rows w' v' (fewR R) ∧ Below w.heap.size w w' := by
  obtain ⟨a, b, off, cap, vs, rfl, hle, ha, hvs, hc, hr⟩ := Rows.get hv
  have hix := run_ix (P := Try.prog) (t := 34) (a := a) (len := R.length) (cap := cap) (b := b) (off := off) (s := 1) Try.underlying34 (by intro w; kernel_rfl) ha
  simp only [Nat.mul_one] at hix
  have Hc := Lib.hid hc
  have Hr := Lib.hid hr
  have Hvs := Lib.hid hvs
  clear ha hv hc hr hvs
  go_enter Try.func47, Try.ntmps47
  go_wp2
  go_loopw [3, 8] (fun o i wr => ∃ k : Nat, i = .int .i64 k ∧ k ≤ R.length ∧ k ≤ 62 ∧ Below w.heap.size w wr ∧ FewRow w.heap.size R wr o k) (fun _ i _ => R.length - (intOf i).toNat)
  case atStart => exact ⟨0, rfl, Nat.zero_le _, by omega, Below.refl _ _, [], rfl, World.ownsRow_nil _ _ _ _, fun i h => by simp at h⟩
  case round =>
    obtain ⟨k, rfl, hk, hk62, hb, hown⟩ := hrel
    have Hb := Lib.hid hb
    have Hown := Lib.hid hown
    clear hb hown
    by_cases hlt : k < R.length
    · have hv1 := Hvs.out
      have hc1 := Below.keep Hb.out (Hc.out k (by omega))
      have hint := Hr.out k hlt (by omega)
      obtain ⟨a1, b1, off1, cap1, hv2, hle1, ha1, hcc1⟩ := Ints.get hint
      rw [hv2] at hc1 hint
      by_cases h62 : k < 62
      · have hsl := run_to (P := Try.prog) (t := 56) (a := a1) (len := R[k].length) (cap := cap1) (s := 1) Try.underlying56 (by intro w; kernel_rfl) hint.cap
        have hsub : ∀ q, q = min R[k].length 10 → Ints wr (.slice a1 q cap1) (R[k].take 10) := by
          intro q hq
          have hlen : (R[k].take 10).length = q := by simp [hq]; omega
          refine ⟨by simp, by have := Rd.cap hint; unfold maxLen; omega, a1, b1, off1, cap1, by rw [hlen], ⟨fun h => ha1 (by omega), by have := hint.cap; omega⟩, fun j hj => ?_⟩
          have hj' : j < q := by simpa [hq, Nat.min_comm] using hj
          have := Below.keep Hb.out (hcc1 j (by omega))
          simpa using this
        have Hq := Lib.hid (show (R[k].take 10).length ≤ 1000000 by simp; omega)
        have Hsb := Lib.hid hsub
        have hsl10 : ∀ w, 10 < R[k].length → (Instr.slice 56 (.slice a1 R[k].length cap1) none (some (.int .i64 10)) none).run Try.prog w = .ok (.slice a1 10 cap1) w := fun w h => hsl 10 w (by omega)
        clear hint hcc1 ha1 hv2 hsub hv1
        rcases Nat.lt_or_ge 10 R[k].length with h10 | h10
        all_goals
          first
          | have Hsub := Lib.hid (Hsb.out 10 (by omega))
          | have Hsub := Lib.hid (Hsb.out R[k].length (by omega))
          go_wp2_with fail
          refine (clone_any _ _ _ Hq.out Hsub.out).mono ?_
          rintro e w1 ⟨u, rfl, hu, hb1⟩
          obtain ⟨ua, un, uc, rfl⟩ := own_slice hu
          have Hb1 := Lib.hid (Below.tr Hb.out hb1)
          obtain ⟨xs, hx1, hx2, hx3⟩ := Hown.out.keep hb1
          have Hu := Lib.hid (owns_base (base' := w.heap.size) hu Hb.out.size)
          have Hx2 := Lib.hid hx2
          have Hx3 := Lib.hid hx3
          have Hx1 := Lib.hid hx1
          clear hu hb1 hx1 hx2 hx3
          go_wp2_with (at_builtin; refine append_own rfl (.tmp 15) (.tmp 22) 34 rfl elem34 rfl (World.ownsRow.alloc Hx2.out _) [.slice ua un uc] rfl rfl (by intro j z hj; go_simp) (by intro z hz; simp at hz; subst hz; rfl) (by omega) (by simp; have := Hb1.out.size; omega) ?_)
          intro v' w2 h1 h2 h3
          have R2 := FewRow.step Hx1.out (World.ownsRow.alloc Hx2.out _) (fun i h h' => World.ownsRow.alloc (Hx3.out i h h') _) hlt (World.ownsRow.alloc Hu.out _) h1 h3
          have HR := Lib.hid R2
          have HB := Lib.hid (show Below w.heap.size w w2 from (Below.tr Hb1.out (below_alloc _ _)).trans h2)
          clear R2 h1 h2 h3
          go_wp2
          go_roundw
          case rel => exact ⟨k + 1, by go_num, by omega, by omega, HB.out, HR.out⟩
          case measure => simp [intOf]; omega
      · have HR := Lib.hid (Hown.out.rows (show k = min 62 R.length by omega))
        clear hint hcc1 ha1 hv2 hv1
        go_wp2
        go_ret
        exact ⟨_, rfl, HR.out, Hb.out⟩
    · obtain rfl : k = R.length := by omega
      have HR := Lib.hid (Hown.out.rows (show R.length = min 62 R.length by omega))
      go_wp2
      go_ret
      exact ⟨_, rfl, HR.out, Hb.out⟩

/-- a table of n attributes, n valid -/
def TblP (n : Int) (R : List (List Int)) : Prop := (1 ≤ n ∧ n ≤ 8) ∧ TableP n R
instance (n : Int) (R : List (List Int)) : Decidable (TblP n R) := inferInstanceAs (Decidable (_ ∧ _))
set_option maxRecDepth 100000 in
theorem table_any (n : Int) (R : List (List Int)) (v : Value) (w : World) (hv : Rows w v R) :
    Calls Try.prog 49 #[.int .i64 n, v] w fun e w' => e = .returned (.bool (decide (TblP n R))) ∧ w = w' := by
  obtain ⟨a, b, off, cap, vs, rfl, hle, ha, hvs, hc, hr⟩ := Rows.get hv
  have hix := run_ix (P := Try.prog) (t := 34) (a := a) (len := R.length) (cap := cap) (b := b) (off := off) (s := 1) Try.underlying34 (by intro w; kernel_rfl) ha
  simp only [Nat.mul_one] at hix
  have Hc := Lib.hid hc
  have Hr := Lib.hid hr
  have Hvs := Lib.hid hvs
  clear ha hv hc hr hvs
  go_enter Try.func49, Try.ntmps49
  go_wp2
  go_loop [9] (fun i => ∃ k : Nat, i = .int .i64 k ∧ k ≤ R.length ∧ AllTo (fun r : List Int => (r.length : Int) = n) R k) (fun i => R.length - (intOf i).toNat)
  case atStart => exact ⟨0, rfl, Nat.zero_le _, fun i _ h => by omega⟩
  case round =>
    obtain ⟨k, rfl, hk, hin⟩ := hrel
    have Hin := Lib.hid hin
    clear hin
    by_cases hlt : k < R.length
    · have hv1 := Hvs.out
      have hc1 := Hc.out k (by omega)
      obtain ⟨a1, b1, off1, cap1, hv2, _, _, _⟩ := Ints.get (Hr.out k hlt (by omega))
      rw [hv2] at hc1
      by_cases hE : ((R[k].length : Nat) : Int) = n
      · have t1 : (((R[k].length : Nat) : Int) != n) = false := by simpa using hE
        have HR := Lib.hid (Hin.out.step hlt hE)
        clear hE hv2
        go_wp2
        go_round
        case rel => exact ⟨k + 1, by go_num, by omega, HR.out⟩
        case measure => simp [intOf]; omega
      · have t1 : (((R[k].length : Nat) : Int) != n) = true := by simpa using hE
        have HR := Lib.hid (show decide (TblP n R) = false from decide_eq_false fun h => hE (h.2.2 _ (List.getElem_mem hlt)))
        clear hE hv2
        go_wp2
        go_ret
        exact ⟨congrArg (fun b => Ending.returned (.bool b)) HR.out.symm, rfl⟩
    · obtain rfl : k = R.length := by omega
      have hq : (¬ (1 ≤ n) ∧ decide (TblP n R) = false) ∨ (1 ≤ n ∧ ¬ (n ≤ 8) ∧ decide (TblP n R) = false) ∨ (1 ≤ n ∧ n ≤ 8 ∧ ¬ ((R.length : Int) ≤ 60) ∧ decide (TblP n R) = false) ∨ (1 ≤ n ∧ n ≤ 8 ∧ ((R.length : Int) ≤ 60) ∧ decide (TblP n R) = true) := by
        by_cases h1 : 1 ≤ n
        · by_cases h2 : n ≤ 8
          · by_cases h3 : R.length ≤ 60
            · exact .inr (.inr (.inr ⟨h1, h2, by omega, decide_eq_true ⟨⟨h1, h2⟩, h3, Hin.out.all⟩⟩))
            · exact .inr (.inr (.inl ⟨h1, h2, by omega, decide_eq_false fun h => h3 h.2.1⟩))
          · exact .inr (.inl ⟨h1, h2, decide_eq_false fun h => h2 h.1.2⟩)
        · exact .inl ⟨h1, decide_eq_false fun h => h1 h.1.1⟩
      rcases hq with ⟨h1, h4⟩ | ⟨h1, h2, h4⟩ | ⟨h1, h2, h3, h4⟩ | ⟨h1, h2, h3, h4⟩
      all_goals
        have H4 := Lib.hid h4
        clear h4
        go_wp2
        go_ret
        exact ⟨congrArg (fun b => Ending.returned (.bool b)) H4.out.symm, rfl⟩
theorem fewR_table {n : Int} {R : List (List Int)} (h : TblP n R) : fewR R = R := by
  unfold fewR
  have h60 := h.2.1
  rw [List.take_of_length_le (by omega)]
  apply List.ext_getElem (by simp)
  intro i h1 h2
  rw [List.getElem_map, List.take_of_length_le]
  have := h.2.2 _ (List.getElem_mem h2)
  have := h.1.2
  omega
end Go.Proofs.Ytnidalbfmicoiaa
