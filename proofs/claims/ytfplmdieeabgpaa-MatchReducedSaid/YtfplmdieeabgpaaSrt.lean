/- Contract of slices.SortFunc over rows of ints, by slices.Compare. -/
import Derived.Test.YtfplmdieeabgpaaShl
import Derived.Test.YtfplmdieeabgpaaCpf
import Derived.Sort.OwnSortedInts
namespace Go.Proofs.Ytfplmdieeabgpaa
open Go.RowKit Go.Shelf Go.Lib Go.Sort
section
variable {α : Type} [Inhabited α] (enc : α → Value)
theorem holds_ofG {w : World} {g : Nat} {cur : Array Value} {e : TypeId} {ss : List α} (hb : w.heap[g]? = some (.cells cur e (0, 0))) (ht : cur.toList.take ss.length = ss.map enc) : Holds enc w g 0 ss.toArray := by
  intro j hj
  have hj' : j < ss.length := by simpa using hj
  refine ⟨?_, by simp [World.frozen?, hb]⟩
  have h1 : (cur.toList.take ss.length)[j]? = (ss.map enc)[j]? := by rw [ht]
  rw [List.getElem?_take_of_lt hj'] at h1
  simp only [World.cell?, hb, Nat.zero_add, Option.isSome_none, Bool.false_eq_true, if_false]
  rw [← Array.getElem?_toList, h1]
  simp [hj']
theorem heap_srt {w : World} {g n : Nat} {os : Array Obj} {cur : Array Value} {e : TypeId} {fr : Nat × Nat} (d : Array α) (hb : w.heap[g]? = some (.cells cur e fr)) :
    (sortWorld enc w g 0 n d os).heap[g]? = some (.cells (putCells enc 0 d cur) e fr) := by
  have hg : g < w.heap.size := (Array.getElem?_eq_some_iff.1 hb).1
  unfold sortWorld
  rw [heap_grow_old _ _ (by simpa using hg)]
  simp [putRow, mapBlock, Sort.ahead, Array.getElem?_modify, hb, onCells]
theorem grownBy_srt {w : World} {g n : Nat} {os : Array Obj} (d : Array α) : w.grownBy (sortWorld enc w g 0 n d os) (some g) := by
  refine ⟨rfl, rfl, rfl, by simp [sortWorld], fun k hk hne => ?_⟩
  unfold sortWorld
  rw [heap_grow_old _ _ (by simpa using hk)]
  have : g ≠ k := fun e => hne (by rw [e])
  simp [putRow, mapBlock, Sort.ahead, Array.getElem?_modify, this]
theorem take_put (cur : Array Value) (ts : List α) (h : ts.length ≤ cur.size) : (putCells enc 0 ts.toArray cur).toList.take ts.length = ts.map enc := by
  apply List.ext_getElem?
  intro j
  by_cases hj : j < ts.length
  · rw [List.getElem?_take_of_lt hj, Array.getElem?_toList]
    simp [putCells, hj, show j < cur.size by omega]
  · rw [List.getElem?_take_eq_none (by omega), List.getElem?_eq_none (by simp; omega)]
theorem owns_srt {w : World} {base g cap n m : Nat} {e : TypeId} {os : Array Obj} {cur : Array Value} {ts : List α} (hl : ts.length = m) (hbase : base ≤ g) (hb : w.heap[g]? = some (.cells cur e (0, 0)))
    (h1 : m ≤ cap) (h2 : cap ≤ maxLen) (h3 : cur.size = cap * 1) :
    (sortWorld enc w g 0 n ts.toArray os).ownsRow base e 1 (.slice (some ⟨g, 0, none⟩) m cap) m (ts.map enc) :=
  ⟨by simp [hl], .inr ⟨g, cap, _, rfl, hbase, heap_srt enc _ hb, h1, h2, by simp [putCells, h3], by rw [Nat.mul_one, ← hl]; exact take_put enc cur ts (by omega)⟩⟩
end
/-- a row of the world's own, with what it reads as -/
structure RowIn (base : Nat) (w : World) where
  v : Value
  l : List Int
  h : OwnInts base w v l
instance (base : Nat) (w : World) : Inhabited (RowIn base w) := ⟨⟨.slice none 0 0, [], ownInts_nil base w⟩⟩
def encR {base : Nat} {w : World} (p : RowIn base w) : Value := p.v
def cfR {base : Nat} {w : World} (p q : RowIn base w) : Int := cmpL p.l q.l
theorem lt_true {base : Nat} {w : World} {p q : RowIn base w} : ltOf cfR p q = true ↔ cmpL p.l q.l < 0 := by unfold ltOf cfR; exact decide_eq_true_iff
theorem lt_false {base : Nat} {w : World} {p q : RowIn base w} : ltOf cfR p q = false ↔ ¬ cmpL p.l q.l < 0 := by unfold ltOf cfR; exact decide_eq_false_iff_not
theorem cmpL_wk {x y z : List Int} (h1 : ¬ cmpL x y < 0) (h2 : ¬ cmpL y z < 0) : ¬ cmpL x z < 0 := by
  have a := cmpL_swap x y
  have b := cmpL_swap y z
  have c := cmpL_swap x z
  by_cases e1 : cmpL x y = 0
  · rw [cmpL_eq e1]; exact h2
  · by_cases e2 : cmpL y z = 0
    · rw [← cmpL_eq e2]; exact h1
    · have := cmpL_trans (x := z) (y := y) (z := x) (by omega) (by omega)
      omega
theorem swoR (base : Nat) (w : World) : SWO (ltOf (cfR (base := base) (w := w))) :=
  ⟨fun x => lt_false.2 (by rw [cmpL_refl]; omega), fun x y z h1 h2 => lt_true.2 (cmpL_trans (lt_true.1 h1) (lt_true.1 h2)), fun x y z h1 h2 => lt_false.2 (cmpL_wk (lt_false.1 h1) (lt_false.1 h2))⟩
theorem ext_self {α : Type} (d : Array α) (m : Nat) (h : d.size = m) : d.extract 0 m = d := by
  subst h; simp
def pvR {base : Nat} {w : World} (r : RowIn base w) : PV := (r.v, r.l)
theorem insNone (w : World) (fv : Value) : Calls Try.prog 130 #[.slice none 0 0, .int .i64 0, .int .i64 0, fv] w fun e w' => e = .returned (.tuple #[]) ∧ w = w' := by
  go_enter Try.func130, Try.ntmps130
  go_wp2_with fail
  refine wp_loop_rounds 1 ?_
  rw [rounds_succ]
  go_wp2_with fail
  go_end0
  exact ⟨rfl, rfl⟩
theorem pdqNone (w : World) (lim : Int) (fv : Value) : Calls Try.prog 105 #[.slice none 0 0, .int .i64 0, .int .i64 0, .int .i64 lim, fv] w fun e w' => e = .returned (.tuple #[]) ∧ w = w' := by
  have hi := insNone w fv
  go_enter Try.func105, Try.ntmps105
  go_wp2_with fail
  refine wp_loop_rounds 1 ?_
  rw [rounds_succ]
  go_wp2_with (refine hi.mono ?_; rintro e w' ⟨rfl, rfl⟩)
  (try simp only [Exit.inBlock, Exit.then]); refine bodyPost_ret (results_none rfl _ _ _) rfl ?_
  exact ⟨rfl, rfl⟩
theorem sortNone (w : World) (fv : Value) : Calls Try.prog 67 #[.slice none 0 0, fv] w fun e w' => e = .returned (.tuple #[]) ∧ w = w' := by
  have hp := fun lim => pdqNone w lim fv
  have hl := Try.bits_Len 0 w (by omega) (by omega)
  go_enter Try.func67, Try.ntmps67
  go_wp2_with (first | (refine hl.mono ?_; rintro e w' ⟨rfl, rfl⟩) | (refine (hp _).mono ?_; rintro e w' ⟨rfl, rfl⟩))
  go_end0
  exact ⟨rfl, rfl⟩
/-- what the sort leaves -/
def SrE (base : Nat) (L : List PV) (v : Value) (w : World) (e : Ending) (w' : World) : Prop :=
  e = .returned (.tuple #[]) ∧ ∃ L' : List PV, L'.Perm L ∧ (∀ i j, i < j → j < L'.length → cmpL (L'.getD i dPV).2 (L'.getD j dPV).2 ≤ 0) ∧ w'.ownsRow base 22 1 v L.length (L'.map (·.1)) ∧ w.grownBy w' v.ownBlock
theorem sortR_any (base : Nat) (L : List PV) (v : Value) (w : World) (hl : L.length ≤ 1000000) (ho : w.ownsRow base 22 1 v L.length (L.map (·.1))) (hr : ∀ p, p ∈ L → OwnInts base w p.1 p.2) :
    Calls Try.prog 67 #[v, .func (.func 59) #[] #[]] w (SrE base L v w) := by
  rcases ho.2 with ⟨rfl, h0⟩ | ⟨g, cap, cur, rfl, hbg, hg, hnc, hcm, hcs, htake⟩
  · have hL : L = [] := List.eq_nil_of_length_eq_zero h0
    subst hL
    refine (sortNone w _).mono ?_
    rintro e w' ⟨rfl, rfl⟩
    exact ⟨rfl, [], List.Perm.refl _, fun i j _ h => by simp at h, ho, ⟨rfl, rfl, rfl, Nat.le_refl _, fun _ _ _ => rfl⟩⟩
  · rw [Nat.mul_one] at htake
    obtain ⟨LR, hLR⟩ : ∃ LR : List (RowIn base w), LR.map pvR = L := by
      clear ho hl hnc htake
      induction L with
      | nil => exact ⟨[], rfl⟩
      | cons p L ih =>
        obtain ⟨LR, h⟩ := ih fun q hq => hr q (by simp [hq])
        exact ⟨⟨p.1, p.2, hr p (by simp)⟩ :: LR, by rw [List.map_cons, h]; rfl⟩
    have hlen : LR.length = L.length := by rw [← hLR, List.length_map]
    have henc : L.map (·.1) = LR.map encR := by rw [← hLR, List.map_map]; rfl
    have eg : ∀ args w, (callFunc 59 args).run Try.prog w = .ok (.enter 59 args) w := enters_of Try.func59 (by kernel_rfl) rfl
    have hglt : g < w.heap.size := (Array.getElem?_eq_some_iff.1 hg).1
    have hcmp : CmpReads Try.prog 59 #[] (encR (base := base) (w := w)) cfR g 0 LR.toArray.size w := by
      intro m os dk hdk x y
      have key : ∀ z : RowIn base w, Ints (sortWorld encR w g 0 m dk os) z.v z.l := fun z =>
        OwnInts.ints (base := base) (World.ownsRow.kept z.h (grownBy_srt encR dk) (rows_apart z.h ho (by decide)))
      exact (compare_any x.l y.l x.v y.v _ (key x) (key y)).mono fun e w' ⟨he, hw⟩ => ⟨he, 0, by rw [← hw]; rfl⟩
    have hone : OneCell (encR (base := base) (w := w)) := fun z => by
      obtain ⟨a, n, c, h⟩ := own_slice z.h
      show z.v.oneCell' = true
      rw [h]; rfl
    have hH : Holds encR w g 0 LR.toArray := holds_ofG encR hg (by rw [hlen, htake, henc])
    have h := Try.slices_SortFunc encR hone cfR (swoR base w) 59 #[] g 0 cap LR.toArray w eg hcmp.lays hH hglt (by simp; omega)
    rw [show LR.toArray.size = L.length by simp [hlen]] at h
    refine h.mono ?_
    rintro e w' ⟨he, d', n, os, hp, hso, rfl⟩
    obtain ⟨p1, _, p3⟩ := hp
    have hd' : d'.size = L.length := by rw [p1]; simp [hlen]
    rw [ext_self _ _ hd', ext_self _ _ (by simp [hlen])] at p3
    have hpm : (d'.toList.map pvR).Perm L := by rw [← hLR]; exact p3.map _
    refine ⟨he, d'.toList.map pvR, hpm, fun i j hij hj => ?_, ?_, grownBy_srt encR d'⟩
    · rw [hpm.length_eq] at hj
      have q := lt_false.1 (hso i j (Nat.zero_le _) hij (by omega))
      have e1 : ∀ i, i < d'.size → ((d'.toList.map pvR).getD i dPV).2 = d'[i]!.l := fun i hi => by
        rw [List.getD_eq_getElem?_getD, List.getElem?_map, Array.getElem?_toList, Array.getElem?_eq_getElem hi, getElem!_pos d' i hi]; rfl
      rw [e1 i (by omega), e1 j (by omega)]
      rw [cmpL_swap] at q; omega
    · have := owns_srt encR (n := n) (os := os) (ts := d'.toList) (m := L.length) (by simp [hd']) hbg hg hnc hcm hcs
      rw [List.map_map]
      exact this
#print axioms sortR_any
end Go.Proofs.Ytfplmdieeabgpaa
