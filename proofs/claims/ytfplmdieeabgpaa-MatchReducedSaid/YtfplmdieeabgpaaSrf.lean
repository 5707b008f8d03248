/- Contract of slices.SortFunc over facts, by compareFacts. -/
import Derived.Test.YtfplmdieeabgpaaShf
import Derived.Test.YtfplmdieeabgpaaCmg
import Derived.Test.YtfplmdieeabgpaaSrt
namespace Go.Proofs.Ytfplmdieeabgpaa
open Go.RowKit Go.Shelf Go.Lib Go.Sort
/-- a fact of the world's own, with where its arguments lie -/
structure FcIn (base : Nat) (w : World) where
  a : AV
  h : OwnInts base w (avV a) a.2
  r : 0 ≤ a.1.1 ∧ a.1.1 ≤ 5
instance (base : Nat) (w : World) : Inhabited (FcIn base w) := ⟨⟨((0, none, 0, 0), []), ownInts_nil base w, by decide⟩⟩
def encF {base : Nat} {w : World} (p : FcIn base w) : List Value := encA p.a.1
def cfF {base : Nat} {w : World} (p q : FcIn base w) : Int := cmpF (avA p.a) (avA q.a)
theorem ltF_true {base : Nat} {w : World} {p q : FcIn base w} : ltOf cfF p q = true ↔ cmpL (keyF (avA p.a)) (keyF (avA q.a)) < 0 := by unfold ltOf cfF; rw [decide_eq_true_iff]; exact (cmpF_key _ _).1
theorem ltF_false {base : Nat} {w : World} {p q : FcIn base w} : ltOf cfF p q = false ↔ ¬ cmpL (keyF (avA p.a)) (keyF (avA q.a)) < 0 := by unfold ltOf cfF; rw [decide_eq_false_iff_not]; exact not_congr (cmpF_key _ _).1
theorem swoF (base : Nat) (w : World) : SWO (ltOf (cfF (base := base) (w := w))) :=
  ⟨fun x => ltF_false.2 (by rw [cmpL_refl]; omega), fun x y z h1 h2 => ltF_true.2 (cmpL_trans (ltF_true.1 h1) (ltF_true.1 h2)), fun x y z h1 h2 => ltF_false.2 (cmpL_wk (ltF_false.1 h1) (ltF_false.1 h2))⟩
theorem flatF {base : Nat} {w : World} (d : List (FcIn base w)) : flatK encF 2 d.toArray = (avC (d.map (·.a))).toArray := by
  have h := flat_av (d.map (·.a))
  rw [← h]
  unfold flatK
  simp only [List.map_map, List.size_toArray, List.length_map]
  refine Array.map_congr_left fun t ht => ?_
  have ht' : t / 2 < d.length := by rw [Array.mem_range] at ht; omega
  have e1 : d.toArray[t / 2]! = d[t / 2] := by rw [getElem!_pos _ _ (by simpa using ht')]; simp
  have e2 : (List.map ((fun x : AV => x.1) ∘ fun x : FcIn base w => x.a) d).toArray[t / 2]! = d[t / 2].a.1 := by rw [getElem!_pos _ _ (by simpa using ht')]; simp
  rw [e1, e2]; rfl
theorem putF {base : Nat} {w W : World} (g n : Nat) (d : List (FcIn base w)) (os : Array Obj) : sortWorldK encF 2 W g 0 n d.toArray os = grow (putRow id (Sort.ahead W n) g 0 (avC (d.map (·.a))).toArray) os := by
  unfold sortWorldK putRowK
  rw [flatF]
theorem grownBy_srtF {w : World} {g n : Nat} {os : Array Obj} (ts : Array Value) : w.grownBy (grow (putRow id (Sort.ahead w n) g 0 ts) os) (some g) := by
  refine ⟨rfl, rfl, rfl, by simp [grow, putRow, mapBlock, Sort.ahead], fun k hk hne => ?_⟩
  rw [heap_grow_old _ _ (by simpa [putRow, mapBlock, Sort.ahead] using hk)]
  have : g ≠ k := fun e => hne (by rw [e])
  simp [putRow, mapBlock, Sort.ahead, Array.getElem?_modify, this]
theorem owns_srtF {w : World} {base g cap n : Nat} {e : TypeId} {os : Array Obj} {cur : Array Value} {L : List AV} {m : Nat} (hl : L.length = m) (hbase : base ≤ g) (hb : w.heap[g]? = some (.cells cur e (0, 0))) (h1 : m ≤ cap) (h2 : cap ≤ maxLen) (h3 : cur.size = cap * 2) :
    (grow (putRow id (Sort.ahead w n) g 0 (avC L).toArray) os).ownsRow base e 2 (.slice (some ⟨g, 0, none⟩) m cap) m (avC L) := by
  have hg : g < w.heap.size := (Array.getElem?_eq_some_iff.1 hb).1
  refine ⟨by rw [avC_len, hl], .inr ⟨g, cap, putCells id 0 (avC L).toArray cur, rfl, hbase, ?_, h1, h2, by simp [putCells, h3], ?_⟩⟩
  · rw [heap_grow_old _ _ (by simpa [putRow, mapBlock, Sort.ahead] using hg)]
    simp [putRow, mapBlock, Sort.ahead, Array.getElem?_modify, hb, onCells]
  · have e' : m * 2 = (avC L).length := by rw [avC_len, hl]
    rw [e']
    exact put_id cur _ (by rw [avC_len, h3, hl]; omega)
theorem insNoneF (w : World) (fv : Value) : Calls Try.prog 150 #[.slice none 0 0, .int .i64 0, .int .i64 0, fv] w fun e w' => e = .returned (.tuple #[]) ∧ w = w' := by
  go_enter Try.func150, Try.ntmps150
  go_wp2_with fail
  refine wp_loop_rounds 1 ?_
  rw [rounds_succ]
  go_wp2_with fail
  go_end0
  exact ⟨rfl, rfl⟩
theorem pdqNoneF (w : World) (lim : Int) (fv : Value) : Calls Try.prog 144 #[.slice none 0 0, .int .i64 0, .int .i64 0, .int .i64 lim, fv] w fun e w' => e = .returned (.tuple #[]) ∧ w = w' := by
  have hi := insNoneF w fv
  go_enter Try.func144, Try.ntmps144
  go_wp2_with fail
  refine wp_loop_rounds 1 ?_
  rw [rounds_succ]
  go_wp2_with (refine hi.mono ?_; rintro e w' ⟨rfl, rfl⟩)
  (try simp only [Exit.inBlock, Exit.then]); refine bodyPost_ret (results_none rfl _ _ _) rfl ?_
  exact ⟨rfl, rfl⟩
theorem sortNoneF (w : World) (fv : Value) : Calls Try.prog 124 #[.slice none 0 0, fv] w fun e w' => e = .returned (.tuple #[]) ∧ w = w' := by
  have hp := fun lim => pdqNoneF w lim fv
  have hl := Try.bits_Len 0 w (by omega) (by omega)
  go_enter Try.func124, Try.ntmps124
  go_wp2_with (first | (refine hl.mono ?_; rintro e w' ⟨rfl, rfl⟩) | (refine (hp _).mono ?_; rintro e w' ⟨rfl, rfl⟩))
  go_end0
  exact ⟨rfl, rfl⟩
theorem two_grow (W : World) (o1 o2 : Obj) : ∃ q os', (W.alloc o1).alloc o2 = grow (W.drewN q) os' := ⟨0, #[o1] ++ #[o2], by rw [alloc_eq_grow, alloc_eq_grow, grow_grow]; rfl⟩
/-- what the sort leaves -/
def SrF (base : Nat) (L : List AV) (v : Value) (w : World) (e : Ending) (w' : World) : Prop :=
  e = .returned (.tuple #[]) ∧ ∃ L' : List AV, L'.Perm L ∧ (∀ i j, i < j → j < L'.length → cmpL (keyF (avA (L'.getD i dAV))) (keyF (avA (L'.getD j dAV))) ≤ 0) ∧ w'.ownsRow base 77 2 v L.length (avC L') ∧ w.grownBy w' v.ownBlock
set_option maxHeartbeats 400000 in
theorem sortF_any (base : Nat) (L : List AV) (v : Value) (w : World) (hl : L.length ≤ 1000000) (ho : w.ownsRow base 77 2 v L.length (avC L)) (hr : ∀ p, p ∈ L → OwnInts base w (avV p) p.2) (hb : ∀ p, p ∈ L → 0 ≤ p.1.1 ∧ p.1.1 ≤ 5) :
    Calls Try.prog 124 #[v, .func (.func 125) #[] #[]] w (SrF base L v w) := by
  rcases ho.2 with ⟨rfl, h0⟩ | ⟨g, cap, cur, rfl, hbg, hg, hnc, hcm, hcs, htake⟩
  · have hL : L = [] := List.eq_nil_of_length_eq_zero h0
    subst hL
    refine (sortNoneF w _).mono ?_
    rintro e w' ⟨rfl, rfl⟩
    exact ⟨rfl, [], List.Perm.refl _, fun i j _ h => by simp at h, ho, ⟨rfl, rfl, rfl, Nat.le_refl _, fun _ _ _ => rfl⟩⟩
  · obtain ⟨LR, hLR⟩ : ∃ LR : List (FcIn base w), LR.map (·.a) = L := by
      clear ho hl hnc htake
      induction L with
      | nil => exact ⟨[], rfl⟩
      | cons p L ih =>
        obtain ⟨LR, h⟩ := ih (fun q hq => hr q (by simp [hq])) (fun q hq => hb q (by simp [hq]))
        exact ⟨⟨p, hr p (by simp), hb p (by simp)⟩ :: LR, by rw [List.map_cons, h]⟩
    have hlen : LR.length = L.length := by rw [← hLR, List.length_map]
    have eg : ∀ args w, (callFunc 125 args).run Try.prog w = .ok (.enter 125 args) w := enters_of Try.func125 (by kernel_rfl) rfl
    have hglt : g < w.heap.size := (Array.getElem?_eq_some_iff.1 hg).1
    have hcmp : CmpLays Try.prog 125 #[] (encF (base := base) (w := w)) 2 cfF g 0 LR.toArray.size w := by
      intro m os dk hdk x y
      obtain ⟨dk, rfl⟩ : ∃ l : List (FcIn base w), dk = l.toArray := ⟨dk.toList, by simp⟩
      have key : ∀ z : FcIn base w, Ints (sortWorldK encF 2 w g 0 m dk.toArray os) (avV z.a) z.a.2 := fun z => by
        rw [putF]
        exact OwnInts.ints (base := base) (World.ownsRow.kept z.h (grownBy_srtF _) (rows_apart z.h ho (by decide)))
      exact (compareFacts_any x.a.1.1 y.a.1.1 x.a.2 y.a.2 (avV x.a) (avV y.a) _ (key x) (key y) x.r y.r).mono fun e w' h => by
        obtain ⟨he, hw⟩ := h
        refine ⟨he, ?_⟩
        rw [hw]; exact two_grow _ _ _
    have hH : HoldsK encF 2 w g 0 LR.toArray := by
      unfold HoldsK
      rw [flatF, hLR]
      exact holds_id hg (by rw [avC_len]; exact htake)
    have h := AnyQ.slices_SortFunc Try.laysFct 2 Try.isAgg77 Try.sizeOf77 encF (fun _ => rfl) (fun x u hu => by
      simp only [encF, encA, List.mem_cons, List.not_mem_nil, or_false] at hu
      rcases hu with rfl | rfl <;> rfl) cfF (swoF base w) 125 #[] g 0 cap LR.toArray w eg hcmp hH hglt (by simp; omega)
    rw [show LR.toArray.size = L.length by simp [hlen]] at h
    change Calls Try.prog 124 _ _ _ at h
    refine h.mono ?_
    rintro e w' ⟨he, d', n, os, hp, hso, rfl⟩
    obtain ⟨p1, _, p3⟩ := hp
    have hd' : d'.size = L.length := by rw [p1]; simp [hlen]
    rw [ext_self _ _ hd', ext_self _ _ (by simp [hlen])] at p3
    obtain ⟨d', rfl⟩ : ∃ l : List (FcIn base w), d' = l.toArray := ⟨d'.toList, by simp⟩
    have hd2 : d'.length = L.length := by simpa using hd'
    have hpm : (d'.map (·.a)).Perm L := by rw [← hLR]; exact p3.map _
    rw [putF]
    have hO := owns_srtF (n := n) (os := os) (L := d'.map (·.a)) (m := L.length) (by rw [List.length_map, hd2]) hbg hg hnc hcm hcs
    have hG := grownBy_srtF (w := w) (g := g) (n := n) (os := os) (avC (d'.map (·.a))).toArray
    refine ⟨he, d'.map (·.a), hpm, fun i j hij hj => ?_, hO, hG⟩
    rw [List.length_map, hd2] at hj
    have q := ltF_false.1 (hso i j (Nat.zero_le _) hij (by omega))
    have e1 : ∀ i, i < d'.length → (d'.map (·.a)).getD i dAV = (d'.toArray[i]!).a := fun i hi => by
      rw [List.getD_eq_getElem?_getD, List.getElem?_map, List.getElem?_eq_getElem hi, getElem!_pos d'.toArray i (by simpa using hi)]; simp
    rw [e1 i (by omega), e1 j (by omega)]
    rw [cmpL_swap] at q; omega
#print axioms sortF_any
end Go.Proofs.Ytfplmdieeabgpaa
