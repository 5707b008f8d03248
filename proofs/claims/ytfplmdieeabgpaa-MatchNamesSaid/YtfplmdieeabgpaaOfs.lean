/- Contract of Of, in which all that the new query has lies apart (made by mofs.py from XOf). -/
import Derived.Test.YtfplmdieeabgpaaOf
import Derived.Test.YtfplmdieeabgpaaRws
import Derived.Test.YtfplmdieeabgpaaDrl
namespace Go.Proofs.Ytfplmdieeabgpaa
open Go.RowKit
/-- a query of the call's own, whose Head and arguments lie in blocks of their own; vs are the slices of the arguments -/
structure SQ (base : Nat) (w : World) (hv bv : Value) (vs : List Value) (q : HQ) : Prop where
  h : OwnInts base w hv q.1
  l : vs.length = q.2.length
  b : w.ownsRow base 88 2 bv q.2.length (atC q.2 vs)
  a : ∀ i, i < q.2.length → OwnInts base w (vs.getD i (.bool false)) (aA q.2 i)
  d : ∀ i j b, i < j → (vs.getD i (.bool false)).ownBlock = some b → (vs.getD j (.bool false)).ownBlock ≠ some b
  e : ∀ i b, (vs.getD i (.bool false)).ownBlock = some b → hv.ownBlock ≠ some b
theorem SQ.keep {base : Nat} {w w' : World} {hv bv : Value} {vs : List Value} {q : HQ} (k : SQ base w hv bv vs q) (hb : Below w.heap.size w w') : SQ base w' hv bv vs q :=
  ⟨k.h.keep hb, k.l, owns_keep k.b hb, fun i hi => (k.a i hi).keep hb, k.d, k.e⟩
theorem SQ.own {base : Nat} {w : World} {hv bv : Value} {vs : List Value} {q : HQ} (k : SQ base w hv bv vs q) : OwnAtoms 88 base w bv q.2 := ⟨vs, k.l, k.b, k.a⟩
theorem SQ.qr {base : Nat} {w : World} {hv bv : Value} {vs : List Value} {q : HQ} (k : SQ base w hv bv vs q) : Qr w (.agg #[hv, bv]) q := ⟨_, _, rfl, k.h.ints, k.own.atoms⟩
theorem SQ.set {base b j : Nat} {w : World} {hv bv x : Value} {vs : List Value} {q : HQ} (k : SQ base w hv bv vs q) (hb : b < base) : SQ base (w.setCell ⟨b, j, none⟩ x) hv bv vs q :=
  ⟨ownsRow_setCell_below k.h hb _, k.l, ownsRow_setCell_below k.b hb _, fun i hi => ownsRow_setCell_below (k.a i hi) hb _, k.d, k.e⟩
theorem SQ.base {base base' : Nat} {w : World} {hv bv : Value} {vs : List Value} {q : HQ} (k : SQ base w hv bv vs q) (hb : base' ≤ base) : SQ base' w hv bv vs q :=
  ⟨OwnInts.base k.h hb, k.l, owns_base k.b hb, fun i hi => OwnInts.base (k.a i hi) hb, k.d, k.e⟩
/-- its rows of atoms alone; all their arguments lie below S -/
def SAt (base S : Nat) (w : World) (v : Value) (l : List HAt) : Prop := ∃ vs : List Value, vs.length = l.length ∧ w.ownsRow base 88 2 v l.length (atC l vs) ∧ (∀ i, i < l.length → OwnInts base w (vs.getD i (.bool false)) (aA l i)) ∧
  (∀ i b, (vs.getD i (.bool false)).ownBlock = some b → b < S) ∧ ∀ i j b, i < j → (vs.getD i (.bool false)).ownBlock = some b → (vs.getD j (.bool false)).ownBlock ≠ some b
theorem SAt.own {base S : Nat} {w : World} {v : Value} {l : List HAt} (h : SAt base S w v l) : OwnAtoms 88 base w v l := by
  obtain ⟨vs, h1, h2, h3, _⟩ := h
  exact ⟨vs, h1, h2, h3⟩
theorem SAt.keep {base S : Nat} {w w' : World} {v : Value} {l : List HAt} (h : SAt base S w v l) (hb : Below w.heap.size w w') : SAt base S w' v l := by
  obtain ⟨vs, h1, h2, h3, h4⟩ := h
  exact ⟨vs, h1, owns_keep h2 hb, fun i hi => (h3 i hi).keep hb, h4⟩
theorem sAt_nil (base S : Nat) (w : World) : SAt base S w (.slice none 0 0) [] := ⟨[], rfl, World.ownsRow_nil _ _ _ _, fun i hi => by simp at hi, fun i b h => by simp [Value.ownBlock] at h, fun i j b _ h => by simp [Value.ownBlock] at h⟩
theorem SAt.snoc {base S T : Nat} {w w' : World} {v v' u : Value} {l : List HAt} {vs : List Value} {r : Int} {args : List Int} (h1 : vs.length = l.length) (h2 : w.ownsRow base 88 2 v l.length (atC l vs)) (h3 : ∀ i, i < l.length → OwnInts base w (vs.getD i (.bool false)) (aA l i))
    (h4 : ∀ i b, (vs.getD i (.bool false)).ownBlock = some b → b < S) (h5 : ∀ i j b, i < j → (vs.getD i (.bool false)).ownBlock = some b → (vs.getD j (.bool false)).ownBlock ≠ some b) (hlo : ∀ b, u.ownBlock = some b → S ≤ b) (hT : ∀ b, u.ownBlock = some b → b < T) (hST : S ≤ T)
    (hu : OwnInts base w u args) (hg : w.grownBy w' v.ownBlock) (h : w'.ownsRow base 88 2 v' (l.length + 1) (atC l vs ++ [.int .i64 r, u])) : SAt base T w' v' (l ++ [(r, args)]) := by
  have get : ∀ i, (vs ++ [u]).getD i (.bool false) = if i < vs.length then vs.getD i (.bool false) else if i = vs.length then u else .bool false := fun i => by
    by_cases e : i < vs.length
    · rw [if_pos e, List.getD_eq_getElem?_getD, List.getD_eq_getElem?_getD, List.getElem?_append_left e]
    · rw [if_neg e]
      by_cases e2 : i = vs.length
      · rw [if_pos e2, e2]; simp
      · rw [if_neg e2, List.getD_eq_getElem?_getD, List.getElem?_eq_none (by simp; omega)]; rfl
  refine ⟨vs ++ [u], by simp [h1], ?_, fun i hi => ?_, fun i b hb => ?_, fun i j b hij hb hc => ?_⟩
  · rw [atC_snoc h1]; simpa using h
  · rw [List.length_append] at hi
    by_cases e2 : i < l.length
    · have := ints_grown atomNotInt (h3 i e2) h2 hg
      unfold OwnInts
      rw [show aA (l ++ [(r, args)]) i = aA l i by unfold aA; rw [List.getD_eq_getElem?_getD, List.getD_eq_getElem?_getD, List.getElem?_append_left e2], get i, if_pos (by omega)]
      exact this
    · have e3 : i = l.length := by simp at hi; omega
      subst e3
      have := ints_grown atomNotInt hu h2 hg
      unfold OwnInts
      rw [show aA (l ++ [(r, args)]) l.length = args by simp [aA], get, if_neg (by omega), if_pos h1.symm]
      exact this
  · rw [get] at hb
    split at hb
    · have := h4 i b hb; omega
    · split at hb
      · exact hT b hb
      · cases hb
  · rw [get] at hb hc
    split at hb
    · rename_i k1
      split at hc
      · exact h5 i j b hij hb hc
      · split at hc
        · have := h4 i b hb
          have := hlo b hc
          omega
        · cases hc
    · split at hb
      · rename_i k1 k2
        rw [if_neg (by omega), if_neg (by omega)] at hc
        cases hc
      · cases hb
/-- what the walk of Of keeps: w2 is the world ahead of the new query's block -/
structure Osq (w2 : World) (S : Nat) (wr : World) (x o : Value) (xs : List HAt) : Prop where
  b : Below w2.heap.size w2 wr
  ho : wr.heap[w2.heap.size]? = some (.cells #[x, o] 33 (0, 0))
  own : SAt (w2.heap.size + 1) S wr o xs
theorem Osq.keep {w2 wr w' : World} {S : Nat} {x o : Value} {xs : List HAt} (k : Osq w2 S wr x o xs) (hb : Below wr.heap.size wr w') : Osq w2 S w' x o xs := ⟨Below.tr k.b hb, blk_keep2 k.ho hb, k.own.keep hb⟩
theorem Osq.c1 {w2 wr : World} {S : Nat} {x o : Value} {xs : List HAt} (k : Osq w2 S wr x o xs) : wr.cell? ⟨w2.heap.size, 1, none⟩ = some o := by rw [cell_of_row wr _ 1 _ _ _ k.ho]; rfl
theorem Osq.c0 {w2 wr : World} {S : Nat} {x o : Value} {xs : List HAt} (k : Osq w2 S wr x o xs) : wr.cell? ⟨w2.heap.size, 0, none⟩ = some x := by rw [cell_of_row wr _ 0 _ _ _ k.ho]; rfl
theorem Osq.put {w2 wr w' : World} {S T : Nat} {x o o' : Value} {xs ys : List HAt} (k : Osq w2 S wr x o xs) (hb : Below (w2.heap.size + 1) wr w') (ho : SAt (w2.heap.size + 1) T w' o' ys) : Osq w2 T (w'.setCell ⟨w2.heap.size, 1, none⟩ o') x o' ys := by
  have hf' := (hb.block _ (by omega)).trans k.ho
  refine ⟨(k.b.trans (hb.mono (by omega))).setCell (Nat.le_refl _) _, by rw [heap_setCell_same w' _ 1 _ _ o' hf']; rfl, ?_⟩
  obtain ⟨vs, h1, h2, h3, h4⟩ := ho
  exact ⟨vs, h1, ownsRow_setCell_below h2 (Nat.lt_succ_self _) _, fun i hi => ownsRow_setCell_below (h3 i hi) (Nat.lt_succ_self _) _, h4⟩
set_option maxRecDepth 100000 in
set_option maxHeartbeats 16000000 in
theorem ofS_any (q : HQ) (v : Value) (w : World) (hq : Qr w v q) :
    Calls Try.prog 20 #[v] w fun e w' => ∃ hv bv vs, e = .returned (.agg #[hv, bv]) ∧ SQ w.heap.size w' hv bv vs (ofQ q) ∧ Below w.heap.size w w' := by
  obtain ⟨hd, bd⟩ := q
  obtain ⟨h0, b0, rfl, hh, hb⟩ := hq
  simp only at hh hb
  obtain ⟨a, b, off, cap, vs, rfl, hle, ha, hcap, hc⟩ := Atoms.get hb
  obtain ⟨xa, xc, rfl⟩ := ints_slice hh
  have Hix := Lib.hid (run_ix (P := Try.prog) (t := 23) (a := a) (len := bd.length) (cap := cap) (b := b) (off := off) (s := 2) Try.underlying23 (by intro w; kernel_rfl) ha)
  have Hc := Lib.hid hc
  obtain ⟨w0, hw0⟩ : ∃ w0, w0 = w.alloc (.cells #[.slice xa hd.length xc, .slice a bd.length cap] 25) := ⟨_, rfl⟩
  have hz0 : w0.heap.size = w.heap.size + 1 := by rw [hw0]; simp
  obtain ⟨w1, hw1⟩ : ∃ w1, w1 = w0.alloc (.cells #[.slice none 0 0, .slice none 0 0] 33) := ⟨_, rfl⟩
  have b0 : Below w.heap.size w w0 := by rw [hw0]; exact below_alloc _ _
  have b1 : Below w0.heap.size w0 w1 := by rw [hw1]; exact below_alloc _ _
  have q0 : w0.cell? ⟨w.heap.size, 0, none⟩ = some (.slice xa hd.length xc) := by rw [hw0]; exact cell_new w _ _ 0
  have q1 : w0.cell? ⟨w.heap.size, 1, none⟩ = some (.slice a bd.length cap) := by rw [hw0]; exact cell_new w _ _ 1
  have HR1 := Lib.hid (show w1.heap[w.heap.size + 1]? = some (.cells #[.slice none 0 0, .slice none 0 0] 33 (0, 0)) from by
    have := heap_alloc_new w0 (.cells #[.slice none 0 0, .slice none 0 0] 33)
    rw [← hw1, hz0] at this; exact this)
  have HF := Lib.hid (fewQ_any hd (.slice xa hd.length xc) w1 (hh.keep (Below.tr b0 b1)))
  have HFa := Lib.hid (fun (l : List Int) (u : Value) (w : World) (hu : Ints w u l) => fewQ_any l u w hu)
  have Hb1 := Lib.hid (Below.tr b0 b1)
  have g0 := Below.keep b1 q0
  have G1 := Lib.hid (Below.keep b1 q1)
  have Hw0 := Lib.hid hw0
  have Hw1 := Lib.hid hw1
  have Hz0 := Lib.hid hz0
  have Hz1 := Lib.hid (show w1.heap.size = w.heap.size + 2 from by rw [hw1]; simp; omega)
  clear hh hb ha hc hcap hw0 hw1 b0 b1 q0 q1 hz0
  go_enter Try.func20, Try.ntmps20
  go_upto_region 1 with fail
  rw [← Hw0.out, ← Hw1.out]
  clear Hw0 Hw1 Hz0
  go_wp2_with fail
  refine HF.out.mono ?_
  rintro e w2 ⟨x, rfl, hx, hb2⟩
  obtain ⟨xa2, xn2, xc2, rfl⟩ := own_slice hx
  obtain ⟨X, hX⟩ : ∃ X, X = Value.slice xa2 xn2 xc2 := ⟨_, rfl⟩
  have HX := Lib.hid hX
  have Hx2 := Lib.hid (show OwnInts (w.heap.size + 2) w2 X (hd.take 9) from by rw [hX]; exact OwnInts.base hx (by have := Hz1.out; omega))
  have Hs2 := Lib.hid (show w.heap.size + 2 ≤ w2.heap.size from by have := Hz1.out; have := hb2.size; omega)
  clear Hz1
  have Hb2 := Lib.hid (Below.tr Hb1.out hb2)
  have HR2 := Lib.hid (blk_keep2 HR1.out hb2)
  have bn := below_alloc w2 (.cells #[X, .slice none 0 0] 33)
  have g3 : (w2.alloc (.cells #[X, .slice none 0 0] 33)).cell? ⟨w.heap.size, 1, none⟩ = some (.slice a bd.length cap) := Below.keep bn (Below.keep hb2 G1.out)
  have HK0 := Lib.hid (show Osq w2 0 (w2.alloc (.cells #[X, .slice none 0 0] 33)) X (.slice none 0 0) [] from ⟨bn, heap_alloc_new w2 _, sAt_nil _ _ _⟩)
  rw [hX] at g3 HK0
  clear hx hb2 bn HF HR1 Hb1 G1 g0 hX
  go_wp2_with fail
  rw [← HX.out] at HK0 ⊢
  clear g3
  go_loopw [13] (fun vi wr => ∃ (k : Nat) (o : Value) (S : Nat), vi = .int .i64 k ∧ k ≤ bd.length ∧ k ≤ 7 ∧ S ≤ wr.heap.size ∧ Osq w2 S wr X o ((bd.take k).map ofA)) (fun vi _ => bd.length - (intOf vi).toNat)
  case atStart => exact ⟨0, _, 0, rfl, Nat.zero_le _, by omega, Nat.zero_le _, HK0.out⟩
  case round =>
    clear HK0
    obtain ⟨k, o, S, rfl, hk, hk7, hS0, hK⟩ := hrel
    have HS0 := Lib.hid hS0
    clear hS0
    have HK := Lib.hid hK
    clear hK
    have Hbw := Lib.hid (Below.tr Hb2.out HK.out.b)
    have HRk := Lib.hid (blk_keep2 HR2.out HK.out.b)
    have Hfin := Lib.hid (fun (e : (bd.take k).map ofA = (bd.take 7).map ofA) => show ∃ vs, SQ (w.heap.size + 2) wr X o vs (ofQ (hd, bd)) from
      by
        obtain ⟨vs, h1, h2, h3, h4, h5⟩ := HK.out.own
        have hle2 := Hs2.out
        have e' : (ofQ (hd, bd)).2 = (bd.take k).map ofA := e.symm
        refine ⟨vs, Hx2.out.keep HK.out.b, ?_, ?_, ?_, h5, ?_⟩
        · rw [e']; exact h1
        · rw [e']; exact owns_base h2 (by omega)
        · rw [e']; exact fun i hi => OwnInts.base (h3 i hi) (by omega)
        · intro i b hb hx
          have k1 := (own_lt Hx2.out hx).2
          by_cases hi : i < vs.length
          · have k2 := (own_lt (h3 i (by omega)) hb).1
            omega
          · rw [List.getD_eq_getElem?_getD, List.getElem?_eq_none (by omega)] at hb
            cases hb)
    by_cases hlt : k < bd.length
    · have hc1 := Below.keep Hbw.out (Hc.out k hlt).1
      have hc2 := Below.keep Hbw.out (Hc.out k hlt).2.1
      have hi := Ints.keep (Hc.out k hlt).2.2 Hbw.out
      have hixk := Hix.out k
      obtain ⟨ua, uc, hu⟩ := ints_slice hi
      rw [hu] at hc2 hi
      clear hu
      have HT := Lib.hid (show (bd.take (k + 1)).map ofA = (bd.take k).map ofA ++ [(aR bd k, (aA bd k).take 9)] from by rw [List.take_succ_eq_append_getElem hlt, List.map_append, at_get hlt]; rfl)
      obtain ⟨r, hr⟩ : ∃ t, t = aR bd k := ⟨_, rfl⟩
      obtain ⟨A, hA⟩ : ∃ t, t = aA bd k := ⟨_, rfl⟩
      rw [← hr, ← hA] at HT
      rw [← hr] at hc1
      rw [← hA] at hc2 hi
      clear hr hA
      have hml := hi.2.1
      have hcp := Ints.cap hi
      by_cases h7 : k < 7
      · have q7 : ¬ (k : Int) > 6 := by omega
        obtain ⟨oa, oc, rfl⟩ := Atoms.own HK.out.own.own
        have hlen : ((bd.take k).map ofA).length ≤ 7 := by rw [List.length_map, List.length_take]; omega
        obtain ⟨xs, hxs⟩ : ∃ xs, xs = (bd.take k).map ofA := ⟨_, rfl⟩
        rw [← hxs] at HK HT hlen
        clear hxs Hfin
        obtain ⟨w4, hw4⟩ : ∃ w4, w4 = wr.alloc (.cells #[.int .i64 r, .slice ua A.length uc] 80) := ⟨_, rfl⟩
        have hb4 : Below wr.heap.size wr w4 := by rw [hw4]; exact below_alloc _ _
        obtain ⟨bb, hbb⟩ : ∃ bb, bb = wr.heap.size := ⟨_, rfl⟩
        have HS := Lib.hid (show w4.drew.heap[bb]? = some (.cells #[.int .i64 r, .slice ua A.length uc] 80 (0, 0)) from by rw [hw4, hbb]; exact heap_alloc_new wr _)
        have HSz := Lib.hid (show S ≤ w4.drew.heap.size from Nat.le_trans HS0.out (show wr.heap.size ≤ w4.heap.size from hb4.size))
        have HK4 := Lib.hid ((HK.out.keep hb4).keep (w' := w4.drew) (Below.refl _ _).drew)
        have Hi4 := Lib.hid (show Ints w4.drew (.slice ua A.length uc) A from (hi.keep hb4).keep (Below.refl _ _).drew)
        have Hbb := Lib.hid (show w2.heap.size < bb from by rw [hbb]; exact (Array.getElem?_eq_some_iff.1 HK.out.ho).1)
        have Hw4 := Lib.hid hw4
        clear hw4 hi hb4 HK
        go_upto_region 6 with fail
        rw [← Hw4.out, ← hbb]
        clear Hw4 hc1 hc2 hixk hbb
        refine wp_region_held (S := fun w' => w'.heap[bb]? = some (.cells #[.int .i64 r, .slice ua A.length uc] 80 (0, 0))) wideK ?_
        change wpAnyH _ _ _ _ _ _ _ _ (World.drew _)
        generalize w4.drew = w5 at *
        refine wpAnyH_take (i := 0) (v := ?_) rfl (by kernel_rfl) (by kernel_rfl) (by kernel_rfl) (fun _ _ _ h => h) (Or.inl ⟨by rfl, ?_⟩) HS.out ?_
        rotate_left
        focus (intro w hS; clear hS; first | (go_simp; done) | (go_simp; with_reducible rfl))
        simp only [Act.put, List.getElem_toArray, List.getElem_cons_zero, List.setIfInBounds_toArray, List.set_cons_zero, List.set_cons_succ]
        refine wpAnyH_take (i := 2) (v := ?_) rfl (by kernel_rfl) (by kernel_rfl) (by kernel_rfl) (fun _ _ _ h => h) (Or.inl ⟨by rfl, ?_⟩) HS.out ?_
        rotate_left
        focus (intro w hS; clear hS; first | (go_simp; done) | (go_simp; with_reducible rfl))
        simp only [Act.put, List.getElem_toArray, List.getElem_cons_zero, List.getElem_cons_succ, List.setIfInBounds_toArray, List.set_cons_zero, List.set_cons_succ]
        refine wpAnyH_take (i := 3) (v := ?_) rfl (by kernel_rfl) (by kernel_rfl) (by kernel_rfl) (fun _ _ _ h => h) (Or.inl ⟨by rfl, ?_⟩) HS.out ?_
        rotate_left
        focus (intro w hS; have s0 := aCell hS 0 rfl; clear hS; first | (go_simp; done) | (go_simp; with_reducible rfl))
        simp only [Act.put, List.getElem_toArray, List.getElem_cons_zero, List.getElem_cons_succ, List.setIfInBounds_toArray, List.set_cons_zero, List.set_cons_succ]
        refine wpAnyH_take (i := 4) (v := ?_) rfl (by kernel_rfl) (by kernel_rfl) (by kernel_rfl) (fun _ _ _ h => h) (Or.inl ⟨by rfl, ?_⟩) HS.out ?_
        rotate_left
        focus (intro w hS; clear hS; first | (go_simp; done) | (go_simp; with_reducible rfl))
        simp only [Act.put, List.getElem_toArray, List.getElem_cons_zero, List.getElem_cons_succ, List.setIfInBounds_toArray, List.set_cons_zero, List.set_cons_succ]
        refine wpAnyH_take (i := 5) (v := ?_) rfl (by kernel_rfl) (by kernel_rfl) (by kernel_rfl) (fun _ _ _ h => h) (Or.inl ⟨by rfl, ?_⟩) HS.out ?_
        rotate_left
        focus (intro w hS; have s0 := aCell hS 1 rfl; clear hS; first | (go_simp; done) | (go_simp; with_reducible rfl))
        simp only [Act.put, List.getElem_toArray, List.getElem_cons_zero, List.getElem_cons_succ, List.setIfInBounds_toArray, List.set_cons_zero, List.set_cons_succ]
        refine wpAnyH_ready (rs := [1, 6]) (by kernel_rfl) (by simp) ?_
        refine RdyH.cons rfl (fun K2 hK => ?_) ?_
        · have c1 := HK4.out.c1
          go_simp
          refine hK _ _ HS.out ?_
          clear hK K2 c1
          refine wpAnyH_ready (rs := [6]) (by kernel_rfl) (by simp) ?_
          refine RdyH.cons rfl (fun K2 hK => ?_) RdyH.nil
          go_simp
          go_at_call 43
          refine (HFa.out A (.slice ua A.length uc) _ Hi4.out).mono ?_
          rintro e w6 ⟨u, rfl, hu, hb⟩
          obtain ⟨na, nn, nc, rfl⟩ := own_slice hu
          have HS6z := Lib.hid (show S ≤ w6.heap.size from Nat.le_trans HSz.out hb.size)
          have HK6 := Lib.hid (HK4.out.keep hb)
          have HS6 := Lib.hid (blk_keep2 HS.out hb)
          have HUb := Lib.hid (fun b (h : (Value.slice na nn nc).ownBlock = some b) => show S ≤ b from Nat.le_trans HSz.out (own_lt hu h).1)
          have HU := Lib.hid (OwnInts.base hu (show w2.heap.size + 1 ≤ _ from (Array.getElem?_eq_some_iff.1 HK4.out.ho).1))
          clear hu hb
          go_simp
          refine hK _ _ HS6.out ?_
          clear hK K2
          refine wpAnyH_take (i := 7) (v := ?_) rfl (by kernel_rfl) (by kernel_rfl) (by kernel_rfl) (fun _ _ _ h => h) (Or.inl ⟨by rfl, ?_⟩) HS6.out ?_
          rotate_left
          focus (intro w hS; clear hS; first | (go_simp; done) | (go_simp; with_reducible rfl))
          simp only [Act.put, List.getElem_toArray, List.getElem_cons_zero, List.getElem_cons_succ, List.setIfInBounds_toArray, List.set_cons_zero, List.set_cons_succ]
          refine wpAnyH_ready (rs := [8]) (by kernel_rfl) (by simp) ?_
          refine RdyH.cons rfl (fun K2 hK => ?_) RdyH.nil
          have bn := below_alloc w6 (.cells #[.int .i64 r, .slice na nn nc] 88)
          have HS7z := Lib.hid (Nat.le_trans HS6z.out bn.size)
          have HK7 := Lib.hid (HK6.out.keep bn)
          have HS7 := Lib.hid (blk_keep2 HS6.out bn)
          have HU2 := Lib.hid (HU.out.keep bn)
          clear bn
          go_simp
          refine hK _ _ HS7.out ?_
          clear hK K2
          refine wpAnyH_ready (rs := [9]) (by kernel_rfl) (by simp) ?_
          refine RdyH.cons rfl (fun K2 hK => ?_) RdyH.nil
          obtain ⟨vs1, e1, e2, e3, e4, e5⟩ := HK7.out.own
          refine step_append_own_g rfl (.tmp 21) (.tmp 28) 31 rfl elemAtoms rfl e2 [.int .i64 r, .slice na nn nc] rfl rfl ?c1 ?c2 ?c3 ?c4 ?_
          case c1 => intro j u hj; rw [cell_new]; simpa using hj
          case c2 => intro u hu; simp at hu; rcases hu with rfl | rfl <;> rfl
          case c3 => omega
          case c4 => exact (Array.getElem?_eq_some_iff.1 HK7.out.ho).1
          intro v' w8 h1 h2 hg
          have hO := SAt.snoc (T := w8.heap.size) e1 e2 e3 e4 e5 HUb.out (fun b h => Nat.lt_of_lt_of_le (own_lt HU2.out h).2 h2.size) (Nat.le_trans HS7z.out h2.size) HU2.out hg h1
          obtain ⟨pa, pn, pc, rfl⟩ : ∃ x y z, v' = .slice x y z := by
            obtain ⟨x, z, h⟩ := Atoms.own hO.own
            exact ⟨_, _, _, h⟩
          have HP := Lib.hid (HK7.out.put h2 hO)
          have hcf := (h2.block _ (by omega)).trans HK7.out.ho
          have HKF := Lib.hid (And.intro (cell_of_row w8 _ 1 _ _ _ hcf) (frozen_of_row w8 _ 1 _ _ hcf))
          have HS8 := Lib.hid (block_grown e2 hg HS7.out (by decide))
          clear hcf h1 h2 hg hO e1 e2 e3
          go_simp
          refine hK _ _ HS8.out ?_
          clear hK K2
          refine wpAnyH_take (i := 10) (v := ?_) rfl (by kernel_rfl) (by kernel_rfl) (by kernel_rfl) (fun _ _ _ h => h) (Or.inl ⟨by rfl, ?_⟩) HS8.out ?_
          rotate_left
          focus (intro w hS; clear hS; first | (go_simp; done) | (go_simp; with_reducible rfl))
          simp only [Act.put, List.getElem_toArray, List.getElem_cons_zero, List.getElem_cons_succ, List.setIfInBounds_toArray, List.set_cons_zero, List.set_cons_succ]
          refine wpAnyH_ready (rs := [11]) (by kernel_rfl) (by simp) ?_
          refine RdyH.cons rfl (fun K2 hK => ?_) RdyH.nil
          have k1 := HKF.out.1
          have f1 := HKF.out.2
          have HS20 := Lib.hid (fun (u : Value) => (heap_setCell_other w8 ⟨w2.heap.size, 1, none⟩ bb u (Nat.ne_of_gt Hbb.out)).trans HS8.out)
          go_simp
          refine hK _ _ (HS20.out _) ?_
          clear hK K2 k1 f1
          refine wpAnyH_done (by kernel_rfl) ?_ _
          go_wp2_with fail
          go_roundw
          case rel => exact ⟨k + 1, _, w8.heap.size, by go_num, by omega, by omega, by simp, by rw [HT.out]; exact HP.out⟩
          case measure => simp [intOf]; omega
        · refine RdyH.cons rfl (fun K2 hK => ?_) RdyH.nil
          go_simp
          go_at_call 43
          refine (HFa.out A (.slice ua A.length uc) _ Hi4.out).mono ?_
          rintro e w6 ⟨u, rfl, hu, hb⟩
          obtain ⟨na, nn, nc, rfl⟩ := own_slice hu
          have HS6z := Lib.hid (show S ≤ w6.heap.size from Nat.le_trans HSz.out hb.size)
          have HK6 := Lib.hid (HK4.out.keep hb)
          have HS6 := Lib.hid (blk_keep2 HS.out hb)
          have HUb := Lib.hid (fun b (h : (Value.slice na nn nc).ownBlock = some b) => show S ≤ b from Nat.le_trans HSz.out (own_lt hu h).1)
          have HU := Lib.hid (OwnInts.base hu (show w2.heap.size + 1 ≤ _ from (Array.getElem?_eq_some_iff.1 HK4.out.ho).1))
          clear hu hb
          go_simp
          refine hK _ _ HS6.out ?_
          clear hK K2
          refine wpAnyH_take (i := 7) (v := ?_) rfl (by kernel_rfl) (by kernel_rfl) (by kernel_rfl) (fun _ _ _ h => h) (Or.inl ⟨by rfl, ?_⟩) HS6.out ?_
          rotate_left
          focus (intro w hS; clear hS; first | (go_simp; done) | (go_simp; with_reducible rfl))
          simp only [Act.put, List.getElem_toArray, List.getElem_cons_zero, List.getElem_cons_succ, List.setIfInBounds_toArray, List.set_cons_zero, List.set_cons_succ]
          refine wpAnyH_ready (rs := [1, 8]) (by kernel_rfl) (by simp) ?_
          refine RdyH.cons rfl (fun K2 hK => ?_) ?_
          · have c1 := HK6.out.c1
            go_simp
            refine hK _ _ HS6.out ?_
            clear hK K2 c1
            refine wpAnyH_ready (rs := [8]) (by kernel_rfl) (by simp) ?_
            refine RdyH.cons rfl (fun K2 hK => ?_) RdyH.nil
            have bn := below_alloc w6 (.cells #[.int .i64 r, .slice na nn nc] 88)
            have HS7z := Lib.hid (Nat.le_trans HS6z.out bn.size)
            have HK7 := Lib.hid (HK6.out.keep bn)
            have HS7 := Lib.hid (blk_keep2 HS6.out bn)
            have HU2 := Lib.hid (HU.out.keep bn)
            clear bn
            go_simp
            refine hK _ _ HS7.out ?_
            clear hK K2
            refine wpAnyH_ready (rs := [9]) (by kernel_rfl) (by simp) ?_
            refine RdyH.cons rfl (fun K2 hK => ?_) RdyH.nil
            obtain ⟨vs1, e1, e2, e3, e4, e5⟩ := HK7.out.own
            refine step_append_own_g rfl (.tmp 21) (.tmp 28) 31 rfl elemAtoms rfl e2 [.int .i64 r, .slice na nn nc] rfl rfl ?c1 ?c2 ?c3 ?c4 ?_
            case c1 => intro j u hj; rw [cell_new]; simpa using hj
            case c2 => intro u hu; simp at hu; rcases hu with rfl | rfl <;> rfl
            case c3 => omega
            case c4 => exact (Array.getElem?_eq_some_iff.1 HK7.out.ho).1
            intro v' w8 h1 h2 hg
            have hO := SAt.snoc (T := w8.heap.size) e1 e2 e3 e4 e5 HUb.out (fun b h => Nat.lt_of_lt_of_le (own_lt HU2.out h).2 h2.size) (Nat.le_trans HS7z.out h2.size) HU2.out hg h1
            obtain ⟨pa, pn, pc, rfl⟩ : ∃ x y z, v' = .slice x y z := by
              obtain ⟨x, z, h⟩ := Atoms.own hO.own
              exact ⟨_, _, _, h⟩
            have HP := Lib.hid (HK7.out.put h2 hO)
            have hcf := (h2.block _ (by omega)).trans HK7.out.ho
            have HKF := Lib.hid (And.intro (cell_of_row w8 _ 1 _ _ _ hcf) (frozen_of_row w8 _ 1 _ _ hcf))
            have HS8 := Lib.hid (block_grown e2 hg HS7.out (by decide))
            clear hcf h1 h2 hg hO e1 e2 e3
            go_simp
            refine hK _ _ HS8.out ?_
            clear hK K2
            refine wpAnyH_take (i := 10) (v := ?_) rfl (by kernel_rfl) (by kernel_rfl) (by kernel_rfl) (fun _ _ _ h => h) (Or.inl ⟨by rfl, ?_⟩) HS8.out ?_
            rotate_left
            focus (intro w hS; clear hS; first | (go_simp; done) | (go_simp; with_reducible rfl))
            simp only [Act.put, List.getElem_toArray, List.getElem_cons_zero, List.getElem_cons_succ, List.setIfInBounds_toArray, List.set_cons_zero, List.set_cons_succ]
            refine wpAnyH_ready (rs := [11]) (by kernel_rfl) (by simp) ?_
            refine RdyH.cons rfl (fun K2 hK => ?_) RdyH.nil
            have k1 := HKF.out.1
            have f1 := HKF.out.2
            have HS20 := Lib.hid (fun (u : Value) => (heap_setCell_other w8 ⟨w2.heap.size, 1, none⟩ bb u (Nat.ne_of_gt Hbb.out)).trans HS8.out)
            go_simp
            refine hK _ _ (HS20.out _) ?_
            clear hK K2 k1 f1
            refine wpAnyH_done (by kernel_rfl) ?_ _
            go_wp2_with fail
            go_roundw
            case rel => exact ⟨k + 1, _, w8.heap.size, by go_num, by omega, by omega, by simp, by rw [HT.out]; exact HP.out⟩
            case measure => simp [intOf]; omega
          · refine RdyH.cons rfl (fun K2 hK => ?_) RdyH.nil
            have bn := below_alloc w6 (.cells #[.int .i64 r, .slice na nn nc] 88)
            have HS7z := Lib.hid (Nat.le_trans HS6z.out bn.size)
            have HK7 := Lib.hid (HK6.out.keep bn)
            have HS7 := Lib.hid (blk_keep2 HS6.out bn)
            have HU2 := Lib.hid (HU.out.keep bn)
            clear bn
            go_simp
            refine hK _ _ HS7.out ?_
            clear hK K2
            refine wpAnyH_ready (rs := [1]) (by kernel_rfl) (by simp) ?_
            refine RdyH.cons rfl (fun K2 hK => ?_) RdyH.nil
            have c1 := HK7.out.c1
            go_simp
            refine hK _ _ HS7.out ?_
            clear hK K2 c1
            refine wpAnyH_ready (rs := [9]) (by kernel_rfl) (by simp) ?_
            refine RdyH.cons rfl (fun K2 hK => ?_) RdyH.nil
            obtain ⟨vs1, e1, e2, e3, e4, e5⟩ := HK7.out.own
            refine step_append_own_g rfl (.tmp 21) (.tmp 28) 31 rfl elemAtoms rfl e2 [.int .i64 r, .slice na nn nc] rfl rfl ?c1 ?c2 ?c3 ?c4 ?_
            case c1 => intro j u hj; rw [cell_new]; simpa using hj
            case c2 => intro u hu; simp at hu; rcases hu with rfl | rfl <;> rfl
            case c3 => omega
            case c4 => exact (Array.getElem?_eq_some_iff.1 HK7.out.ho).1
            intro v' w8 h1 h2 hg
            have hO := SAt.snoc (T := w8.heap.size) e1 e2 e3 e4 e5 HUb.out (fun b h => Nat.lt_of_lt_of_le (own_lt HU2.out h).2 h2.size) (Nat.le_trans HS7z.out h2.size) HU2.out hg h1
            obtain ⟨pa, pn, pc, rfl⟩ : ∃ x y z, v' = .slice x y z := by
              obtain ⟨x, z, h⟩ := Atoms.own hO.own
              exact ⟨_, _, _, h⟩
            have HP := Lib.hid (HK7.out.put h2 hO)
            have hcf := (h2.block _ (by omega)).trans HK7.out.ho
            have HKF := Lib.hid (And.intro (cell_of_row w8 _ 1 _ _ _ hcf) (frozen_of_row w8 _ 1 _ _ hcf))
            have HS8 := Lib.hid (block_grown e2 hg HS7.out (by decide))
            clear hcf h1 h2 hg hO e1 e2 e3
            go_simp
            refine hK _ _ HS8.out ?_
            clear hK K2
            refine wpAnyH_take (i := 10) (v := ?_) rfl (by kernel_rfl) (by kernel_rfl) (by kernel_rfl) (fun _ _ _ h => h) (Or.inl ⟨by rfl, ?_⟩) HS8.out ?_
            rotate_left
            focus (intro w hS; clear hS; first | (go_simp; done) | (go_simp; with_reducible rfl))
            simp only [Act.put, List.getElem_toArray, List.getElem_cons_zero, List.getElem_cons_succ, List.setIfInBounds_toArray, List.set_cons_zero, List.set_cons_succ]
            refine wpAnyH_ready (rs := [11]) (by kernel_rfl) (by simp) ?_
            refine RdyH.cons rfl (fun K2 hK => ?_) RdyH.nil
            have k1 := HKF.out.1
            have f1 := HKF.out.2
            have HS20 := Lib.hid (fun (u : Value) => (heap_setCell_other w8 ⟨w2.heap.size, 1, none⟩ bb u (Nat.ne_of_gt Hbb.out)).trans HS8.out)
            go_simp
            refine hK _ _ (HS20.out _) ?_
            clear hK K2 k1 f1
            refine wpAnyH_done (by kernel_rfl) ?_ _
            go_wp2_with fail
            go_roundw
            case rel => exact ⟨k + 1, _, w8.heap.size, by go_num, by omega, by omega, by simp, by rw [HT.out]; exact HP.out⟩
            case measure => simp [intOf]; omega
      · obtain ⟨vsR, R0⟩ := Hfin.out (by rw [show k = 7 by omega])
        have R := Lib.hid R0
        clear R0
        have q7 : (k : Int) > 6 := by omega
        obtain ⟨w4, hw4⟩ : ∃ w4, w4 = wr.alloc (.cells #[.int .i64 r, .slice ua A.length uc] 80) := ⟨_, rfl⟩
        have bn : Below wr.heap.size wr w4 := by rw [hw4]; exact below_alloc _ _
        have HK := Lib.hid (HK.out.keep bn)
        have HRk := Lib.hid (blk_keep2 HRk.out bn)
        have Hbw := Lib.hid (Below.tr Hbw.out bn)
        have R := Lib.hid (R.out.keep bn)
        have Hw4 := Lib.hid hw4
        clear bn hw4
        go_upto_region 8 with fail
        rw [← Hw4.out]
        clear Hw4 hc1 hc2 hixk
        have hX := HX.out
        obtain ⟨oa, ol, oc, rfl⟩ : ∃ x y z, o = .slice x y z := by
          obtain ⟨x, z, h⟩ := Atoms.own HK.out.own.own
          exact ⟨_, _, _, h⟩
        have HKh := Lib.hid HK.out.ho
        subst hX
        have r0 : w4.cell? ⟨w.heap.size + 1, 0, none⟩ = some (.slice none 0 0) := by rw [cell_of_row w4 _ 0 _ _ _ HRk.out]; rfl
        have r1 : w4.cell? ⟨w.heap.size + 1, 1, none⟩ = some (.slice none 0 0) := by rw [cell_of_row w4 _ 1 _ _ _ HRk.out]; rfl
        have f0 := frozen_of_row w4 _ 0 _ _ HRk.out
        have f1 := frozen_of_row w4 _ 1 _ _ HRk.out
        have c0 := HK.out.c0
        have c1 := HK.out.c1
        have HG := Lib.hid (show ((w4.setCell ⟨w.heap.size + 1, 0, none⟩ (.slice xa2 xn2 xc2)).setCell ⟨w.heap.size + 1, 1, none⟩ (.slice oa ol oc)).heap[w.heap.size + 1]? = some (.cells #[.slice xa2 xn2 xc2, .slice oa ol oc] 33 (0, 0)) from by
          rw [heap_setCell_same _ _ 1 _ _ _ (heap_setCell_same w4 _ 0 _ _ _ HRk.out)]; rfl)
        have HB := Lib.hid (show Below w.heap.size w ((w4.setCell ⟨w.heap.size + 1, 0, none⟩ (.slice xa2 xn2 xc2)).setCell ⟨w.heap.size + 1, 1, none⟩ (.slice oa ol oc)) from (Hbw.out.setCell (by simp) _).setCell (by simp) _)
        have HO := Lib.hid (((R.out.set (b := w.heap.size + 1) (j := 0) (x := .slice xa2 xn2 xc2) (by omega)).set (b := w.heap.size + 1) (j := 1) (x := .slice oa ol oc) (by omega)).base (base' := w.heap.size) (by omega))
        clear R HRk HK HKh Hfin
        go_wp2_with fail
        exact bodyPost_ret (results_cell_row Try.results20 _ _ (w.heap.size + 1) 33 _ (0, 0) _ rfl HG.out Try.underlying33 rfl (by kernel_rfl)) rfl ⟨_, _, rfl, ⟨_, HO.out⟩, HB.out⟩
    · obtain rfl : k = bd.length := by omega
      obtain ⟨vsR, R0⟩ := Hfin.out (by rw [List.take_length, List.take_of_length_le hk7])
      have R := Lib.hid R0
      clear R0
      have hX := HX.out
      obtain ⟨oa, ol, oc, rfl⟩ : ∃ x y z, o = .slice x y z := by
        obtain ⟨x, z, h⟩ := Atoms.own HK.out.own.own
        exact ⟨_, _, _, h⟩
      have HKh := Lib.hid HK.out.ho
      subst hX
      have r0 : wr.cell? ⟨w.heap.size + 1, 0, none⟩ = some (.slice none 0 0) := by rw [cell_of_row wr _ 0 _ _ _ HRk.out]; rfl
      have r1 : wr.cell? ⟨w.heap.size + 1, 1, none⟩ = some (.slice none 0 0) := by rw [cell_of_row wr _ 1 _ _ _ HRk.out]; rfl
      have f0 := frozen_of_row wr _ 0 _ _ HRk.out
      have f1 := frozen_of_row wr _ 1 _ _ HRk.out
      have c0 := HK.out.c0
      have c1 := HK.out.c1
      have HG := Lib.hid (show ((wr.setCell ⟨w.heap.size + 1, 0, none⟩ (.slice xa2 xn2 xc2)).setCell ⟨w.heap.size + 1, 1, none⟩ (.slice oa ol oc)).heap[w.heap.size + 1]? = some (.cells #[.slice xa2 xn2 xc2, .slice oa ol oc] 33 (0, 0)) from by
        rw [heap_setCell_same _ _ 1 _ _ _ (heap_setCell_same wr _ 0 _ _ _ HRk.out)]; rfl)
      have HB := Lib.hid (show Below w.heap.size w ((wr.setCell ⟨w.heap.size + 1, 0, none⟩ (.slice xa2 xn2 xc2)).setCell ⟨w.heap.size + 1, 1, none⟩ (.slice oa ol oc)) from (Hbw.out.setCell (by simp) _).setCell (by simp) _)
      have HO := Lib.hid (((R.out.set (b := w.heap.size + 1) (j := 0) (x := .slice xa2 xn2 xc2) (by omega)).set (b := w.heap.size + 1) (j := 1) (x := .slice oa ol oc) (by omega)).base (base' := w.heap.size) (by omega))
      clear R HRk HK HKh Hfin
      go_wp2_with fail
      exact bodyPost_ret (results_cell_row Try.results20 _ _ (w.heap.size + 1) 33 _ (0, 0) _ rfl HG.out Try.underlying33 rfl (by kernel_rfl)) rfl ⟨_, _, rfl, ⟨_, HO.out⟩, HB.out⟩
#print axioms ofS_any
end Go.Proofs.Ytfplmdieeabgpaa
