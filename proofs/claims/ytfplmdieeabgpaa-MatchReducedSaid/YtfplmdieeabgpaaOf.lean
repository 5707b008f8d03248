/- Contract of Of: a query of the reference's types is turned into one of the program's. -/
import Derived.Test.YtfplmdieeabgpaaFew
import Derived.Test.YtfplmdieeabgpaaPut
import Derived.Test.YtfplmdieeabgpaaHeld
import Derived.Deep.DeepCutAuto
import Derived.Deep.RegionLaw
import Derived.Laws.Rows
import Derived.OwnWalk
namespace Go.Proofs.Ytfplmdieeabgpaa
open Go.RowKit
def ofA (a : HAt) : HAt := (a.1, a.2.take 9)
def ofQ (q : HQ) : HQ := (q.1.take 9, (q.2.take 7).map ofA)
theorem infoAtom : (Try.prog.info? 88).map (fun i => (i.zero, i.size, i.bytes)) = some (some (.agg #[.int .i64 0, .slice none 0 0]), 2, 32) := by kernel_rfl
theorem elemAtoms : Elem Try.prog 31 88 2 32 := elem_of Try.underlying31 infoAtom rfl (by omega) (by omega)
theorem atomNotInt : 88 ≠ 3 := by decide
theorem blk_keep2 {w w' : World} {b : Nat} {o : Obj} (h : w.heap[b]? = some o) (hb : Below w.heap.size w w') : w'.heap[b]? = some o := (hb.block b (Array.getElem?_eq_some_iff.1 h).1).trans h
/-- a query of the call's own -/
def OwnQr (base : Nat) (w : World) (v : Value) (q : HQ) : Prop := ∃ h b, v = .agg #[h, b] ∧ OwnInts base w h q.1 ∧ OwnAtoms 88 base w b q.2
theorem OwnQr.qr {base : Nat} {w : World} {v : Value} {q : HQ} (h : OwnQr base w v q) : Qr w v q := by
  obtain ⟨x, y, h1, h2, h3⟩ := h
  exact ⟨x, y, h1, h2.ints, h3.atoms⟩
theorem OwnQr.set {base b j : Nat} {w : World} {v x : Value} {q : HQ} (h : OwnQr base w v q) (hb : b < base) : OwnQr base (w.setCell ⟨b, j, none⟩ x) v q := by
  obtain ⟨y, z, h1, h2, vs, h3, h4, h5⟩ := h
  exact ⟨y, z, h1, ownsRow_setCell_below h2 hb _, vs, h3, ownsRow_setCell_below h4 hb _, fun i hi => ownsRow_setCell_below (h5 i hi) hb _⟩
theorem OwnQr.keep {base : Nat} {w w' : World} {v : Value} {q : HQ} (h : OwnQr base w v q) (hb : Below w.heap.size w w') : OwnQr base w' v q := by
  obtain ⟨y, z, h1, h2, h3⟩ := h
  exact ⟨y, z, h1, h2.keep hb, h3.keep hb⟩
theorem OwnQr.base {base base' : Nat} {w : World} {v : Value} {q : HQ} (h : OwnQr base w v q) (hb : base' ≤ base) : OwnQr base' w v q := by
  obtain ⟨y, z, h1, h2, vs, h3, h4, h5⟩ := h
  exact ⟨y, z, h1, OwnInts.base h2 hb, vs, h3, owns_base h4 hb, fun i hi => OwnInts.base (h5 i hi) hb⟩
/-- as step_append_own, and that only the row's block may have changed -/
theorem step_append_own_g {P : Program} {ops : Array Oper} {o : Oper} {a : Act} {K : Act → World → Prop} {Q : Exit → Act → World → Prop} {w : World} {E : Prop} (hgd : o.guard = none) (s x : Operand) (t : TypeId)
    (ho : o.op = .call { callee := .builtin .append, args := #[s, x], argTypes := #[t, t] }) {e : TypeId} {size bytes : Nat} (he : Elem P t e size bytes)
    {base n : Nat} {v : Value} {xs : List Value} (hs : a.eval s = v) (hown : w.ownsRow base e size v n xs)
    {g m c : Nat} (news : List Value) (hx : a.eval x = .slice (some ⟨g, 0, none⟩) m c) (hl : news.length = m * size) (hnews : ∀ j u, news[j]? = some u → w.cell? ⟨g, j, none⟩ = some u) (h1 : ∀ u ∈ news, u.oneCell' = true)
    (hn : n + m ≤ 100000000000) (hbase : base ≤ w.heap.size)
    (h : ∀ v' w', w'.ownsRow base e size v' (n + m) (xs ++ news) → Below base w w' → w.grownBy w' v.ownBlock → K (a.put o.dst v') w') : if Region.wanted o (yielded ops a.tmps) = true then Oper.wp P o a w K Q else E := by
  have hw : Region.wanted o (yielded ops a.tmps) = true := by simp [Region.wanted, hgd]
  rw [if_pos hw]
  obtain ⟨ht, i, z, hi, hz, h3, h4, hzs, hsz, hby⟩ := he
  have hbytes : (n + m) * bytes ≤ 100000000000 * 1000 := Nat.mul_le_mul hn hby
  exact wp_append_own w s x t ho base e i z size bytes ht hi hz h3 h4 hzs hsz v n xs hs hown ⟨g, 0, none⟩ m c news hx hl (fun j u hj => by rw [Addr.add_lit, Nat.zero_add]; exact hnews j u hj) h1
    (by unfold maxLen; omega) (by omega) hbase (fun v' w' h5 h6 _ => h v' w' h5 (grown_below hown h6 hbase) h6)
/-- a block of another type is kept where a row grows -/
theorem block_grown {w w' : World} {base size n bb : Nat} {e t : TypeId} {v : Value} {xs : List Value} {cs : Array Value} {fr : Nat × Nat} (h : w.ownsRow base e size v n xs) (hg : w.grownBy w' v.ownBlock) (hb : w.heap[bb]? = some (.cells cs t fr)) (hne : t ≠ e) : w'.heap[bb]? = some (.cells cs t fr) := by
  refine (hg.block bb (Array.getElem?_eq_some_iff.1 hb).1 ?_).trans hb
  rcases h.2 with ⟨rfl, _⟩ | ⟨g, cap, cur, rfl, _, hh, _⟩
  · intro q; cases q
  · intro q
    have q : some bb = some g := q
    injection q with q
    subst q
    rw [hb] at hh
    injection hh with hh
    injection hh with _ hh _
    exact hne hh
theorem aCell {w : World} {b : Nat} {cs : Array Value} {t : TypeId} {fr : Nat × Nat} (h : w.heap[b]? = some (.cells cs t fr)) (j : Nat) {v : Value} (hv : cs[j]? = some v) : w.cell? ⟨b, j, none⟩ = some v := by rw [cell_of_row w b j cs t fr h]; exact hv
/-- what the walk of Of keeps: w2 is the world ahead of the new query's block -/
structure Oq (w2 wr : World) (x o : Value) (xs : List HAt) : Prop where
  b : Below w2.heap.size w2 wr
  ho : wr.heap[w2.heap.size]? = some (.cells #[x, o] 33 (0, 0))
  own : OwnAtoms 88 (w2.heap.size + 1) wr o xs
theorem Oq.keep {w2 wr w' : World} {x o : Value} {xs : List HAt} (k : Oq w2 wr x o xs) (hb : Below wr.heap.size wr w') : Oq w2 w' x o xs := ⟨Below.tr k.b hb, blk_keep2 k.ho hb, k.own.keep hb⟩
theorem Oq.c1 {w2 wr : World} {x o : Value} {xs : List HAt} (k : Oq w2 wr x o xs) : wr.cell? ⟨w2.heap.size, 1, none⟩ = some o := by rw [cell_of_row wr _ 1 _ _ _ k.ho]; rfl
theorem Oq.c0 {w2 wr : World} {x o : Value} {xs : List HAt} (k : Oq w2 wr x o xs) : wr.cell? ⟨w2.heap.size, 0, none⟩ = some x := by rw [cell_of_row wr _ 0 _ _ _ k.ho]; rfl
theorem Oq.put {w2 wr w' : World} {x o o' : Value} {xs ys : List HAt} (k : Oq w2 wr x o xs) (hb : Below (w2.heap.size + 1) wr w') (ho : OwnAtoms 88 (w2.heap.size + 1) w' o' ys) : Oq w2 (w'.setCell ⟨w2.heap.size, 1, none⟩ o') x o' ys := by
  have hf' := (hb.block _ (by omega)).trans k.ho
  refine ⟨(k.b.trans (hb.mono (by omega))).setCell (Nat.le_refl _) _, by rw [heap_setCell_same w' _ 1 _ _ o' hf']; rfl, ?_⟩
  obtain ⟨vs, h1, h2, h3⟩ := ho
  exact ⟨vs, h1, ownsRow_setCell_below h2 (Nat.lt_succ_self _) _, fun i hi => ownsRow_setCell_below (h3 i hi) (Nat.lt_succ_self _) _⟩
set_option maxRecDepth 100000 in
set_option maxHeartbeats 16000000 in
theorem ofQ_any (q : HQ) (v : Value) (w : World) (hq : Qr w v q) :
    Calls Try.prog 20 #[v] w fun e w' => ∃ v', e = .returned v' ∧ OwnQr w.heap.size w' v' (ofQ q) ∧ Below w.heap.size w w' := by
  obtain ⟨hd, bd⟩ := q
  obtain ⟨h0, b0, rfl, hh, hb⟩ := hq
  simp only at hh hb
  obtain ⟨a, b, off, cap, vs, rfl, hle, ha, hcap, hc⟩ := Atoms.get hb
  obtain ⟨xa, xc, rfl⟩ := ints_slice hh
  have Hix := Lib.hid (run_ix (P := Try.prog) (t := 23) (a := a) (len := bd.length) (cap := cap) (b := b) (off := off) (s := 2) Try.underlying23 (by intro w; kernel_rfl) ha)
  have Hc := Lib.hid hc
  obtain ⟨w0, hw0⟩ : ∃ w0, w0 = w.alloc (.cells #[.slice xa hd.length xc, .slice a bd.length cap] 25) := ⟨_, rfl⟩
  have hz0 : w0.heap.size = w.heap.size + 1 := by rw [hw0]; simp
  obtain ⟨w1, hw1⟩ : ∃ w1, w1 = w0.alloc (.cells #[.slice none 0 0, .slice none 0 0] 33) := ⟨_, rfl⟩
  have b0 : Below w.heap.size w w0 := by rw [hw0]; exact below_alloc _ _
  have b1 : Below w0.heap.size w0 w1 := by rw [hw1]; exact below_alloc _ _
  have q0 : w0.cell? ⟨w.heap.size, 0, none⟩ = some (.slice xa hd.length xc) := by rw [hw0]; exact cell_new w _ _ 0
  have q1 : w0.cell? ⟨w.heap.size, 1, none⟩ = some (.slice a bd.length cap) := by rw [hw0]; exact cell_new w _ _ 1
  have HR1 := Lib.hid (show w1.heap[w.heap.size + 1]? = some (.cells #[.slice none 0 0, .slice none 0 0] 33 (0, 0)) from by
    have := heap_alloc_new w0 (.cells #[.slice none 0 0, .slice none 0 0] 33)
    rw [← hw1, hz0] at this; exact this)
  have HF := Lib.hid (fewQ_any hd (.slice xa hd.length xc) w1 (hh.keep (Below.tr b0 b1)))
  have HFa := Lib.hid (fun (l : List Int) (u : Value) (w : World) (hu : Ints w u l) => fewQ_any l u w hu)
  have Hb1 := Lib.hid (Below.tr b0 b1)
  have g0 := Below.keep b1 q0
  have G1 := Lib.hid (Below.keep b1 q1)
  have Hw0 := Lib.hid hw0
  have Hw1 := Lib.hid hw1
  have Hz0 := Lib.hid hz0
  have Hz1 := Lib.hid (show w1.heap.size = w.heap.size + 2 from by rw [hw1]; simp; omega)
  clear hh hb ha hc hcap hw0 hw1 b0 b1 q0 q1 hz0
  go_enter Try.func20, Try.ntmps20
  go_upto_region 1 with fail
  rw [← Hw0.out, ← Hw1.out]
  clear Hw0 Hw1 Hz0
  go_wp2_with fail
  refine HF.out.mono ?_
  rintro e w2 ⟨x, rfl, hx, hb2⟩
  obtain ⟨xa2, xn2, xc2, rfl⟩ := own_slice hx
  obtain ⟨X, hX⟩ : ∃ X, X = Value.slice xa2 xn2 xc2 := ⟨_, rfl⟩
  have HX := Lib.hid hX
  have Hx2 := Lib.hid (show OwnInts (w.heap.size + 2) w2 X (hd.take 9) from by rw [hX]; exact OwnInts.base hx (by have := Hz1.out; omega))
  have Hs2 := Lib.hid (show w.heap.size + 2 ≤ w2.heap.size from by have := Hz1.out; have := hb2.size; omega)
  clear Hz1
  have Hb2 := Lib.hid (Below.tr Hb1.out hb2)
  have HR2 := Lib.hid (blk_keep2 HR1.out hb2)
  have bn := below_alloc w2 (.cells #[X, .slice none 0 0] 33)
  have g3 : (w2.alloc (.cells #[X, .slice none 0 0] 33)).cell? ⟨w.heap.size, 1, none⟩ = some (.slice a bd.length cap) := Below.keep bn (Below.keep hb2 G1.out)
  have HK0 := Lib.hid (show Oq w2 (w2.alloc (.cells #[X, .slice none 0 0] 33)) X (.slice none 0 0) [] from ⟨bn, heap_alloc_new w2 _, ownAtoms_nil _ _ _⟩)
  rw [hX] at g3 HK0
  clear hx hb2 bn HF HR1 Hb1 G1 g0 hX
  go_wp2_with fail
  rw [← HX.out] at HK0 ⊢
  clear g3
  go_loopw [13] (fun vi wr => ∃ (k : Nat) (o : Value), vi = .int .i64 k ∧ k ≤ bd.length ∧ k ≤ 7 ∧ Oq w2 wr X o ((bd.take k).map ofA)) (fun vi _ => bd.length - (intOf vi).toNat)
  case atStart => exact ⟨0, _, rfl, Nat.zero_le _, by omega, HK0.out⟩
  case round =>
    clear HK0
    obtain ⟨k, o, rfl, hk, hk7, hK⟩ := hrel
    have HK := Lib.hid hK
    clear hK
    have Hbw := Lib.hid (Below.tr Hb2.out HK.out.b)
    have HRk := Lib.hid (blk_keep2 HR2.out HK.out.b)
    have Hfin := Lib.hid (fun (e : (bd.take k).map ofA = (bd.take 7).map ofA) => show OwnQr (w.heap.size + 2) wr (.agg #[X, o]) (ofQ (hd, bd)) from
      ⟨X, o, rfl, Hx2.out.keep HK.out.b, by
        obtain ⟨vs, h1, h2, h3⟩ := HK.out.own
        have hle2 := Hs2.out
        show OwnAtoms _ _ _ _ ((bd.take 7).map ofA)
        rw [← e]
        exact ⟨vs, h1, owns_base h2 (by omega), fun i hi => OwnInts.base (h3 i hi) (by omega)⟩⟩)
    by_cases hlt : k < bd.length
    · have hc1 := Below.keep Hbw.out (Hc.out k hlt).1
      have hc2 := Below.keep Hbw.out (Hc.out k hlt).2.1
      have hi := Ints.keep (Hc.out k hlt).2.2 Hbw.out
      have hixk := Hix.out k
      obtain ⟨ua, uc, hu⟩ := ints_slice hi
      rw [hu] at hc2 hi
      clear hu
      have HT := Lib.hid (show (bd.take (k + 1)).map ofA = (bd.take k).map ofA ++ [(aR bd k, (aA bd k).take 9)] from by rw [List.take_succ_eq_append_getElem hlt, List.map_append, at_get hlt]; rfl)
      obtain ⟨r, hr⟩ : ∃ t, t = aR bd k := ⟨_, rfl⟩
      obtain ⟨A, hA⟩ : ∃ t, t = aA bd k := ⟨_, rfl⟩
      rw [← hr, ← hA] at HT
      rw [← hr] at hc1
      rw [← hA] at hc2 hi
      clear hr hA
      have hml := hi.2.1
      have hcp := Ints.cap hi
      by_cases h7 : k < 7
      · have q7 : ¬ (k : Int) > 6 := by omega
        obtain ⟨oa, oc, rfl⟩ := Atoms.own HK.out.own
        have hlen : ((bd.take k).map ofA).length ≤ 7 := by rw [List.length_map, List.length_take]; omega
        obtain ⟨xs, hxs⟩ : ∃ xs, xs = (bd.take k).map ofA := ⟨_, rfl⟩
        rw [← hxs] at HK HT hlen
        clear hxs Hfin
        obtain ⟨w4, hw4⟩ : ∃ w4, w4 = wr.alloc (.cells #[.int .i64 r, .slice ua A.length uc] 80) := ⟨_, rfl⟩
        have hb4 : Below wr.heap.size wr w4 := by rw [hw4]; exact below_alloc _ _
        obtain ⟨bb, hbb⟩ : ∃ bb, bb = wr.heap.size := ⟨_, rfl⟩
        have HS := Lib.hid (show w4.drew.heap[bb]? = some (.cells #[.int .i64 r, .slice ua A.length uc] 80 (0, 0)) from by rw [hw4, hbb]; exact heap_alloc_new wr _)
        have HK4 := Lib.hid ((HK.out.keep hb4).keep (w' := w4.drew) (Below.refl _ _).drew)
        have Hi4 := Lib.hid (show Ints w4.drew (.slice ua A.length uc) A from (hi.keep hb4).keep (Below.refl _ _).drew)
        have Hbb := Lib.hid (show w2.heap.size < bb from by rw [hbb]; exact (Array.getElem?_eq_some_iff.1 HK.out.ho).1)
        have Hw4 := Lib.hid hw4
        clear hw4 hi hb4 HK
        go_upto_region 6 with fail
        rw [← Hw4.out, ← hbb]
        clear Hw4 hc1 hc2 hixk hbb
        refine wp_region_held (S := fun w' => w'.heap[bb]? = some (.cells #[.int .i64 r, .slice ua A.length uc] 80 (0, 0))) wideK ?_
        change wpAnyH _ _ _ _ _ _ _ _ (World.drew _)
        generalize w4.drew = w5 at *
        refine wpAnyH_take (i := 0) (v := ?_) rfl (by kernel_rfl) (by kernel_rfl) (by kernel_rfl) (fun _ _ _ h => h) (Or.inl ⟨by rfl, ?_⟩) HS.out ?_
        rotate_left
        focus (intro w hS; clear hS; first | (go_simp; done) | (go_simp; with_reducible rfl))
        simp only [Act.put, List.getElem_toArray, List.getElem_cons_zero, List.setIfInBounds_toArray, List.set_cons_zero, List.set_cons_succ]
        refine wpAnyH_take (i := 2) (v := ?_) rfl (by kernel_rfl) (by kernel_rfl) (by kernel_rfl) (fun _ _ _ h => h) (Or.inl ⟨by rfl, ?_⟩) HS.out ?_
        rotate_left
        focus (intro w hS; clear hS; first | (go_simp; done) | (go_simp; with_reducible rfl))
        simp only [Act.put, List.getElem_toArray, List.getElem_cons_zero, List.getElem_cons_succ, List.setIfInBounds_toArray, List.set_cons_zero, List.set_cons_succ]
        refine wpAnyH_take (i := 3) (v := ?_) rfl (by kernel_rfl) (by kernel_rfl) (by kernel_rfl) (fun _ _ _ h => h) (Or.inl ⟨by rfl, ?_⟩) HS.out ?_
        rotate_left
        focus (intro w hS; have s0 := aCell hS 0 rfl; clear hS; first | (go_simp; done) | (go_simp; with_reducible rfl))
        simp only [Act.put, List.getElem_toArray, List.getElem_cons_zero, List.getElem_cons_succ, List.setIfInBounds_toArray, List.set_cons_zero, List.set_cons_succ]
        refine wpAnyH_take (i := 4) (v := ?_) rfl (by kernel_rfl) (by kernel_rfl) (by kernel_rfl) (fun _ _ _ h => h) (Or.inl ⟨by rfl, ?_⟩) HS.out ?_
        rotate_left
        focus (intro w hS; clear hS; first | (go_simp; done) | (go_simp; with_reducible rfl))
        simp only [Act.put, List.getElem_toArray, List.getElem_cons_zero, List.getElem_cons_succ, List.setIfInBounds_toArray, List.set_cons_zero, List.set_cons_succ]
        refine wpAnyH_take (i := 5) (v := ?_) rfl (by kernel_rfl) (by kernel_rfl) (by kernel_rfl) (fun _ _ _ h => h) (Or.inl ⟨by rfl, ?_⟩) HS.out ?_
        rotate_left
        focus (intro w hS; have s0 := aCell hS 1 rfl; clear hS; first | (go_simp; done) | (go_simp; with_reducible rfl))
        simp only [Act.put, List.getElem_toArray, List.getElem_cons_zero, List.getElem_cons_succ, List.setIfInBounds_toArray, List.set_cons_zero, List.set_cons_succ]
        refine wpAnyH_ready (rs := [1, 6]) (by kernel_rfl) (by simp) ?_
        refine RdyH.cons rfl (fun K2 hK => ?_) ?_
        · have c1 := HK4.out.c1
          go_simp
          refine hK _ _ HS.out ?_
          clear hK K2 c1
          refine wpAnyH_ready (rs := [6]) (by kernel_rfl) (by simp) ?_
          refine RdyH.cons rfl (fun K2 hK => ?_) RdyH.nil
          go_simp
          go_at_call 43
          refine (HFa.out A (.slice ua A.length uc) _ Hi4.out).mono ?_
          rintro e w6 ⟨u, rfl, hu, hb⟩
          obtain ⟨na, nn, nc, rfl⟩ := own_slice hu
          have HK6 := Lib.hid (HK4.out.keep hb)
          have HS6 := Lib.hid (blk_keep2 HS.out hb)
          have HU := Lib.hid (OwnInts.base hu (show w2.heap.size + 1 ≤ _ from (Array.getElem?_eq_some_iff.1 HK4.out.ho).1))
          clear hu hb
          go_simp
          refine hK _ _ HS6.out ?_
          clear hK K2
          refine wpAnyH_take (i := 7) (v := ?_) rfl (by kernel_rfl) (by kernel_rfl) (by kernel_rfl) (fun _ _ _ h => h) (Or.inl ⟨by rfl, ?_⟩) HS6.out ?_
          rotate_left
          focus (intro w hS; clear hS; first | (go_simp; done) | (go_simp; with_reducible rfl))
          simp only [Act.put, List.getElem_toArray, List.getElem_cons_zero, List.getElem_cons_succ, List.setIfInBounds_toArray, List.set_cons_zero, List.set_cons_succ]
          refine wpAnyH_ready (rs := [8]) (by kernel_rfl) (by simp) ?_
          refine RdyH.cons rfl (fun K2 hK => ?_) RdyH.nil
          have bn := below_alloc w6 (.cells #[.int .i64 r, .slice na nn nc] 88)
          have HK7 := Lib.hid (HK6.out.keep bn)
          have HS7 := Lib.hid (blk_keep2 HS6.out bn)
          have HU2 := Lib.hid (HU.out.keep bn)
          clear bn
          go_simp
          refine hK _ _ HS7.out ?_
          clear hK K2
          refine wpAnyH_ready (rs := [9]) (by kernel_rfl) (by simp) ?_
          refine RdyH.cons rfl (fun K2 hK => ?_) RdyH.nil
          obtain ⟨vs1, e1, e2, e3⟩ := HK7.out.own
          refine step_append_own_g rfl (.tmp 21) (.tmp 28) 31 rfl elemAtoms rfl e2 [.int .i64 r, .slice na nn nc] rfl rfl ?c1 ?c2 ?c3 ?c4 ?_
          case c1 => intro j u hj; rw [cell_new]; simpa using hj
          case c2 => intro u hu; simp at hu; rcases hu with rfl | rfl <;> rfl
          case c3 => omega
          case c4 => exact (Array.getElem?_eq_some_iff.1 HK7.out.ho).1
          intro v' w8 h1 h2 hg
          have hO := OwnAtoms.snoc atomNotInt e1 e2 e3 HU2.out hg h1
          obtain ⟨pa, pn, pc, rfl⟩ : ∃ x y z, v' = .slice x y z := by
            obtain ⟨x, z, h⟩ := Atoms.own hO
            exact ⟨_, _, _, h⟩
          have HP := Lib.hid (HK7.out.put h2 hO)
          have hcf := (h2.block _ (by omega)).trans HK7.out.ho
          have HKF := Lib.hid (And.intro (cell_of_row w8 _ 1 _ _ _ hcf) (frozen_of_row w8 _ 1 _ _ hcf))
          have HS8 := Lib.hid (block_grown e2 hg HS7.out (by decide))
          clear hcf h1 h2 hg hO e1 e2 e3
          go_simp
          refine hK _ _ HS8.out ?_
          clear hK K2
          refine wpAnyH_take (i := 10) (v := ?_) rfl (by kernel_rfl) (by kernel_rfl) (by kernel_rfl) (fun _ _ _ h => h) (Or.inl ⟨by rfl, ?_⟩) HS8.out ?_
          rotate_left
          focus (intro w hS; clear hS; first | (go_simp; done) | (go_simp; with_reducible rfl))
          simp only [Act.put, List.getElem_toArray, List.getElem_cons_zero, List.getElem_cons_succ, List.setIfInBounds_toArray, List.set_cons_zero, List.set_cons_succ]
          refine wpAnyH_ready (rs := [11]) (by kernel_rfl) (by simp) ?_
          refine RdyH.cons rfl (fun K2 hK => ?_) RdyH.nil
          have k1 := HKF.out.1
          have f1 := HKF.out.2
          have HS20 := Lib.hid (fun (u : Value) => (heap_setCell_other w8 ⟨w2.heap.size, 1, none⟩ bb u (Nat.ne_of_gt Hbb.out)).trans HS8.out)
          go_simp
          refine hK _ _ (HS20.out _) ?_
          clear hK K2 k1 f1
          refine wpAnyH_done (by kernel_rfl) ?_ _
          go_wp2_with fail
          go_roundw
          case rel => exact ⟨k + 1, _, by go_num, by omega, by omega, by rw [HT.out]; exact HP.out⟩
          case measure => simp [intOf]; omega
        · refine RdyH.cons rfl (fun K2 hK => ?_) RdyH.nil
          go_simp
          go_at_call 43
          refine (HFa.out A (.slice ua A.length uc) _ Hi4.out).mono ?_
          rintro e w6 ⟨u, rfl, hu, hb⟩
          obtain ⟨na, nn, nc, rfl⟩ := own_slice hu
          have HK6 := Lib.hid (HK4.out.keep hb)
          have HS6 := Lib.hid (blk_keep2 HS.out hb)
          have HU := Lib.hid (OwnInts.base hu (show w2.heap.size + 1 ≤ _ from (Array.getElem?_eq_some_iff.1 HK4.out.ho).1))
          clear hu hb
          go_simp
          refine hK _ _ HS6.out ?_
          clear hK K2
          refine wpAnyH_take (i := 7) (v := ?_) rfl (by kernel_rfl) (by kernel_rfl) (by kernel_rfl) (fun _ _ _ h => h) (Or.inl ⟨by rfl, ?_⟩) HS6.out ?_
          rotate_left
          focus (intro w hS; clear hS; first | (go_simp; done) | (go_simp; with_reducible rfl))
          simp only [Act.put, List.getElem_toArray, List.getElem_cons_zero, List.getElem_cons_succ, List.setIfInBounds_toArray, List.set_cons_zero, List.set_cons_succ]
          refine wpAnyH_ready (rs := [1, 8]) (by kernel_rfl) (by simp) ?_
          refine RdyH.cons rfl (fun K2 hK => ?_) ?_
          · have c1 := HK6.out.c1
            go_simp
            refine hK _ _ HS6.out ?_
            clear hK K2 c1
            refine wpAnyH_ready (rs := [8]) (by kernel_rfl) (by simp) ?_
            refine RdyH.cons rfl (fun K2 hK => ?_) RdyH.nil
            have bn := below_alloc w6 (.cells #[.int .i64 r, .slice na nn nc] 88)
            have HK7 := Lib.hid (HK6.out.keep bn)
            have HS7 := Lib.hid (blk_keep2 HS6.out bn)
            have HU2 := Lib.hid (HU.out.keep bn)
            clear bn
            go_simp
            refine hK _ _ HS7.out ?_
            clear hK K2
            refine wpAnyH_ready (rs := [9]) (by kernel_rfl) (by simp) ?_
            refine RdyH.cons rfl (fun K2 hK => ?_) RdyH.nil
            obtain ⟨vs1, e1, e2, e3⟩ := HK7.out.own
            refine step_append_own_g rfl (.tmp 21) (.tmp 28) 31 rfl elemAtoms rfl e2 [.int .i64 r, .slice na nn nc] rfl rfl ?c1 ?c2 ?c3 ?c4 ?_
            case c1 => intro j u hj; rw [cell_new]; simpa using hj
            case c2 => intro u hu; simp at hu; rcases hu with rfl | rfl <;> rfl
            case c3 => omega
            case c4 => exact (Array.getElem?_eq_some_iff.1 HK7.out.ho).1
            intro v' w8 h1 h2 hg
            have hO := OwnAtoms.snoc atomNotInt e1 e2 e3 HU2.out hg h1
            obtain ⟨pa, pn, pc, rfl⟩ : ∃ x y z, v' = .slice x y z := by
              obtain ⟨x, z, h⟩ := Atoms.own hO
              exact ⟨_, _, _, h⟩
            have HP := Lib.hid (HK7.out.put h2 hO)
            have hcf := (h2.block _ (by omega)).trans HK7.out.ho
            have HKF := Lib.hid (And.intro (cell_of_row w8 _ 1 _ _ _ hcf) (frozen_of_row w8 _ 1 _ _ hcf))
            have HS8 := Lib.hid (block_grown e2 hg HS7.out (by decide))
            clear hcf h1 h2 hg hO e1 e2 e3
            go_simp
            refine hK _ _ HS8.out ?_
            clear hK K2
            refine wpAnyH_take (i := 10) (v := ?_) rfl (by kernel_rfl) (by kernel_rfl) (by kernel_rfl) (fun _ _ _ h => h) (Or.inl ⟨by rfl, ?_⟩) HS8.out ?_
            rotate_left
            focus (intro w hS; clear hS; first | (go_simp; done) | (go_simp; with_reducible rfl))
            simp only [Act.put, List.getElem_toArray, List.getElem_cons_zero, List.getElem_cons_succ, List.setIfInBounds_toArray, List.set_cons_zero, List.set_cons_succ]
            refine wpAnyH_ready (rs := [11]) (by kernel_rfl) (by simp) ?_
            refine RdyH.cons rfl (fun K2 hK => ?_) RdyH.nil
            have k1 := HKF.out.1
            have f1 := HKF.out.2
            have HS20 := Lib.hid (fun (u : Value) => (heap_setCell_other w8 ⟨w2.heap.size, 1, none⟩ bb u (Nat.ne_of_gt Hbb.out)).trans HS8.out)
            go_simp
            refine hK _ _ (HS20.out _) ?_
            clear hK K2 k1 f1
            refine wpAnyH_done (by kernel_rfl) ?_ _
            go_wp2_with fail
            go_roundw
            case rel => exact ⟨k + 1, _, by go_num, by omega, by omega, by rw [HT.out]; exact HP.out⟩
            case measure => simp [intOf]; omega
          · refine RdyH.cons rfl (fun K2 hK => ?_) RdyH.nil
            have bn := below_alloc w6 (.cells #[.int .i64 r, .slice na nn nc] 88)
            have HK7 := Lib.hid (HK6.out.keep bn)
            have HS7 := Lib.hid (blk_keep2 HS6.out bn)
            have HU2 := Lib.hid (HU.out.keep bn)
            clear bn
            go_simp
            refine hK _ _ HS7.out ?_
            clear hK K2
            refine wpAnyH_ready (rs := [1]) (by kernel_rfl) (by simp) ?_
            refine RdyH.cons rfl (fun K2 hK => ?_) RdyH.nil
            have c1 := HK7.out.c1
            go_simp
            refine hK _ _ HS7.out ?_
            clear hK K2 c1
            refine wpAnyH_ready (rs := [9]) (by kernel_rfl) (by simp) ?_
            refine RdyH.cons rfl (fun K2 hK => ?_) RdyH.nil
            obtain ⟨vs1, e1, e2, e3⟩ := HK7.out.own
            refine step_append_own_g rfl (.tmp 21) (.tmp 28) 31 rfl elemAtoms rfl e2 [.int .i64 r, .slice na nn nc] rfl rfl ?c1 ?c2 ?c3 ?c4 ?_
            case c1 => intro j u hj; rw [cell_new]; simpa using hj
            case c2 => intro u hu; simp at hu; rcases hu with rfl | rfl <;> rfl
            case c3 => omega
            case c4 => exact (Array.getElem?_eq_some_iff.1 HK7.out.ho).1
            intro v' w8 h1 h2 hg
            have hO := OwnAtoms.snoc atomNotInt e1 e2 e3 HU2.out hg h1
            obtain ⟨pa, pn, pc, rfl⟩ : ∃ x y z, v' = .slice x y z := by
              obtain ⟨x, z, h⟩ := Atoms.own hO
              exact ⟨_, _, _, h⟩
            have HP := Lib.hid (HK7.out.put h2 hO)
            have hcf := (h2.block _ (by omega)).trans HK7.out.ho
            have HKF := Lib.hid (And.intro (cell_of_row w8 _ 1 _ _ _ hcf) (frozen_of_row w8 _ 1 _ _ hcf))
            have HS8 := Lib.hid (block_grown e2 hg HS7.out (by decide))
            clear hcf h1 h2 hg hO e1 e2 e3
            go_simp
            refine hK _ _ HS8.out ?_
            clear hK K2
            refine wpAnyH_take (i := 10) (v := ?_) rfl (by kernel_rfl) (by kernel_rfl) (by kernel_rfl) (fun _ _ _ h => h) (Or.inl ⟨by rfl, ?_⟩) HS8.out ?_
            rotate_left
            focus (intro w hS; clear hS; first | (go_simp; done) | (go_simp; with_reducible rfl))
            simp only [Act.put, List.getElem_toArray, List.getElem_cons_zero, List.getElem_cons_succ, List.setIfInBounds_toArray, List.set_cons_zero, List.set_cons_succ]
            refine wpAnyH_ready (rs := [11]) (by kernel_rfl) (by simp) ?_
            refine RdyH.cons rfl (fun K2 hK => ?_) RdyH.nil
            have k1 := HKF.out.1
            have f1 := HKF.out.2
            have HS20 := Lib.hid (fun (u : Value) => (heap_setCell_other w8 ⟨w2.heap.size, 1, none⟩ bb u (Nat.ne_of_gt Hbb.out)).trans HS8.out)
            go_simp
            refine hK _ _ (HS20.out _) ?_
            clear hK K2 k1 f1
            refine wpAnyH_done (by kernel_rfl) ?_ _
            go_wp2_with fail
            go_roundw
            case rel => exact ⟨k + 1, _, by go_num, by omega, by omega, by rw [HT.out]; exact HP.out⟩
            case measure => simp [intOf]; omega
      · have R := Lib.hid (Hfin.out (by rw [show k = 7 by omega]))
        have q7 : (k : Int) > 6 := by omega
        obtain ⟨w4, hw4⟩ : ∃ w4, w4 = wr.alloc (.cells #[.int .i64 r, .slice ua A.length uc] 80) := ⟨_, rfl⟩
        have bn : Below wr.heap.size wr w4 := by rw [hw4]; exact below_alloc _ _
        have HK := Lib.hid (HK.out.keep bn)
        have HRk := Lib.hid (blk_keep2 HRk.out bn)
        have Hbw := Lib.hid (Below.tr Hbw.out bn)
        have R := Lib.hid (R.out.keep bn)
        have Hw4 := Lib.hid hw4
        clear bn hw4
        go_upto_region 8 with fail
        rw [← Hw4.out]
        clear Hw4 hc1 hc2 hixk
        have hX := HX.out
        obtain ⟨oa, ol, oc, rfl⟩ : ∃ x y z, o = .slice x y z := by
          obtain ⟨x, z, h⟩ := Atoms.own HK.out.own
          exact ⟨_, _, _, h⟩
        have HKh := Lib.hid HK.out.ho
        subst hX
        have r0 : w4.cell? ⟨w.heap.size + 1, 0, none⟩ = some (.slice none 0 0) := by rw [cell_of_row w4 _ 0 _ _ _ HRk.out]; rfl
        have r1 : w4.cell? ⟨w.heap.size + 1, 1, none⟩ = some (.slice none 0 0) := by rw [cell_of_row w4 _ 1 _ _ _ HRk.out]; rfl
        have f0 := frozen_of_row w4 _ 0 _ _ HRk.out
        have f1 := frozen_of_row w4 _ 1 _ _ HRk.out
        have c0 := HK.out.c0
        have c1 := HK.out.c1
        have HG := Lib.hid (show ((w4.setCell ⟨w.heap.size + 1, 0, none⟩ (.slice xa2 xn2 xc2)).setCell ⟨w.heap.size + 1, 1, none⟩ (.slice oa ol oc)).heap[w.heap.size + 1]? = some (.cells #[.slice xa2 xn2 xc2, .slice oa ol oc] 33 (0, 0)) from by
          rw [heap_setCell_same _ _ 1 _ _ _ (heap_setCell_same w4 _ 0 _ _ _ HRk.out)]; rfl)
        have HB := Lib.hid (show Below w.heap.size w ((w4.setCell ⟨w.heap.size + 1, 0, none⟩ (.slice xa2 xn2 xc2)).setCell ⟨w.heap.size + 1, 1, none⟩ (.slice oa ol oc)) from (Hbw.out.setCell (by simp) _).setCell (by simp) _)
        have HO := Lib.hid (((R.out.set (b := w.heap.size + 1) (j := 0) (x := .slice xa2 xn2 xc2) (by omega)).set (b := w.heap.size + 1) (j := 1) (x := .slice oa ol oc) (by omega)).base (base' := w.heap.size) (by omega))
        clear R HRk HK HKh Hfin
        go_wp2_with fail
        exact bodyPost_ret (results_cell_row Try.results20 _ _ (w.heap.size + 1) 33 _ (0, 0) _ rfl HG.out Try.underlying33 rfl (by kernel_rfl)) rfl ⟨_, rfl, HO.out, HB.out⟩
    · obtain rfl : k = bd.length := by omega
      have R := Lib.hid (Hfin.out (by rw [List.take_length, List.take_of_length_le hk7]))
      have hX := HX.out
      obtain ⟨oa, ol, oc, rfl⟩ : ∃ x y z, o = .slice x y z := by
        obtain ⟨x, z, h⟩ := Atoms.own HK.out.own
        exact ⟨_, _, _, h⟩
      have HKh := Lib.hid HK.out.ho
      subst hX
      have r0 : wr.cell? ⟨w.heap.size + 1, 0, none⟩ = some (.slice none 0 0) := by rw [cell_of_row wr _ 0 _ _ _ HRk.out]; rfl
      have r1 : wr.cell? ⟨w.heap.size + 1, 1, none⟩ = some (.slice none 0 0) := by rw [cell_of_row wr _ 1 _ _ _ HRk.out]; rfl
      have f0 := frozen_of_row wr _ 0 _ _ HRk.out
      have f1 := frozen_of_row wr _ 1 _ _ HRk.out
      have c0 := HK.out.c0
      have c1 := HK.out.c1
      have HG := Lib.hid (show ((wr.setCell ⟨w.heap.size + 1, 0, none⟩ (.slice xa2 xn2 xc2)).setCell ⟨w.heap.size + 1, 1, none⟩ (.slice oa ol oc)).heap[w.heap.size + 1]? = some (.cells #[.slice xa2 xn2 xc2, .slice oa ol oc] 33 (0, 0)) from by
        rw [heap_setCell_same _ _ 1 _ _ _ (heap_setCell_same wr _ 0 _ _ _ HRk.out)]; rfl)
      have HB := Lib.hid (show Below w.heap.size w ((wr.setCell ⟨w.heap.size + 1, 0, none⟩ (.slice xa2 xn2 xc2)).setCell ⟨w.heap.size + 1, 1, none⟩ (.slice oa ol oc)) from (Hbw.out.setCell (by simp) _).setCell (by simp) _)
      have HO := Lib.hid (((R.out.set (b := w.heap.size + 1) (j := 0) (x := .slice xa2 xn2 xc2) (by omega)).set (b := w.heap.size + 1) (j := 1) (x := .slice oa ol oc) (by omega)).base (base' := w.heap.size) (by omega))
      clear R HRk HK HKh Hfin
      go_wp2_with fail
      exact bodyPost_ret (results_cell_row Try.results20 _ _ (w.heap.size + 1) 33 _ (0, 0) _ rfl HG.out Try.underlying33 rfl (by kernel_rfl)) rfl ⟨_, rfl, HO.out, HB.out⟩
#print axioms ofQ_any
end Go.Proofs.Ytfplmdieeabgpaa
