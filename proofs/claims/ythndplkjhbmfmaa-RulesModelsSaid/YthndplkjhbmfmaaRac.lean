/- What the walk of (*program).add keeps. -/
import Derived.Test.YthndplkjhbmfmaaRne
namespace Go.Proofs.Ythndplkjhbmfmaa
open Go.RowKit
/-- the codes of the first k literals, without Not and with Not -/
def needC (r : RRule) (m : List Int) (k : Nat) : List Int := ((r.2.take k).filter fun b => !b.1).map fun b => pcd (gnd m b.2)
def avoidC (r : RRule) (m : List Int) (k : Nat) : List Int := ((r.2.take k).filter fun b => b.1).map fun b => pcd (gnd m b.2)
theorem insOf_eq (i : Nat) (r : RRule) (m : List Int) : insOf i r m = ⟨i, pcd (gnd m r.1), needC r m r.2.length, avoidC r m r.2.length⟩ := by unfold insOf needC avoidC; rw [List.take_length]
theorem code_not {r : RRule} {m : List Int} {k : Nat} (hk : k < r.2.length) (h : (lL r.2 k).1 = true) : needC r m (k + 1) = needC r m k ∧ avoidC r m (k + 1) = avoidC r m k ++ [pcd (gnd m (lL r.2 k).2)] := by
  unfold needC avoidC
  rw [List.take_succ_eq_append_getElem hk, List.filter_append, List.filter_append, ← lL_get hk]
  simp [h]
theorem code_yes {r : RRule} {m : List Int} {k : Nat} (hk : k < r.2.length) (h : (lL r.2 k).1 = false) : needC r m (k + 1) = needC r m k ++ [pcd (gnd m (lL r.2 k).2)] ∧ avoidC r m (k + 1) = avoidC r m k := by
  unfold needC avoidC
  rw [List.take_succ_eq_append_getElem hk, List.filter_append, List.filter_append, ← lL_get hk]
  simp [h]
theorem codes_len (r : RRule) (m : List Int) (k : Nat) : (needC r m k).length ≤ k ∧ (avoidC r m k).length ≤ k := by
  unfold needC avoidC
  rw [List.length_map, List.length_map]
  exact ⟨Nat.le_trans (List.length_filter_le _ _) (by rw [List.length_take]; omega), Nat.le_trans (List.length_filter_le _ _) (by rw [List.length_take]; omega)⟩
/-- the users of facts, with one more -/
def useR (idx : Int) (R : Nat → List Int) (c : Int) : Nat → List Int := upd R (2 + c.toNat) (R (2 + c.toNat) ++ [idx])
def addU (idx : Int) (R : Nat → List Int) (cs : List Int) : Nat → List Int := cs.foldl (useR idx) R
theorem addU_snoc (idx : Int) (R : Nat → List Int) (cs : List Int) (c : Int) : addU idx R (cs ++ [c]) = useR idx (addU idx R cs) c := by unfold addU; rw [List.foldl_append]; rfl
theorem useR_len (idx : Int) (R : Nat → List Int) (c : Int) (j : Nat) : (useR idx R c j).length ≤ (R j).length + 1 := by
  unfold useR upd
  split
  · rename_i e; rw [e, List.length_append]; exact Nat.le_refl _
  · omega
theorem addU_len (idx : Int) : ∀ (cs : List Int) (R : Nat → List Int) (j : Nat), (addU idx R cs j).length ≤ (R j).length + cs.length
  | [], R, j => by show (R j).length ≤ (R j).length + 0; omega
  | c :: cs, R, j => by
    have h1 := addU_len idx cs (useR idx R c) j
    have h2 := useR_len idx R c j
    show (addU idx (useR idx R c) cs j).length ≤ _
    rw [List.length_cons]; omega
/-- the program with one instance more -/
noncomputable def addS (S : PSt) (i : Nat) (r : RRule) (m : List Int) : PSt :=
  reachS ⟨S.I ++ [insOf i r m], addU (S.I.length : Int) S.R (needC r m r.2.length), S.rch⟩ (pcd (gnd m r.1))
/-- the rows of a program are not too long -/
def Short (S : PSt) : Prop := S.I.length ≤ 1000000000 ∧ ∀ j, (S.R j).length ≤ 5000000000
theorem infoIns : (Try.prog.info? 207).map (fun i => (i.zero, i.size, i.bytes)) = some (some (.agg #[.int .i64 0, .int .i64 0, .slice none 0 0, .slice none 0 0]), 4, 64) := by kernel_rfl
theorem elemIns : Elem Try.prog 191 207 4 64 := elem_of Try.underlying191 infoIns rfl (by omega) (by omega)
theorem step_store_row {P : Program} {ops : Array Oper} {o : Oper} {a : Act} {w : World} {K : Act → World → Prop} {Q : Exit → Act → World → Prop} {E : Prop} (hgd : o.guard = none) (ty : TypeId) (x y : Operand) (ho : o.op = .store ty x y)
    (g : Nat) (cells : Array Value) (hx : a.eval x = .pointer (some ⟨g, 0, none⟩)) (hy : a.eval y = .agg cells)
    (t : TypeId) (old : Array Value) (hg : w.heap[g]? = some (.cells old t (0, 0))) (hi : (P.info? ty).map (·.size) = some cells.size)
    (hold : old.size = cells.size) (h1 : cells.all (·.oneCell') = true)
    (h : K (a.put o.dst undef) (w.setRow g cells)) : if Region.wanted o (yielded ops a.tmps) = true then Oper.wp P o a w K Q else E := by
  rw [if_pos (show Region.wanted o (yielded ops a.tmps) = true by simp [Region.wanted, hgd])]
  exact wp_store_row ty x y ho g cells hx hy t old hg hi hold h1 h
theorem oneIns (x y : Int) : (#[Value.int .i64 x, .int .i64 y, .slice none 0 0, .slice none 0 0] : Array Value).all (·.oneCell') = true := by
  rw [Array.all_eq_true_iff_forall_mem]
  intro u hu
  simp at hu
  rcases hu with rfl | rfl | rfl <;> rfl
theorem sizeIns : (Try.prog.info? 207).map (·.size) = some 4 := by kernel_rfl
theorem step_load_row {P : Program} {ops : Array Oper} {o : Oper} {a : Act} {w : World} {K : Act → World → Prop} {Q : Exit → Act → World → Prop} {E : Prop} (hgd : o.guard = none) (ty : TypeId) (x : Operand) (ho : o.op = .load ty x)
    (g : Nat) (hx : a.eval x = .pointer (some ⟨g, 0, none⟩)) (t : TypeId) (cs : Array Value) (fr : Nat × Nat) (d : TypeDesc) (hg : w.heap[g]? = some (.cells cs t fr))
    (hu : P.underlying ty = some d) (hd : (match d with | .struct _ | .array _ _ => true | _ => false) = true) (hi : (P.info? ty).map (·.size) = some cs.size)
    (h : K (a.put o.dst (.agg cs)) w) : if Region.wanted o (yielded ops a.tmps) = true then Oper.wp P o a w K Q else E := by
  rw [if_pos (show Region.wanted o (yielded ops a.tmps) = true by simp [Region.wanted, hgd])]
  exact wp_load_row ty x ho g hx t cs fr d hg hu hd hi h
/-- what the walk of add keeps -/
structure Ad (base bnd B : Nat) (w1 wr : World) (bp bi : Nat) (rl : Value) (M M' : PMem) (S' : PSt) (X : Array Value) (i : Nat) (hd : Int) (xn xa : Value) (N A : List Int) : Prop where
  p : PG base bnd wr bp rl M' S'
  m : Mv w1 wr (Lv bp M) (Lv bp M')
  b : wr.heap[bi]? = some (.cells #[.int .i64 (i : Int), .int .i64 hd, xn, xa] 207 (0, 0))
  x : wr.heap[B]? = some (.cells X 200 (0, 0))
  n : OwnInts (B + 1) wr xn N
  a : OwnInts (B + 1) wr xa A
  nb : ¬ Lv bp M' bi
  nx : ¬ Lv bp M' B
  nn : ∀ g, xn.ownBlock = some g → ¬ Lv bp M' g ∧ xa.ownBlock ≠ some g
  na : ∀ g, xa.ownBlock = some g → ¬ Lv bp M' g
  z : bnd ≤ B ∧ B + 1 ≤ bi ∧ w1.heap.size = B + 1
  k : SameK M M'
theorem Ad.bi_ne {base bnd B : Nat} {w1 wr : World} {bp bi : Nat} {rl : Value} {M M' : PMem} {S' : PSt} {X : Array Value} {i : Nat} {hd : Int} {xn xa : Value} {N A : List Int} (h : Ad base bnd B w1 wr bp bi rl M M' S' X i hd xn xa N A) : xn.ownBlock ≠ some bi ∧ xa.ownBlock ≠ some bi ∧ xn.ownBlock ≠ some B ∧ xa.ownBlock ≠ some B := by
  have key : ∀ {v : Value} {L : List Int}, OwnInts (B + 1) wr v L → v.ownBlock ≠ some bi ∧ v.ownBlock ≠ some B := fun {v L} ho => by
    refine ⟨fun e => ?_, fun e => ?_⟩
    · rcases ho.2 with ⟨e2, _⟩ | ⟨g', cap, cur', e2, _, hh, _⟩
      · rw [e2] at e; cases e
      · rw [e2] at e
        have e3 : g' = bi := Option.some.inj e
        rw [e3, h.b] at hh
        injection hh with hh
        injection hh with _ hh _
        exact absurd hh (by decide)
    · rcases ho.2 with ⟨e2, _⟩ | ⟨g', cap, cur', e2, _, hh, _⟩
      · rw [e2] at e; cases e
      · rw [e2] at e
        have e3 : g' = B := Option.some.inj e
        rw [e3, h.x] at hh
        injection hh with hh
        injection hh with _ hh _
        exact absurd hh (by decide)
  exact ⟨(key h.n).1, (key h.a).1, (key h.n).2, (key h.a).2⟩
theorem Ad.keep {base bnd B : Nat} {w1 wr w' : World} {bp bi : Nat} {rl : Value} {M M' : PMem} {S' : PSt} {X : Array Value} {i : Nat} {hd : Int} {xn xa : Value} {N A : List Int} (h : Ad base bnd B w1 wr bp bi rl M M' S' X i hd xn xa N A) (hb : Below wr.heap.size wr w') : Ad base bnd B w1 w' bp bi rl M M' S' X i hd xn xa N A :=
  ⟨h.p.keep hb, h.m.trans (Mv.of_below hb), blk_keep2 h.b hb, blk_keep2 h.x hb, h.n.keep hb, h.a.keep hb, h.nb, h.nx, h.nn, h.na, h.z, h.k⟩
/-- the avoided ones get one more -/
theorem Ad.putA {base bnd B : Nat} {w1 wr w' : World} {bp bi : Nat} {rl : Value} {M M' : PMem} {S' : PSt} {X : Array Value} {i : Nat} {hd : Int} {xn xa v' : Value} {N A A' : List Int} (h : Ad base bnd B w1 wr bp bi rl M M' S' X i hd xn xa N A) (hg : wr.grownBy w' xa.ownBlock) (ho : OwnInts (B + 1) w' v' A') (hor : v'.ownBlock = xa.ownBlock ∨ v'.ownBlock = some wr.heap.size) :
    Ad base bnd B w1 (w'.setCell ⟨bi, 3, none⟩ v') bp bi rl M M' S' X i hd xn v' N A' := by
  obtain ⟨n1, n2, n3, n4⟩ := h.bi_ne
  have hz := h.z
  have hbi : bi < wr.heap.size := (Array.getElem?_eq_some_iff.1 h.b).1
  have hB : B < wr.heap.size := (Array.getElem?_eq_some_iff.1 h.x).1
  have hp1 := h.p.other hg (fun k hk => ⟨h.na k hk, by have := (own_lt h.a hk).1; omega⟩)
  have hp2 := hp1.other (grown_setCell w' bi 3 v') (fun k hk => by injection hk with hk; subst hk; exact ⟨h.nb, by omega⟩)
  have hb' := (hg.block bi hbi n2.symm).trans h.b
  have hx' := (hg.block B hB n4.symm).trans h.x
  have hv' : ∀ g, v'.ownBlock = some g → xa.ownBlock = some g ∨ g = wr.heap.size := fun g hg2 => hor.elim (fun e => .inl (e ▸ hg2)) fun e => .inr (by rw [e] at hg2; injection hg2 with hg2; exact hg2.symm)
  have hlv : ¬ Lv bp M' wr.heap.size := fun e => by have := h.p.lvLt e; omega
  refine ⟨hp2, ⟨hg.os.trans h.m.os, hg.tape.trans h.m.tape, hg.output.trans h.m.output, Nat.le_trans h.m.size (by simpa using hg.size), fun k hk hd => ?_, h.m.new⟩, by rw [heap_setCell_same w' bi 3 _ _ v' hb']; rfl, (heap_setCell_other w' ⟨bi, 3, none⟩ B v' (fun e => ?_)).trans hx', ?_, ?_, h.nb, h.nx, fun g hg2 => ⟨(h.nn g hg2).1, fun e => ?_⟩, fun g hg2 => ?_, hz, h.k⟩
  · refine ((heap_setCell_other w' ⟨bi, 3, none⟩ k v' (fun e => ?_)).trans (hg.block k (Nat.lt_of_lt_of_le hk h.m.size) fun e => ?_)).trans (h.m.blk k hk hd)
    · have e : k = bi := e
      omega
    · have := (own_lt h.a e.symm).1; omega
  · have e : B = bi := e
    subst e
    rw [hb'] at hx'
    injection hx' with hx'
    injection hx' with _ hx' _
    exact absurd hx' (by decide)
  · exact own_block (own_block h.n fun g hg2 => hg.block g (own_lt h.n hg2).2 fun e => (h.nn g hg2).2 e.symm) fun g hg2 => heap_setCell_other w' ⟨bi, 3, none⟩ g v' fun e => n1 (by rw [hg2, e])
  · exact own_block ho fun g hg2 => heap_setCell_other w' ⟨bi, 3, none⟩ g v' fun e => by
      have e : g = bi := e
      rcases hv' g hg2 with q | q
      · exact n2 (by rw [q, e])
      · omega
  · rcases hv' g e with q | q
    · exact (h.nn g hg2).2 q
    · have := (own_lt h.n hg2).2; omega
  · rcases hv' g hg2 with q | q
    · exact h.na g q
    · rw [q]; exact hlv
/-- the needed ones get one more -/
theorem Ad.putN {base bnd B : Nat} {w1 wr w' : World} {bp bi : Nat} {rl : Value} {M M' : PMem} {S' : PSt} {X : Array Value} {i : Nat} {hd : Int} {xn xa v' : Value} {N A N' : List Int} (h : Ad base bnd B w1 wr bp bi rl M M' S' X i hd xn xa N A) (hg : wr.grownBy w' xn.ownBlock) (ho : OwnInts (B + 1) w' v' N') (hor : v'.ownBlock = xn.ownBlock ∨ v'.ownBlock = some wr.heap.size) :
    Ad base bnd B w1 (w'.setCell ⟨bi, 2, none⟩ v') bp bi rl M M' S' X i hd v' xa N' A := by
  obtain ⟨n1, n2, n3, n4⟩ := h.bi_ne
  have hz := h.z
  have hbi : bi < wr.heap.size := (Array.getElem?_eq_some_iff.1 h.b).1
  have hB : B < wr.heap.size := (Array.getElem?_eq_some_iff.1 h.x).1
  have hp1 := h.p.other hg (fun k hk => ⟨(h.nn k hk).1, by have := (own_lt h.n hk).1; omega⟩)
  have hp2 := hp1.other (grown_setCell w' bi 2 v') (fun k hk => by injection hk with hk; subst hk; exact ⟨h.nb, by omega⟩)
  have hb' := (hg.block bi hbi n1.symm).trans h.b
  have hx' := (hg.block B hB n3.symm).trans h.x
  have hv' : ∀ g, v'.ownBlock = some g → xn.ownBlock = some g ∨ g = wr.heap.size := fun g hg2 => hor.elim (fun e => .inl (e ▸ hg2)) fun e => .inr (by rw [e] at hg2; injection hg2 with hg2; exact hg2.symm)
  have hlv : ¬ Lv bp M' wr.heap.size := fun e => by have := h.p.lvLt e; omega
  refine ⟨hp2, ⟨hg.os.trans h.m.os, hg.tape.trans h.m.tape, hg.output.trans h.m.output, Nat.le_trans h.m.size (by simpa using hg.size), fun k hk hd => ?_, h.m.new⟩, by rw [heap_setCell_same w' bi 2 _ _ v' hb']; rfl, (heap_setCell_other w' ⟨bi, 2, none⟩ B v' (fun e => ?_)).trans hx', ?_, ?_, h.nb, h.nx, fun g hg2 => ⟨?_, fun e => ?_⟩, h.na, hz, h.k⟩
  · refine ((heap_setCell_other w' ⟨bi, 2, none⟩ k v' (fun e => ?_)).trans (hg.block k (Nat.lt_of_lt_of_le hk h.m.size) fun e => ?_)).trans (h.m.blk k hk hd)
    · have e : k = bi := e
      omega
    · have := (own_lt h.n e.symm).1; omega
  · have e : B = bi := e
    subst e
    rw [hb'] at hx'
    injection hx' with hx'
    injection hx' with _ hx' _
    exact absurd hx' (by decide)
  · exact own_block ho fun g hg2 => heap_setCell_other w' ⟨bi, 2, none⟩ g v' fun e => by
      have e : g = bi := e
      rcases hv' g hg2 with q | q
      · exact n1 (by rw [q, e])
      · omega
  · exact own_block (own_block h.a fun g hg2 => hg.block g (own_lt h.a hg2).2 fun e => (h.nn g e.symm).2 hg2) fun g hg2 => heap_setCell_other w' ⟨bi, 2, none⟩ g v' fun e => n2 (by rw [hg2, e])
  · rcases hv' g hg2 with q | q
    · exact (h.nn g q).1
    · rw [q]; exact hlv
  · rcases hv' g hg2 with q | q
    · exact (h.nn g q).2 e
    · have := (own_lt h.a e).2; omega
/-- the program changes, what the walk keeps else stays -/
theorem Ad.step {base bnd B : Nat} {w1 wr w' : World} {bp bi : Nat} {rl : Value} {M M' M2 : PMem} {S' S2 : PSt} {X : Array Value} {i : Nat} {hd : Int} {xn xa : Value} {N A : List Int} (h : Ad base bnd B w1 wr bp bi rl M M' S' X i hd xn xa N A) (hp : PG base bnd w' bp rl M2 S2) (hm : Mv wr w' (Lv bp M') (Lv bp M2)) (hk : SameK M' M2) : Ad base bnd B w1 w' bp bi rl M M2 S2 X i hd xn xa N A := by
  obtain ⟨b1, b2⟩ := hm.keep h.b h.nb
  obtain ⟨x1, x2⟩ := hm.keep h.x h.nx
  have hn : ∀ {v : Value} {L : List Int}, OwnInts (B + 1) wr v L → (∀ g, v.ownBlock = some g → ¬ Lv bp M' g) → OwnInts (B + 1) w' v L ∧ ∀ g, v.ownBlock = some g → ¬ Lv bp M2 g := fun ho hl => ⟨own_block ho fun g hg => hm.blk g (own_lt ho hg).2 (hl g hg), fun g hg e => by
    rcases hm.new g e with q | q
    · exact hl g hg q
    · have := (own_lt ho hg).2; omega⟩
  have n1 := hn h.n fun g hg => (h.nn g hg).1
  have n2 := hn h.a h.na
  exact ⟨hp, h.m.trans hm, b1, x1, n1.1, n2.1, b2, x2, fun g hg => ⟨n1.2 g hg, (h.nn g hg).2⟩, n2.2, h.z, h.k.trans hk⟩
/-- append of one instance to the row of instances, with the block that changes -/
theorem step_app_i {ops : Array Oper} {o : Oper} {a : Act} {K : Act → World → Prop} {Q : Exit → Act → World → Prop} {w : World} {E : Prop} (hgd : o.guard = none) (s x : Operand)
    (ho : o.op = .call { callee := .builtin .append, args := #[s, x], argTypes := #[191, 191] }) {base n : Nat} {v : Value} {xs : List Value} (hs : a.eval s = v) (hown : w.ownsRow base 207 4 v n xs) (hn : n ≤ 1000000000) (hbase : base ≤ w.heap.size)
    {g c : Nat} {news : List Value} (hx : a.eval x = .slice (some ⟨g, 0, none⟩) 1 c) (hl : news.length = 1 * 4) (hy : ∀ j y, news[j]? = some y → w.cell? ⟨g, j, none⟩ = some y) (h1 : ∀ u ∈ news, u.oneCell' = true)
    (hK : ∀ v' w', w'.ownsRow base 207 4 v' (n + 1) (xs ++ news) → w.grownBy w' v.ownBlock → (v'.ownBlock = v.ownBlock ∨ ∀ k, v'.ownBlock = some k → w.heap.size ≤ k) → K (a.put o.dst v') w') : if Region.wanted o (yielded ops a.tmps) = true then Oper.wp Try.prog o a w K Q else E := by
  obtain ⟨ht, i, z, hi, hz, h3, h4, hzs, hsz, hby⟩ := elemIns
  obtain ⟨v', w', hrun, r1, r2, _, r3⟩ := run_append_own_at (P := Try.prog) w base 191 o.type 207 i z 4 64 ht hi hz h3 h4 hzs hsz v n xs hown ⟨g, 0, none⟩ 1 c news hl (fun j u hj => by rw [Addr.add_lit, Nat.zero_add]; exact hy j u hj) h1 (by unfold maxLen; omega) (by omega) hbase
  exact step_of_run hgd s x _ ho hs hx hrun (hK v' w' r1 r2 (r3.imp id fun h k hk => by rw [h] at hk; injection hk with hk; omega))
#print axioms Ad.putN
end Go.Proofs.Ythndplkjhbmfmaa
