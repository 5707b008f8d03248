/- The keys of a map of matches: maps.Keys and its iterator. slices.AppendSeq, slices.Collect over the keys of a map of matches. -/
import Derived.Test.YtfplmdieeabgpaaMap
import Derived.RangeFuncNested
import Derived.RangeFuncBound
import Derived.RangeFuncBox
import Derived.Maps.AppendAt
import Derived.Sort.MapsRangeIn
import Derived.RangeFuncCalls
import Derived.RangeFuncLeaves
import Derived.Shelf.Abstract
import Derived.Shelf.RegionOpen
import Derived.WalkKit
import Derived.OwnWalkIn
import Derived.TacticsInMore
import Derived.LoopNIn
import Derived.LoopIn
import Derived.Test.YtfplmdieeabgpaaOf
namespace Go.Proofs.Ytfplmdieeabgpaa
open Go.RowKit
open Go.RowKit Go.Maps Go.WideMaps
attribute [local go_sem] Oper.semAt_some
/-- a match that is one -/
abbrev VM := { v : List Int // Vok v }
def encM (x : VM) : Array Value := #[.agg (vrow x.1)]
/-- range m, within a fence -/
theorem wpListIn_range_match {F : Fence} {n : Nat} {P : Program} (hP : P = Try.prog) (w : World) {ops : Array Oper} {rest : List Oper} {o : Oper} {a : Act} {Q : Exit → Act → World → Prop} (hg : o.guard = none) (m : Operand) (hop : o.op = Op.range 91 m) {b k : Nat} {p : List Int → Prop}
    (hm : a.eval m = .map (some b)) (h : MSetN w b k p)
    (hK : ∀ w', MIt w' b w.heap.size p p k → w.grownBy w' none → w'.heap.size = w.heap.size + 1 → wpListIn F n P ops Q rest (a.put o.dst (.pointer (some ⟨w.heap.size, 0, none⟩))) w') :
    wpListIn F n P ops Q (o :: rest) a w := by
  subst hP
  obtain ⟨D, h1, h2, h3, h4⟩ := h
  exact wpListIn_range_own w hg m _ hop _ _ lawV undM _ b _ D hm h1 (fun w' hr hgr hs => hK w' ⟨D, _, h2 ▸ hr, h3, h4, h3, fun _ h => h⟩ hgr hs)
/-- the step, within a fence -/
theorem wpListIn_next_match {F : Fence} {n : Nat} {P : Program} (hP : P = Try.prog) (w : World) {ops : Array Oper} {rest : List Oper} {o : Oper} {a : Act} {Q : Exit → Act → World → Prop} (hg : o.guard = none) (it : Operand) (hop : o.op = Op.next it false) {b r cnt : Nat} {p q : List Int → Prop}
    (hit : a.eval it = .pointer (some ⟨r, 0, none⟩)) (h : MIt w b r p q cnt)
    (hDone : (∀ v, ¬ q v) → wpListIn F n P ops Q rest (a.put o.dst (.tuple #[.bool false])) w)
    (hMore : ∀ (v : List Int) (c : Value) (w' : World) (cnt' : Nat), q v → Vok v → MIt w' b r p (fun x => q x ∧ x ≠ v) cnt' → cnt' < cnt → w.grownBy w' (some r) → w'.heap.size = w.heap.size →
      (Instr.entry (.pointer (some ⟨r, 0, none⟩))).run P w' = .ok (.tuple #[.agg (vrow v), c]) w' → wpListIn F n P ops Q rest (a.put o.dst (.tuple #[.bool true, .agg (vrow v), c])) w') :
    wpListIn F n P ops Q (o :: rest) a w := by
  subst hP
  obtain ⟨D, left, hr, h3, h4, h5, h6⟩ := h
  refine wpListIn_next_ranges w hg it hop _ lawV _ Value.agg Value.bool (fun key kl hk => agg_of_key hk) (fun v y hy => bool_of_elem hy) b r _ D left cnt hit hr
    (fun _ hl => hDone (fun v hv => by have := (h5 (keyL v)).2 ⟨v, hv, rfl⟩; rw [hl] at this; cases this)) ?_
  intro x c kl y w' cnt' hkey hlk hv hat hrg hlt hgr hsz hen
  obtain ⟨v, hq, hkl⟩ := (h5 kl).1 hlk
  have hvk := h4 v (h6 v hq)
  have hx : Value.agg x = .agg (vrow v) := key_inv hkey hvk hkl
  rw [hx] at hen ⊢
  refine hMore v (.bool c) w' cnt' hq hvk ⟨D, _, hrg, h3, h4, fun k => ?_, fun z hz => h6 z hz.1⟩ hlt hgr hsz hen
  subst hkl
  constructor
  · intro hz
    rw [Bool.and_eq_true] at hz
    obtain ⟨z, hz1, rfl⟩ := (h5 k).1 hz.1
    refine ⟨z, ⟨hz1, fun e => ?_⟩, rfl⟩
    subst e
    have := hz.2
    rw [WideAt.sameKey_self (lawV.key (key_of hvk))] at this
    cases this
  · rintro ⟨z, ⟨hz1, hne⟩, rfl⟩
    rw [Bool.and_eq_true]
    refine ⟨(h5 _).2 ⟨z, hz1, rfl⟩, ?_⟩
    rw [Maps.sameKey_ne (fun e => hne (keyL_inj (h4 z (h6 z hz1)) hvk e))]
    rfl
theorem eight {v : List Int} (h : v.length = 8) : ∃ a b c d e f g i, v = [a, b, c, d, e, f, g, i] := by
  match v, h with
  | [a, b, c, d, e, f, g, i], _ => exact ⟨a, b, c, d, e, f, g, i, rfl⟩
theorem MIt.walks {w w' : World} {b r cnt : Nat} {p q : List Int → Prop} (h : MIt w b r p q cnt) (hk : KeepsWalks w w') : MIt w' b r p q cnt := by
  obtain ⟨D, left, hr, rest⟩ := h
  exact ⟨D, left, hr.of_walks hk, rest⟩
theorem MIt.iter {w : World} {b r cnt : Nat} {p q : List Int → Prop} (h : MIt w b r p q cnt) : ∃ o : Obj, w.heap[r]? = some o ∧ o.isWalk = true := by
  obtain ⟨D, left, hr, rest⟩ := h
  exact hr.iter_walk
set_option maxRecDepth 100000 in
set_option maxHeartbeats 4000000 in
/-- the iterator of maps.Keys: each match comes once, in some order -/
theorem keysIt_in (n : Nat) (hn : 1 ≤ n) (l Bm b nn : Nat) (p : List Int → Prop) (J Jx : List VM → World → Prop)
    (hY : ∀ pre x W, J pre W → pre.length < nn → YieldAt Fence.wide (n - 1) Try.prog l (encM x) W fun e W' => (e = .returned (.bool true) ∧ J (pre ++ [x]) W' ∧ KeepsWalks W W') ∨ (e = .returned (.bool false) ∧ Jx (pre ++ [x]) W'))
    (W : World) (hJ : AbidesFrom W.heap.size J) (hm : W.cell? ⟨Bm, 0, none⟩ = some (.map (some b))) (hown : MSetN W b nn p) (h0 : J [] W) :
    CallsIn Fence.wide n Try.prog 123 #[.func (.yield l) #[] #[], .pointer (some ⟨Bm, 0, none⟩)] W fun e W' => (∃ v, e = .returned v) ∧
      ((∃ ss : List VM, ((ss.map (·.1)).Nodup ∧ ∀ v, v ∈ ss.map (·.1) ↔ p v) ∧ J ss W') ∨ (∃ pre : List VM, True ∧ Jx pre W')) := by
  have hro : Fence.wide.round = none := rfl
  have hfn : Fence.wide.fn 123 := trivial
  refine callsIn_of_wp Try.func123 rfl hfn ?_ hro
  simp only [Try.ntmps123, List.size_toArray, List.length_cons, List.length_nil, Nat.reduceAdd, Nat.reduceSub, Array.replicate_succ, Array.replicate_zero, List.push_toArray, List.append_toArray, List.nil_append, List.cons_append]
  gi_wp2_with (first
    | (gi_at_range; refine wpListIn_range_match rfl _ rfl _ rfl rfl hown ?_; intro w0 hrg0 hg0 hs0)
    | gi_in)
  go_frame
  gi_loopw [3] (fun _ wr => ∃ (q : List Int → Prop) (cnt : Nat) (ss : List VM), MIt wr b W.heap.size p q cnt ∧ (∀ v, q v → p v) ∧ ss.length + cnt ≤ nn ∧ (ss.map (·.1)).Nodup ∧ (∀ v, v ∈ ss.map (·.1) ↔ p v ∧ ¬ q v) ∧ J ss wr)
    (fun _ wr => wr.rangeLeft b W.heap.size)
  case atStart =>
    exact ⟨_, _, [], hrg0, fun _ h => h, by simp, by simp, fun v => ⟨fun h => by simp at h, fun h => absurd h.1 h.2⟩, hJ [] W w0 none h0 hg0 (fun r e => by cases e)⟩
  case round =>
    obtain ⟨q, cnt, ss, hrg, hpq, hcs, hnd, hC, hJs⟩ := hrel
    gi_wp2_with (first
      | (gi_at_next; refine wpListIn_next_match rfl _ rfl _ rfl rfl hrg ?_ ?_)
      | gi_in)
    · intro hl0
      gi_wp2
      go_end0
      exact ⟨⟨_, rfl⟩, .inl ⟨ss, ⟨hnd, fun v => (hC v).trans ⟨fun h => h.1, fun h => ⟨h, hl0 v⟩⟩⟩, hJs⟩⟩
    · intro v c w2 cnt2 hq hvk hrg2 hlt hg2 hs2 hen
      have hJ2 : J ss w2 := hJ ss wr w2 (some W.heap.size) hJs hg2 (fun r e => by cases e; exact ⟨Nat.le_refl _, hrg.iter⟩)
      clear hs2
      obtain ⟨a, b1, c1, d, e, f, g, h, rfl⟩ := eight hvk.1
      obtain ⟨w3, hw3⟩ : ∃ w3, w3 = w2.alloc (.cells #[.int .i64 a, .int .i64 b1, .int .i64 c1, .int .i64 d, .int .i64 e, .int .i64 f, .int .i64 g, .int .i64 h] 95) := ⟨_, rfl⟩
      have hg3 : w2.grownBy w3 none := by rw [hw3]; exact World.grownBy_alloc _ _ _
      have hJ3 : J ss w3 := hJ ss w2 w3 none hJ2 hg3 (fun r e => by cases e)
      have hrg3 : MIt w3 b W.heap.size p _ cnt2 := hrg2.kept hg3 (by simp) (by simp)
      obtain ⟨fn, tmps, assign, body, hy, hR⟩ := hY ss ⟨[a, b1, c1, d, e, f, g, h], hvk⟩ w3 hJ3 (by omega)
      rw [show vrow [a, b1, c1, d, e, f, g, h] = #[.int .i64 a, .int .i64 b1, .int .i64 c1, .int .i64 d, .int .i64 e, .int .i64 f, .int .i64 g, .int .i64 h] from rfl] at hen ⊢
      rw [show encM ⟨[a, b1, c1, d, e, f, g, h], hvk⟩ = #[.agg #[.int .i64 a, .int .i64 b1, .int .i64 c1, .int .i64 d, .int .i64 e, .int .i64 f, .int .i64 g, .int .i64 h]] from rfl] at hy
      have Hg2 := Lib.hid hg2
      clear hg2
      have Hrg3 := Lib.hid (fun (W3 : World) (hk : KeepsWalks w3 W3) => hrg3.walks hk)
      have Hnd := Lib.hid (show ((ss ++ [(⟨[a, b1, c1, d, e, f, g, h], hvk⟩ : VM)]).map (·.1)).Nodup ∧ ∀ v, v ∈ (ss ++ [(⟨[a, b1, c1, d, e, f, g, h], hvk⟩ : VM)]).map (·.1) ↔ p v ∧ ¬ (q v ∧ v ≠ [a, b1, c1, d, e, f, g, h]) from by
        rw [List.map_append, List.map_cons, List.map_nil]
        refine ⟨List.nodup_append.2 ⟨hnd, by simp, fun x hx y hy hxy => ?_⟩, fun v => ?_⟩
        · rw [List.mem_singleton] at hy
          subst hy; subst hxy
          exact ((hC _).1 hx).2 hq
        · rw [List.mem_append, List.mem_singleton, hC v]
          constructor
          · rintro (⟨h1, h2⟩ | h1)
            · exact ⟨h1, fun k => h2 k.1⟩
            · have : v = [a, b1, c1, d, e, f, g, h] := h1
              subst this
              exact ⟨hpq _ hq, fun k => k.2 rfl⟩
          · rintro ⟨h1, h2⟩
            by_cases k : q v
            · exact .inr (Classical.byContradiction fun n => h2 ⟨k, n⟩)
            · exact .inl ⟨h1, k⟩)
      have Hleft := Lib.hid (fun (W3 : World) (hk : KeepsWalks w3 W3) => show W3.rangeLeft b W.heap.size < wr.rangeLeft b W.heap.size from by rw [(hrg3.walks hk).left_eq, hrg.left_eq]; exact hlt)
      rw [hw3] at hy hR Hrg3 Hleft
      clear hJ3 hg3 hrg3 hw3 hrg hrg2
      gi_wp2
      refine hR.mono ?_
      clear hR
      rintro e W3 (⟨rfl, hJ3, hk3⟩ | ⟨rfl, hJx3⟩)
      · have Hk := Lib.hid hk3
        have HJ := Lib.hid hJ3
        clear hk3 hJ3 hy hen
        gi_wp2
        go_roundw
        case rel => exact ⟨_, cnt2, _, Hrg3.out _ Hk.out, fun v h => hpq v h.1, by rw [List.length_append]; simp only [List.length_cons, List.length_nil]; omega, Hnd.out.1, Hnd.out.2, HJ.out⟩
        case measure => exact Hleft.out _ Hk.out
      · have HJ := Lib.hid hJx3
        clear hJx3 hy hen
        gi_wp2
        refine bodyPost_ret (results_none rfl _ _ _) rfl ?_
        exact ⟨⟨_, rfl⟩, .inr ⟨_, trivial, HJ.out⟩⟩
/-- maps.Keys -/
theorem keys_in (n : Nat) (mb : Option Nat) (w : World) :
    CallsIn Fence.wide n Try.prog 98 #[.map mb] w fun e w' => e = .returned (.func (.func 123) #[] #[.pointer (some ⟨w.heap.size, 0, none⟩)]) ∧ w' = w.alloc (.cells #[.map mb] 91) := by
  have hro : Fence.wide.round = none := rfl
  have hfn : Fence.wide.fn 98 := trivial
  refine callsIn_of_wp Try.func98 rfl hfn ?_ hro
  simp only [Try.ntmps98, List.size_toArray, List.length_cons, List.length_nil, Nat.reduceAdd, Nat.reduceSub, Array.replicate_succ, Array.replicate_zero, List.push_toArray, List.append_toArray, List.nil_append, List.cons_append]
  gi_wp2
  go_ret
  exact ⟨rfl, rfl⟩
/-- what maps.Keys hands back -/
theorem keys_stops (n : Nat) (hn : 1 ≤ n) (Bm b nn : Nat) (p : List Int → Prop) (w : World) (hBm : Bm < w.heap.size) (hm : w.cell? ⟨Bm, 0, none⟩ = some (.map (some b))) (hown : MSetN w b nn p) :
    SeqStopsK Fence.wide n Try.prog 123 #[.pointer (some ⟨Bm, 0, none⟩)] encM KeepsWalks (fun ss : List VM => (ss.map (·.1)).Nodup ∧ ∀ v, v ∈ ss.map (·.1) ↔ p v) (fun _ => True) nn w := fun l J Jx W hW hJ _ hY h0 =>
  keysIt_in n hn l Bm b nn p J Jx hY W hJ ((hW.cell (p := ⟨Bm, 0, none⟩) hBm).trans hm) (hown.keep hW) h0
#print axioms keys_stops
#print axioms keys_in
open Go.RowKit Go.Maps Go.WideMaps
attribute [local go_sem] Oper.semAt_some
def flatM (l : List VM) : List Value := l.flatMap fun x => x.1.map (Value.int .i64)
theorem flatM_len (l : List VM) : (flatM l).length = l.length * 8 := by
  induction l with
  | nil => rfl
  | cons x l ih => unfold flatM at ih ⊢; rw [List.flatMap_cons, List.length_append, ih, List.length_map, x.2.1, List.length_cons]; omega
theorem flatM_snoc (l : List VM) (x : VM) : flatM (l ++ [x]) = flatM l ++ x.1.map (Value.int .i64) := by simp [flatM]
theorem infoVm : (Try.prog.info? 95).map (fun i => (i.zero, i.size, i.bytes)) = some (some (.agg #[.int .i64 0, .int .i64 0, .int .i64 0, .int .i64 0, .int .i64 0, .int .i64 0, .int .i64 0, .int .i64 0]), 8, 64) := by kernel_rfl
/-- the loop's own variable -/
def AxM (T : VM → Nat → Act) (x : VM) (a' : Act) (W : World) : Prop := ∃ Bx, W.heap[Bx]? = some (.cells (vrow x.1) 95 (0, 0)) ∧ a' = T x Bx
theorem axM_own (B : Nat) (T : VM → Nat → Act) (x : VM) (a' : Act) : OwnFrom B (fun (_ : Unit) W => AxM T x a' W) := fun _ W W' row ⟨Bx, h1, h2⟩ hg hr => by
  refine ⟨Bx, (hg.block Bx (Array.getElem?_eq_some_iff.1 h1).1 fun e => ?_).trans h1, h2⟩
  obtain ⟨_, o, ho, hc⟩ := hr Bx e.symm
  rw [h1] at ho
  cases ho
  cases hc
set_option maxRecDepth 100000 in
set_option maxHeartbeats 4000000 in
theorem appendSeq_in (n : Nat) (hn : 3 ≤ n) (g : Nat) (lb : Array Value) (eg : ∀ args w, (callFunc g args).run Try.prog w = .ok (.enter g args) w) (S : List VM → Prop) (N : Nat) (hN : N ≤ 1000000) (w : World)
    (hseq : ∀ W, Below w.heap.size w W → SeqStopsK Fence.wide (n - 1) Try.prog g lb encM KeepsWalks S (fun _ => True) N W) :
    CallsIn Fence.wide n Try.prog 122 #[.slice none 0 0, .func (.func g) #[] lb] w fun e w' => ∃ (v : Value) (ss : List VM), e = .returned v ∧ S ss ∧ w'.ownsRow w.heap.size 95 8 v ss.length (flatM ss) ∧ Below w.heap.size w w' := by
  have hro : Fence.wide.round = none := rfl
  have hfn : Fence.wide.fn 122 := trivial
  have h1 : 1 ≤ n := by omega
  refine callsIn_of_wp_marks Try.func122 rfl hfn ?_ hro
  simp only [Try.ntmps122, List.size_toArray, List.length_cons, List.length_nil, Nat.reduceAdd, Nat.reduceSub, Array.replicate_succ, Array.replicate_zero, List.push_toArray, List.append_toArray, List.nil_append, List.cons_append]
  gi_wp2
  obtain ⟨W0, hW0⟩ : ∃ W0, w.alloc (.cells #[.slice none 0 0] 126) = W0 := ⟨_, rfl⟩
  have hs0 : W0.heap.size = w.heap.size + 1 := by rw [← hW0]; simp
  have hv0 : Boxed W0 w.heap.size 126 (.slice none 0 0) := by rw [← hW0]; exact Boxed.new w _ _
  have hb0 : Below w.heap.size w W0 := by rw [← hW0]; exact (Below.refl _ w).alloc (Nat.le_refl _) _
  rw [hW0]
  refine wpIn_rangeFunc_ownH hro h1 (gf := g) (lb := lb) rfl trivial eg (hseq W0 hb0) walksK_t walksK_b (Below.refl _ _) (fun _ => rfl)
    (fun pre W => (∃ v, Boxed W w.heap.size 126 v ∧ W.ownsRow w.heap.size 95 8 v pre.length (flatM pre) ∧ True) ∧ Below w.heap.size w W)
    (fun _ _ _ => False)
    (OwnFrom.and (Own.from (holdsRow_own w.heap.size w.heap.size 126 95 8 (fun pre : List VM => pre.length) flatM (fun _ _ => True)) _) (ownFrom_below (Nat.le_refl _) (by omega)))
    (fun c => ownFrom_pure _ (fun _ => False))
    ⟨⟨_, hv0, World.ownsRow_nil _ _ _ _, trivial⟩, hb0⟩
    (AxM fun x Bx => { tmps := #[.slice none 0 0, .func (.func g) #[] lb, .pointer (some ⟨w.heap.size, 0, none⟩), undef, .slice none 0 0, .pointer (some ⟨Bx, 0, none⟩), .func (.func g) #[] lb, .agg (vrow x.1), undef, undef, undef, undef, undef], defers := [] })
    (fun x a' => axM_own _ _ x a') ?assign ?body ?done ?stop
  case assign =>
    rintro l pre x W K ⟨⟨v, hv, hrow, _⟩, hB⟩ hK
    obtain ⟨x, hx⟩ := x
    obtain ⟨a, b1, c1, d, e, f, g', h, rfl⟩ := eight hx.1
    have HK := Lib.hid (hK { tmps := #[.slice none 0 0, .func (.func g) #[] lb, .pointer (some ⟨w.heap.size, 0, none⟩), undef, .slice none 0 0, .pointer (some ⟨W.heap.size, 0, none⟩), .func (.func g) #[] lb, .agg (vrow [a, b1, c1, d, e, f, g', h]), undef, undef, undef, undef, undef], defers := [] } (W.alloc (.cells (vrow [a, b1, c1, d, e, f, g', h]) 95)) ((KeepsOthers.alloc _ _).from _) (KeepsOthers.alloc _ _).walks ⟨⟨v, hv.alloc _, hrow.alloc _, trivial⟩, hB.alloc hB.size _⟩ ⟨W.heap.size, heap_alloc_new W _, rfl⟩)
    clear hK hv hrow hB
    simp only [encM, show vrow [a, b1, c1, d, e, f, g', h] = #[.int .i64 a, .int .i64 b1, .int .i64 c1, .int .i64 d, .int .i64 e, .int .i64 f, .int .i64 g', .int .i64 h] from rfl] at HK ⊢
    gi_wp2
    exact HK.out
  case body =>
    rintro l pre x a' W hl hr ⟨⟨v, hv, hrow, _⟩, hB⟩ ⟨Bx, hx, rfl⟩ hlt
    have HW := Lib.hid (show ∀ (w1 : World) (v' : Value) (tmp : Obj), w1.ownsRow w.heap.size 95 8 v' (pre.length + 1) (flatM (pre ++ [x])) → (W.alloc tmp).grownBy w1 v.ownBlock → KeepsFrom W0.heap.size W (w1.setCell ⟨w.heap.size, 0, none⟩ v') ∧ KeepsWalks W (w1.setCell ⟨w.heap.size, 0, none⟩ v') ∧ (∃ u, Boxed (w1.setCell ⟨w.heap.size, 0, none⟩ v') w.heap.size 126 u ∧ (w1.setCell ⟨w.heap.size, 0, none⟩ v').ownsRow w.heap.size 95 8 u (pre ++ [x]).length (flatM (pre ++ [x])) ∧ True) ∧ Below w.heap.size w (w1.setCell ⟨w.heap.size, 0, none⟩ v') from fun w1 v' tmp k1 k2 => by
      obtain ⟨a1, a2, a3, a4, a5⟩ := hv.appended (by decide) hrow hB.size (Nat.le_refl _) k1 k2
      exact ⟨a4.from _, a4.walks, ⟨v', a2, by rw [List.length_append]; exact a3, trivial⟩, hB.trans a5⟩)
    have HB1 := Lib.hid (show ∀ (w1 : World) (v' : Value) (tmp : Obj), w1.ownsRow w.heap.size 95 8 v' (pre.length + 1) (flatM (pre ++ [x])) → (W.alloc tmp).grownBy w1 v.ownBlock → w1.cell? ⟨w.heap.size, 0, none⟩ = some v ∧ w1.frozen? ⟨w.heap.size, 0, none⟩ = false from fun w1 v' tmp k1 k2 => by
      obtain ⟨a1, _⟩ := hv.appended (by decide) hrow hB.size (Nat.le_refl _) k1 k2
      exact ⟨a1.cell, a1.frozen⟩)
    obtain ⟨x, hvk⟩ := x
    have hfl := flatM_snoc pre ⟨x, hvk⟩
    obtain ⟨a, b1, c1, d, e, f, g', h, rfl⟩ := eight hvk.1
    have hc := hv.cell
    have hsz := hB.size
    obtain ⟨i0, hi, hz0, hz1, hz2⟩ := info_parts infoVm
    rw [hfl] at HW HB1
    simp only [show vrow [a, b1, c1, d, e, f, g', h] = #[.int .i64 a, .int .i64 b1, .int .i64 c1, .int .i64 d, .int .i64 e, .int .i64 f, .int .i64 g', .int .i64 h] from rfl] at hx ⊢
    have x0 := aCell hx 0 rfl; have x1 := aCell hx 1 rfl; have x2 := aCell hx 2 rfl; have x3 := aCell hx 3 rfl; have x4 := aCell hx 4 rfl; have x5 := aCell hx 5 rfl; have x6 := aCell hx 6 rfl; have x7 := aCell hx 7 rfl
    have Hfl := Lib.hid hfl
    clear hl hr hv hfl
    gi_wp2_with (gi_at_builtin; refine wpListIn_append_own _ rfl _ _ 126 rfl w.heap.size 95 i0 _ 8 64 Try.underlying126 hi hz0 hz1 hz2 rfl (by decide) v pre.length (flatM pre) rfl (hrow.alloc _) ⟨W.heap.size, 0, none⟩ 1 1 [.int .i64 a, .int .i64 b1, .int .i64 c1, .int .i64 d, .int .i64 e, .int .i64 f, .int .i64 g', .int .i64 h] rfl rfl (fun j u hj => by rw [Addr.add_lit, Nat.zero_add, cell_new]; simpa using hj) (by simp [Value.oneCell']) (by unfold maxLen; omega) (by omega) (by simp; omega) ?_; intro v' w1 hown' hgrow _; obtain ⟨g2, cap2, rfl⟩ := ownsRow_succ hown'; have qc := (HB1.out w1 _ _ hown' hgrow).1; have qf := (HB1.out w1 _ _ hown' hgrow).2; have HR := Lib.hid (HW.out w1 _ _ hown' hgrow))
    obtain ⟨r1, r2, ⟨u, r3, r4, _⟩, r5⟩ := HR.out
    rw [hs0] at r1
    exact ⟨r1, r2, ⟨u, r3, by rw [Hfl.out]; exact r4⟩, r5⟩
  case done =>
    rintro D xs W hD hS ⟨⟨v, hv, hrow, _⟩, hB⟩ hK
    have hc := hv.cell
    gi_wp2
    refine ⟨by simp, .inl ⟨_, _, rfl, run_takeDeferred hK, ?_⟩⟩
    exact ⟨_, results_tmp rfl _ _ _, v, xs, rfl, hS, ownsRow_putObj hrow _ hK rfl, hB.trans (belowK_b (w := w) (Nat.le_refl _) W D _ _ (by omega) hK rfl rfl)⟩
  case stop =>
    rintro D c pre W _ _ h _
    exact h.elim
set_option maxHeartbeats 1000000 in
/-- slices.Collect(maps.Keys(m)): the matches, each once, in some order -/
theorem collect_any {b nn : Nat} {p : List Int → Prop} (w : World) (hown : MSetN w b nn p) (hnn : nn ≤ 1000000) (Bm : Nat) (hBm : Bm < w.heap.size) (hm : w.cell? ⟨Bm, 0, none⟩ = some (.map (some b))) :
    Calls Try.prog 97 #[.func (.func 123) #[] #[.pointer (some ⟨Bm, 0, none⟩)]] w fun e w' => ∃ (a : Option Addr) (c : Nat) (ss : List VM), e = .returned (.slice a ss.length c) ∧ ((ss.map (·.1)).Nodup ∧ ∀ v, v ∈ ss.map (·.1) ↔ p v) ∧ w'.ownsRow w.heap.size 95 8 (.slice a ss.length c) ss.length (flatM ss) ∧ Below w.heap.size w w' := by
  have hA := (callsIn_wide (n := 5)).1 (appendSeq_in 5 (by omega) 123 #[.pointer (some ⟨Bm, 0, none⟩)] (enters_of Try.func123 (by kernel_rfl) rfl) (fun ss : List VM => (ss.map (·.1)).Nodup ∧ ∀ v, v ∈ ss.map (·.1) ↔ p v) nn hnn w
    (fun W hW => keys_stops 4 (by omega) Bm b nn p W (Nat.lt_of_lt_of_le hBm hW.size) ((hW.cell (p := ⟨Bm, 0, none⟩) hBm).trans hm) (hown.keep hW)))
  have HA := Lib.hid hA
  clear hA
  go_enter Try.func97, Try.ntmps97
  go_wp2_with fail
  refine HA.out.mono ?_
  rintro e w' ⟨v, ss, rfl, hS, hrow, hb⟩
  obtain ⟨a, c, rfl⟩ : ∃ a c, v = .slice a ss.length c := by
    rcases hrow.2 with ⟨rfl, h0⟩ | ⟨g, cap, cur, rfl, _⟩
    · exact ⟨none, 0, by rw [h0]⟩
    · exact ⟨_, _, rfl⟩
  have R := Lib.hid (And.intro hS (And.intro hrow hb))
  clear hS hrow hb HA
  go_wp2_with fail
  go_ret
  exact ⟨a, c, ss, rfl, R.out.1, R.out.2.1, R.out.2.2⟩
#print axioms collect_any
end Go.Proofs.Ytfplmdieeabgpaa
