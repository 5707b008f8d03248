/- The keys of a set of numbers: maps.Keys, its iterator, slices.Collect over it. -/
import Derived.Test.YthndplkjhbmfmaaRmp
import Derived.Test.YthndplkjhbmfmaaRkt
import Derived.RangeFuncNested
import Derived.RangeFuncBound
import Derived.RangeFuncBox
import Derived.Maps.AppendAt
import Derived.Sort.MapsRangeIn
import Derived.RangeFuncCalls
import Derived.RangeFuncLeaves
import Derived.Shelf.Abstract
import Derived.Shelf.RegionOpen
import Derived.WalkKit
import Derived.OwnWalkIn
import Derived.TacticsInMore
import Derived.LoopNIn
import Derived.LoopIn
namespace Go.Proofs.Ythndplkjhbmfmaa
open Go.RowKit
open Go.RowKit Go.Maps Go.WideMaps
attribute [local go_sem] Oper.semAt_some
def encI (x : Int) : Array Value := #[.int .i64 x]
/-- range m, within a fence -/
theorem wpListIn_range_set {F : Fence} {n : Nat} {P : Program} (hP : P = Try.prog) (w : World) {ops : Array Oper} {rest : List Oper} {o : Oper} {a : Act} {Q : Exit → Act → World → Prop} (hg : o.guard = none) (m : Operand) (hop : o.op = Op.range 130 m) {b k : Nat} {p : Int → Prop}
    (hm : a.eval m = .map (some b)) (h : KSet w b k p)
    (hK : ∀ w', KIt w' b w.heap.size p p k → w.grownBy w' none → w'.heap.size = w.heap.size + 1 → wpListIn F n P ops Q rest (a.put o.dst (.pointer (some ⟨w.heap.size, 0, none⟩))) w') :
    wpListIn F n P ops Q (o :: rest) a w := by
  subst hP
  obtain ⟨D, h1, h2, h3, h4, hT⟩ := h
  exact wpListIn_range_own w hg m _ hop _ _ lawK undS _ b _ D hm h1 (fun w' hr hgr hs => hK w' ⟨D, _, h2 ▸ hr, h3, h4, h3, fun _ h => h, hT⟩ hgr hs)
/-- the step, within a fence -/
theorem wpListIn_next_set {F : Fence} {n : Nat} {P : Program} (hP : P = Try.prog) (w : World) {ops : Array Oper} {rest : List Oper} {o : Oper} {a : Act} {Q : Exit → Act → World → Prop} (hg : o.guard = none) (it : Operand) (hop : o.op = Op.next it false) {b r cnt : Nat} {p q : Int → Prop}
    (hit : a.eval it = .pointer (some ⟨r, 0, none⟩)) (h : KIt w b r p q cnt)
    (hDone : (∀ v, ¬ q v) → wpListIn F n P ops Q rest (a.put o.dst (.tuple #[.bool false])) w)
    (hMore : ∀ (v : Int) (c : Value) (w' : World) (cnt' : Nat), q v → KOk v → KIt w' b r p (fun x => q x ∧ x ≠ v) cnt' → cnt' < cnt → w.grownBy w' (some r) → w'.heap.size = w.heap.size →
      (Instr.entry (.pointer (some ⟨r, 0, none⟩))).run P w' = .ok (.tuple #[.int .i64 v, c]) w' → wpListIn F n P ops Q rest (a.put o.dst (.tuple #[.bool true, .int .i64 v, c])) w') :
    wpListIn F n P ops Q (o :: rest) a w := by
  subst hP
  obtain ⟨D, left, hr, h3, h4, h5, h6, hT⟩ := h
  refine wpListIn_next_ranges w hg it hop _ lawK _ (Value.int .i64) Value.bool (fun key kl hk => int_of_key hk) (fun v y hy => bool_of_elem hy) b r _ D left cnt hit hr
    (fun _ hl => hDone (fun v hv => by have := (h5 (keyI v)).2 ⟨v, hv, rfl⟩; rw [hl] at this; cases this)) ?_
  intro x c kl y w' cnt' hkey hlk hv hat hrg hlt hgr hsz hen
  obtain ⟨v, hq, hkl⟩ := (h5 kl).1 hlk
  have hvk := h4 v (h6 v hq)
  have hx : Value.int .i64 x = .int .i64 v := key_inv hkey hvk hkl
  rw [hx] at hen ⊢
  refine hMore v (.bool c) w' cnt' hq hvk ⟨D, _, hrg, h3, h4, fun k => ?_, fun z hz => h6 z hz.1, hT⟩ hlt hgr hsz hen
  subst hkl
  constructor
  · intro hz
    rw [Bool.and_eq_true] at hz
    obtain ⟨z, hz1, rfl⟩ := (h5 k).1 hz.1
    refine ⟨z, ⟨hz1, fun e => ?_⟩, rfl⟩
    subst e
    have := hz.2
    rw [WideAt.sameKey_self (lawK.key (keyI_of hvk))] at this
    cases this
  · rintro ⟨z, ⟨hz1, hne⟩, rfl⟩
    rw [Bool.and_eq_true]
    refine ⟨(h5 _).2 ⟨z, hz1, rfl⟩, ?_⟩
    rw [Maps.sameKey_ne (fun e => hne (keyI_inj (h4 z (h6 z hz1)) hvk e))]
    rfl
theorem KIt.walks {w w' : World} {b r cnt : Nat} {p q : Int → Prop} (h : KIt w b r p q cnt) (hk : KeepsWalks w w') : KIt w' b r p q cnt := by
  obtain ⟨D, left, hr, rest⟩ := h
  exact ⟨D, left, hr.of_walks hk, rest⟩
theorem KIt.isWalk {w : World} {b r cnt : Nat} {p q : Int → Prop} (h : KIt w b r p q cnt) : ∃ o : Obj, w.heap[r]? = some o ∧ o.isWalk = true := by
  obtain ⟨D, left, hr, rest⟩ := h
  exact hr.iter_walk
set_option maxRecDepth 100000 in
set_option maxHeartbeats 4000000 in
/-- the iterator of maps.Keys: each number comes once, in some order -/
theorem keysIt_in (n : Nat) (hn : 1 ≤ n) (l Bm b nn : Nat) (p : Int → Prop) (J Jx : List Int → World → Prop)
    (hY : ∀ pre x W, J pre W → pre.length < nn → YieldAt Fence.wide (n - 1) Try.prog l (encI x) W fun e W' => (e = .returned (.bool true) ∧ J (pre ++ [x]) W' ∧ KeepsWalks W W') ∨ (e = .returned (.bool false) ∧ Jx (pre ++ [x]) W'))
    (W : World) (hJ : AbidesFrom W.heap.size J) (hm : W.cell? ⟨Bm, 0, none⟩ = some (.map (some b))) (hown : KSet W b nn p) (h0 : J [] W) :
    CallsIn Fence.wide n Try.prog 146 #[.func (.yield l) #[] #[], .pointer (some ⟨Bm, 0, none⟩)] W fun e W' => (∃ v, e = .returned v) ∧
      ((∃ ss : List Int, (ss.Nodup ∧ ∀ v, v ∈ ss ↔ p v) ∧ J ss W') ∨ (∃ pre : List Int, True ∧ Jx pre W')) := by
  have hro : Fence.wide.round = none := rfl
  have hfn : Fence.wide.fn 146 := trivial
  refine callsIn_of_wp Try.func146 rfl hfn ?_ hro
  simp only [Try.ntmps146, List.size_toArray, List.length_cons, List.length_nil, Nat.reduceAdd, Nat.reduceSub, Array.replicate_succ, Array.replicate_zero, List.push_toArray, List.append_toArray, List.nil_append, List.cons_append]
  gi_wp2_with (first
    | (gi_at_range; refine wpListIn_range_set rfl _ rfl _ rfl rfl hown ?_; intro w0 hrg0 hg0 hs0)
    | gi_in)
  go_frame
  gi_loopw [3] (fun _ wr => ∃ (q : Int → Prop) (cnt : Nat) (ss : List Int), KIt wr b W.heap.size p q cnt ∧ (∀ v, q v → p v) ∧ ss.length + cnt ≤ nn ∧ ss.Nodup ∧ (∀ v, v ∈ ss ↔ p v ∧ ¬ q v) ∧ J ss wr)
    (fun _ wr => wr.rangeLeft b W.heap.size)
  case atStart =>
    exact ⟨_, _, [], hrg0, fun _ h => h, by simp, by simp, fun v => ⟨fun h => by simp at h, fun h => absurd h.1 h.2⟩, hJ [] W w0 none h0 hg0 (fun r e => by cases e)⟩
  case round =>
    obtain ⟨q, cnt, ss, hrg, hpq, hcs, hnd, hC, hJs⟩ := hrel
    gi_wp2_with (first
      | (gi_at_next; refine wpListIn_next_set rfl _ rfl _ rfl rfl hrg ?_ ?_)
      | gi_in)
    · intro hl0
      gi_wp2
      go_end0
      exact ⟨⟨_, rfl⟩, .inl ⟨ss, ⟨hnd, fun v => (hC v).trans ⟨fun h => h.1, fun h => ⟨h, hl0 v⟩⟩⟩, hJs⟩⟩
    · intro v c w2 cnt2 hq hvk hrg2 hlt hg2 hs2 hen
      have hJ2 : J ss w2 := hJ ss wr w2 (some W.heap.size) hJs hg2 (fun r e => by cases e; exact ⟨Nat.le_refl _, hrg.isWalk⟩)
      clear hs2
      obtain ⟨fn, tmps, assign, body, hy, hR⟩ := hY ss v w2 hJ2 (by omega)
      rw [show encI v = #[.int .i64 v] from rfl] at hy
      have Hg2 := Lib.hid hg2
      clear hg2
      have Hrg3 := Lib.hid (fun (W3 : World) (hk : KeepsWalks w2 W3) => hrg2.walks hk)
      have Hnd := Lib.hid (show (ss ++ [v]).Nodup ∧ ∀ x, x ∈ ss ++ [v] ↔ p x ∧ ¬ (q x ∧ x ≠ v) from by
        refine ⟨List.nodup_append.2 ⟨hnd, by simp, fun x hx y hy hxy => ?_⟩, fun x => ?_⟩
        · rw [List.mem_singleton] at hy
          subst hy; subst hxy
          exact ((hC _).1 hx).2 hq
        · rw [List.mem_append, List.mem_singleton, hC x]
          constructor
          · rintro (⟨h1, h2⟩ | h1)
            · exact ⟨h1, fun k => h2 k.1⟩
            · subst h1
              exact ⟨hpq _ hq, fun k => k.2 rfl⟩
          · rintro ⟨h1, h2⟩
            by_cases k : q x
            · exact .inr (Classical.byContradiction fun n => h2 ⟨k, n⟩)
            · exact .inl ⟨h1, k⟩)
      have Hleft := Lib.hid (fun (W3 : World) (hk : KeepsWalks w2 W3) => show W3.rangeLeft b W.heap.size < wr.rangeLeft b W.heap.size from by rw [(hrg2.walks hk).left_eq, hrg.left_eq]; exact hlt)
      clear hJ2 hrg hrg2
      gi_wp2
      refine hR.mono ?_
      clear hR
      rintro e W3 (⟨rfl, hJ3, hk3⟩ | ⟨rfl, hJx3⟩)
      · have Hk := Lib.hid hk3
        have HJ := Lib.hid hJ3
        clear hk3 hJ3 hy hen
        gi_wp2
        go_roundw
        case rel => exact ⟨_, cnt2, _, Hrg3.out _ Hk.out, fun v h => hpq v h.1, by rw [List.length_append]; simp only [List.length_cons, List.length_nil]; omega, Hnd.out.1, Hnd.out.2, HJ.out⟩
        case measure => exact Hleft.out _ Hk.out
      · have HJ := Lib.hid hJx3
        clear hJx3 hy hen
        gi_wp2
        refine bodyPost_ret (results_none rfl _ _ _) rfl ?_
        exact ⟨⟨_, rfl⟩, .inr ⟨_, trivial, HJ.out⟩⟩
/-- what maps.Keys hands back -/
theorem keys_stops (n : Nat) (hn : 1 ≤ n) (Bm b nn : Nat) (p : Int → Prop) (w : World) (hBm : Bm < w.heap.size) (hm : w.cell? ⟨Bm, 0, none⟩ = some (.map (some b))) (hown : KSet w b nn p) :
    SeqStopsK Fence.wide n Try.prog 146 #[.pointer (some ⟨Bm, 0, none⟩)] encI KeepsWalks (fun ss : List Int => ss.Nodup ∧ ∀ v, v ∈ ss ↔ p v) (fun _ => True) nn w := fun l J Jx W hW hJ _ hY h0 =>
  keysIt_in n hn l Bm b nn p J Jx hY W hJ ((hW.cell (p := ⟨Bm, 0, none⟩) hBm).trans hm) (hown.keep hW) h0
def flatI (l : List Int) : List Value := l.map (Value.int .i64)
theorem flatI_snoc (l : List Int) (x : Int) : flatI (l ++ [x]) = flatI l ++ [Value.int .i64 x] := by simp [flatI]
set_option maxRecDepth 100000 in
set_option maxHeartbeats 4000000 in
theorem appendSeq_in (n : Nat) (hn : 3 ≤ n) (g : Nat) (lb : Array Value) (eg : ∀ args w, (callFunc g args).run Try.prog w = .ok (.enter g args) w) (S : List Int → Prop) (N : Nat) (hN : N ≤ 1000000) (w : World)
    (hseq : ∀ W, Below w.heap.size w W → SeqStopsK Fence.wide (n - 1) Try.prog g lb encI KeepsWalks S (fun _ => True) N W) :
    CallsIn Fence.wide n Try.prog 149 #[.slice none 0 0, .func (.func g) #[] lb] w fun e w' => ∃ (v : Value) (ss : List Int), e = .returned v ∧ S ss ∧ w'.ownsRow w.heap.size 3 1 v ss.length (flatI ss) ∧ Below w.heap.size w w' := by
  have hro : Fence.wide.round = none := rfl
  have hfn : Fence.wide.fn 149 := trivial
  have h1 : 1 ≤ n := by omega
  refine callsIn_of_wp_marks Try.func149 rfl hfn ?_ hro
  simp only [Try.ntmps149, List.size_toArray, List.length_cons, List.length_nil, Nat.reduceAdd, Nat.reduceSub, Array.replicate_succ, Array.replicate_zero, List.push_toArray, List.append_toArray, List.nil_append, List.cons_append]
  gi_wp2
  obtain ⟨W0, hW0⟩ : ∃ W0, w.alloc (.cells #[.slice none 0 0] 23) = W0 := ⟨_, rfl⟩
  have hs0 : W0.heap.size = w.heap.size + 1 := by rw [← hW0]; simp
  have hv0 : Boxed W0 w.heap.size 23 (.slice none 0 0) := by rw [← hW0]; exact Boxed.new w _ _
  have hb0 : Below w.heap.size w W0 := by rw [← hW0]; exact (Below.refl _ w).alloc (Nat.le_refl _) _
  rw [hW0]
  refine wpIn_rangeFunc_ownH hro h1 (gf := g) (lb := lb) rfl trivial eg (hseq W0 hb0) walksK_t walksK_b (Below.refl _ _) (fun _ => rfl)
    (fun pre W => (∃ v, Boxed W w.heap.size 23 v ∧ W.ownsRow w.heap.size 3 1 v pre.length (flatI pre) ∧ True) ∧ Below w.heap.size w W)
    (fun _ _ _ => False)
    (OwnFrom.and (Own.from (holdsRow_own w.heap.size w.heap.size 23 3 1 (fun pre : List Int => pre.length) flatI (fun _ _ => True)) _) (ownFrom_below (Nat.le_refl _) (by omega)))
    (fun c => ownFrom_pure _ (fun _ => False))
    ⟨⟨_, hv0, World.ownsRow_nil _ _ _ _, trivial⟩, hb0⟩
    (fun x a' _ => a' = { tmps := #[.slice none 0 0, .func (.func g) #[] lb, .pointer (some ⟨w.heap.size, 0, none⟩), undef, .slice none 0 0, .int .i64 x, .func (.func g) #[] lb, .int .i64 x, undef, undef, undef, undef, undef], defers := [] })
    (fun x a' => ownFrom_pure _ (fun _ => a' = _)) ?assign ?body ?done ?stop
  case assign =>
    rintro l pre x W K ⟨⟨v, hv, hrow, _⟩, hB⟩ hK
    have HK := Lib.hid (hK { tmps := #[.slice none 0 0, .func (.func g) #[] lb, .pointer (some ⟨w.heap.size, 0, none⟩), undef, .slice none 0 0, .int .i64 x, .func (.func g) #[] lb, .int .i64 x, undef, undef, undef, undef, undef], defers := [] } W ((KeepsOthers.refl _).from _) (KeepsOthers.refl _).walks ⟨⟨v, hv, hrow, trivial⟩, hB⟩ rfl)
    clear hK hv hrow hB
    simp only [encI] at HK ⊢
    gi_wp2
    exact HK.out
  case body =>
    rintro l pre x a' W hl hr ⟨⟨v, hv, hrow, _⟩, hB⟩ rfl hlt
    have HW := Lib.hid (show ∀ (w1 : World) (v' : Value) (tmp : Obj), w1.ownsRow w.heap.size 3 1 v' (pre.length + 1) (flatI (pre ++ [x])) → (W.alloc tmp).grownBy w1 v.ownBlock → KeepsFrom W0.heap.size W (w1.setCell ⟨w.heap.size, 0, none⟩ v') ∧ KeepsWalks W (w1.setCell ⟨w.heap.size, 0, none⟩ v') ∧ (∃ u, Boxed (w1.setCell ⟨w.heap.size, 0, none⟩ v') w.heap.size 23 u ∧ (w1.setCell ⟨w.heap.size, 0, none⟩ v').ownsRow w.heap.size 3 1 u (pre ++ [x]).length (flatI (pre ++ [x])) ∧ True) ∧ Below w.heap.size w (w1.setCell ⟨w.heap.size, 0, none⟩ v') from fun w1 v' tmp k1 k2 => by
      obtain ⟨a1, a2, a3, a4, a5⟩ := hv.appended (by decide) hrow hB.size (Nat.le_refl _) k1 k2
      exact ⟨a4.from _, a4.walks, ⟨v', a2, by rw [List.length_append]; exact a3, trivial⟩, hB.trans a5⟩)
    have HB1 := Lib.hid (show ∀ (w1 : World) (v' : Value) (tmp : Obj), w1.ownsRow w.heap.size 3 1 v' (pre.length + 1) (flatI (pre ++ [x])) → (W.alloc tmp).grownBy w1 v.ownBlock → w1.cell? ⟨w.heap.size, 0, none⟩ = some v ∧ w1.frozen? ⟨w.heap.size, 0, none⟩ = false from fun w1 v' tmp k1 k2 => by
      obtain ⟨a1, _⟩ := hv.appended (by decide) hrow hB.size (Nat.le_refl _) k1 k2
      exact ⟨a1.cell, a1.frozen⟩)
    have hfl := flatI_snoc pre x
    have hc := hv.cell
    have hsz := hB.size
    obtain ⟨i0, hi, hz0, hz1, hz2⟩ := info_parts infoInt
    rw [hfl] at HW HB1
    have Hfl := Lib.hid hfl
    clear hl hr hv hfl
    gi_wp2_with (gi_at_builtin; refine wpListIn_append_own _ rfl _ _ 23 rfl w.heap.size 3 i0 _ 1 8 Try.underlying23 hi hz0 hz1 hz2 rfl (by decide) v pre.length (flatI pre) rfl (hrow.alloc _) ⟨W.heap.size, 0, none⟩ 1 1 [.int .i64 x] rfl rfl (fun j u hj => by rw [Addr.add_lit, Nat.zero_add, cell_new]; simpa using hj) (by simp [Value.oneCell']) (by unfold maxLen; omega) (by omega) (by simp; omega) ?_; intro v' w1 hown' hgrow _; obtain ⟨g2, cap2, rfl⟩ := ownsRow_succ hown'; have qc := (HB1.out w1 _ _ hown' hgrow).1; have qf := (HB1.out w1 _ _ hown' hgrow).2; have HR := Lib.hid (HW.out w1 _ _ hown' hgrow))
    obtain ⟨r1, r2, ⟨u, r3, r4, _⟩, r5⟩ := HR.out
    exact ⟨r1, r2, ⟨u, r3, by rw [Hfl.out]; exact ⟨r4, trivial⟩⟩, r5⟩
  case done =>
    rintro D xs W hD hS ⟨⟨v, hv, hrow, _⟩, hB⟩ hK
    have hc := hv.cell
    gi_wp2
    refine ⟨by simp, .inl ⟨_, _, rfl, run_takeDeferred hK, ?_⟩⟩
    exact ⟨_, results_tmp rfl _ _ _, v, xs, rfl, hS, ownsRow_putObj hrow _ hK rfl, hB.trans (belowK_b (w := w) (Nat.le_refl _) W D _ _ (by omega) hK rfl rfl)⟩
  case stop =>
    rintro D c pre W _ _ h _
    exact h.elim
set_option maxHeartbeats 1000000 in
/-- slices.Collect(maps.Keys(m)): the numbers, each once, in some order -/
theorem collectK_any {b nn : Nat} {p : Int → Prop} (w : World) (hown : KSet w b nn p) (hnn : nn ≤ 1000000) (Bm : Nat) (hBm : Bm < w.heap.size) (hm : w.cell? ⟨Bm, 0, none⟩ = some (.map (some b))) :
    Calls Try.prog 144 #[.func (.func 146) #[] #[.pointer (some ⟨Bm, 0, none⟩)]] w fun e w' => ∃ (a : Option Addr) (c : Nat) (ss : List Int), e = .returned (.slice a ss.length c) ∧ (ss.Nodup ∧ ∀ v, v ∈ ss ↔ p v) ∧ OwnInts w.heap.size w' (.slice a ss.length c) ss ∧ Below w.heap.size w w' := by
  have hA := (callsIn_wide (n := 5)).1 (appendSeq_in 5 (by omega) 146 #[.pointer (some ⟨Bm, 0, none⟩)] (enters_of Try.func146 (by kernel_rfl) rfl) (fun ss : List Int => ss.Nodup ∧ ∀ v, v ∈ ss ↔ p v) nn hnn w
    (fun W hW => keys_stops 4 (by omega) Bm b nn p W (Nat.lt_of_lt_of_le hBm hW.size) ((hW.cell (p := ⟨Bm, 0, none⟩) hBm).trans hm) (hown.keep hW)))
  have HA := Lib.hid hA
  clear hA
  go_enter Try.func144, Try.ntmps144
  go_wp2_with fail
  refine HA.out.mono ?_
  rintro e w' ⟨v, ss, rfl, hS, hrow, hb⟩
  obtain ⟨a, c, rfl⟩ : ∃ a c, v = .slice a ss.length c := by
    rcases hrow.2 with ⟨rfl, h0⟩ | ⟨g, cap, cur, rfl, _⟩
    · exact ⟨none, 0, by rw [h0]⟩
    · exact ⟨_, _, rfl⟩
  have R := Lib.hid (And.intro hS (And.intro hrow hb))
  clear hS hrow hb HA
  go_wp2_with fail
  go_ret
  exact ⟨a, c, ss, rfl, R.out.1, R.out.2.1, R.out.2.2⟩
#print axioms collectK_any
end Go.Proofs.Ythndplkjhbmfmaa
