/- Rows of ints of the call's own that may begin anywhere in their block: append, the tail. -/
import Derived.Test.YthndplkjhbmfmaaRmp
import Derived.ArgAppend
namespace Go.Proofs.Ythndplkjhbmfmaa
open Go.RowKit
/-- a row of ints of the call's own, from anywhere in its block -/
def OQ (base : Nat) (w : World) (v : Value) (L : List Int) : Prop :=
  (v = .slice none 0 0 ∧ L = []) ∨ ∃ (g off cap : Nat) (cur : Array Value), v = .slice (some ⟨g, off, none⟩) L.length cap ∧ base ≤ g ∧ w.heap[g]? = some (.cells cur 3 (0, 0)) ∧ L.length ≤ cap ∧ cap ≤ maxLen ∧ off + cap ≤ cur.size ∧ ∀ j, j < L.length → cur[off + j]? = some (.int .i64 (L.getD j 0))
theorem oq_nil (base : Nat) (w : World) : OQ base w (.slice none 0 0) [] := .inl ⟨rfl, rfl⟩
theorem oq_own {base : Nat} {w : World} {v : Value} {L : List Int} (h : OwnInts base w v L) : OQ base w v L := by
  rcases h.2 with ⟨rfl, h0⟩ | ⟨g, cap, cur, rfl, h1, h2, h3, h4, h5, h6⟩
  · exact .inl ⟨rfl, List.eq_nil_of_length_eq_zero h0⟩
  · refine .inr ⟨g, 0, cap, cur, rfl, h1, h2, h3, h4, by omega, fun j hj => ?_⟩
    have h7 : (cur.toList.take (L.length * 1))[j]? = some (.int .i64 (L.getD j 0)) := by
      rw [h6, List.getElem?_map, List.getD_eq_getElem?_getD, List.getElem?_eq_getElem hj]; rfl
    rw [List.getElem?_take_of_lt (by omega)] at h7
    rw [Nat.zero_add]
    simpa using h7
theorem OQ.mono {base base' : Nat} {w : World} {v : Value} {L : List Int} (h : OQ base w v L) (hb : base' ≤ base) : OQ base' w v L := by
  rcases h with h | ⟨g, off, cap, cur, h1, h2, h3⟩
  · exact .inl h
  · exact .inr ⟨g, off, cap, cur, h1, by omega, h3⟩
theorem OQ.lt {base : Nat} {w : World} {v : Value} {L : List Int} (h : OQ base w v L) {g : Nat} (hg : v.ownBlock = some g) : base ≤ g ∧ g < w.heap.size := by
  rcases h with ⟨rfl, _⟩ | ⟨g', off, cap, cur, rfl, h2, h3, _⟩
  · cases hg
  · have : g' = g := Option.some.inj hg
    subst this
    exact ⟨h2, (Array.getElem?_eq_some_iff.1 h3).1⟩
theorem OQ.block {base : Nat} {w w' : World} {v : Value} {L : List Int} (h : OQ base w v L) (hb : ∀ g, v.ownBlock = some g → w'.heap[g]? = w.heap[g]?) : OQ base w' v L := by
  rcases h with h | ⟨g, off, cap, cur, rfl, h2, h3, h4⟩
  · exact .inl h
  · exact .inr ⟨g, off, cap, cur, rfl, h2, (hb g rfl).trans h3, h4⟩
theorem OQ.keep {base : Nat} {w w' : World} {v : Value} {L : List Int} (h : OQ base w v L) (hb : Below w.heap.size w w') : OQ base w' v L :=
  h.block fun _ hg => hb.block _ (h.lt hg).2
theorem OQ.ints {base : Nat} {w : World} {v : Value} {L : List Int} (h : OQ base w v L) : Ints w v L := by
  rcases h with ⟨rfl, rfl⟩ | ⟨g, off, cap, cur, rfl, h2, h3, h4, h5, h6, h7⟩
  · exact (ownInts_nil 0 w).ints
  · refine ⟨by simp, by unfold maxLen at *; omega, some ⟨g, off, none⟩, g, off, cap, rfl, ⟨fun _ => rfl, h4⟩, fun j hj => ?_⟩
    rw [List.length_map] at hj
    rw [cell_of_row w g (off + j) _ _ _ h3, h7 j hj, List.getElem_map, List.getD_eq_getElem?_getD, List.getElem?_eq_getElem hj]; rfl
theorem OQ.slice {base : Nat} {w : World} {v : Value} {L : List Int} (h : OQ base w v L) : ∃ a c, v = .slice a L.length c := ints_slice h.ints
/-- the type of its block -/
theorem OQ.typ {base : Nat} {w : World} {v : Value} {L : List Int} (h : OQ base w v L) {g : Nat} (hg : v.ownBlock = some g) : ∃ cur, w.heap[g]? = some (.cells cur 3 (0, 0)) := by
  rcases h with ⟨rfl, _⟩ | ⟨g', off, cap, cur, rfl, h2, h3, _⟩
  · cases hg
  · have : g' = g := Option.some.inj hg
    subst this
    exact ⟨cur, h3⟩
/-- append(v, x) -/
theorem run_append_q {base : Nat} {w : World} {v : Value} {L : List Int} (h : OQ base w v L) (hL : L.length ≤ 10000000000) (hbase : base ≤ w.heap.size) {g c : Nat} {x : Int} (hx : w.cell? ⟨g, 0, none⟩ = some (.int .i64 x)) (ty : TypeId) :
    ∃ v' w', (Builtin.append_ #[23, 23] ty #[v, .slice (some ⟨g, 0, none⟩) 1 c]).run Try.prog w = .ok v' w' ∧ OQ base w' v' (L ++ [x]) ∧ w.grownBy w' v.ownBlock ∧ (v'.ownBlock = v.ownBlock ∨ ∀ k, v'.ownBlock = some k → w.heap.size ≤ k) := by
  obtain ⟨ht, i, z, hi, hz, h3, h4, hzs, hsz, hby⟩ := elemInts
  have hcell : ∀ (j : Nat) (u : Value), [Value.int .i64 x][j]? = some u → w.cell? ((⟨g, 0, none⟩ : Addr).add j) = some u := fun j u hj => by
    match j with
    | 0 => rw [Addr.add_lit]; simp at hj; rw [← hj]; exact hx
    | j + 1 => simp at hj
  have hone : ∀ u ∈ [Value.int .i64 x], u.oneCell' = true := fun u hu => by simp at hu; subst hu; rfl
  rcases h with ⟨rfl, rfl⟩ | ⟨q, off, cap, cur, rfl, q2, q3, q4, q5, q6, q7⟩
  · obtain ⟨v', w', hrun, r1, r2, _, r3⟩ := run_append_own_at (P := Try.prog) w base 23 ty 3 i z 1 8 ht hi hz h3 h4 hzs hsz (.slice none 0 0) 0 [] (World.ownsRow_nil w base _ 1) ⟨g, 0, none⟩ 1 c [.int .i64 x] rfl hcell hone (by unfold maxLen; omega) (by omega) hbase
    exact ⟨v', w', hrun, oq_own (L := [x]) r1, r2, r3.imp id fun h k hk => by rw [h] at hk; injection hk with hk; omega⟩
  · by_cases hr : L.length + 1 ≤ cap
    · have hc1 : w.cell? ⟨q, off + L.length, none⟩ = some cur[off + L.length] := by
        rw [cell_of_row w q _ _ _ _ q3]
        exact Array.getElem?_eq_getElem (by omega)
      have hrun := run_append_room_cells (P := Try.prog) w 23 ty 3 i ht hi q off L.length cap ⟨g, 0, none⟩ 1 c [.int .i64 x] (by rw [h3]; rfl) hcell hone hr (fun j hj => by
        have : j = 0 := by simpa using hj
        subst this
        rw [h3, Nat.mul_one, Nat.add_zero, hc1]; rfl) (fun j hj => by
        have : j = 0 := by simpa using hj
        subst this
        exact frozen_of_row w q _ _ _ q3)
      rw [h3, Nat.mul_one] at hrun
      refine ⟨_, _, hrun, ?_, ?_, .inl rfl⟩
      · refine .inr ⟨q, off, cap, cur.setIfInBounds (off + L.length) (.int .i64 x), by rw [List.length_append]; rfl, q2, ?_, by rw [List.length_append]; exact hr, q5, by simpa using q6, fun j hj => ?_⟩
        · show ((w.setCell ⟨q, off + L.length, none⟩ (.int .i64 x)).heap[q]?) = _
          rw [heap_setCell_same w q _ _ _ _ q3]
        · rw [List.length_append] at hj
          simp only [List.length_cons, List.length_nil] at hj
          by_cases e : j = L.length
          · subst e
            rw [Array.getElem?_setIfInBounds_self_of_lt (by omega)]
            simp [List.getD_eq_getElem?_getD]
          · rw [Array.getElem?_setIfInBounds_ne (by omega), q7 j (by omega)]
            simp [List.getD_eq_getElem?_getD, List.getElem?_append_left (show j < L.length by omega)]
      · exact grown_setCell w q _ _
    · obtain ⟨v', w', hrun, r1, r2⟩ := run_append_arg_grows (P := Try.prog) w 23 ty 3 i z 1 8 ht hi hz h3 h4 hzs hsz ⟨q, off, none⟩ L.length cap (L.map (Value.int .i64)) (by simp) (fun j u hj => by
        rw [List.getElem?_map] at hj
        obtain ⟨y, hy, rfl⟩ := Option.map_eq_some_iff.1 hj
        obtain ⟨hlt, he⟩ := List.getElem?_eq_some_iff.1 hy
        rw [Addr.add_lit, cell_of_row w q (off + j) _ _ _ q3, q7 j hlt, List.getD_eq_getElem?_getD, hy]; rfl) ⟨g, 0, none⟩ 1 c [.int .i64 x] rfl hcell (by omega) (by unfold maxLen; omega) (by omega)
      have ho : OwnInts w.heap.size w' v' (L ++ [x]) := by
        unfold OwnInts
        rw [List.length_append, List.map_append]; exact r1
      refine ⟨v', w', hrun, (oq_own ho).mono hbase, ⟨r2.os, r2.tape, r2.output, r2.size, fun k hk _ => r2.block k hk (by simp)⟩, .inr fun k hk => (own_lt ho hk).1⟩
theorem wpList_of_run {P : Program} {ops : Array Oper} {rest : List Oper} {o : Oper} {a : Act} {Q : Exit → Act → World → Prop} {w : World} (hgd : o.guard = none) (s x : Operand) (t : TypeId)
    (ho : o.op = .call { callee := .builtin .append, args := #[s, x], argTypes := #[t, t] }) {v u : Value} (hs : a.eval s = v) (hx : a.eval x = u) {v' : Value} {w' : World} (hrun : (Builtin.append_ #[t, t] o.type #[v, u]).run P w = .ok v' w')
    (hK : wpList P ops Q rest (a.put o.dst v') w') : wpList P ops Q (o :: rest) a w := by
  refine wpList_plain hgd fun K hK' => ?_
  unfold Oper.wp execOp
  simp only [ho, resolve, invoke, builtin, Sem.run_bind, Sem.run_pure, Result.andThen_ok, List.map_toArray, List.map_cons, List.map_nil, hs, hx, hrun]
  exact hK' _ _ hK
theorem step_of_run {P : Program} {ops : Array Oper} {o : Oper} {a : Act} {K : Act → World → Prop} {Q : Exit → Act → World → Prop} {w : World} {E : Prop} (hgd : o.guard = none) (s x : Operand) (t : TypeId)
    (ho : o.op = .call { callee := .builtin .append, args := #[s, x], argTypes := #[t, t] }) {v u : Value} (hs : a.eval s = v) (hx : a.eval x = u) {v' : Value} {w' : World} (hrun : (Builtin.append_ #[t, t] o.type #[v, u]).run P w = .ok v' w')
    (hK : K (a.put o.dst v') w') : if Region.wanted o (yielded ops a.tmps) = true then Oper.wp P o a w K Q else E := by
  have hw : Region.wanted o (yielded ops a.tmps) = true := by simp [Region.wanted, hgd]
  rw [if_pos hw]
  unfold Oper.wp execOp
  simp only [ho, resolve, invoke, builtin, Sem.run_bind, Sem.run_pure, Result.andThen_ok, List.map_toArray, List.map_cons, List.map_nil, hs, hx, hrun]
  exact hK
theorem wpList_app_q {ops : Array Oper} {rest : List Oper} {o : Oper} {a : Act} {Q : Exit → Act → World → Prop} {w : World} (hgd : o.guard = none) (s x : Operand)
    (ho : o.op = .call { callee := .builtin .append, args := #[s, x], argTypes := #[23, 23] }) {base : Nat} {v : Value} {L : List Int} (hs : a.eval s = v) (h : OQ base w v L) (hL : L.length ≤ 10000000000) (hbase : base ≤ w.heap.size)
    {g c : Nat} {y : Int} (hx : a.eval x = .slice (some ⟨g, 0, none⟩) 1 c) (hy : w.cell? ⟨g, 0, none⟩ = some (.int .i64 y))
    (hK : ∀ v' w', OQ base w' v' (L ++ [y]) → w.grownBy w' v.ownBlock → (v'.ownBlock = v.ownBlock ∨ ∀ k, v'.ownBlock = some k → w.heap.size ≤ k) → wpList Try.prog ops Q rest (a.put o.dst v') w') : wpList Try.prog ops Q (o :: rest) a w := by
  obtain ⟨v', w', hrun, r1, r2, r3⟩ := run_append_q (c := c) h hL hbase hy o.type
  exact wpList_of_run hgd s x _ ho hs hx hrun (hK v' w' r1 r2 r3)
theorem step_app_q {ops : Array Oper} {o : Oper} {a : Act} {K : Act → World → Prop} {Q : Exit → Act → World → Prop} {w : World} {E : Prop} (hgd : o.guard = none) (s x : Operand)
    (ho : o.op = .call { callee := .builtin .append, args := #[s, x], argTypes := #[23, 23] }) {base : Nat} {v : Value} {L : List Int} (hs : a.eval s = v) (h : OQ base w v L) (hL : L.length ≤ 10000000000) (hbase : base ≤ w.heap.size)
    {g c : Nat} {y : Int} (hx : a.eval x = .slice (some ⟨g, 0, none⟩) 1 c) (hy : w.cell? ⟨g, 0, none⟩ = some (.int .i64 y))
    (hK : ∀ v' w', OQ base w' v' (L ++ [y]) → w.grownBy w' v.ownBlock → (v'.ownBlock = v.ownBlock ∨ ∀ k, v'.ownBlock = some k → w.heap.size ≤ k) → K (a.put o.dst v') w') : if Region.wanted o (yielded ops a.tmps) = true then Oper.wp Try.prog o a w K Q else E := by
  obtain ⟨v', w', hrun, r1, r2, r3⟩ := run_append_q (c := c) h hL hbase hy o.type
  exact step_of_run hgd s x _ ho hs hx hrun (hK v' w' r1 r2 r3)
/-- the head and the tail -/
theorem OQ.tail {base : Nat} {w : World} {a : Option Addr} {n c : Nat} {x : Int} {L : List Int} (h : OQ base w (.slice a n c) (x :: L)) : ∃ g off, a = some ⟨g, off, none⟩ ∧ n = L.length + 1 ∧ w.cell? ⟨g, off, none⟩ = some (.int .i64 x) ∧ OQ base w (.slice (some ⟨g, off + 1, none⟩) (n - 1) (c - 1)) L ∧ (c = 1 → L = [] ∧ OQ base w (.slice (some ⟨g, off, none⟩) 0 0) L) := by
  rcases h with ⟨_, h⟩ | ⟨g, off, cap, cur, e, h2, h3, h4, h5, h6, h7⟩
  · cases h
  · injection e with e1 e2 e3
    subst e1 e2 e3
    simp only [List.length_cons] at h4 h7
    have h70 := h7 0 (by omega)
    simp only [Nat.add_zero] at h70
    refine ⟨g, off, rfl, rfl, by rw [cell_of_row w g off _ _ _ h3, h70]; rfl, .inr ⟨g, off + 1, c - 1, cur, rfl, h2, h3, by omega, by omega, by omega, fun j hj => ?_⟩, fun hc => ?_⟩
    · rw [show off + 1 + j = off + (j + 1) by omega, h7 (j + 1) (by omega)]
      simp [List.getD_eq_getElem?_getD]
    · have hL : L = [] := List.eq_nil_of_length_eq_zero (by omega)
      subst hL
      exact ⟨rfl, .inr ⟨g, off, 0, cur, rfl, h2, h3, Nat.le_refl _, Nat.zero_le _, by omega, fun j hj => by simp at hj⟩⟩
#print axioms run_append_q
end Go.Proofs.Ythndplkjhbmfmaa
