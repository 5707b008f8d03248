/- An append of one element to a row of the call's own, as one step of a region that draws. -/
import Derived.Test.YtpehbffkplmfjaaApk
namespace Go.Proofs.Ytpehbffkplmfjaa
open Go.RowKit
theorem wp_append_keep {P : Program} {o : Oper} {a : Act} {K : Act → World → Prop} {Q : Exit → Act → World → Prop} {w : World} (s x : Operand) (t : TypeId)
    (ho : o.op = .call { callee := .builtin .append, args := #[s, x], argTypes := #[t, t] }) {e : TypeId} {bytes : Nat} (he : Elem P t e 1 bytes)
    {base n : Nat} {v : Value} {xs : List Value} (hs : a.eval s = v) (hown : w.ownsRow base e 1 v n xs)
    {g c : Nat} {y : Value} (hx : a.eval x = .slice (some ⟨g, 0, none⟩) 1 c) (hy : w.cell? ⟨g, 0, none⟩ = some y) (h1 : y.oneCell' = true)
    (hn : n ≤ 1000000) (hbase : base ≤ w.heap.size)
    (h : ∀ v' w', w'.ownsRow base e 1 v' (n + 1) (xs ++ [y]) → w.grownBy w' v.ownBlock → (v'.ownBlock = v.ownBlock ∨ v'.ownBlock = some w.heap.size) → BackTo base e v n xs y v' w' → K (a.put o.dst v') w') : o.wp P a w K Q := by
  obtain ⟨ht, i, z, hi, hz, h3, h4, hzs, hsz, hby⟩ := he
  have hbytes : (n + 1) * bytes ≤ 1000001 * 1000 := Nat.mul_le_mul (by omega) hby
  have hcell : ∀ (j : Nat) (u : Value), [y][j]? = some u → w.cell? ((⟨g, 0, none⟩ : Addr).add j) = some u := fun j u hj => by
    match j with
    | 0 => rw [Addr.add_lit]; simp at hj; rw [← hj]; exact hy
    | j + 1 => simp at hj
  have hone : ∀ u ∈ [y], u.oneCell' = true := fun u hu => by simp at hu; subst hu; exact h1
  obtain ⟨v', w', hrun, r1, r2, _, r3⟩ := run_append_own_at (P := P) w base t o.type e i z 1 bytes ht hi hz h3 h4 hzs hsz v n xs hown ⟨g, 0, none⟩ 1 c [y] rfl hcell hone (by unfold maxLen; omega) (by omega) hbase
  have hback : BackTo base e v n xs y v' w' := by
    intro w'' hg hw
    obtain ⟨q1, q2⟩ := hown
    rcases q2 with ⟨rfl, rfl⟩ | ⟨gv, cap, cur, rfl, hb, hh, hnc, hcm, hcs, htk⟩
    · exact ⟨q1, .inl ⟨rfl, rfl⟩⟩
    · have hgl : gv < w.heap.size := (Array.getElem?_eq_some_iff.1 hh).1
      by_cases hroom : n + 1 ≤ cap
      · have e1 := run_append_room (P := P) w t o.type e i ht hi gv n cap cur hh ⟨g, 0, none⟩ 1 c [y] (by rw [h3]; rfl) hcell hone hroom (by rw [h3, hcs]; simp; omega)
        rw [hrun] at e1
        injection e1 with e2 e3
        subst e2
        have := own_take hw (k := n) (by omega)
        rwa [List.take_left' (by omega)] at this
      · have holds : ∀ j u, xs[j]? = some u → w.cell? ((⟨gv, 0, none⟩ : Addr).add j) = some u := World.ownsRow.cells (size := 1) ⟨q1, .inr ⟨gv, cap, cur, rfl, hb, hh, hnc, hcm, hcs, htk⟩⟩ rfl
        have e1 := run_append_grow (P := P) w t o.type e i z ht hi hz ⟨gv, 0, none⟩ n cap xs (by rw [h3]; exact q1) holds ⟨g, 0, none⟩ 1 c [y] (by rw [h3]; rfl) hcell (by omega) (by omega) (growslice_fits (by omega) (by rw [h4]; omega))
        rw [hrun] at e1
        injection e1 with e2 e3
        subst e2 e3
        have hk : w''.heap[gv]? = w.heap[gv]? := (hg.block gv (by simp; omega) (by simp [Value.ownBlock]; omega)).trans (by
          exact heap_alloc_old w.drew _ (r := gv) hgl)
        exact ⟨q1, .inr ⟨gv, cap, cur, rfl, hb, hk.trans hh, hnc, hcm, hcs, htk⟩⟩
  unfold Oper.wp execOp
  simp only [ho, resolve, invoke, builtin, Sem.run_bind, Sem.run_pure, Result.andThen_ok, List.map_toArray, List.map_cons, List.map_nil, hs, hx, hrun]
  exact h v' w' r1 r2 r3 hback
theorem step_append_keep {P : Program} {ops : Array Oper} {o : Oper} {a : Act} {K : Act → World → Prop} {Q : Exit → Act → World → Prop} {w : World} {E : Prop} (hgd : o.guard = none) (s x : Operand) (t : TypeId)
    (ho : o.op = .call { callee := .builtin .append, args := #[s, x], argTypes := #[t, t] }) {e : TypeId} {bytes : Nat} (he : Elem P t e 1 bytes)
    {base n : Nat} {v : Value} {xs : List Value} (hs : a.eval s = v) (hown : w.ownsRow base e 1 v n xs)
    {g c : Nat} {y : Value} (hx : a.eval x = .slice (some ⟨g, 0, none⟩) 1 c) (hy : w.cell? ⟨g, 0, none⟩ = some y) (h1 : y.oneCell' = true)
    (hn : n ≤ 1000000) (hbase : base ≤ w.heap.size)
    (h : ∀ v' w', w'.ownsRow base e 1 v' (n + 1) (xs ++ [y]) → w.grownBy w' v.ownBlock → (v'.ownBlock = v.ownBlock ∨ v'.ownBlock = some w.heap.size) → BackTo base e v n xs y v' w' → K (a.put o.dst v') w') : if Region.wanted o (yielded ops a.tmps) = true then Oper.wp P o a w K Q else E := by
  have hw : Region.wanted o (yielded ops a.tmps) = true := by simp [Region.wanted, hgd]
  rw [if_pos hw]
  exact wp_append_keep s x t ho he hs hown hx hy h1 hn hbase h
#print axioms step_append_keep
end Go.Proofs.Ytpehbffkplmfjaa
