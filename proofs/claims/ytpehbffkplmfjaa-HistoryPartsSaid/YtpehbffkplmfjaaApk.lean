/- append of one element to a row of the call's own, and how the row that was is got back. -/
import Derived.Test.YtpehbffkplmfjaaPms
import Derived.Test.YtpehbffkplmfjaaDel
namespace Go.Proofs.Ytpehbffkplmfjaa
open Go.RowKit
/-- w' grew out of w by an append of y to v: v can be got back from the longer row v' wherever no more than that row's block has changed -/
def BackTo (base : Nat) (e : TypeId) (v : Value) (n : Nat) (xs : List Value) (y : Value) (v' : Value) (w' : World) : Prop :=
  ∀ w'' : World, w'.grownBy w'' v'.ownBlock → w''.ownsRow base e 1 v' (n + 1) (xs ++ [y]) → w''.ownsRow base e 1 v n xs
theorem append_keep {P : Program} {ops : Array Oper} {rest : List Oper} {o : Oper} {a : Act} {Q : Exit → Act → World → Prop} {w : World} (hgd : o.guard = none) (s x : Operand) (t : TypeId)
    (ho : o.op = .call { callee := .builtin .append, args := #[s, x], argTypes := #[t, t] }) {e : TypeId} {bytes : Nat} (he : Elem P t e 1 bytes)
    {base n : Nat} {v : Value} {xs : List Value} (hs : a.eval s = v) (hown : w.ownsRow base e 1 v n xs)
    {g c : Nat} {y : Value} (hx : a.eval x = .slice (some ⟨g, 0, none⟩) 1 c) (hy : w.cell? ⟨g, 0, none⟩ = some y) (h1 : y.oneCell' = true)
    (hn : n ≤ 1000000) (hbase : base ≤ w.heap.size)
    (h : ∀ v' w', w'.ownsRow base e 1 v' (n + 1) (xs ++ [y]) → w.grownBy w' v.ownBlock → (v'.ownBlock = v.ownBlock ∨ v'.ownBlock = some w.heap.size) → BackTo base e v n xs y v' w' → wpList P ops Q rest (a.put o.dst v') w') : wpList P ops Q (o :: rest) a w := by
  obtain ⟨ht, i, z, hi, hz, h3, h4, hzs, hsz, hby⟩ := he
  have hbytes : (n + 1) * bytes ≤ 1000001 * 1000 := Nat.mul_le_mul (by omega) hby
  refine wpList_plain hgd fun K hK => ?_
  have hcell : ∀ (j : Nat) (u : Value), [y][j]? = some u → w.cell? ((⟨g, 0, none⟩ : Addr).add j) = some u := fun j u hj => by
    match j with
    | 0 => rw [Addr.add_lit]; simp at hj; rw [← hj]; exact hy
    | j + 1 => simp at hj
  have hone : ∀ u ∈ [y], u.oneCell' = true := fun u hu => by simp at hu; subst hu; exact h1
  obtain ⟨v', w', hrun, r1, r2, _, r3⟩ := run_append_own_at (P := P) w base t o.type e i z 1 bytes ht hi hz h3 h4 hzs hsz v n xs hown ⟨g, 0, none⟩ 1 c [y] rfl hcell hone (by unfold maxLen; omega) (by omega) hbase
  have hback : BackTo base e v n xs y v' w' := by
    intro w'' hg hw
    obtain ⟨q1, q2⟩ := hown
    rcases q2 with ⟨rfl, rfl⟩ | ⟨gv, cap, cur, rfl, hb, hh, hnc, hcm, hcs, htk⟩
    · exact ⟨q1, .inl ⟨rfl, rfl⟩⟩
    · have hgl : gv < w.heap.size := (Array.getElem?_eq_some_iff.1 hh).1
      by_cases hroom : n + 1 ≤ cap
      · have e1 := run_append_room (P := P) w t o.type e i ht hi gv n cap cur hh ⟨g, 0, none⟩ 1 c [y] (by rw [h3]; rfl) hcell hone hroom (by rw [h3, hcs]; simp; omega)
        rw [hrun] at e1
        injection e1 with e2 e3
        subst e2
        have := own_take hw (k := n) (by omega)
        rwa [List.take_left' (by omega)] at this
      · have holds : ∀ j u, xs[j]? = some u → w.cell? ((⟨gv, 0, none⟩ : Addr).add j) = some u := World.ownsRow.cells (size := 1) ⟨q1, .inr ⟨gv, cap, cur, rfl, hb, hh, hnc, hcm, hcs, htk⟩⟩ rfl
        have e1 := run_append_grow (P := P) w t o.type e i z ht hi hz ⟨gv, 0, none⟩ n cap xs (by rw [h3]; exact q1) holds ⟨g, 0, none⟩ 1 c [y] (by rw [h3]; rfl) hcell (by omega) (by omega) (growslice_fits (by omega) (by rw [h4]; omega))
        rw [hrun] at e1
        injection e1 with e2 e3
        subst e2 e3
        have hk : w''.heap[gv]? = w.heap[gv]? := (hg.block gv (by simp; omega) (by simp [Value.ownBlock]; omega)).trans (by
          exact heap_alloc_old w.drew _ (r := gv) hgl)
        exact ⟨q1, .inr ⟨gv, cap, cur, rfl, hb, hk.trans hh, hnc, hcm, hcs, htk⟩⟩
  unfold Oper.wp execOp
  simp only [ho, resolve, invoke, builtin, Sem.run_bind, Sem.run_pure, Result.andThen_ok, List.map_toArray, List.map_cons, List.map_nil, hs, hx, hrun]
  exact hK _ _ (h v' w' r1 r2 r3 hback)
#print axioms append_keep
end Go.Proofs.Ytpehbffkplmfjaa
