/- Nodes of a wavelet tree in memory; appends that say where their row lies. -/
import Derived.Test.YtbnlkmblkokooaaLto
import Derived.Test.YtbnlkmblkokooaaWav
import Derived.Maps.AppendAt
namespace Go.Proofs.Ytbnlkmblkokooaa
open Go.RowKit
/-- append of one element, saying which block the row lies in -/
theorem append_place {P : Program} {ops : Array Oper} {rest : List Oper} {o : Oper} {a : Act} {Q : Exit → Act → World → Prop} {w : World} (hgd : o.guard = none) (s x : Operand) (t : TypeId)
    (ho : o.op = .call { callee := .builtin .append, args := #[s, x], argTypes := #[t, t] }) {e : TypeId} {bytes : Nat} (he : Elem P t e 1 bytes)
    {base n : Nat} {v : Value} {xs : List Value} (hs : a.eval s = v) (hown : w.ownsRow base e 1 v n xs)
    {g c : Nat} {y : Value} (hx : a.eval x = .slice (some ⟨g, 0, none⟩) 1 c) (hy : w.cell? ⟨g, 0, none⟩ = some y) (h1 : y.oneCell' = true)
    (hn : n ≤ 1000000) (hbase : base ≤ w.heap.size)
    (h : ∀ v' w', w'.ownsRow base e 1 v' (n + 1) (xs ++ [y]) → Below base w w' → w.grownBy w' v.ownBlock → (v'.ownBlock = v.ownBlock ∨ v'.ownBlock = some w.heap.size) → wpList P ops Q rest (a.put o.dst v') w') : wpList P ops Q (o :: rest) a w := by
  obtain ⟨ht, i, z, hi, hz, h3, h4, hzs, hsz, hby⟩ := he
  have hbytes : (n + 1) * bytes ≤ 1000001 * 1000 := Nat.mul_le_mul (by omega) hby
  refine wpList_plain hgd fun K hK => ?_
  obtain ⟨v', w', hrun, r1, r2, _, r3⟩ := run_append_own_at (P := P) w base t o.type e i z 1 bytes ht hi hz h3 h4 hzs hsz v n xs hown ⟨g, 0, none⟩ 1 c [y] rfl (fun j u hj => by
    match j with
    | 0 => rw [Addr.add_lit]; simp at hj; rw [← hj]; exact hy
    | j + 1 => simp at hj) (fun u hu => by simp at hu; subst hu; exact h1) (by unfold maxLen; omega) (by omega) hbase
  unfold Oper.wp execOp
  simp only [ho, resolve, invoke, builtin, Sem.run_bind, Sem.run_pure, Result.andThen_ok, List.map_toArray, List.map_cons, List.map_nil, hs, hx, hrun]
  exact hK _ _ (h v' w' r1 (grown_below hown r2 hbase) r2 r3)
theorem own_kept {w w' : World} {base : Nat} {e : TypeId} {size n : Nat} {v : Value} {xs : List Value} {r : Option Nat} (h : w.ownsRow base e size v n xs) (hg : w.grownBy w' r) (hne : ∀ q, v.ownBlock = some q → r ≠ some q) : w'.ownsRow base e size v n xs :=
  h.kept hg (by
    cases hv : v.ownBlock with
    | none => exact .inl rfl
    | some q => exact .inr (fun e => hne q hv e.symm))
#print axioms append_place
/-- the row of how many of the first are high -/
def onesRow (c : UInt8) (S : Bs) (n : Nat) : List Int := (List.range n).map fun i => (onesAt c S i : Int)
theorem onesRow_len (c : UInt8) (S : Bs) (n : Nat) : (onesRow c S n).length = n := by simp [onesRow]
theorem onesRow_succ (c : UInt8) (S : Bs) (n : Nat) : onesRow c S (n + 1) = onesRow c S n ++ [(onesAt c S n : Int)] := by simp [onesRow, List.range_succ]
theorem onesRow_get (c : UInt8) (S : Bs) {n i : Nat} (h : i < n) : (onesRow c S n)[i]? = some (onesAt c S i : Int) := by simp [onesRow, h]
/-- a node block -/
def NBlk (w : World) (g : Nat) (lo hi : Value) (c : UInt8) (vs : Value) : Prop := w.heap[g]? = some (.cells #[lo, hi, .int .u8 c.toNat, vs] 86 (0, 0))
/-- the tree of S over L, in blocks from B on -/
inductive Node (B : Nat) (w : World) : Bs → Bs → Value → Prop
  | leaf {L S : Bs} {g : Nat} : L.length ≤ 1 → B ≤ g → NBlk w g (.pointer none) (.pointer none) (L.getD 0 0) (.slice none 0 0) → Node B w L S (.pointer (some ⟨g, 0, none⟩))
  | node {L S : Bs} {g : Nat} {lo hi vs : Value} : 2 ≤ L.length → B ≤ g → NBlk w g lo hi (spl L) vs → OwnInts B w vs (onesRow (spl L) S (S.length + 1)) → Node B w (L.take (half L.length)) (loS (spl L) S) lo → Node B w (L.drop (half L.length)) (hiS (spl L) S) hi → Node B w L S (.pointer (some ⟨g, 0, none⟩))
theorem own_block {w w' : World} {base : Nat} {e : TypeId} {size n : Nat} {v : Value} {xs : List Value} (h : w.ownsRow base e size v n xs) (hk : ∀ g, v.ownBlock = some g → w'.heap[g]? = w.heap[g]?) : w'.ownsRow base e size v n xs := by
  refine ⟨h.1, ?_⟩
  rcases h.2 with h0 | ⟨g, cap, cur, rfl, hb, hg, rest⟩
  · exact .inl h0
  · exact .inr ⟨g, cap, cur, rfl, hb, (hk g rfl).trans hg, rest⟩
theorem NBlk.keep {w w' : World} {g : Nat} {lo hi vs : Value} {c : UInt8} (h : NBlk w g lo hi c vs) (hb : Below w.heap.size w w') : NBlk w' g lo hi c vs := (hb.block g (Array.getElem?_eq_some_iff.1 h).1).trans h
theorem NBlk.lt {w : World} {g : Nat} {lo hi vs : Value} {c : UInt8} (h : NBlk w g lo hi c vs) : g < w.heap.size := (Array.getElem?_eq_some_iff.1 h).1
theorem Node.from {B : Nat} {w w' : World} {L S : Bs} {v : Value} (h : Node B w L S v) (hk : ∀ q, B ≤ q → q < w.heap.size → w'.heap[q]? = w.heap[q]?) : Node B w' L S v := by
  induction h with
  | leaf h1 hB h2 => exact .leaf h1 hB ((hk _ hB h2.lt).trans h2)
  | node h1 hB h2 h3 _ _ ih1 ih2 => exact .node h1 hB ((hk _ hB h2.lt).trans h2) (own_block h3 fun q hq => hk q (h3.lt q hq).1 (h3.lt q hq).2) ih1 ih2
theorem Node.keep {B : Nat} {w w' : World} {L S : Bs} {v : Value} (h : Node B w L S v) (hb : Below w.heap.size w w') : Node B w' L S v := h.from fun q _ hq => hb.block q hq
theorem Node.base {B B' : Nat} {w : World} {L S : Bs} {v : Value} (h : Node B w L S v) (hb : B' ≤ B) : Node B' w L S v := by
  induction h with
  | leaf h1 hB h2 => exact .leaf h1 (by omega) h2
  | node h1 hB h2 h3 _ _ ih1 ih2 => exact .node h1 (by omega) h2 (OwnInts.base h3 hb) ih1 ih2
theorem Node.ptr {B : Nat} {w : World} {L S : Bs} {v : Value} (h : Node B w L S v) : ∃ g, v = .pointer (some ⟨g, 0, none⟩) := by
  cases h <;> exact ⟨_, rfl⟩
theorem own_types {w : World} {base base' : Nat} {e e' : TypeId} {n n' : Nat} {v v' : Value} {xs xs' : List Value} (h : w.ownsRow base e 1 v n xs) (h' : w.ownsRow base' e' 1 v' n' xs') (hne : e ≠ e') : ∀ q, v.ownBlock = some q → v'.ownBlock ≠ some q := by
  intro q h1 h2
  obtain ⟨c, fz, h3⟩ := own_kind h q h1
  obtain ⟨c', fz', h4⟩ := own_kind h' q h2
  rw [h3] at h4
  injection h4 with h4
  injection h4 with _ h4
  exact hne h4
theorem NBlk.not_row {w : World} {g : Nat} {lo hi vs : Value} {c : UInt8} (h : NBlk w g lo hi c vs) {base : Nat} {e : TypeId} {n : Nat} {v : Value} {xs : List Value} (h' : w.ownsRow base e 1 v n xs) (hne : e ≠ 86) : v.ownBlock ≠ some g := by
  intro h1
  obtain ⟨c, fz, h3⟩ := own_kind h' g h1
  unfold NBlk at h
  rw [h] at h3
  injection h3 with h3
  injection h3 with _ h3
  exact hne h3.symm
theorem NBlk.grown {w w' : World} {g : Nat} {lo hi vs : Value} {c : UInt8} {r : Option Nat} (h : NBlk w g lo hi c vs) (hg : w.grownBy w' r) (hne : r ≠ some g) : NBlk w' g lo hi c vs := (hg.block g h.lt (fun e => hne e.symm)).trans h
theorem NBlk.alloc {w : World} {g : Nat} {lo hi vs : Value} {c : UInt8} (h : NBlk w g lo hi c vs) (o : Obj) : NBlk (w.alloc o) g lo hi c vs := (Lib.alloc_old w o g h.lt).trans h
theorem NBlk.set3 {w : World} {g : Nat} {lo hi vs : Value} {c : UInt8} (h : NBlk w g lo hi c vs) (x : Value) : NBlk (w.setCell ⟨g, 3, none⟩ x) g lo hi c x := by
  unfold NBlk at h ⊢
  simp [World.setCell, Array.getElem?_modify, h]
theorem NBlk.set0 {w : World} {g : Nat} {lo hi vs : Value} {c : UInt8} (h : NBlk w g lo hi c vs) (x : Value) : NBlk (w.setCell ⟨g, 0, none⟩ x) g x hi c vs := by
  unfold NBlk at h ⊢
  simp [World.setCell, Array.getElem?_modify, h]
theorem NBlk.set1 {w : World} {g : Nat} {lo hi vs : Value} {c : UInt8} (h : NBlk w g lo hi c vs) (x : Value) : NBlk (w.setCell ⟨g, 1, none⟩ x) g lo x c vs := by
  unfold NBlk at h ⊢
  simp [World.setCell, Array.getElem?_modify, h]
theorem own_set {w : World} {g i : Nat} {x : Value} {base : Nat} {e : TypeId} {n : Nat} {v : Value} {xs : List Value} (h : w.ownsRow base e 1 v n xs) (hne : v.ownBlock ≠ some g) : (w.setCell ⟨g, i, none⟩ x).ownsRow base e 1 v n xs :=
  own_block h fun q hq => Below.heap_setCell _ _ _ _ (fun e => hne (by rw [hq, e]))
theorem NBlk.cells {w : World} {g : Nat} {lo hi vs : Value} {c : UInt8} (h : NBlk w g lo hi c vs) : w.cell? ⟨g, 0, none⟩ = some lo ∧ w.cell? ⟨g, 1, none⟩ = some hi ∧ w.cell? ⟨g, 2, none⟩ = some (.int .u8 c.toNat) ∧ w.cell? ⟨g, 3, none⟩ = some vs := by
  unfold NBlk at h
  refine ⟨?_, ?_, ?_, ?_⟩ <;> simp [World.cell?, h]
theorem NBlk.frozen {w : World} {g : Nat} {lo hi vs : Value} {c : UInt8} (h : NBlk w g lo hi c vs) (i : Nat) : w.frozen? ⟨g, i, none⟩ = false := by
  unfold NBlk at h
  simp [World.frozen?, h]
theorem loS_succ {c : UInt8} {S : Bs} {i : Nat} (h : i < S.length) : loS c (S.take (i + 1)) = loS c (S.take i) ++ (if high c S[i] then [] else [S[i]]) := by
  unfold loS
  rw [List.take_succ_eq_append_getElem h, List.filter_append]
  cases hh : high c S[i] <;> simp [hh]
theorem hiS_succ {c : UInt8} {S : Bs} {i : Nat} (h : i < S.length) : hiS c (S.take (i + 1)) = hiS c (S.take i) ++ (if high c S[i] then [S[i]] else []) := by
  unfold hiS
  rw [List.take_succ_eq_append_getElem h, List.filter_append]
  cases hh : high c S[i] <;> simp [hh]
theorem loS_lenle (c : UInt8) (S : Bs) : (loS c S).length ≤ S.length := List.length_filter_le _ _
theorem hiS_lenle (c : UInt8) (S : Bs) : (hiS c S).length ≤ S.length := List.length_filter_le _ _
#print axioms Node.keep
end Go.Proofs.Ytbnlkmblkokooaa
