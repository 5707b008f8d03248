/- Sets of matches: maps keyed by arrays. -/
import Derived.Test.YtfplmdieeabgpaaExv
import Derived.Test.YtfplmdieeabgpaaMq
import Derived.DeepKeys4
import Derived.Maps.OwnOps
import Derived.Maps.OwnSet
import Derived.Maps.RangeWalk
namespace Go.Proofs.Ytfplmdieeabgpaa
open Go.RowKit Go.Maps Go.WideMaps
theorem undV : Try.prog.underlying 95 = some (.array 8 3) := by kernel_rfl
theorem undM : Try.prog.underlying 91 = some (.map 95 4) := by kernel_rfl
theorem undB : Try.prog.underlying 4 = some .bool := by kernel_rfl
theorem undI : Try.prog.underlying 3 = some (.int .i64) := by kernel_rfl
theorem laidOutT : laidOutB Try.prog = true := by kernel_rfl
theorem rowV : (95 : TypeId) < Try.prog.types.size := of_decide_eq_true (by kernel_rfl)
theorem wideV : (match Try.prog.underlying 95 with | some (.array _ _) | some (.struct _) => true | _ => false) = true := by rw [undV]
theorem lawV : Keyed Try.prog 95 := Keyed.of_law (deep_law_laid laidOutT (m := 2) (by omega) rowV (by kernel_rfl) (by rw [undV]))
/-- what a match reads as, as a key -/
def keyL (v : List Int) : Lit := .string (keyBytes (v.map (Lit.int .i64)))
theorem wf_of {x : Int} (h : 0 ≤ x ∧ x ≤ 99) : (Lit.int .i64 x).wf = true := WalkArith.wf_i64 (by omega)
theorem keyTypeV : Try.prog.keyType 95 = true := by kernel_rfl
theorem cellsV : Try.prog.cellsOf 95 = 8 := by kernel_rfl
theorem cellsI : Try.prog.cellsOf 3 = 1 := by kernel_rfl
theorem size_pos {n k : Nat} (h : k < n) : ∃ m, n = m + 1 := ⟨n - 1, by omega⟩
theorem sizeT : ∃ m, Try.prog.types.size = m + 1 := size_pos rowV
theorem vrow_list (v : List Int) : (vrow v).toList = v.map (Value.int .i64) := by simp [vrow]
theorem key_of {v : List Int} (hv : Vok v) : keyOf Try.prog 95 (.agg (vrow v)) = some (keyL v) := by
  obtain ⟨h8, hx⟩ := hv
  obtain ⟨m, hm⟩ := sizeT
  have hl : (vrow v).toList.length = 8 := by rw [vrow_list]; simpa using h8
  unfold keyOf
  simp only [undV]
  rw [if_pos (by simp [keyTypeV, Value.formed, cellsV, vrow_size, h8]), hm]
  unfold Program.keyLits
  simp only [undV, Value.cells]
  rw [if_pos (by rw [cellsV]; exact hl), show List.range 8 = [0, 1, 2, 3, 4, 5, 6, 7] from rfl]
  match v, h8, hx with
  | [a, b, c, d, e, f, g, h], _, hx =>
    have w1 := wf_of (hx a (by simp)); have w2 := wf_of (hx b (by simp)); have w3 := wf_of (hx c (by simp)); have w4 := wf_of (hx d (by simp))
    have w5 := wf_of (hx e (by simp)); have w6 := wf_of (hx f (by simp)); have w7 := wf_of (hx g (by simp)); have w8 := wf_of (hx h (by simp))
    simp [vrow, List.mapM_cons, cellsI, Program.keyLits, w1, w2, w3, w4, w5, w6, w7, w8, keyL]
theorem agg_vrow {v v' : List Int} (h : Value.agg (vrow v) = .agg (vrow v')) : v = v' := by
  injection h with h
  have := congrArg Array.toList h
  rw [vrow_list, vrow_list] at this
  exact (List.map_inj_right (fun _ _ h => by injection h)).1 this
theorem keyL_inj {v v' : List Int} (hv : Vok v) (hv' : Vok v') (h : keyL v = keyL v') : v = v' :=
  agg_vrow (lawV.inj (key_of hv) (h ▸ key_of hv'))
/-- block b is a map of n entries whose keys are just the matches of which p holds -/
def MSetN (w : World) (b n : Nat) (p : List Int → Prop) : Prop :=
  ∃ D : DataW Unit, w.ownsMap Try.prog 95 (plainElem Try.prog 4) b (Maps.size D) D ∧ Maps.size D = n ∧ (∀ kl, Maps.has D kl = true ↔ ∃ v, p v ∧ kl = keyL v) ∧ ∀ v, p v → Vok v
theorem owns_size {w : World} {b n : Nat} {D : DataW Unit} (h : w.ownsMap Try.prog 95 (plainElem Try.prog 4) b n D) : w.ownsMap Try.prog 95 (plainElem Try.prog 4) b (Maps.size D) D := by
  obtain ⟨es, clock, hb, F, hs, rfl⟩ := h
  exact ⟨es, clock, hb, F, by simp [Maps.size, length_sorted], rfl⟩
theorem MSetN.kept {w w' : World} {b n : Nat} {p : List Int → Prop} (h : MSetN w b n p) {row : Option Nat} (hg : w.grownBy w' row) (hne : some b ≠ row) : MSetN w' b n p := by
  obtain ⟨D, h1, h2, h3, h4⟩ := h
  exact ⟨D, h1.kept hg hne, h2, h3, h4⟩
theorem MSetN.keep {w w' : World} {b n : Nat} {p : List Int → Prop} (h : MSetN w b n p) (hb : Below w.heap.size w w') : MSetN w' b n p :=
  h.kept (row := none) ⟨hb.os, hb.tape, hb.output, hb.size, fun k hk _ => hb.block k hk⟩ (by simp)
theorem MSetN.lt {w : World} {b n : Nat} {p : List Int → Prop} (h : MSetN w b n p) : b < w.heap.size := by
  obtain ⟨D, h1, _⟩ := h; exact h1.lt
theorem MSetN.congr {w : World} {b n : Nat} {p q : List Int → Prop} (h : MSetN w b n p) (hpq : ∀ v, p v ↔ q v) : MSetN w b n q := by
  obtain ⟨D, h1, h2, h3, h4⟩ := h
  exact ⟨D, h1, h2, fun kl => (h3 kl).trans ⟨fun ⟨v, a, b⟩ => ⟨v, (hpq v).1 a, b⟩, fun ⟨v, a, b⟩ => ⟨v, (hpq v).2 a, b⟩⟩, fun v hv => h4 v ((hpq v).2 hv)⟩
theorem MSetN.vok {w : World} {b n : Nat} {p : List Int → Prop} (h : MSetN w b n p) {v : List Int} (hv : p v) : Vok v := by
  obtain ⟨D, _, _, _, h4⟩ := h; exact h4 v hv
/-- its length is how many there are -/
theorem MSetN.count {w : World} {b n : Nat} {p : List Int → Prop} (h : MSetN w b n p) : ∃ L : List (List Int), L.Nodup ∧ L.length = n ∧ ∀ v, v ∈ L ↔ p v := by
  obtain ⟨D, h1, h2, h3, h4⟩ := h
  obtain ⟨es, rfl, hd, _⟩ := h1.entries lawV
  have hk : ∀ q, q ∈ es → ∃ v, p v ∧ q.1 = keyL v := fun q hq => (h3 q.1).1 (List.any_eq_true.2 ⟨q, hq, WideAt.sameKey_self (by
    obtain ⟨es', he, hd', hk'⟩ := h1.entries lawV
    injection he with he
    subst he
    exact hk' q hq)⟩)
  classical
  let g : (Lit × DataW Unit) → List Int := fun q => if h : ∃ v, p v ∧ q.1 = keyL v then h.choose else []
  have hg : ∀ q, q ∈ es → p (g q) ∧ q.1 = keyL (g q) := fun q hq => by
    have h := hk q hq
    show p (if h : ∃ v, p v ∧ q.1 = keyL v then h.choose else []) ∧ q.1 = keyL (if h : ∃ v, p v ∧ q.1 = keyL v then h.choose else [])
    rw [dif_pos h]
    exact h.choose_spec
  refine ⟨es.map g, ?_, by rw [List.length_map]; exact h2, fun v => ?_⟩
  · rw [List.nodup_iff_pairwise_ne, List.pairwise_map]
    refine hd.imp_of_mem (fun {a b} ha hb hne he => hne ?_)
    rw [(hg a ha).2, (hg b hb).2, he]
  · rw [List.mem_map]
    constructor
    · rintro ⟨q, hq, rfl⟩; exact (hg q hq).1
    · intro hv
      obtain ⟨q, hq, hs⟩ := List.any_eq_true.1 ((h3 (keyL v)).2 ⟨v, hv, rfl⟩)
      refine ⟨q, hq, keyL_inj (h4 _ (hg q hq).1) (h4 v hv) ?_⟩
      rw [← (hg q hq).2]; exact WideAt.sameKey_eq hs
theorem MSetN.len {w : World} {b n : Nat} {p : List Int → Prop} (h : MSetN w b n p) {L : List (List Int)} (hL : L.Nodup) (hm : ∀ v, v ∈ L ↔ p v) : n = L.length := by
  obtain ⟨M, h1, h2, h3⟩ := h.count
  have a := len_le h1 (m := L) (fun x hx => (hm x).2 ((h3 x).1 hx))
  have c := len_le hL (m := M) (fun x hx => (h3 x).2 ((hm x).1 hx))
  omega
/-- a new map -/
theorem mset_made (w : World) : MSetN (w.alloc (.map #[] 0)) w.heap.size 0 (fun _ => False) :=
  ⟨.map [], World.ownsMap_made _ _ _ _, rfl, fun kl => ⟨fun h => by simp [Maps.has] at h, fun ⟨_, h, _⟩ => h.elim⟩, fun _ h => h.elim⟩
/-- m[v] = true -/
theorem MSetN.put {w : World} {b n : Nat} {p : List Int → Prop} (h : MSetN w b n p) {v : List Int} (hv : Vok v) (hn : n ≤ 1000000) :
    ∃ w' n', (Instr.mapUpdate 91 (.map (some b)) (.agg (vrow v)) (.bool true)).run Try.prog w = .ok () w' ∧ MSetN w' b n' (fun x => p x ∨ x = v) ∧ n' ≤ n + 1 ∧ w.grownBy w' (some b) := by
  obtain ⟨D, h1, h2, h3, h4⟩ := h
  obtain ⟨w', hr, ho, hg⟩ := h1.update lawV undM (by unfold maxLen; omega) (key_of hv) (plainElem_bool undB true)
  have hk : WideAt.IsKeyLit (keyL v) := lawV.key (key_of hv)
  have ht : Maps.Tidy D := by obtain ⟨es, rfl, hd, _⟩ := h1.entries lawV; exact ⟨es, rfl, hd⟩
  refine ⟨w', Maps.size (D.put (keyL v) (.lit (.bool true))), hr, ⟨_, owns_size ho, rfl, fun kl => ?_, fun x hx => ?_⟩, ?_, hg⟩
  · by_cases e : kl = keyL v
    · subst e
      rw [Maps.has_put_same ht.isMap hk]
      exact ⟨fun _ => ⟨v, .inr rfl, rfl⟩, fun _ => rfl⟩
    · rw [Maps.has_put_other e, h3]
      constructor
      · rintro ⟨x, hx, rfl⟩; exact ⟨x, .inl hx, rfl⟩
      · rintro ⟨x, hx | rfl, rfl⟩
        · exact ⟨x, hx, rfl⟩
        · exact absurd rfl e
  · rcases hx with hx | rfl
    · exact h4 x hx
    · exact hv
  · rw [Maps.size_put ht]
    split <;> omega
/-- the store, for the walk -/
theorem wpList_put_match {P : Program} (hP : P = Try.prog) (w : World) {ops : Array Oper} {rest : List Oper} {o : Oper} {a : Act} {Q : Exit → Act → World → Prop}
    (hg : o.guard = none) (m x u : Operand) (hop : o.op = Op.mapUpdate 91 m x u) {b n : Nat} {p : List Int → Prop} {v : List Int}
    (hm : a.eval m = .map (some b)) (hx : a.eval x = .agg (vrow v)) (hu : a.eval u = .bool true) (h : MSetN w b n p) (hv : Vok v) (hn : n ≤ 1000000)
    (hK : ∀ w' n', MSetN w' b n' (fun x => p x ∨ x = v) → n' ≤ n + 1 → w.grownBy w' (some b) → wpList P ops Q rest (a.put o.dst undef) w') :
    wpList P ops Q (o :: rest) a w := by
  subst hP
  refine wpList_plain hg fun K' hK' => ?_
  obtain ⟨w', n', hrun, r1, r2, r3⟩ := h.put hv hn
  unfold Oper.wp
  simp [execOp, hop, hm, hx, hu, hrun, Result.andThen]
  exact hK' _ _ (hK w' n' r1 r2 r3)
theorem wpList_ins_match {P : Program} (hP : P = Try.prog) (w : World) {ops : Array Oper} {rest : List Oper} {o : Oper} {a : Act} {Q : Exit → Act → World → Prop}
    (hg : o.guard = none) (m x u : Operand) (hop : o.op = Op.insert 91 m x u) {b n : Nat} {p : List Int → Prop} {v : List Int}
    (hm : a.eval m = .map (some b)) (hx : a.eval x = .agg (vrow v)) (hu : a.eval u = .bool true) (h : MSetN w b n p) (hv : Vok v) (hn : n ≤ 1000000)
    (hK : ∀ w' n', MSetN w' b n' (fun x => p x ∨ x = v) → n' ≤ n + 1 → w.grownBy w' (some b) → wpList P ops Q rest (a.put o.dst undef) w') :
    wpList P ops Q (o :: rest) a w := by
  subst hP
  refine wpList_plain hg fun K' hK' => ?_
  obtain ⟨w', n', hrun, r1, r2, r3⟩ := h.put hv hn
  unfold Oper.wp
  simp [execOp, hop, hm, hx, hu, hrun, Result.andThen]
  exact hK' _ _ (hK w' n' r1 r2 r3)
/-- a walk over a map under way: p: its matches; q: those still to come -/
def MIt (w : World) (b r : Nat) (p q : List Int → Prop) (cnt : Nat) : Prop :=
  ∃ (D : DataW Unit) (left : Lit → Bool), w.ranges Try.prog 95 (plainElem Try.prog 4) b r (Maps.size D) D left cnt ∧ (∀ kl, Maps.has D kl = true ↔ ∃ v, p v ∧ kl = keyL v) ∧ (∀ v, p v → Vok v) ∧
    (∀ kl, left kl = true ↔ ∃ v, q v ∧ kl = keyL v) ∧ ∀ v, q v → p v
theorem MIt.kept {w w' : World} {b r cnt : Nat} {p q : List Int → Prop} (h : MIt w b r p q cnt) {row : Option Nat} (hg : w.grownBy w' row) (h1 : some b ≠ row) (h2 : some r ≠ row) : MIt w' b r p q cnt := by
  obtain ⟨D, left, hr, rest⟩ := h
  exact ⟨D, left, hr.kept hg h1 h2, rest⟩
theorem MIt.keep {w w' : World} {b r cnt : Nat} {p q : List Int → Prop} (h : MIt w b r p q cnt) (hb : Below w.heap.size w w') : MIt w' b r p q cnt :=
  h.kept (row := none) ⟨hb.os, hb.tape, hb.output, hb.size, fun k hk _ => hb.block k hk⟩ (by simp) (by simp)
theorem MIt.left_eq {w : World} {b r cnt : Nat} {p q : List Int → Prop} (h : MIt w b r p q cnt) : w.rangeLeft b r = cnt := by
  obtain ⟨D, left, hr, rest⟩ := h; exact hr.left_eq
theorem MIt.lt {w : World} {b r cnt : Nat} {p q : List Int → Prop} (h : MIt w b r p q cnt) : r < w.heap.size ∧ b < w.heap.size ∧ r ≠ b := by
  obtain ⟨D, left, hr, rest⟩ := h; exact ⟨hr.lt, hr.owns.lt, hr.ne⟩
theorem MIt.set {w : World} {b r cnt : Nat} {p q : List Int → Prop} (h : MIt w b r p q cnt) : ∃ n, MSetN w b n p := by
  obtain ⟨D, left, hr, h3, h4, _⟩ := h
  exact ⟨_, D, owns_size hr.owns, rfl, h3, h4⟩
theorem MIt.vok {w : World} {b r cnt : Nat} {p q : List Int → Prop} (h : MIt w b r p q cnt) {v : List Int} (hv : p v) : Vok v := by
  obtain ⟨D, left, hr, h3, h4, _⟩ := h; exact h4 v hv
/-- range m -/
theorem wpList_range_match {P : Program} (hP : P = Try.prog) (w : World) {ops : Array Oper} {rest : List Oper} {o : Oper} {a : Act} {Q : Exit → Act → World → Prop} (hg : o.guard = none) (m : Operand) (hop : o.op = Op.range 91 m) {b n : Nat} {p : List Int → Prop}
    (hm : a.eval m = .map (some b)) (h : MSetN w b n p)
    (hK : ∀ w', MIt w' b w.heap.size p p n → w.grownBy w' none → w'.heap.size = w.heap.size + 1 → wpList P ops Q rest (a.put o.dst (.pointer (some ⟨w.heap.size, 0, none⟩))) w') :
    wpList P ops Q (o :: rest) a w := by
  subst hP
  obtain ⟨D, h1, h2, h3, h4⟩ := h
  exact wpList_range_own w hg m _ hop _ _ lawV undM _ b _ D hm h1 (fun w' hr hgr hs => hK w' ⟨D, _, h2 ▸ hr, h3, h4, h3, fun _ h => h⟩ hgr hs)
theorem key_inv {key : Value} {kl : Lit} (h : keyOf Try.prog 95 key = some kl) {v : List Int} (hv : Vok v) (e : kl = keyL v) : key = .agg (vrow v) :=
  lawV.inj h (e ▸ key_of hv)
theorem agg_of_key {key : Value} {kl : Lit} (h : keyOf Try.prog 95 key = some kl) : ∃ x : Array Value, key = .agg x := by
  unfold keyOf at h
  simp only [undV] at h
  split at h
  · rename_i hc
    rw [Bool.and_eq_true] at hc
    have h2 := hc.2
    cases key <;> simp [Value.formed] at h2
    exact ⟨_, rfl⟩
  · cases h
theorem bool_of_elem {v : Value} {y : DataW Unit × List MemPlace} (h : plainElem Try.prog 4 v = some y) : ∃ c : Bool, v = .bool c := by
  unfold plainElem at h
  rw [undB] at h
  cases v <;> simp at h
  exact ⟨_, rfl⟩
/-- the step -/
theorem wpList_next_match {P : Program} (hP : P = Try.prog) (w : World) {ops : Array Oper} {rest : List Oper} {o : Oper} {a : Act} {Q : Exit → Act → World → Prop} (hg : o.guard = none) (it : Operand) (hop : o.op = Op.next it false) {b r cnt : Nat} {p q : List Int → Prop}
    (hit : a.eval it = .pointer (some ⟨r, 0, none⟩)) (h : MIt w b r p q cnt)
    (hDone : (∀ v, ¬ q v) → wpList P ops Q rest (a.put o.dst (.tuple #[.bool false])) w)
    (hMore : ∀ (v : List Int) (c : Value) (w' : World) (cnt' : Nat), q v → Vok v → MIt w' b r p (fun x => q x ∧ x ≠ v) cnt' → cnt' < cnt → w.grownBy w' (some r) → w'.heap.size = w.heap.size →
      (Instr.entry (.pointer (some ⟨r, 0, none⟩))).run P w' = .ok (.tuple #[.agg (vrow v), c]) w' → wpList P ops Q rest (a.put o.dst (.tuple #[.bool true, .agg (vrow v), c])) w') :
    wpList P ops Q (o :: rest) a w := by
  subst hP
  obtain ⟨D, left, hr, h3, h4, h5, h6⟩ := h
  refine wpList_next_ranges w hg it hop _ lawV _ Value.agg Value.bool (fun key kl hk => agg_of_key hk) (fun v y hy => bool_of_elem hy) b r _ D left cnt hit hr
    (fun _ hl => hDone (fun v hv => by have := (h5 (keyL v)).2 ⟨v, hv, rfl⟩; rw [hl] at this; cases this)) ?_
  intro x c kl y w' cnt' hkey hlk hv hat hrg hlt hgr hsz hen
  obtain ⟨v, hq, hkl⟩ := (h5 kl).1 hlk
  have hvk := h4 v (h6 v hq)
  have hx : Value.agg x = .agg (vrow v) := key_inv hkey hvk hkl
  rw [hx] at hen ⊢
  refine hMore v (.bool c) w' cnt' hq hvk ⟨D, _, hrg, h3, h4, fun k => ?_, fun z hz => h6 z hz.1⟩ hlt hgr hsz hen
  subst hkl
  constructor
  · intro hz
    rw [Bool.and_eq_true] at hz
    obtain ⟨z, hz1, rfl⟩ := (h5 k).1 hz.1
    refine ⟨z, ⟨hz1, fun e => ?_⟩, rfl⟩
    subst e
    have := hz.2
    rw [WideAt.sameKey_self (lawV.key (key_of hvk))] at this
    cases this
  · rintro ⟨z, ⟨hz1, hne⟩, rfl⟩
    rw [Bool.and_eq_true]
    refine ⟨(h5 _).2 ⟨z, hz1, rfl⟩, ?_⟩
    rw [Maps.sameKey_ne (fun e => hne (keyL_inj (h4 z (h6 z hz1)) hvk e))]
    rfl
/-- len(m) -/
theorem MSetN.len_run {w : World} {b n : Nat} {p : List Int → Prop} (h : MSetN w b n p) : ∃ es clock, w.heap[b]? = some (.map es clock) ∧ es.size = n := by
  obtain ⟨D, ⟨es, clock, hb, F, hs, rfl⟩, h2, _⟩ := h
  exact ⟨es, clock, hb, by rw [← h2]; simp [Maps.size, length_sorted]⟩
theorem wpList_len_match {P : Program} (hP : P = Try.prog) (w : World) {ops : Array Oper} {rest : List Oper} {o : Oper} {a : Act} {Q : Exit → Act → World → Prop} (hg : o.guard = none) (m : Operand)
    (hop : o.op = Op.call { callee := Callee.builtin Builtin.len, args := #[m], argTypes := #[91] }) {b n : Nat} {p : List Int → Prop} (hm : a.eval m = .map (some b)) (h : MSetN w b n p)
    (hK : wpList P ops Q rest (a.put o.dst (.int .i64 n)) w) : wpList P ops Q (o :: rest) a w := by
  subst hP
  obtain ⟨D, h1, h2, _⟩ := h
  subst h2
  exact wpList_len_own w hg m _ hop _ _ undM _ b _ D hm h1 hK
#print axioms key_of
#print axioms wpList_next_match
#print axioms wpList_put_match
#print axioms MSetN.len
end Go.Proofs.Ytfplmdieeabgpaa
