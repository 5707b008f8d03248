/- Sets of numbers: maps from int to bool whose values are all true. -/
import Derived.Test.YthndplkjhbmfmaaRbc
import Derived.Maps.OwnOps
import Derived.Maps.OwnSet
import Derived.Maps.RangeWalk
namespace Go.Proofs.Ythndplkjhbmfmaa
open Go.RowKit Go.Maps Go.WideMaps
theorem undS : Try.prog.underlying 130 = some (.map 3 4) := by kernel_rfl
theorem undB : Try.prog.underlying 4 = some .bool := by kernel_rfl
theorem undI : Try.prog.underlying 3 = some (.int .i64) := by kernel_rfl
theorem lawK : Keyed Try.prog 3 := int_keyed undI
/-- the numbers that are keys here -/
def KOk (c : Int) : Prop := 0 ≤ c ∧ c < 294
def keyI (c : Int) : Lit := .int .i64 c
theorem keyI_of {v : Int} (hv : KOk v) : keyOf Try.prog 3 (.int .i64 v) = some (keyI v) := keyOf_int_mk undI (WalkArith.wf_i64 (by obtain ⟨a, b⟩ := hv; omega))
theorem keyI_inj {v v' : Int} (_ : KOk v) (_ : KOk v') (h : keyI v = keyI v') : v = v' := by
  unfold keyI at h
  injection h
/-- block b is a map of n entries whose keys are just the matches of which p holds -/
def KSet (w : World) (b n : Nat) (p : Int → Prop) : Prop :=
  ∃ D : DataW Unit, w.ownsMap Try.prog 3 (plainElem Try.prog 4) b (Maps.size D) D ∧ Maps.size D = n ∧ (∀ kl, Maps.has D kl = true ↔ ∃ v, p v ∧ kl = keyI v) ∧ (∀ v, p v → KOk v) ∧ ∀ kl z, Maps.has D kl = true → D.atKey kl z = .lit (.bool true)
theorem owns_size {w : World} {b n : Nat} {D : DataW Unit} (h : w.ownsMap Try.prog 3 (plainElem Try.prog 4) b n D) : w.ownsMap Try.prog 3 (plainElem Try.prog 4) b (Maps.size D) D := by
  obtain ⟨es, clock, hb, F, hs, rfl⟩ := h
  exact ⟨es, clock, hb, F, by simp [Maps.size, length_sorted], rfl⟩
theorem KSet.kept {w w' : World} {b n : Nat} {p : Int → Prop} (h : KSet w b n p) {row : Option Nat} (hg : w.grownBy w' row) (hne : some b ≠ row) : KSet w' b n p := by
  obtain ⟨D, h1, h2, h3, h4, hT⟩ := h
  exact ⟨D, h1.kept hg hne, h2, h3, h4, hT⟩
theorem KSet.keep {w w' : World} {b n : Nat} {p : Int → Prop} (h : KSet w b n p) (hb : Below w.heap.size w w') : KSet w' b n p :=
  h.kept (row := none) ⟨hb.os, hb.tape, hb.output, hb.size, fun k hk _ => hb.block k hk⟩ (by simp)
theorem KSet.lt {w : World} {b n : Nat} {p : Int → Prop} (h : KSet w b n p) : b < w.heap.size := by
  obtain ⟨D, h1, _⟩ := h; exact h1.lt
theorem KSet.congr {w : World} {b n : Nat} {p q : Int → Prop} (h : KSet w b n p) (hpq : ∀ v, p v ↔ q v) : KSet w b n q := by
  obtain ⟨D, h1, h2, h3, h4, hT⟩ := h
  exact ⟨D, h1, h2, fun kl => (h3 kl).trans ⟨fun ⟨v, a, b⟩ => ⟨v, (hpq v).1 a, b⟩, fun ⟨v, a, b⟩ => ⟨v, (hpq v).2 a, b⟩⟩, fun v hv => h4 v ((hpq v).2 hv), hT⟩
theorem KSet.vok {w : World} {b n : Nat} {p : Int → Prop} (h : KSet w b n p) {v : Int} (hv : p v) : KOk v := by
  obtain ⟨D, _, _, _, h4, _⟩ := h; exact h4 v hv
/-- its length is how many there are -/
theorem KSet.count {w : World} {b n : Nat} {p : Int → Prop} (h : KSet w b n p) : ∃ L : List Int, L.Nodup ∧ L.length = n ∧ ∀ v, v ∈ L ↔ p v := by
  obtain ⟨D, h1, h2, h3, h4, hT⟩ := h
  obtain ⟨es, rfl, hd, _⟩ := h1.entries lawK
  have hk : ∀ q, q ∈ es → ∃ v, p v ∧ q.1 = keyI v := fun q hq => (h3 q.1).1 (List.any_eq_true.2 ⟨q, hq, WideAt.sameKey_self (by
    obtain ⟨es', he, hd', hk'⟩ := h1.entries lawK
    injection he with he
    subst he
    exact hk' q hq)⟩)
  classical
  let g : (Lit × DataW Unit) → Int := fun q => if h : ∃ v, p v ∧ q.1 = keyI v then h.choose else 0
  have hg : ∀ q, q ∈ es → p (g q) ∧ q.1 = keyI (g q) := fun q hq => by
    have h := hk q hq
    show p (if h : ∃ v, p v ∧ q.1 = keyI v then h.choose else 0) ∧ q.1 = keyI (if h : ∃ v, p v ∧ q.1 = keyI v then h.choose else 0)
    rw [dif_pos h]
    exact h.choose_spec
  refine ⟨es.map g, ?_, by rw [List.length_map]; exact h2, fun v => ?_⟩
  · rw [List.nodup_iff_pairwise_ne, List.pairwise_map]
    refine hd.imp_of_mem (fun {a b} ha hb hne he => hne ?_)
    rw [(hg a ha).2, (hg b hb).2, he]
  · rw [List.mem_map]
    constructor
    · rintro ⟨q, hq, rfl⟩; exact (hg q hq).1
    · intro hv
      obtain ⟨q, hq, hs⟩ := List.any_eq_true.1 ((h3 (keyI v)).2 ⟨v, hv, rfl⟩)
      refine ⟨q, hq, keyI_inj (h4 _ (hg q hq).1) (h4 v hv) ?_⟩
      rw [← (hg q hq).2]; exact WideAt.sameKey_eq hs
theorem KSet.len {w : World} {b n : Nat} {p : Int → Prop} (h : KSet w b n p) {L : List Int} (hL : L.Nodup) (hm : ∀ v, v ∈ L ↔ p v) : n = L.length := by
  obtain ⟨M, h1, h2, h3⟩ := h.count
  have a := len_le h1 (m := L) (fun x hx => (hm x).2 ((h3 x).1 hx))
  have c := len_le hL (m := M) (fun x hx => (h3 x).2 ((hm x).1 hx))
  omega
/-- a new map -/
theorem kset_made (w : World) : KSet (w.alloc (.map #[] 0)) w.heap.size 0 (fun _ => False) :=
  ⟨.map [], World.ownsMap_made _ _ _ _, rfl, fun kl => ⟨fun h => by simp [Maps.has] at h, fun ⟨_, h, _⟩ => h.elim⟩, fun _ h => h.elim, fun kl z h => by simp [Maps.has] at h⟩
/-- m[v] = true -/
theorem KSet.put {w : World} {b n : Nat} {p : Int → Prop} (h : KSet w b n p) {v : Int} (hv : KOk v) (hn : n ≤ 1000000) :
    ∃ w' n', (Instr.mapUpdate 130 (.map (some b)) (.int .i64 v) (.bool true)).run Try.prog w = .ok () w' ∧ KSet w' b n' (fun x => p x ∨ x = v) ∧ n' ≤ n + 1 ∧ w.grownBy w' (some b) := by
  obtain ⟨D, h1, h2, h3, h4, hT⟩ := h
  obtain ⟨w', hr, ho, hg⟩ := h1.update lawK undS (by unfold maxLen; omega) (keyI_of hv) (plainElem_bool undB true)
  have hk : WideAt.IsKeyLit (keyI v) := lawK.key (keyI_of hv)
  have ht : Maps.Tidy D := by obtain ⟨es, rfl, hd, _⟩ := h1.entries lawK; exact ⟨es, rfl, hd⟩
  refine ⟨w', Maps.size (D.put (keyI v) (.lit (.bool true))), hr, ⟨_, owns_size ho, rfl, fun kl => ?_, fun x hx => ?_, fun kl z hz => ?_⟩, ?_, hg⟩
  · by_cases e : kl = keyI v
    · subst e
      rw [Maps.has_put_same ht.isMap hk]
      exact ⟨fun _ => ⟨v, .inr rfl, rfl⟩, fun _ => rfl⟩
    · rw [Maps.has_put_other e, h3]
      constructor
      · rintro ⟨x, hx, rfl⟩; exact ⟨x, .inl hx, rfl⟩
      · rintro ⟨x, hx | rfl, rfl⟩
        · exact ⟨x, hx, rfl⟩
        · exact absurd rfl e
  · rcases hx with hx | rfl
    · exact h4 x hx
    · exact hv
  · by_cases e : kl = keyI v
    · subst e; exact Maps.atKey_put_same ht.isMap hk _ _
    · rw [Maps.has_put_other e] at hz
      rw [Maps.atKey_put_other e]
      exact hT kl z hz
  · rw [Maps.size_put ht]
    split <;> omega
/-- the store, for the walk -/
theorem wpList_put_set {P : Program} (hP : P = Try.prog) (w : World) {ops : Array Oper} {rest : List Oper} {o : Oper} {a : Act} {Q : Exit → Act → World → Prop}
    (hg : o.guard = none) (m x u : Operand) (hop : o.op = Op.mapUpdate 130 m x u) {b n : Nat} {p : Int → Prop} {v : Int}
    (hm : a.eval m = .map (some b)) (hx : a.eval x = .int .i64 v) (hu : a.eval u = .bool true) (h : KSet w b n p) (hv : KOk v) (hn : n ≤ 1000000)
    (hK : ∀ w' n', KSet w' b n' (fun x => p x ∨ x = v) → n' ≤ n + 1 → w.grownBy w' (some b) → wpList P ops Q rest (a.put o.dst undef) w') :
    wpList P ops Q (o :: rest) a w := by
  subst hP
  refine wpList_plain hg fun K' hK' => ?_
  obtain ⟨w', n', hrun, r1, r2, r3⟩ := h.put hv hn
  unfold Oper.wp
  simp [execOp, hop, hm, hx, hu, hrun, Result.andThen]
  exact hK' _ _ (hK w' n' r1 r2 r3)
theorem wpList_ins_set {P : Program} (hP : P = Try.prog) (w : World) {ops : Array Oper} {rest : List Oper} {o : Oper} {a : Act} {Q : Exit → Act → World → Prop}
    (hg : o.guard = none) (m x u : Operand) (hop : o.op = Op.insert 130 m x u) {b n : Nat} {p : Int → Prop} {v : Int}
    (hm : a.eval m = .map (some b)) (hx : a.eval x = .int .i64 v) (hu : a.eval u = .bool true) (h : KSet w b n p) (hv : KOk v) (hn : n ≤ 1000000)
    (hK : ∀ w' n', KSet w' b n' (fun x => p x ∨ x = v) → n' ≤ n + 1 → w.grownBy w' (some b) → wpList P ops Q rest (a.put o.dst undef) w') :
    wpList P ops Q (o :: rest) a w := by
  subst hP
  refine wpList_plain hg fun K' hK' => ?_
  obtain ⟨w', n', hrun, r1, r2, r3⟩ := h.put hv hn
  unfold Oper.wp
  simp [execOp, hop, hm, hx, hu, hrun, Result.andThen]
  exact hK' _ _ (hK w' n' r1 r2 r3)
/-- a walk over a map under way: p: its matches; q: those still to come -/
def KIt (w : World) (b r : Nat) (p q : Int → Prop) (cnt : Nat) : Prop :=
  ∃ (D : DataW Unit) (left : Lit → Bool), w.ranges Try.prog 3 (plainElem Try.prog 4) b r (Maps.size D) D left cnt ∧ (∀ kl, Maps.has D kl = true ↔ ∃ v, p v ∧ kl = keyI v) ∧ (∀ v, p v → KOk v) ∧
    (∀ kl, left kl = true ↔ ∃ v, q v ∧ kl = keyI v) ∧ (∀ v, q v → p v) ∧ ∀ kl z, Maps.has D kl = true → D.atKey kl z = .lit (.bool true)
theorem KIt.kept {w w' : World} {b r cnt : Nat} {p q : Int → Prop} (h : KIt w b r p q cnt) {row : Option Nat} (hg : w.grownBy w' row) (h1 : some b ≠ row) (h2 : some r ≠ row) : KIt w' b r p q cnt := by
  obtain ⟨D, left, hr, rest⟩ := h
  exact ⟨D, left, hr.kept hg h1 h2, rest⟩
theorem KIt.keep {w w' : World} {b r cnt : Nat} {p q : Int → Prop} (h : KIt w b r p q cnt) (hb : Below w.heap.size w w') : KIt w' b r p q cnt :=
  h.kept (row := none) ⟨hb.os, hb.tape, hb.output, hb.size, fun k hk _ => hb.block k hk⟩ (by simp) (by simp)
theorem KIt.left_eq {w : World} {b r cnt : Nat} {p q : Int → Prop} (h : KIt w b r p q cnt) : w.rangeLeft b r = cnt := by
  obtain ⟨D, left, hr, rest⟩ := h; exact hr.left_eq
theorem KIt.lt {w : World} {b r cnt : Nat} {p q : Int → Prop} (h : KIt w b r p q cnt) : r < w.heap.size ∧ b < w.heap.size ∧ r ≠ b := by
  obtain ⟨D, left, hr, rest⟩ := h; exact ⟨hr.lt, hr.owns.lt, hr.ne⟩
theorem KIt.set {w : World} {b r cnt : Nat} {p q : Int → Prop} (h : KIt w b r p q cnt) : ∃ n, KSet w b n p := by
  obtain ⟨D, left, hr, h3, h4, _, _, hT⟩ := h
  exact ⟨_, D, owns_size hr.owns, rfl, h3, h4, hT⟩
theorem KIt.vok {w : World} {b r cnt : Nat} {p q : Int → Prop} (h : KIt w b r p q cnt) {v : Int} (hv : p v) : KOk v := by
  obtain ⟨D, left, hr, h3, h4, _⟩ := h; exact h4 v hv
/-- range m -/
theorem wpList_range_set {P : Program} (hP : P = Try.prog) (w : World) {ops : Array Oper} {rest : List Oper} {o : Oper} {a : Act} {Q : Exit → Act → World → Prop} (hg : o.guard = none) (m : Operand) (hop : o.op = Op.range 130 m) {b n : Nat} {p : Int → Prop}
    (hm : a.eval m = .map (some b)) (h : KSet w b n p)
    (hK : ∀ w', KIt w' b w.heap.size p p n → w.grownBy w' none → w'.heap.size = w.heap.size + 1 → wpList P ops Q rest (a.put o.dst (.pointer (some ⟨w.heap.size, 0, none⟩))) w') :
    wpList P ops Q (o :: rest) a w := by
  subst hP
  obtain ⟨D, h1, h2, h3, h4, hT⟩ := h
  exact wpList_range_own w hg m _ hop _ _ lawK undS _ b _ D hm h1 (fun w' hr hgr hs => hK w' ⟨D, _, h2 ▸ hr, h3, h4, h3, fun _ h => h, hT⟩ hgr hs)
theorem key_inv {key : Value} {kl : Lit} (h : keyOf Try.prog 3 key = some kl) {v : Int} (hv : KOk v) (e : kl = keyI v) : key = .int .i64 v :=
  lawK.inj h (e ▸ keyI_of hv)
theorem int_of_key {key : Value} {kl : Lit} (h : keyOf Try.prog 3 key = some kl) : ∃ x : Int, key = .int .i64 x := by
  have h1 : mapKey Try.prog 3 key = some kl := by simpa [keyOf, undI] using h
  cases key <;> simp [mapKey] at h1
  obtain ⟨⟨rfl, _⟩, _⟩ := h1
  exact ⟨_, rfl⟩
theorem bool_of_elem {v : Value} {y : DataW Unit × List MemPlace} (h : plainElem Try.prog 4 v = some y) : ∃ c : Bool, v = .bool c := by
  unfold plainElem at h
  rw [undB] at h
  cases v <;> simp at h
  exact ⟨_, rfl⟩
/-- the step -/
theorem wpList_next_set {P : Program} (hP : P = Try.prog) (w : World) {ops : Array Oper} {rest : List Oper} {o : Oper} {a : Act} {Q : Exit → Act → World → Prop} (hg : o.guard = none) (it : Operand) (hop : o.op = Op.next it false) {b r cnt : Nat} {p q : Int → Prop}
    (hit : a.eval it = .pointer (some ⟨r, 0, none⟩)) (h : KIt w b r p q cnt)
    (hDone : (∀ v, ¬ q v) → wpList P ops Q rest (a.put o.dst (.tuple #[.bool false])) w)
    (hMore : ∀ (v : Int) (c : Value) (w' : World) (cnt' : Nat), q v → KOk v → KIt w' b r p (fun x => q x ∧ x ≠ v) cnt' → cnt' < cnt → w.grownBy w' (some r) → w'.heap.size = w.heap.size →
      (Instr.entry (.pointer (some ⟨r, 0, none⟩))).run P w' = .ok (.tuple #[.int .i64 v, c]) w' → wpList P ops Q rest (a.put o.dst (.tuple #[.bool true, .int .i64 v, c])) w') :
    wpList P ops Q (o :: rest) a w := by
  subst hP
  obtain ⟨D, left, hr, h3, h4, h5, h6, hT⟩ := h
  refine wpList_next_ranges w hg it hop _ lawK _ (Value.int .i64) Value.bool (fun key kl hk => int_of_key hk) (fun v y hy => bool_of_elem hy) b r _ D left cnt hit hr
    (fun _ hl => hDone (fun v hv => by have := (h5 (keyI v)).2 ⟨v, hv, rfl⟩; rw [hl] at this; cases this)) ?_
  intro x c kl y w' cnt' hkey hlk hv hat hrg hlt hgr hsz hen
  obtain ⟨v, hq, hkl⟩ := (h5 kl).1 hlk
  have hvk := h4 v (h6 v hq)
  have hx : Value.int .i64 x = .int .i64 v := key_inv hkey hvk hkl
  rw [hx] at hen ⊢
  refine hMore v (.bool c) w' cnt' hq hvk ⟨D, _, hrg, h3, h4, fun k => ?_, fun z hz => h6 z hz.1, hT⟩ hlt hgr hsz hen
  subst hkl
  constructor
  · intro hz
    rw [Bool.and_eq_true] at hz
    obtain ⟨z, hz1, rfl⟩ := (h5 k).1 hz.1
    refine ⟨z, ⟨hz1, fun e => ?_⟩, rfl⟩
    subst e
    have := hz.2
    rw [WideAt.sameKey_self (lawK.key (keyI_of hvk))] at this
    cases this
  · rintro ⟨z, ⟨hz1, hne⟩, rfl⟩
    rw [Bool.and_eq_true]
    refine ⟨(h5 _).2 ⟨z, hz1, rfl⟩, ?_⟩
    rw [Maps.sameKey_ne (fun e => hne (keyI_inj (h4 z (h6 z hz1)) hvk e))]
    rfl
/-- len(m) -/
theorem KSet.len_run {w : World} {b n : Nat} {p : Int → Prop} (h : KSet w b n p) : ∃ es clock, w.heap[b]? = some (.map es clock) ∧ es.size = n := by
  obtain ⟨D, ⟨es, clock, hb, F, hs, rfl⟩, h2, _⟩ := h
  exact ⟨es, clock, hb, by rw [← h2]; simp [Maps.size, length_sorted]⟩
theorem wpList_len_set {P : Program} (hP : P = Try.prog) (w : World) {ops : Array Oper} {rest : List Oper} {o : Oper} {a : Act} {Q : Exit → Act → World → Prop} (hg : o.guard = none) (m : Operand)
    (hop : o.op = Op.call { callee := Callee.builtin Builtin.len, args := #[m], argTypes := #[130] }) {b n : Nat} {p : Int → Prop} (hm : a.eval m = .map (some b)) (h : KSet w b n p)
    (hK : wpList P ops Q rest (a.put o.dst (.int .i64 n)) w) : wpList P ops Q (o :: rest) a w := by
  subst hP
  obtain ⟨D, h1, h2, _, _, _⟩ := h
  subst h2
  exact wpList_len_own w hg m _ hop _ _ undS _ b _ D hm h1 hK
/-- m[v] -/
theorem KSet.look {w : World} {b n : Nat} {p : Int → Prop} (h : KSet w b n p) {v : Int} (hv : KOk v) (B : Bool) (hB : B = true ↔ p v) :
    (Instr.lookup 130 (.map (some b)) (.int .i64 v) false).run Try.prog w = .ok (.bool B) w := by
  obtain ⟨D, h1, h2, h3, h4, hT⟩ := h
  obtain ⟨y, ps, hrun, hy⟩ := h1.lookup lawK undS (z := .bool false) (by kernel_rfl) (plainElem_bool undB false) (keyI_of hv)
  have e : D.atKey (keyI v) (.lit (.bool false)) = .lit (.bool B) := by
    by_cases hp : p v
    · rw [hT _ _ ((h3 _).2 ⟨v, hp, rfl⟩), hB.2 hp]
    · have hn : Maps.has D (keyI v) = false := by
        cases hh : Maps.has D (keyI v)
        · rfl
        · obtain ⟨x, hx, e⟩ := (h3 _).1 hh
          exact absurd (keyI_inj hv (h4 x hx) e ▸ hx) hp
      rw [Maps.atKey_of_not_has hn]
      cases B
      · rfl
      · exact absurd (hB.1 rfl) hp
  rw [e] at hy
  obtain ⟨c, rfl⟩ := bool_of_elem hy
  have hc : c = B := by
    have h0 := plainElem_bool (H := Unit) undB c
    have h1 := congrArg Prod.fst (Option.some.inj (h0.symm.trans hy))
    have h2 : DataW.lit (H := Unit) (.bool c) = .lit (.bool B) := h1
    exact Lit.bool.inj (DataW.lit.inj h2)
  rw [hrun, hc]
#print axioms KSet.look
#print axioms keyI_of
#print axioms wpList_next_set
#print axioms wpList_put_set
#print axioms KSet.len
end Go.Proofs.Ythndplkjhbmfmaa
