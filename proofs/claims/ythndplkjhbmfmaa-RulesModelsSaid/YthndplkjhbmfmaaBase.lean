/- Small words on sets as numbers and on slices in memory, for the walks of this seat. -/
import Derived.WalkKit
import Derived.Lib.Hide
import Derived.OpenShut
import Derived.ProofKit
namespace Go.Proofs.Ythndplkjhbmfmaa
open Go.RowKit

/-! ### sets as natural numbers -/
/-- what is in p and not in s -/
def ndiff (p s : Nat) : Nat := p ^^^ (p &&& s)
theorem testBit_ndiff (p s i : Nat) : (ndiff p s).testBit i = (p.testBit i && !s.testBit i) := by
  unfold ndiff; rw [Nat.testBit_xor, Nat.testBit_and]; cases p.testBit i <;> cases s.testBit i <;> rfl
theorem ndiff_eq_zero {p s : Nat} : ndiff p s = 0 ↔ ∀ i, p.testBit i = true → s.testBit i = true := by
  constructor
  · intro h i hi
    have := testBit_ndiff p s i
    rw [h, Nat.zero_testBit, hi] at this
    cases hs : s.testBit i <;> simp_all
  · intro h
    apply Nat.eq_of_testBit_eq
    intro i
    rw [testBit_ndiff, Nat.zero_testBit]
    cases hp : p.testBit i
    · rfl
    · simp [h i hp]
theorem ndiff_le (p s : Nat) : ndiff p s ≤ p := by
  have : ndiff p s = ndiff p s &&& p := by
    apply Nat.eq_of_testBit_eq; intro i; rw [Nat.testBit_and, testBit_ndiff]; cases p.testBit i <;> cases s.testBit i <;> rfl
  rw [this]; exact Nat.and_le_right

theorem wrap_nat (a : Nat) (h : a < 2 ^ 63) : IntKind.i64.wrap (a : Int) = (a : Int) := IntWalk.i64_in _ ⟨by omega, by omega⟩
theorem or_lt {a b k : Nat} (ha : a < 2 ^ k) (hb : b < 2 ^ k) : a ||| b < 2 ^ k := Nat.or_lt_two_pow ha hb

theorem bits_or_nat (a b : Nat) (ha : a < 2 ^ 63) (hb : b < 2 ^ 63) : bits .or .i64 (a : Int) (b : Int) = ((a ||| b : Nat) : Int) :=
  (bits_nat .i64 63 (by decide) (fun n h h' => IntWalk.i64_in n ⟨by omega, by omega⟩) a b ha hb).2
theorem bits_and_nat (a b : Nat) (ha : a < 2 ^ 63) (hb : b < 2 ^ 63) : bits .and .i64 (a : Int) (b : Int) = ((a &&& b : Nat) : Int) :=
  (bits_nat .i64 63 (by decide) (fun n h h' => IntWalk.i64_in n ⟨by omega, by omega⟩) a b ha hb).1
theorem bits_andNot_nat (a b : Nat) (ha : a < 2 ^ 63) (hb : b < 2 ^ 63) : bits .andNot .i64 (a : Int) (b : Int) = ((ndiff a b : Nat) : Int) := by
  have e : (BitVec.ofInt 64 (a : Int) &&& ~~~BitVec.ofInt 64 (b : Int)).toNat = ndiff a b := by
    apply Nat.eq_of_testBit_eq
    intro i
    rw [testBit_ndiff]
    simp only [BitVec.toNat_and, BitVec.toNat_not, BitVec.ofInt_natCast, BitVec.toNat_ofNat]
    rw [Nat.testBit_and]
    have e1 : a % 2 ^ 64 = a := Nat.mod_eq_of_lt (by omega)
    have e2 : b % 2 ^ 64 = b := Nat.mod_eq_of_lt (by omega)
    rw [e1, e2]
    by_cases hi : i < 64
    · have := Nat.testBit_two_pow_sub_succ (x := b) (n := 64) (by omega) i
      rw [show 2 ^ 64 - 1 - b = 2 ^ 64 - (b + 1) from by omega, this]
      simp [hi]
    · have ha' : a.testBit i = false := Nat.testBit_lt_two_pow (Nat.lt_of_lt_of_le ha (Nat.pow_le_pow_right (by decide) (by omega)))
      simp [ha']
  show IntKind.i64.wrap ((BitVec.ofInt 64 (a : Int) &&& ~~~BitVec.ofInt 64 (b : Int)).toNat : Int) = _
  rw [e]
  exact wrap_nat _ (by have := ndiff_le a b; omega)

/-! ### slices in memory -/
/-- slice value v has n elements; its cells are xs -/
def Rd (w : World) (v : Value) (s n : Nat) (xs : List Value) : Prop :=
  xs.length = n * s ∧ n ≤ maxLen ∧ ∃ a b off cap, v = .slice a n cap ∧ ((0 < n → a = some ⟨b, off, none⟩) ∧ n ≤ cap) ∧ ∀ j (h : j < xs.length), w.cell? ⟨b, off + j, none⟩ = some xs[j]

theorem run_ix {P : Program} {t E : TypeId} {a : Option Addr} {len cap b off s : Nat} (ht : P.underlying t = some (.slice E))
    (hs : ∀ w, (sizeOf E).run P w = .ok s w) (H : 0 < len → a = some ⟨b, off, none⟩) (i : Nat) (w : World) (hi : i < len) :
    (Instr.indexAt t (.slice a len cap) (.int .i64 i)).run P w = .ok (.pointer (some ⟨b, off + i * s, none⟩)) w := by
  have he : P.elem t = E := by simp [Program.elem, ht]
  rw [H (by omega), run_indexAt_slice w t _ len cap _ _ (by rw [he]; exact ht), if_pos (by omega), he, hs]
  simp only [Result.andThen, Int.toNat_natCast, Addr.add]
  split
  · rename_i h; simp [h]
  · rfl

theorem cell_lt {w : World} {a : Addr} {v : Value} (h : w.cell? a = some v) : a.block < w.heap.size := by
  unfold World.cell? at h
  by_cases hb : a.block < w.heap.size
  · exact hb
  · rw [Array.getElem?_eq_none (by omega)] at h; simp at h

theorem Below.keep {w w' : World} (hb : Below w.heap.size w w') {a : Addr} {v : Value} (h : w.cell? a = some v) : w'.cell? a = some v :=
  (hb.cell (cell_lt h)).trans h

theorem Rd.keep {w w' : World} {v : Value} {s n : Nat} {xs : List Value} (h : Rd w v s n xs) (hb : Below w.heap.size w w') : Rd w' v s n xs := by
  obtain ⟨h1, h2, a, b, off, cap, h3, h4, h5⟩ := h
  exact ⟨h1, h2, a, b, off, cap, h3, h4, fun j hj => Below.keep hb (h5 j hj)⟩

/-- a slice of ints -/
def Ints (w : World) (v : Value) (l : List Int) : Prop := Rd w v 1 l.length (l.map (Value.int .i64))
/-- the cells of a list of pairs -/
def pairCells (l : List (Int × Int)) : List Value := l.flatMap fun d => [.int .i64 d.1, .int .i64 d.2]
/-- a slice of Deps -/
def Deps (w : World) (v : Value) (l : List (Int × Int)) : Prop := Rd w v 2 l.length (pairCells l)

theorem length_pairCells (l : List (Int × Int)) : (pairCells l).length = l.length * 2 := by
  induction l with
  | nil => rfl
  | cons d l ih => simp only [pairCells, List.flatMap_cons, List.length_append, List.length_cons, List.length_nil] at *; omega
theorem pairCells_at : ∀ (l : List (Int × Int)) (i : Nat) (h : i < l.length), (pairCells l)[i * 2]? = some (.int .i64 l[i].1) ∧ (pairCells l)[i * 2 + 1]? = some (.int .i64 l[i].2)
  | d :: l, 0, _ => by simp [pairCells]
  | d :: l, i + 1, h => by
    have := pairCells_at l i (by simpa using h)
    have e : pairCells (d :: l) = .int .i64 d.1 :: .int .i64 d.2 :: pairCells l := rfl
    rw [e, show (i + 1) * 2 = (i * 2 + 1) + 1 from by omega, List.getElem?_cons_succ, List.getElem?_cons_succ, List.getElem?_cons_succ, List.getElem?_cons_succ]
    simpa using this

theorem Ints.keep {w w' : World} {v : Value} {l : List Int} (h : Ints w v l) (hb : Below w.heap.size w w') : Ints w' v l := Rd.keep h hb
theorem Deps.keep {w w' : World} {v : Value} {l : List (Int × Int)} (h : Deps w v l) (hb : Below w.heap.size w w') : Deps w' v l := Rd.keep h hb

theorem Rd.cap {w : World} {a : Option Addr} {n c s m : Nat} {xs : List Value} (h : Rd w (.slice a n c) s m xs) : m ≤ c ∧ n = m := by
  obtain ⟨_, _, a', b, off, cap, h3, h4, _⟩ := h
  injection h3 with e1 e2 e3
  subst e3
  exact ⟨h4.2, e2⟩
theorem Ints.cap {w : World} {a : Option Addr} {n c : Nat} {l : List Int} (h : Ints w (.slice a n c) l) : l.length ≤ c := (Rd.cap h).1
theorem Deps.cap {w : World} {a : Option Addr} {n c : Nat} {l : List (Int × Int)} (h : Deps w (.slice a n c) l) : l.length ≤ c := (Rd.cap h).1
theorem run_to {P : Program} {t E : TypeId} {a : Option Addr} {len cap s : Nat} (ht : P.underlying t = some (.slice E))
    (hs : ∀ w, (sizeOf E).run P w = .ok s w) (hc : len ≤ cap) (i : Nat) (w : World) (hi : i ≤ len) :
    (Instr.slice t (.slice a len cap) none (some (.int .i64 i)) none).run P w = .ok (.slice a i cap) w := by
  have he : P.elem t = E := by simp [Program.elem, ht]
  rw [run_slice_h w t a len cap (by rw [he]; exact ht) .i64 i (by omega) (by omega), he, hs]
  simp only [Result.andThen, Int.toNat_natCast, sliced, Nat.sub_zero, Nat.zero_mul]
  have : a.map (fun x => x.add 0) = a := by cases a <;> simp [Addr.add_zero']
  rw [this]
  simp
/-- what a walk takes of a slice of ints -/
theorem Ints.get {w : World} {v : Value} {l : List Int} (h : Ints w v l) : ∃ a b off cap, v = .slice a l.length cap ∧ l.length ≤ 9223372036854775807 ∧ (0 < l.length → a = some ⟨b, off, none⟩) ∧
    ∀ i (h : i < l.length), w.cell? ⟨b, off + i, none⟩ = some (.int .i64 l[i]) := by
  obtain ⟨h1, h2, a, b, off, cap, h3, h4, h5⟩ := h
  exact ⟨a, b, off, cap, h3, h2, h4.1, fun i hi => by have := h5 i (by simpa using hi); rw [List.getElem_map] at this; exact this⟩
theorem Deps.get {w : World} {v : Value} {l : List (Int × Int)} (h : Deps w v l) : ∃ a b off cap, v = .slice a l.length cap ∧ l.length ≤ 9223372036854775807 ∧ (0 < l.length → a = some ⟨b, off, none⟩) ∧
    ∀ i (h : i < l.length), w.cell? ⟨b, off + i * 2, none⟩ = some (.int .i64 l[i].1) ∧ w.cell? ⟨b, off + i * 2 + 1, none⟩ = some (.int .i64 l[i].2) := by
  obtain ⟨h1, h2, a, b, off, cap, h3, h4, h5⟩ := h
  refine ⟨a, b, off, cap, h3, h2, h4.1, fun i hi => ?_⟩
  have hp := pairCells_at l i hi
  have hl := length_pairCells l
  have e1 := h5 (i * 2) (by omega)
  have e2 := h5 (i * 2 + 1) (by omega)
  rw [List.getElem?_eq_getElem (by omega)] at hp
  rw [List.getElem?_eq_getElem (by omega)] at hp
  rw [Option.some.inj hp.1] at e1
  rw [Option.some.inj hp.2] at e2
  exact ⟨e1, by rw [Nat.add_assoc]; exact e2⟩

/-! ### new blocks, append -/
theorem cell_new (w : World) (cs : Array Value) (e : TypeId) (j : Nat) : (w.alloc (.cells cs e)).cell? ⟨w.heap.size, j, none⟩ = cs[j]? := by
  show (match (w.heap.push (.cells cs e))[w.heap.size]? with | some (.cells c _ _) => if (none : Option Nat).isSome then none else c[j]? | _ => none) = _
  rw [Array.getElem?_push, if_pos rfl]; rfl
theorem rd_new (w : World) (cs : Array Value) (e : TypeId) (s n : Nat) (h : cs.size = n * s) (hn : n ≤ maxLen) :
    Rd (w.alloc (.cells cs e)) (.slice (some ⟨w.heap.size, 0, none⟩) n n) s n cs.toList :=
  ⟨by simpa using h, hn, _, w.heap.size, 0, n, rfl, ⟨fun _ => rfl, Nat.le_refl _⟩, fun j hj => by
    rw [Nat.zero_add, cell_new]; simp⟩
theorem ints_one (w : World) (s : Int) (e : TypeId) : Ints (w.alloc (.cells #[.int .i64 s] e)) (.slice (some ⟨w.heap.size, 0, none⟩) 1 1) [s] :=
  rd_new w #[.int .i64 s] e 1 1 rfl (by unfold maxLen; omega)
theorem below_alloc (w : World) (o : Obj) : Below w.heap.size w (w.alloc o) := (Below.refl _ _).alloc (Nat.le_refl _) _
theorem Below.tr {a b c : World} (h : Below a.heap.size a b) (k : Below b.heap.size b c) : Below a.heap.size a c := h.trans (k.mono h.size)
theorem cell_keep1 {w : World} {cs : Array Value} {e : TypeId} {w' : World} {v : Value} (hb : Below (w.alloc (.cells cs e)).heap.size (w.alloc (.cells cs e)) w') (h : cs[0]? = some v) : w'.cell? ⟨w.heap.size, 0, none⟩ = some v :=
  Below.keep hb (by rw [cell_new]; exact h)

/-- the row of the table of an element type, and the slice type over it -/
def Elem (P : Program) (t e : TypeId) (size bytes : Nat) : Prop :=
  P.underlying t = some (.slice e) ∧ ∃ i z, P.info? e = some i ∧ i.zero = some z ∧ i.size = size ∧ i.bytes = bytes ∧ z.cells.size = size ∧ 0 < size ∧ bytes ≤ 1000
theorem elem_of {P : Program} {t e : TypeId} {z : Value} {size bytes : Nat} (ht : P.underlying t = some (.slice e)) (h : (P.info? e).map (fun i => (i.zero, i.size, i.bytes)) = some (some z, size, bytes))
    (hz : z.cells.size = size) (hs : 0 < size) (hb : bytes ≤ 1000) : Elem P t e size bytes := by
  obtain ⟨i, h1, h2, h3, h4⟩ := info_parts h
  exact ⟨ht, i, z, h1, h2, h3, h4, hz, hs, hb⟩

theorem grown_below {w w' : World} {base : Nat} {e : TypeId} {size : Nat} {v : Value} {n : Nat} {xs : List Value} (h : w.ownsRow base e size v n xs) (hg : w.grownBy w' v.ownBlock) (hb : base ≤ w.heap.size) : Below base w w' :=
  ⟨hg.os, hg.tape, hg.output, hg.size, fun k hk => hg.block k (by omega) (fun e => by have := (h.lt k e.symm).1; omega)⟩

theorem owns_keep {w w' : World} {base : Nat} {e : TypeId} {size : Nat} {v : Value} {n : Nat} {xs : List Value} (h : w.ownsRow base e size v n xs) (hb : Below w.heap.size w w') : w'.ownsRow base e size v n xs :=
  h.kept (row := none) ⟨hb.os, hb.tape, hb.output, hb.size, fun k hk _ => hb.block k hk⟩ (by cases v.ownBlock <;> simp)
/-- append of m elements that lie in a block of their own -/
theorem append_own {P : Program} {ops : Array Oper} {rest : List Oper} {o : Oper} {a : Act} {Q : Exit → Act → World → Prop} {w : World} (hgd : o.guard = none) (s x : Operand) (t : TypeId)
    (ho : o.op = .call { callee := .builtin .append, args := #[s, x], argTypes := #[t, t] }) {e : TypeId} {size bytes : Nat} (he : Elem P t e size bytes)
    {base n : Nat} {v : Value} {xs : List Value} (hs : a.eval s = v) (hown : w.ownsRow base e size v n xs)
    {g m c : Nat} (news : List Value) (hx : a.eval x = .slice (some ⟨g, 0, none⟩) m c) (hl : news.length = m * size) (hnews : ∀ j u, news[j]? = some u → w.cell? ⟨g, j, none⟩ = some u) (h1 : ∀ u ∈ news, u.oneCell' = true)
    (hn : n + m ≤ 100000000000) (hbase : base ≤ w.heap.size)
    (h : ∀ v' w', w'.ownsRow base e size v' (n + m) (xs ++ news) → Below base w w' → w.grownBy w' v.ownBlock → wpList P ops Q rest (a.put o.dst v') w') : wpList P ops Q (o :: rest) a w := by
  obtain ⟨ht, i, z, hi, hz, h3, h4, hzs, hsz, hby⟩ := he
  have hbytes : (n + m) * bytes ≤ 100000000000 * 1000 := Nat.mul_le_mul hn hby
  exact wpList_append_own w hgd s x t ho base e i z size bytes ht hi hz h3 h4 hzs hsz v n xs hs hown ⟨g, 0, none⟩ m c news hx hl (fun j u hj => by rw [Addr.add_lit, Nat.zero_add]; exact hnews j u hj) h1
    (by unfold maxLen; omega) (by omega) hbase (fun v' w' h5 h6 _ => h v' w' h5 (grown_below hown h6 hbase) h6)
/-- .. that lie anywhere -/
theorem append_own_at {P : Program} {ops : Array Oper} {rest : List Oper} {o : Oper} {a : Act} {Q : Exit → Act → World → Prop} {w : World} (hgd : o.guard = none) (s x : Operand) (t : TypeId)
    (ho : o.op = .call { callee := .builtin .append, args := #[s, x], argTypes := #[t, t] }) {e : TypeId} {size bytes : Nat} (he : Elem P t e size bytes)
    {base n : Nat} {v : Value} {xs : List Value} (hs : a.eval s = v) (hown : w.ownsRow base e size v n xs)
    {ad : Addr} {m c : Nat} (news : List Value) (hx : a.eval x = .slice (some ad) m c) (hl : news.length = m * size) (hnews : ∀ j u, news[j]? = some u → w.cell? (ad.add j) = some u) (h1 : ∀ u ∈ news, u.oneCell' = true)
    (hn : n + m ≤ 100000000000) (hbase : base ≤ w.heap.size)
    (h : ∀ v' w', w'.ownsRow base e size v' (n + m) (xs ++ news) → Below base w w' → w.grownBy w' v.ownBlock → wpList P ops Q rest (a.put o.dst v') w') : wpList P ops Q (o :: rest) a w := by
  obtain ⟨ht, i, z, hi, hz, h3, h4, hzs, hsz, hby⟩ := he
  have hbytes : (n + m) * bytes ≤ 100000000000 * 1000 := Nat.mul_le_mul hn hby
  exact wpList_append_own w hgd s x t ho base e i z size bytes ht hi hz h3 h4 hzs hsz v n xs hs hown ad m c news hx hl hnews h1
    (by unfold maxLen; omega) (by omega) hbase (fun v' w' h5 h6 _ => h v' w' h5 (grown_below hown h6 hbase) h6)
/-- .. inside a region that draws -/
theorem step_append_own {P : Program} {ops : Array Oper} {o : Oper} {a : Act} {K : Act → World → Prop} {Q : Exit → Act → World → Prop} {w : World} {E : Prop} (hgd : o.guard = none) (s x : Operand) (t : TypeId)
    (ho : o.op = .call { callee := .builtin .append, args := #[s, x], argTypes := #[t, t] }) {e : TypeId} {size bytes : Nat} (he : Elem P t e size bytes)
    {base n : Nat} {v : Value} {xs : List Value} (hs : a.eval s = v) (hown : w.ownsRow base e size v n xs)
    {g m c : Nat} (news : List Value) (hx : a.eval x = .slice (some ⟨g, 0, none⟩) m c) (hl : news.length = m * size) (hnews : ∀ j u, news[j]? = some u → w.cell? ⟨g, j, none⟩ = some u) (h1 : ∀ u ∈ news, u.oneCell' = true)
    (hn : n + m ≤ 100000000000) (hbase : base ≤ w.heap.size)
    (h : ∀ v' w', w'.ownsRow base e size v' (n + m) (xs ++ news) → Below base w w' → K (a.put o.dst v') w') : if Region.wanted o (yielded ops a.tmps) = true then Oper.wp P o a w K Q else E := by
  have hw : Region.wanted o (yielded ops a.tmps) = true := by simp [Region.wanted, hgd]
  rw [if_pos hw]
  obtain ⟨ht, i, z, hi, hz, h3, h4, hzs, hsz, hby⟩ := he
  have hbytes : (n + m) * bytes ≤ 100000000000 * 1000 := Nat.mul_le_mul hn hby
  exact wp_append_own w s x t ho base e i z size bytes ht hi hz h3 h4 hzs hsz v n xs hs hown ⟨g, 0, none⟩ m c news hx hl (fun j u hj => by rw [Addr.add_lit, Nat.zero_add]; exact hnews j u hj) h1
    (by unfold maxLen; omega) (by omega) hbase (fun v' w' h5 h6 _ => h v' w' h5 (grown_below hown h6 hbase))
/-- what is owned reads as such -/
theorem owns_rd {w : World} {base : Nat} {e : TypeId} {size : Nat} {v : Value} {n : Nat} {xs : List Value} (h : w.ownsRow base e size v n xs) : Rd w v size n xs := by
  obtain ⟨h1, h2⟩ := h
  refine ⟨h1, ?_⟩
  rcases h2 with ⟨rfl, rfl⟩ | ⟨g, cap, cur, rfl, hg, hh, hn, hc, hs, htk⟩
  · have : xs = [] := List.eq_nil_of_length_eq_zero (by simpa using h1)
    subst this
    exact ⟨Nat.zero_le _, none, 0, 0, 0, rfl, ⟨fun h => by omega, by omega⟩, fun j hj => by simp at hj⟩
  · refine ⟨Nat.le_trans hn hc, _, g, 0, cap, rfl, ⟨fun _ => rfl, hn⟩, fun j hj => ?_⟩
    have := World.ownsRow.cellAt (w := w) (base := base) (e := e) (size := size) (g := g) (n := n) (cap := cap) (xs := xs) ⟨h1, .inr ⟨g, cap, cur, rfl, hg, hh, hn, hc, hs, htk⟩⟩ j (by omega)
    rw [Nat.zero_add, this]
    simp

/-- a slice of slices of ints -/
def Rows (w : World) (v : Value) (R : List (List Int)) : Prop := ∃ vs : List Value, vs.length = R.length ∧ Rd w v 1 R.length vs ∧ ∀ i (h : i < R.length) (h' : i < vs.length), Ints w vs[i] R[i]
theorem Rows.keep {w w' : World} {v : Value} {R : List (List Int)} (h : Rows w v R) (hb : Below w.heap.size w w') : Rows w' v R := by
  obtain ⟨vs, h1, h2, h3⟩ := h
  exact ⟨vs, h1, Rd.keep h2 hb, fun i a b => Ints.keep (h3 i a b) hb⟩
theorem Rows.get {w : World} {v : Value} {R : List (List Int)} (h : Rows w v R) : ∃ (a : Option Addr) (b off cap : Nat) (vs : List Value), v = .slice a R.length cap ∧ R.length ≤ 9223372036854775807 ∧ (0 < R.length → a = some ⟨b, off, none⟩) ∧ vs.length = R.length ∧
    (∀ i (h : i < vs.length), w.cell? ⟨b, off + i, none⟩ = some vs[i]) ∧ ∀ i (h : i < R.length) (h' : i < vs.length), Ints w vs[i] R[i] := by
  obtain ⟨vs, h1, ⟨h2, h3, a, b, off, cap, h4, h5, h6⟩, h7⟩ := h
  exact ⟨a, b, off, cap, vs, h4, h3, h5.1, h1, h6, h7⟩

#print axioms owns_rd
#print axioms Deps.get
#print axioms bits_andNot_nat
end Go.Proofs.Ythndplkjhbmfmaa
