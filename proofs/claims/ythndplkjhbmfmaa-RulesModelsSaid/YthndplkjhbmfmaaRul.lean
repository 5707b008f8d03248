/- Rules in the heap: rows of structs whose cells stand in a relation; literals, rules; as arguments of a law. -/
import Derived.Test.YthndplkjhbmfmaaQry
import Derived.Test.YthndplkjhbmfmaaRmt
namespace Go.Proofs.Ythndplkjhbmfmaa
open Go.RowKit
/-- a row of structs of s cells, each in relation R to its cells -/
def RdS (w : World) (v : Value) (s : Nat) {α : Type} (R : α → List Value → Prop) (l : List α) : Prop := ∃ cs : List (List Value), cs.length = l.length ∧ (∀ i (h : i < l.length) (h' : i < cs.length), R l[i] cs[i] ∧ cs[i].length = s) ∧ Rd w v s l.length cs.flatten
theorem RdS.keep {w w' : World} {v : Value} {s : Nat} {α : Type} {R R' : α → List Value → Prop} {l : List α} (h : RdS w v s R l) (hR : ∀ a c, R a c → R' a c) (hb : Below w.heap.size w w') : RdS w' v s R' l := by
  obtain ⟨cs, h1, h2, h3⟩ := h
  exact ⟨cs, h1, fun i a b => ⟨hR _ _ (h2 i a b).1, (h2 i a b).2⟩, Rd.keep h3 hb⟩
theorem flat_at {s : Nat} : ∀ {cs : List (List Value)} (_ : ∀ i (h : i < cs.length), cs[i].length = s) {i j : Nat} (hi : i < cs.length) (_ : j < s), cs.flatten[i * s + j]? = (cs[i])[j]?
  | c :: cs, h, 0, j, _, hj => by
    have h0 : c.length = s := h 0 (by simp)
    rw [List.flatten_cons, Nat.zero_mul, Nat.zero_add, List.getElem?_append_left (by omega)]; rfl
  | c :: cs, h, i + 1, j, hi, hj => by
    have h0 : c.length = s := h 0 (by simp)
    have := flat_at (cs := cs) (fun i hi => h (i + 1) (by simpa using hi)) (i := i) (j := j) (by simpa using hi) hj
    rw [List.flatten_cons, List.getElem?_append_right (by rw [h0, Nat.add_mul]; omega), h0, show (i + 1) * s + j - s = i * s + j by rw [Nat.add_mul]; omega, this]
    rfl
theorem flat_len {s : Nat} : ∀ {cs : List (List Value)} (_ : ∀ i (h : i < cs.length), cs[i].length = s), cs.flatten.length = cs.length * s
  | [], _ => by simp
  | c :: cs, h => by
    have h0 : c.length = s := h 0 (by simp)
    have := flat_len (cs := cs) (fun i hi => h (i + 1) (by simpa using hi))
    rw [List.flatten_cons, List.length_append, this, h0, List.length_cons, Nat.add_mul]; omega
theorem RdS.get {w : World} {v : Value} {s : Nat} {α : Type} {R : α → List Value → Prop} {l : List α} (h : RdS w v s R l) : ∃ (a : Option Addr) (b off cap : Nat), v = .slice a l.length cap ∧ l.length ≤ 9223372036854775807 ∧ (0 < l.length → a = some ⟨b, off, none⟩) ∧ l.length ≤ cap ∧
    ∀ i (hi : i < l.length), ∃ c, R l[i] c ∧ c.length = s ∧ ∀ j x, c[j]? = some x → w.cell? ⟨b, off + i * s + j, none⟩ = some x := by
  obtain ⟨cs, h1, h2, h3, h4, a, b, off, cap, h5, h6, h7⟩ := h
  refine ⟨a, b, off, cap, h5, h4, h6.1, h6.2, fun i hi => ?_⟩
  have hi' : i < cs.length := by omega
  obtain ⟨r1, r2⟩ := h2 i hi hi'
  refine ⟨cs[i], r1, r2, fun j x hx => ?_⟩
  have hj : j < s := by rw [← r2]; exact (List.getElem?_eq_some_iff.1 hx).1
  have hs : ∀ k (hk : k < cs.length), cs[k].length = s := fun k hk => (h2 k (by omega) hk).2
  have hf := flat_at hs hi' hj
  rw [hx] at hf
  obtain ⟨hlt, he⟩ := List.getElem?_eq_some_iff.1 hf
  have := h7 (i * s + j) hlt
  rw [Nat.add_assoc, this, he]
theorem RdS.slice {w : World} {v : Value} {s : Nat} {α : Type} {R : α → List Value → Prop} {l : List α} (h : RdS w v s R l) : ∃ a c, v = .slice a l.length c := by
  obtain ⟨a, b, off, cap, h1, _⟩ := h.get
  exact ⟨a, cap, h1⟩
theorem rdS_nil (w : World) (s : Nat) {α : Type} (R : α → List Value → Prop) : RdS w (.slice none 0 0) s R [] := ⟨[], rfl, fun i h => by simp at h, by simp, Nat.zero_le _, none, 0, 0, 0, rfl, ⟨fun h => by simp at h, by simp⟩, fun j hj => by simp at hj⟩
/-- a literal's cells -/
def LtC (w : World) (b : RLit) (c : List Value) : Prop := ∃ u, c = [.bool b.1, .int .i64 b.2.1, u] ∧ Ints w u b.2.2
def Lits (w : World) (v : Value) (l : List RLit) : Prop := RdS w v 3 (LtC w) l
theorem Lits.keep {w w' : World} {v : Value} {l : List RLit} (h : Lits w v l) (hb : Below w.heap.size w w') : Lits w' v l :=
  RdS.keep h (fun _ _ ⟨u, h1, h2⟩ => ⟨u, h1, h2.keep hb⟩) hb
/-- a rule's cells -/
def RuC (w : World) (r : RRule) (c : List Value) : Prop := ∃ u v, c = [.int .i64 r.1.1, u, v] ∧ Ints w u r.1.2 ∧ Lits w v r.2
def Rules (w : World) (v : Value) (l : List RRule) : Prop := RdS w v 3 (RuC w) l
theorem Rules.keep {w w' : World} {v : Value} {l : List RRule} (h : Rules w v l) (hb : Below w.heap.size w w') : Rules w' v l :=
  RdS.keep h (fun _ _ ⟨u, v, h1, h2, h3⟩ => ⟨u, v, h1, h2.keep hb, h3.keep hb⟩) hb
/-- the relation, the arguments of the head, the body of rule i -/
def rR (l : List RRule) (i : Nat) : RRule := l.getD i ((0, []), [])
def lL (l : List RLit) (i : Nat) : RLit := l.getD i (false, (0, []))
theorem Rules.get {w : World} {v : Value} {l : List RRule} (h : Rules w v l) : ∃ (a : Option Addr) (b off cap : Nat), v = .slice a l.length cap ∧ l.length ≤ 9223372036854775807 ∧ (0 < l.length → a = some ⟨b, off, none⟩) ∧ l.length ≤ cap ∧
    ∀ i, i < l.length → ∃ (ua : Option Addr) (uc : Nat) (va : Option Addr) (vc : Nat), w.cell? ⟨b, off + i * 3, none⟩ = some (.int .i64 (rR l i).1.1) ∧ w.cell? ⟨b, off + i * 3 + 1, none⟩ = some (.slice ua (rR l i).1.2.length uc) ∧ w.cell? ⟨b, off + i * 3 + 2, none⟩ = some (.slice va (rR l i).2.length vc) ∧ Ints w (.slice ua (rR l i).1.2.length uc) (rR l i).1.2 ∧ Lits w (.slice va (rR l i).2.length vc) (rR l i).2 := by
  obtain ⟨a, b, off, cap, h1, h2, h3, h4, h5⟩ := RdS.get h
  refine ⟨a, b, off, cap, h1, h2, h3, h4, fun i hi => ?_⟩
  obtain ⟨c, ⟨u, v, rfl, hu, hv⟩, _, hc⟩ := h5 i hi
  have e : rR l i = l[i] := by unfold rR; rw [List.getD_eq_getElem?_getD, List.getElem?_eq_getElem hi]; rfl
  rw [← e] at hu hv hc
  obtain ⟨ua, uc, rfl⟩ := ints_slice hu
  obtain ⟨va, vc, rfl⟩ := RdS.slice hv
  exact ⟨ua, uc, va, vc, hc 0 _ rfl, hc 1 _ rfl, hc 2 _ rfl, hu, hv⟩
theorem Lits.get {w : World} {v : Value} {l : List RLit} (h : Lits w v l) : ∃ (a : Option Addr) (b off cap : Nat), v = .slice a l.length cap ∧ l.length ≤ 9223372036854775807 ∧ (0 < l.length → a = some ⟨b, off, none⟩) ∧ l.length ≤ cap ∧
    ∀ i, i < l.length → ∃ (ua : Option Addr) (uc : Nat), w.cell? ⟨b, off + i * 3, none⟩ = some (.bool (lL l i).1) ∧ w.cell? ⟨b, off + i * 3 + 1, none⟩ = some (.int .i64 (lL l i).2.1) ∧ w.cell? ⟨b, off + i * 3 + 2, none⟩ = some (.slice ua (lL l i).2.2.length uc) ∧ Ints w (.slice ua (lL l i).2.2.length uc) (lL l i).2.2 := by
  obtain ⟨a, b, off, cap, h1, h2, h3, h4, h5⟩ := RdS.get h
  refine ⟨a, b, off, cap, h1, h2, h3, h4, fun i hi => ?_⟩
  obtain ⟨c, ⟨u, rfl, hu⟩, _, hc⟩ := h5 i hi
  have e : lL l i = l[i] := by unfold lL; rw [List.getD_eq_getElem?_getD, List.getElem?_eq_getElem hi]; rfl
  rw [← e] at hu hc
  obtain ⟨ua, uc, rfl⟩ := ints_slice hu
  exact ⟨ua, uc, hc 0 _ rfl, hc 1 _ rfl, hc 2 _ rfl, hu⟩
section
open Go.ChangeShapes Go.WideShapes Go.ChangeAt Go.Deep Go.Joins
variable {H : Type} {enc : TypeId × Value → H} {P : Program} {W : World}
theorem lit_of_trod {e bt at0 i0 s0 : TypeId} {f0 f1 g0 g1 : Field} {sp : Nat → Bool} (he : P.underlying e = some (.struct #[f0, f1])) (h0 : f0.type = bt ∧ f0.offset = 0) (h1 : f1.type = at0 ∧ f1.offset = 1)
    (hbt : P.underlying bt = some .bool) (cb : P.cellsOf bt = 1) (hat : P.underlying at0 = some (.struct #[g0, g1])) (k0 : g0.type = i0 ∧ g0.offset = 0) (k1 : g1.type = s0 ∧ g1.offset = 1)
    (hi0 : P.underlying i0 = some (.int .i64)) (hs0 : P.underlying s0 = some (.slice i0)) (c0 : P.cellsOf i0 = 1) (c1 : P.cellsOf s0 = 1) (ca : P.cellsOf at0 = 2) (hc : P.cellsOf e = 3)
    {fuel : Nat} {cs : List Value} {x : DataW H × List MemPlace} (h : DataW.trod enc P W 0 sp true fuel e cs = some x) : ∃ b : RLit, LtC W b cs := by
  obtain ⟨y0, y1, n, _, hl, h2, h3⟩ := trod_struct2 he h
  rw [h0.1, h0.2, cb] at h2
  rw [h1.1, h1.2, ca] at h3
  rw [hc] at hl
  match cs, hl with
  | [a, b, c], _ =>
    obtain ⟨B, e0, _⟩ := DataW.trod_bool hbt h2
    obtain ⟨y, e1, hy⟩ := atom_of_trod hat k0 k1 hi0 hs0 c0 c1 ca h3
    simp at e0 e1
    exact ⟨(B, (y.1, y.2.2)), y.2.1, by rw [e0, e1.1, e1.2], hy⟩
theorem lits_of_trod {t e bt at0 i0 s0 : TypeId} {f0 f1 g0 g1 : Field} {v : Value} {d : DataW H} {ps : List MemPlace} {sp : Nat → Bool} (ht : P.underlying t = some (.slice e)) (he : P.underlying e = some (.struct #[f0, f1])) (h0 : f0.type = bt ∧ f0.offset = 0) (h1 : f1.type = at0 ∧ f1.offset = 1)
    (hbt : P.underlying bt = some .bool) (cb : P.cellsOf bt = 1) (hat : P.underlying at0 = some (.struct #[g0, g1])) (k0 : g0.type = i0 ∧ g0.offset = 0) (k1 : g1.type = s0 ∧ g1.offset = 1)
    (hi0 : P.underlying i0 = some (.int .i64)) (hs0 : P.underlying s0 = some (.slice i0)) (c0 : P.cellsOf i0 = 1) (c1 : P.cellsOf s0 = 1) (ca : P.cellsOf at0 = 2) (hc : P.cellsOf e = 3)
    (hv : ∃ a len cap, v = .slice a len cap) (h : DataW.Trod enc P W 0 sp true t v d ps) : ∃ l : List RLit, Lits W v l := by
  obtain ⟨l, cs, h1', h2, h3⟩ := rd_of_trod (R := LtC W) ht hc (by omega) hv h (fun fuel cs x hx => lit_of_trod he h0 h1 hbt cb hat k0 k1 hi0 hs0 c0 c1 ca hc hx)
  exact ⟨l, cs, h1', h2, h3⟩
theorem rule_of_trod {e bd le bt at0 i0 s0 : TypeId} {r0 r1 f0 f1 g0 g1 : Field} {sp : Nat → Bool} (hr : P.underlying e = some (.struct #[r0, r1])) (q0 : r0.type = at0 ∧ r0.offset = 0) (q1 : r1.type = bd ∧ r1.offset = 2)
    (hb : P.underlying bd = some (.slice le)) (cbd : P.cellsOf bd = 1) (he : P.underlying le = some (.struct #[f0, f1])) (h0 : f0.type = bt ∧ f0.offset = 0) (h1 : f1.type = at0 ∧ f1.offset = 1)
    (hbt : P.underlying bt = some .bool) (cb : P.cellsOf bt = 1) (hat : P.underlying at0 = some (.struct #[g0, g1])) (k0 : g0.type = i0 ∧ g0.offset = 0) (k1 : g1.type = s0 ∧ g1.offset = 1)
    (hi0 : P.underlying i0 = some (.int .i64)) (hs0 : P.underlying s0 = some (.slice i0)) (c0 : P.cellsOf i0 = 1) (c1 : P.cellsOf s0 = 1) (ca : P.cellsOf at0 = 2) (hc : P.cellsOf le = 3) (hce : P.cellsOf e = 3)
    {fuel : Nat} {cs : List Value} {x : DataW H × List MemPlace} (h : DataW.trod enc P W 0 sp true fuel e cs = some x) : ∃ r : RRule, RuC W r cs := by
  obtain ⟨y0, y1, n, _, hl, h2, h3⟩ := trod_struct2 hr h
  rw [q0.1, q0.2, ca] at h2
  rw [q1.1, q1.2, cbd] at h3
  rw [hce] at hl
  match cs, hl with
  | [a, b, c], _ =>
    obtain ⟨y, e1, hy⟩ := atom_of_trod hat k0 k1 hi0 hs0 c0 c1 ca h2
    simp at e1 h3
    have hsl : ∃ p len cap, c = .slice p len cap := by
      rcases open_slice hb h3 with ⟨h0, _⟩ | ⟨a, len, cap, _, _, _, _, h0, _⟩ <;> (simp at h0; exact ⟨_, _, _, h0⟩)
    obtain ⟨p, len, cap, rfl⟩ := hsl
    obtain ⟨B, hB⟩ := lits_of_trod (enc := enc) (W := W) (v := .slice p len cap) (d := y1.1) (ps := y1.2) (sp := sp) hb he h0 h1 hbt cb hat k0 k1 hi0 hs0 c0 c1 ca hc ⟨_, _, _, rfl⟩ ⟨n, h3⟩
    exact ⟨((y.1, y.2.2), B), y.2.1, _, by rw [e1.1, e1.2], hy, hB⟩
theorem rules_of_trod {t e bd le bt at0 i0 s0 : TypeId} {r0 r1 f0 f1 g0 g1 : Field} {v : Value} {d : DataW H} {ps : List MemPlace} {sp : Nat → Bool} (ht : P.underlying t = some (.slice e)) (hr : P.underlying e = some (.struct #[r0, r1])) (q0 : r0.type = at0 ∧ r0.offset = 0) (q1 : r1.type = bd ∧ r1.offset = 2)
    (hb : P.underlying bd = some (.slice le)) (cbd : P.cellsOf bd = 1) (he : P.underlying le = some (.struct #[f0, f1])) (h0 : f0.type = bt ∧ f0.offset = 0) (h1 : f1.type = at0 ∧ f1.offset = 1)
    (hbt : P.underlying bt = some .bool) (cb : P.cellsOf bt = 1) (hat : P.underlying at0 = some (.struct #[g0, g1])) (k0 : g0.type = i0 ∧ g0.offset = 0) (k1 : g1.type = s0 ∧ g1.offset = 1)
    (hi0 : P.underlying i0 = some (.int .i64)) (hs0 : P.underlying s0 = some (.slice i0)) (c0 : P.cellsOf i0 = 1) (c1 : P.cellsOf s0 = 1) (ca : P.cellsOf at0 = 2) (hc : P.cellsOf le = 3) (hce : P.cellsOf e = 3)
    (hv : ∃ a len cap, v = .slice a len cap) (h : DataW.Trod enc P W 0 sp true t v d ps) : ∃ l : List RRule, Rules W v l := by
  obtain ⟨l, cs, h1', h2, h3⟩ := rd_of_trod (R := RuC W) ht hce (by omega) hv h (fun fuel cs x hx => rule_of_trod hr q0 q1 hb cbd he h0 h1 hbt cb hat k0 k1 hi0 hs0 c0 c1 ca hc hce hx)
  exact ⟨l, cs, h1', h2, h3⟩
end
#print axioms rules_of_trod
end Go.Proofs.Ythndplkjhbmfmaa
