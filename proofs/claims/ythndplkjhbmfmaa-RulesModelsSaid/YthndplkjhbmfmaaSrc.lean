/- A slice as the source of an append, nil or not; parts of a slice; append in a region that draws. -/
import Derived.Test.YthndplkjhbmfmaaBase
import Derived.OwnWalk
import Derived.Deep.RegionLaw
namespace Go.Proofs.Ythndplkjhbmfmaa
open Go.RowKit

/-- u is a slice of m elements whose cells are news -/
def Src (w : World) (u : Value) (size m : Nat) (news : List Value) : Prop :=
  news.length = m * size ∧ ((∃ c, u = .slice none 0 c ∧ m = 0) ∨ ∃ ad c, u = .slice (some ad) m c ∧ ∀ j x, news[j]? = some x → w.cell? (ad.add j) = some x)
theorem Src.keep {w w' : World} {u : Value} {size m : Nat} {news : List Value} (h : Src w u size m news) (hb : Below w.heap.size w w') : Src w' u size m news :=
  ⟨h.1, h.2.imp id fun ⟨ad, c, h1, h2⟩ => ⟨ad, c, h1, fun j x hj => Below.keep hb (h2 j x hj)⟩⟩
theorem Src.grown {w w' : World} {u : Value} {size m : Nat} {news : List Value} {row : Option Nat} (h : Src w u size m news) (hg : w.grownBy w' row) (hne : ∀ ad n c, u = .slice (some ad) n c → some ad.block ≠ row) : Src w' u size m news := by
  refine ⟨h.1, h.2.imp id fun ⟨ad, c, h1, h2⟩ => ⟨ad, c, h1, fun j x hj => ?_⟩⟩
  have hc := h2 j x hj
  have hb : (ad.add j).block = ad.block := by unfold Addr.add; split <;> rfl
  have := hg.block (ad.add j).block (cell_lt hc) (by rw [hb]; exact hne ad m c h1)
  rw [← hc]
  unfold World.cell?
  rw [this]
theorem Rd.src {w : World} {v : Value} {s n : Nat} {xs : List Value} (h : Rd w v s n xs) : Src w v s n xs := by
  obtain ⟨h1, h2, a, b, off, cap, rfl, h4, h5⟩ := h
  refine ⟨h1, ?_⟩
  cases a with
  | none =>
    have : n = 0 := by
      rcases Nat.eq_zero_or_pos n with h | h
      · exact h
      · have := h4.1 h; cases this
    subst this
    exact .inl ⟨cap, rfl, rfl⟩
  | some ad =>
    refine .inr ⟨ad, cap, rfl, fun j x hj => ?_⟩
    have hjl := (List.getElem?_eq_some_iff.1 hj).1
    have hn : 0 < n := by
      rcases Nat.eq_zero_or_pos n with h | h
      · subst h; omega
      · exact h
    have e := Option.some.inj (h4.1 hn)
    subst e
    rw [Addr.add_lit, h5 j hjl]
    rw [List.getElem?_eq_getElem hjl] at hj
    exact hj
theorem run_append_nil {P : Program} {w : World} (base : Nat) (t ty e : TypeId) (i : TypeInfo) (size : Nat) (ht : P.underlying t = some (.slice e)) (hi : P.info? e = some i)
    (v : Value) (n : Nat) (xs : List Value) (hown : w.ownsRow base e size v n xs) (c : Nat) :
    (Builtin.append_ #[t, t] ty #[v, .slice none 0 c]).run P w = .ok v w := by
  rcases hown.2 with ⟨rfl, rfl⟩ | ⟨g, cap, cur, rfl, _, _, hnc, _⟩ <;> simp [Builtin.append_, run_underlying ht, sizeOf, typeInfo, Builtin.lenOf, Builtin.firstCells, storeCells, *]
theorem wp_append_src {P : Program} {o : Oper} {a : Act} {K : Act → World → Prop} {Q : Exit → Act → World → Prop} {w : World} (s x : Operand) (t : TypeId)
    (ho : o.op = .call { callee := .builtin .append, args := #[s, x], argTypes := #[t, t] }) {e : TypeId} {size bytes : Nat} (he : Elem P t e size bytes)
    {base n : Nat} {v : Value} {xs : List Value} (hs : a.eval s = v) (hown : w.ownsRow base e size v n xs)
    {u : Value} {m : Nat} {news : List Value} (hx : a.eval x = u) (hu : Src w u size m news) (h1 : ∀ u ∈ news, u.oneCell' = true)
    (hn : n + m ≤ 100000000000) (hbase : base ≤ w.heap.size)
    (h : ∀ v' w', w'.ownsRow base e size v' (n + m) (xs ++ news) → Below base w w' → w.grownBy w' v.ownBlock → K (a.put o.dst v') w') : o.wp P a w K Q := by
  obtain ⟨ht, i, z, hi, hz, h3, h4, hzs, hsz, hby⟩ := he
  obtain ⟨hl, ⟨c, rfl, rfl⟩ | ⟨ad, c, rfl, hc⟩⟩ := hu
  · have hrun := run_append_nil (P := P) (w := w) base t o.type e i size ht hi v n xs hown c
    have : news = [] := List.eq_nil_of_length_eq_zero (by omega)
    subst this
    unfold Oper.wp execOp
    simp only [ho, resolve, invoke, builtin, Sem.run_bind, Sem.run_pure, Result.andThen_ok, List.map_toArray, List.map_cons, List.map_nil, hs, hx, hrun]
    exact h v w (by simpa using hown) (Below.refl _ _) (World.grownBy.refl w _)
  · have hbytes : (n + m) * bytes ≤ 100000000000 * 1000 := Nat.mul_le_mul hn hby
    exact wp_append_own w s x t ho base e i z size bytes ht hi hz h3 h4 hzs hsz v n xs hs hown ad m c news hx hl hc h1
      (by unfold maxLen; omega) (by omega) hbase (fun v' w' h5 h6 _ => h v' w' h5 (grown_below hown h6 hbase) h6)
theorem step_append_src {P : Program} {ops : Array Oper} {o : Oper} {a : Act} {K : Act → World → Prop} {Q : Exit → Act → World → Prop} {w : World} {E : Prop} (hgd : o.guard = none) (s x : Operand) (t : TypeId)
    (ho : o.op = .call { callee := .builtin .append, args := #[s, x], argTypes := #[t, t] }) {e : TypeId} {size bytes : Nat} (he : Elem P t e size bytes)
    {base n : Nat} {v : Value} {xs : List Value} (hs : a.eval s = v) (hown : w.ownsRow base e size v n xs)
    {u : Value} {m : Nat} {news : List Value} (hx : a.eval x = u) (hu : Src w u size m news) (h1 : ∀ u ∈ news, u.oneCell' = true)
    (hn : n + m ≤ 100000000000) (hbase : base ≤ w.heap.size)
    (h : ∀ v' w', w'.ownsRow base e size v' (n + m) (xs ++ news) → Below base w w' → w.grownBy w' v.ownBlock → K (a.put o.dst v') w') : if Region.wanted o (yielded ops a.tmps) = true then Oper.wp P o a w K Q else E := by
  have hw : Region.wanted o (yielded ops a.tmps) = true := by simp [Region.wanted, hgd]
  rw [if_pos hw]
  exact wp_append_src s x t ho he hs hown hx hu h1 hn hbase h
/-- the first k elements -/
theorem part_to {P : Program} {t E : TypeId} {w : World} {a : Option Addr} {n cap s k : Nat} {xs : List Value} (ht : P.underlying t = some (.slice E))
    (hs : ∀ w, (sizeOf E).run P w = .ok s w) (h : Rd w (.slice a n cap) s n xs) (hk : k ≤ n) :
    ∃ u, (∀ w', (Instr.slice t (.slice a n cap) none (some (.int .i64 k)) none).run P w' = .ok u w') ∧ Src w u s k (xs.take (k * s)) := by
  obtain ⟨h1, h2, a', b, off, cap', h3, h4, h5⟩ := h
  injection h3 with e1 _ e3
  subst e1; subst e3
  refine ⟨.slice a k cap, fun w' => run_to ht hs h4.2 k w' hk, ?_⟩
  have hle : k * s ≤ n * s := Nat.mul_le_mul_right _ hk
  refine ⟨by rw [List.length_take, h1]; omega, ?_⟩
  cases a with
  | none =>
    have : n = 0 := by
      rcases Nat.eq_zero_or_pos n with h | h
      · exact h
      · have := h4.1 h; cases this
    obtain rfl : k = 0 := by omega
    exact .inl ⟨cap, rfl, rfl⟩
  | some ad =>
    refine .inr ⟨ad, cap, rfl, fun j x hj => ?_⟩
    have hj' := hj
    rw [List.getElem?_take] at hj
    split at hj
    · rename_i hlt
      have hjl := (List.getElem?_eq_some_iff.1 hj).1
      have hn : 0 < n := by
        rcases Nat.eq_zero_or_pos n with h | h
        · subst h; omega
        · exact h
      have e := Option.some.inj (h4.1 hn)
      subst e
      rw [Addr.add_lit, h5 j hjl]
      rw [List.getElem?_eq_getElem hjl] at hj
      exact hj
    · cases hj
/-- the elements from k on -/
theorem part_from {P : Program} {t E : TypeId} {w : World} {a : Option Addr} {n cap s k : Nat} {xs : List Value} (ht : P.underlying t = some (.slice E))
    (hs : ∀ w, (sizeOf E).run P w = .ok s w) (h : Rd w (.slice a n cap) s n xs) (hk : k ≤ n) :
    ∃ u, (∀ w', (Instr.slice t (.slice a n cap) (some (.int .i64 k)) none none).run P w' = .ok u w') ∧ Src w u s (n - k) (xs.drop (k * s)) := by
  obtain ⟨h1, h2, a', b, off, cap', h3, h4, h5⟩ := h
  injection h3 with e1 _ e3
  subst e1; subst e3
  have he : P.elem t = E := by simp [Program.elem, ht]
  refine ⟨sliced a k n cap s, fun w' => ?_, ?_⟩
  · rw [run_slice_l w' t a n cap (by rw [he]; exact ht) .i64 k (by omega) (by omega), he, hs]
    simp only [Result.andThen, Int.toNat_natCast]
  · refine ⟨by rw [List.length_drop, h1, Nat.sub_mul], ?_⟩
    unfold sliced
    cases a with
    | none =>
      have : n = 0 := by
        rcases Nat.eq_zero_or_pos n with h | h
        · exact h
        · have := h4.1 h; cases this
      subst this
      obtain rfl : k = 0 := by omega
      exact .inl ⟨cap - 0, by simp, rfl⟩
    | some ad =>
      by_cases hkc : cap = k
      · refine .inr ⟨ad, cap - k, by simp [hkc], fun j x hj => ?_⟩
        rw [List.getElem?_drop] at hj
        have hjl := (List.getElem?_eq_some_iff.1 hj).1
        have : n ≤ k := by omega
        have := Nat.mul_le_mul_right s this
        omega
      · refine .inr ⟨ad.add (k * s), cap - k, by simp [hkc], fun j x hj => ?_⟩
        rw [List.getElem?_drop] at hj
        have hjl := (List.getElem?_eq_some_iff.1 hj).1
        have hn : 0 < n := by
          rcases Nat.eq_zero_or_pos n with h | h
          · subst h; omega
          · exact h
        have e := Option.some.inj (h4.1 hn)
        subst e
        rw [Addr.add_lit, Addr.add_lit, Nat.add_assoc, h5 _ hjl]
        rw [List.getElem?_eq_getElem hjl] at hj
        exact hj
end Go.Proofs.Ythndplkjhbmfmaa
