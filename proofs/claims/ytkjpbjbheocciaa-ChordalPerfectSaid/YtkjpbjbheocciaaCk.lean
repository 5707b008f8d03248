/- An append to an owned slice that a shorter slice shares: after it, and after what is done with the longer one, the shorter one is owned still. -/
import Derived.Test.YtkjpbjbheocciaaCi
import Derived.ArgAppend
namespace Go.Proofs.Ytkjpbjbheocciaa
open Go.RowKit

/-- what the longer slice owns, the shorter one in the same block owns -/
theorem own_back {B : Nat} {w : World} {g cap : Nat} {l : List Int} {x : Int} (h : w.ownsRow B 3 1 (.slice (some ⟨g, 0, none⟩) (l.length + 1) cap) (l.length + 1) (l.map (Value.int .i64) ++ [.int .i64 x])) :
    OwnInts B w (.slice (some ⟨g, 0, none⟩) l.length cap) l := by
  obtain ⟨h1, h2⟩ := h
  rcases h2 with ⟨h', _⟩ | ⟨g', cap', cur, h', hb, hg, hnc, hcm, hcs, htake⟩
  · cases h'
  · simp only [Value.slice.injEq, Option.some.injEq, Addr.mk.injEq, and_true, true_and] at h'
    obtain ⟨rfl, rfl⟩ := h'
    refine ⟨by simp, .inr ⟨g, cap, cur, rfl, hb, hg, by omega, hcm, hcs, ?_⟩⟩
    have := congrArg (List.take (l.length * 1)) htake
    rw [List.take_take, Nat.min_eq_left (by omega)] at this
    rw [this, List.take_append_of_le_length (by simp), List.take_of_length_le (by simp)]
/-- one element stored behind the last one, within the room -/
theorem own_put {B : Nat} {w : World} {g cap : Nat} {l : List Int} (x : Int) (h : OwnInts B w (.slice (some ⟨g, 0, none⟩) l.length cap) l) (hr : l.length + 1 ≤ cap) :
    (w.setCell ⟨g, l.length, none⟩ (.int .i64 x)).ownsRow B 3 1 (.slice (some ⟨g, 0, none⟩) (l.length + 1) cap) (l.length + 1) (l.map (Value.int .i64) ++ [.int .i64 x]) := by
  obtain ⟨h1, h2⟩ := h
  rcases h2 with ⟨h', _⟩ | ⟨g', cap', cur, h', hb, hg, hnc, hcm, hcs, htake⟩
  · cases h'
  · simp only [Value.slice.injEq, Option.some.injEq, Addr.mk.injEq, and_true, true_and] at h'
    obtain ⟨rfl, rfl⟩ := h'
    refine ⟨by simp, .inr ⟨g, cap, cur.setIfInBounds l.length (.int .i64 x), rfl, hb, heap_setCell_same w g l.length cur _ _ hg, hr, hcm, by simpa using hcs, ?_⟩⟩
    rw [Nat.mul_one] at htake ⊢
    have hlt : l.length < cur.toList.length := by have := Array.length_toList (xs := cur); omega
    rw [Array.toList_setIfInBounds, List.take_succ_eq_append_getElem (by simpa using hlt), List.take_set_of_le (Nat.le_refl _), htake, List.getElem_set_self]
theorem grown_trans {w w' w'' : World} {r r' : Option Nat} (h : w.grownBy w' r) (k : w'.grownBy w'' r') (hr : ∀ n, r' = some n → r = some n ∨ w.heap.size ≤ n) : w.grownBy w'' r :=
  ⟨k.os.trans h.os, k.tape.trans h.tape, k.output.trans h.output, Nat.le_trans h.size k.size, fun n hn hne => (k.block n (Nat.lt_of_lt_of_le hn h.size) (fun e => by
    rcases hr n e.symm with h1 | h1
    · exact hne h1.symm
    · omega)).trans (h.block n hn hne)⟩
/-- the longer slice, and what it leaves to the shorter one -/
def Longer (B : Nat) (w w' : World) (u v' : Value) (l : List Int) (y : Int) : Prop := OwnInts B w' v' (l ++ [y]) ∧ w.grownBy w' u.ownBlock ∧ (∃ a n c, v' = .slice (some a) n c) ∧
  ∀ w'', w'.grownBy w'' v'.ownBlock → OwnInts B w'' v' (l ++ [y]) → OwnInts B w'' u l ∧ w.grownBy w'' u.ownBlock
theorem longer_new {B : Nat} {w w' : World} {u v' : Value} {l : List Int} {y : Int} (hb : B ≤ w.heap.size) (hu : OwnInts B w u l) (h : w'.ownsRow w.heap.size 3 1 v' (l.length + 1) (l.map (Value.int .i64) ++ [.int .i64 y])) (hg : w.grownBy w' none) : Longer B w w' u v' l y := by
  have hO : OwnInts w.heap.size w' v' (l ++ [y]) := OwnInts.snoc h
  have hlt := World.ownsRow.lt h
  have hne : ∀ k, k < w.heap.size → some k ≠ v'.ownBlock := fun k hk e => by have := (hlt k e.symm).1; omega
  have hsome := own_some h (by omega)
  refine ⟨hO.base hb, ⟨hg.os, hg.tape, hg.output, hg.size, fun k hk _ => hg.block k hk (by simp)⟩, ?_, fun w'' hg2 _ => ?_⟩
  · obtain ⟨a, c, e⟩ := hsome; exact ⟨a, _, c, e⟩
  · have hb2 : Below w.heap.size w w'' := ⟨hg2.os.trans hg.os, hg2.tape.trans hg.tape, hg2.output.trans hg.output, Nat.le_trans hg.size hg2.size, fun k hk => (hg2.block k (Nat.lt_of_lt_of_le hk hg.size) (hne k hk)).trans (hg.block k hk (by simp))⟩
    exact ⟨hu.keep hb2, ⟨hb2.os, hb2.tape, hb2.output, hb2.size, fun k hk _ => hb2.block k hk⟩⟩
theorem longer_in {B : Nat} {w : World} {g cap : Nat} {l : List Int} {y : Int} (hu : OwnInts B w (.slice (some ⟨g, 0, none⟩) l.length cap) l) (hr : l.length + 1 ≤ cap) :
    Longer B w (w.setCell ⟨g, l.length, none⟩ (.int .i64 y)) (.slice (some ⟨g, 0, none⟩) l.length cap) (.slice (some ⟨g, 0, none⟩) (l.length + 1) cap) l y := by
  have hg := (World.ownsRow.stored hu l.length (.int .i64 y)).2
  refine ⟨OwnInts.snoc (own_put y hu hr), hg, ⟨_, _, _, rfl⟩, fun w'' hg2 h2 => ⟨own_back (l := l) (x := y) (by simpa [OwnInts] using h2), grown_trans hg hg2 fun n e => .inl e⟩⟩
theorem run_append_back {P : Program} (w : World) (t ty : TypeId) {bytes : Nat} (he : Elem P t 3 1 bytes) {B : Nat} {u : Value} {l : List Int} {y : Int} (hu : OwnInts B w u l) {g c : Nat} (hcell : w.cell? ⟨g, 0, none⟩ = some (.int .i64 y)) (hn : l.length ≤ 1000) (hb : B ≤ w.heap.size) :
    ∃ v' w', (Builtin.append_ #[t, t] ty #[u, .slice (some ⟨g, 0, none⟩) 1 c]).run P w = .ok v' w' ∧ Longer B w w' u v' l y := by
  obtain ⟨ht, i, z, hi, hz, h3, h4, hzs, hsz, hby⟩ := he
  have hbytes : (l.length + 1) * bytes ≤ 2000 * 1000 := Nat.mul_le_mul (by omega) hby
  have hnews : ∀ j v, [Value.int .i64 y][j]? = some v → w.cell? ((⟨g, 0, none⟩ : Addr).add j) = some v := fun j v hj => by
    match j with
    | 0 => rw [Addr.add_lit]; simp at hj; rw [← hj]; exact hcell
    | j + 1 => simp at hj
  have hone : ∀ v ∈ [Value.int .i64 y], v.oneCell' = true := fun v hv => by simp at hv; subst hv; rfl
  have hu2 := hu
  rcases hu.2 with ⟨rfl, h0⟩ | ⟨gb, cap, cur, rfl, hgb, hg, hnc, hcm, hcs, htake⟩
  · have hl : l = [] := List.eq_nil_of_length_eq_zero h0
    subst hl
    obtain ⟨v', w', hr, r1, r2, _⟩ := run_append_own (P := P) w w.heap.size t ty 3 i z 1 bytes ht hi hz h3 h4 hzs hsz (.slice none 0 0) 0 [] (World.ownsRow_nil w _ _ 1) ⟨g, 0, none⟩ 1 c [.int .i64 y] rfl hnews hone (by unfold maxLen; omega) (by simp at hbytes; omega) (Nat.le_refl _)
    exact ⟨v', w', hr, longer_new hb hu2 r1 r2⟩
  · by_cases hr : l.length + 1 ≤ cap
    · have hsize : cur.size = cap := by omega
      have hc1 : (w.cell? ⟨gb, l.length, none⟩).isSome = true := by
        simp [World.cell?, hg, hsize]; omega
      have hf1 := World.ownsRow.frozenAt hu l.length
      have hrun := run_append_room_cells (P := P) w t ty 3 i ht hi gb 0 l.length cap ⟨g, 0, none⟩ 1 c [.int .i64 y] (by rw [h3]; rfl) hnews hone hr (fun j hj => by
        have : j = 0 := by simp at hj; omega
        subst this; rw [h3]; simpa using hc1) (fun j hj => by
        have : j = 0 := by simp at hj; omega
        subst this; rw [h3]; simpa using hf1)
      rw [h3] at hrun
      simp only [Nat.zero_add, Nat.mul_one] at hrun
      exact ⟨_, _, hrun, longer_in hu2 hr⟩
    · obtain ⟨v', w', hrun, r1, r2⟩ := run_append_arg_grows (P := P) w t ty 3 i z 1 bytes ht hi hz h3 h4 hzs hsz ⟨gb, 0, none⟩ l.length cap (l.map (Value.int .i64)) (by simp) (fun j v hj => by
        rw [Addr.add_lit, Nat.zero_add]
        have hj2 : j < l.length := by
          rcases Nat.lt_or_ge j l.length with h | h
          · exact h
          · rw [List.getElem?_eq_none (by simpa using h)] at hj; cases hj
        rw [World.ownsRow.cellAt hu j (by omega)]
        exact hj) ⟨g, 0, none⟩ 1 c [.int .i64 y] rfl hnews (by omega) (by unfold maxLen; omega) (by omega)
      exact ⟨v', w', hrun, longer_new hb hu2 r1 r2⟩
/-- .. for the walk of a drawn region -/
theorem step_append_back {P : Program} {ops : Array Oper} {o : Oper} {a : Act} {K : Act → World → Prop} {Q : Exit → Act → World → Prop} {w : World} {E : Prop} (hgd : o.guard = none) (s x : Operand) (t : TypeId)
    (ho : o.op = .call { callee := .builtin .append, args := #[s, x], argTypes := #[t, t] }) {bytes : Nat} (he : Elem P t 3 1 bytes)
    {B : Nat} {u : Value} {l : List Int} {y : Int} (hs : a.eval s = u) (hu : OwnInts B w u l) {g c : Nat} (hx : a.eval x = .slice (some ⟨g, 0, none⟩) 1 c) (hcell : w.cell? ⟨g, 0, none⟩ = some (.int .i64 y)) (hn : l.length ≤ 1000) (hb : B ≤ w.heap.size)
    (h : ∀ v' w', Longer B w w' u v' l y → K (a.put o.dst v') w') : if Region.wanted o (yielded ops a.tmps) = true then Oper.wp P o a w K Q else E := by
  have hw : Region.wanted o (yielded ops a.tmps) = true := by simp [Region.wanted, hgd]
  rw [if_pos hw]
  obtain ⟨v', w', hr, hL⟩ := run_append_back (P := P) w t o.type he hu hcell hn hb
  unfold Oper.wp execOp
  simp only [ho, resolve, invoke, builtin, Sem.run_bind, Sem.run_pure, Result.andThen_ok, List.map_toArray, List.map_cons, List.map_nil, hs, hx]
  have hr' : Sem.run P (Builtin.append_ #[t, t] o.type #[u, Value.slice (some ⟨g, 0, none⟩) 1 c]) w = .ok v' w' := hr
  rw [hr']
  exact h v' w' hL
#print axioms step_append_back
#print axioms run_append_back
#print axioms own_back
#print axioms longer_new
#print axioms longer_in
end Go.Proofs.Ytkjpbjbheocciaa
