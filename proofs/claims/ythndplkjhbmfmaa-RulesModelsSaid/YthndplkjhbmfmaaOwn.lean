/- Ints in rows of the call's own; contracts of slices.Clone at []int, few. -/
import Derived.Test.YthndplkjhbmfmaaFacts
import Derived.WalkSpells
import Derived.Lib.Hide
namespace Go.Proofs.Ythndplkjhbmfmaa
open Go.RowKit

/-- ints in a row of the call's own -/
def OwnInts (base : Nat) (w : World) (v : Value) (l : List Int) : Prop := w.ownsRow base 3 1 v l.length (l.map (Value.int .i64))
theorem OwnInts.ints {base : Nat} {w : World} {v : Value} {l : List Int} (h : OwnInts base w v l) : Ints w v l := by
  have := owns_rd h
  simpa [Ints] using this
theorem OwnInts.keep {base : Nat} {w w' : World} {v : Value} {l : List Int} (h : OwnInts base w v l) (hb : Below w.heap.size w w') : OwnInts base w' v l := owns_keep h hb
theorem owns_base {w : World} {base base' : Nat} {e : TypeId} {size : Nat} {v : Value} {n : Nat} {xs : List Value} (h : w.ownsRow base e size v n xs) (hb : base' ≤ base) : w.ownsRow base' e size v n xs := by
  obtain ⟨h1, h2⟩ := h
  refine ⟨h1, ?_⟩
  rcases h2 with h2 | ⟨g, cap, cur, a, b, r⟩
  · exact .inl h2
  · exact .inr ⟨g, cap, cur, a, by omega, r⟩
theorem OwnInts.base {base base' : Nat} {w : World} {v : Value} {l : List Int} (h : OwnInts base w v l) (hb : base' ≤ base) : OwnInts base' w v l := owns_base h hb
theorem own_slice {base : Nat} {w : World} {v : Value} {l : List Int} (h : OwnInts base w v l) : ∃ a n c, v = .slice a n c := by
  rcases h.2 with ⟨rfl, _⟩ | ⟨g, cap, cur, rfl, _⟩ <;> exact ⟨_, _, _, rfl⟩
theorem ints_slice {w : World} {v : Value} {l : List Int} (h : Ints w v l) : ∃ a c, v = .slice a l.length c := by
  obtain ⟨a, b, off, cap, h1, _⟩ := Ints.get h
  exact ⟨a, cap, h1⟩
theorem ints_oneCell (l : List Int) : ∀ u ∈ l.map (Value.int .i64), u.oneCell' = true := by
  intro u hu; obtain ⟨x, _, rfl⟩ := List.mem_map.1 hu; rfl
theorem ownInts_nil (base : Nat) (w : World) : OwnInts base w (.slice none 0 0) [] := World.ownsRow_nil _ _ _ _
/-- one int appended -/
theorem OwnInts.snoc {base : Nat} {w : World} {v : Value} {l : List Int} {x : Int} (h : w.ownsRow base 3 1 v (l.length + 1) (l.map (Value.int .i64) ++ [.int .i64 x])) : OwnInts base w v (l ++ [x]) := by
  unfold OwnInts; simpa using h
theorem ints_nil (w : World) : Ints w (.slice none 0 0) [] := ⟨rfl, Nat.zero_le _, none, 0, 0, 0, rfl, ⟨fun h => by simp at h, by simp⟩, fun j hj => by simp at hj⟩

theorem cloneI_any (l : List Int) (v : Value) (w : World) (hl : l.length ≤ 1000000) (hv : Ints w v l) :
    Calls Try.prog 90 #[v] w fun e w' => ∃ v', e = .returned v' ∧ OwnInts w.heap.size w' v' l ∧ Below w.heap.size w w' := by
  obtain ⟨a, b, off, cap, rfl, hle, ha, hc⟩ := Ints.get hv
  cases a with
  | none =>
    have h0 : l = [] := by
      cases l with
      | nil => rfl
      | cons x l => exact absurd (ha (by simp)) (by simp)
    subst h0
    have heq := fun w' => Lib.run_eql_slice_nil (P := Try.prog) w' 23 3 none 0 cap 0 0 Try.underlying23
    clear hc ha hle hv
    go_enter Try.func90, Try.ntmps90
    go_wp2
    go_ret
    exact ⟨_, rfl, World.ownsRow_nil _ _ _ _, Below.refl _ _⟩
  | some ad =>
    have hnews : ∀ j u, (l.map (Value.int .i64))[j]? = some u → w.cell? (ad.add j) = some u := by
      intro j u hj
      have hjl : j < l.length := by
        have := (List.getElem?_eq_some_iff.1 hj).1
        simpa using this
      have e := Option.some.inj (ha (by omega))
      rw [e, Addr.add_lit, hc j hjl]
      simpa [hjl] using hj
    have hown : (w.alloc (.cells #[] 3)).ownsRow w.heap.size 3 1 (.slice (some ⟨w.heap.size, 0, none⟩) 0 0) 0 [] := World.ownsRow_lit w #[] 0 (Nat.le_refl _) (by unfold maxLen; omega) rfl
    have heq := fun w' => Lib.run_eql_slice_nil (P := Try.prog) w' 23 3 (some ad) l.length cap 0 0 Try.underlying23
    have Hn := Lib.hid hnews
    have Hown := Lib.hid hown
    clear hc ha hv hnews hown
    go_enter Try.func90, Try.ntmps90
    go_wp2_with (at_builtin; refine append_own_at rfl (.tmp 5) (.tmp 6) 23 rfl elemInts rfl Hown.out (l.map (Value.int .i64)) rfl ?c1 ?c2 ?c3 ?c4 ?c5 ?_)
    case c1 => simp
    case c2 => intro j u hj; exact Below.keep (below_alloc _ _) (Hn.out j u hj)
    case c3 => exact ints_oneCell _
    case c4 => omega
    case c5 => simp
    intro v' w' h1 h2 _
    have hR : OwnInts w.heap.size w' v' l := by
      unfold OwnInts
      simpa using h1
    have HR := Lib.hid hR
    have HB := Lib.hid (show Below w.heap.size w w' from (below_alloc _ _).trans h2)
    clear hR h1 h2
    go_wp2
    go_ret
    exact ⟨_, rfl, HR.out, HB.out⟩
theorem Ints.to {w : World} {a : Option Addr} {n c : Nat} {l : List Int} (h : Ints w (.slice a n c) l) (q : Nat) (hq : q ≤ l.length) : Ints w (.slice a q c) (l.take q) := by
  have hcap := h.cap
  obtain ⟨a1, b1, off1, cap1, hv2, hle1, ha1, hcc1⟩ := Ints.get h
  injection hv2 with e1 e2 e3
  subst e1 e3
  have hlen : (l.take q).length = q := by simp; omega
  refine ⟨by simp, by have := Rd.cap h; unfold maxLen; omega, a, b1, off1, c, by rw [hlen], ⟨fun h => ha1 (by omega), by omega⟩, fun j hj => ?_⟩
  have hj' : j < q := by rw [List.length_map, hlen] at hj; exact hj
  have := hcc1 j (by omega)
  simpa using this
#print axioms cloneI_any
end Go.Proofs.Ythndplkjhbmfmaa
