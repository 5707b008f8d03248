/- Ints in rows of the call's own; small words. -/
import Derived.Test.YtbnlkmblkokooaaFacts
import Derived.Test.YtbnlkmblkokooaaStr
import Derived.WalkSpells
import Derived.WalkLawsBesides
import Derived.Outline
import Derived.Deep.QuietTactic
import Derived.BigQuiet
import Derived.Deep.DeepCutAuto
import Derived.OwnWalk
import Derived.Lib.IndexBytes
namespace Go.Proofs.Ytbnlkmblkokooaa
open Go.RowKit

theorem decide_ne {p : Prop} [Decidable p] (h : ¬ p) : decide p = false := decide_eq_false h
theorem bdrewN {B : Nat} {a w : World} (h : Below B a w) (n : Nat) : Below B a (w.drewN n) := ⟨h.os, h.tape, h.output, h.size, h.block⟩
theorem owns_base {w : World} {base base' : Nat} {e : TypeId} {size : Nat} {v : Value} {n : Nat} {xs : List Value} (h : w.ownsRow base e size v n xs) (hb : base' ≤ base) : w.ownsRow base' e size v n xs := by
  obtain ⟨h1, h2⟩ := h
  refine ⟨h1, ?_⟩
  rcases h2 with h2 | ⟨g, cap, cur, a, b, r⟩
  · exact .inl h2
  · exact .inr ⟨g, cap, cur, a, by omega, r⟩
theorem own_slice {base : Nat} {w : World} {e : TypeId} {size : Nat} {v : Value} {n : Nat} {xs : List Value} (h : w.ownsRow base e size v n xs) : ∃ a c, v = .slice a n c := by
  rcases h.2 with ⟨rfl, rfl⟩ | ⟨g, cap, cur, rfl, _⟩ <;> exact ⟨_, _, rfl⟩
/-- ints in a row of the call's own -/
def OwnInts (base : Nat) (w : World) (v : Value) (l : List Int) : Prop := w.ownsRow base 3 1 v l.length (l.map (Value.int .i64))
theorem OwnInts.ints {base : Nat} {w : World} {v : Value} {l : List Int} (h : OwnInts base w v l) : Ints w v l := by
  have := owns_rd h
  simpa [Ints] using this
theorem OwnInts.keep {base : Nat} {w w' : World} {v : Value} {l : List Int} (h : OwnInts base w v l) (hb : Below w.heap.size w w') : OwnInts base w' v l := owns_keep h hb
theorem OwnInts.base {base base' : Nat} {w : World} {v : Value} {l : List Int} (h : OwnInts base w v l) (hb : base' ≤ base) : OwnInts base' w v l := owns_base h hb
theorem ints_slice {w : World} {v : Value} {l : List Int} (h : Ints w v l) : ∃ a c, v = .slice a l.length c := by
  obtain ⟨a, b, off, cap, h1, _⟩ := Ints.get h
  exact ⟨a, cap, h1⟩
theorem ints_oneCell (l : List Int) : ∀ u ∈ l.map (Value.int .i64), u.oneCell' = true := by
  intro u hu; obtain ⟨x, _, rfl⟩ := List.mem_map.1 hu; rfl
theorem ownInts_nil (base : Nat) (w : World) : OwnInts base w (.slice none 0 0) [] := World.ownsRow_nil _ _ _ _
/-- one int appended -/
theorem OwnInts.snoc {base : Nat} {w : World} {v : Value} {l : List Int} {x : Int} (h : w.ownsRow base 3 1 v (l.length + 1) (l.map (Value.int .i64) ++ [.int .i64 x])) : OwnInts base w v (l ++ [x]) := by
  unfold OwnInts; simpa using h
theorem ints_nil (w : World) : Ints w (.slice none 0 0) [] := ⟨rfl, Nat.zero_le _, none, 0, 0, 0, rfl, ⟨fun h => by simp at h, by simp⟩, fun j hj => by simp at hj⟩
def castN (l : List Nat) : List Int := l.map fun x : Nat => (x : Int)
theorem castN_length (l : List Nat) : (castN l).length = l.length := by simp [castN]
theorem castN_append (a b : List Nat) : castN (a ++ b) = castN a ++ castN b := by simp [castN]
def at' (l : List Nat) (i : Nat) : Nat := l.getD i 0
theorem at_get {l : List Nat} {i : Nat} (h : i < l.length) : l[i] = at' l i := by simp [at', List.getD, List.getElem?_eq_getElem h]
theorem castN_get {l : List Nat} {i : Nat} (h : i < (castN l).length) : (castN l)[i] = (at' l i : Nat) := by
  have h' : i < l.length := by simpa [castN] using h
  simp [castN, at', h']
theorem castN_inj {a b : List Nat} : castN a = castN b ↔ a = b := by
  constructor
  · intro h
    have hl := congrArg List.length h
    rw [castN_length, castN_length] at hl
    refine List.ext_getElem hl fun i h1 h2 => ?_
    have e : (castN a)[i]'(by rw [castN_length]; exact h1) = (castN b)[i]'(by rw [castN_length]; exact h2) := by simp only [h]
    rw [castN_get, castN_get, ← at_get h1, ← at_get h2] at e
    omega
  · rintro rfl; rfl
/-- naturals in a slice: what a walk takes of it -/
theorem Ints.nats {w : World} {v : Value} {g : List Nat} (h : Ints w v (castN g)) : ∃ a b off cap, v = .slice a g.length cap ∧ g.length ≤ 9223372036854775807 ∧ (0 < g.length → a = some ⟨b, off, none⟩) ∧
    ∀ i, i < g.length → w.cell? ⟨b, off + i, none⟩ = some (.int .i64 (at' g i : Nat)) := by
  obtain ⟨a, b, off, cap, h1, h2, h3, h4⟩ := Ints.get h
  rw [castN_length] at h1 h2 h3
  exact ⟨a, b, off, cap, h1, h2, h3, fun i hi => by rw [h4 i (by rw [castN_length]; exact hi), castN_get]⟩
theorem quiet_same {P : Program} {n : Nat} {args : Array Value} {w : World} {v : Value} (h : Calls P n args w fun e w' => e = .returned v ∧ w = w') : Calls P n args w fun e w' => e = .returned v ∧ ∃ q, w' = w.drewN q :=
  h.mono fun _ _ ⟨h1, h2⟩ => ⟨h1, 0, h2.symm⟩
/-- a string's bytes -/
def bs (s : ByteArray) : Bs := s.data.toList
theorem bs_len (s : ByteArray) : (bs s).length = s.size := by simp [bs]
theorem bs_get {s : ByteArray} {k : Nat} (h : k < s.size) : s[k] = (bs s)[k]'(by rw [bs_len]; exact h) := rfl
theorem bs_drop (s : ByteArray) (k : Nat) : bs (s.extract k s.size) = (bs s).drop k := Lib.extract_to_end s k
theorem bs_part (s : ByteArray) (a b : Nat) : bs (s.extract a b) = ((bs s).drop a).take (b - a) := Lib.extract_data s a b
theorem bs_inj {a b : ByteArray} (h : bs a = bs b) : a = b := by
  rw [← Lib.mk_data a, ← Lib.mk_data b]
  unfold bs at h
  rw [h]
theorem bs_mk (l : Bs) : bs ⟨l.toArray⟩ = l := rfl
theorem bs_app (a b : ByteArray) : bs (a ++ b) = bs a ++ bs b := by simp [bs]
#print axioms castN_inj
end Go.Proofs.Ytbnlkmblkokooaa
