/- What the walks of laws keep of their boxes; contracts in one shape. -/
import Derived.Test.YtfplmdieeabgpaaHmb
import Derived.Test.YtfplmdieeabgpaaFas
import Derived.Test.YtfplmdieeabgpaaAwk
namespace Go.Proofs.Ytfplmdieeabgpaa
open Go.RowKit
/-- a box of a query -/
def Bx (w : World) (b : Nat) (x y : Value) : Prop := w.heap[b]? = some (.cells #[x, y] 25 (0, 0))
theorem Bx.keep {w w' : World} {b : Nat} {x y : Value} (h : Bx w b x y) (hb : Below w.heap.size w w') : Bx w' b x y := blk_keep2 h hb
/-- what a law keeps: its world and its boxes of queries -/
structure B2 (w wr : World) (bp bq : Nat) (x0 x1 y0 y1 : Value) : Prop where
  b : Below w.heap.size w wr
  p : Bx wr bp x0 x1
  q : Bx wr bq y0 y1
theorem B2.keep {w wr w' : World} {bp bq : Nat} {x0 x1 y0 y1 : Value} (h : B2 w wr bp bq x0 x1 y0 y1) (hb : Below wr.heap.size wr w') : B2 w w' bp bq x0 x1 y0 y1 :=
  ⟨Below.tr h.b hb, h.p.keep hb, h.q.keep hb⟩
theorem B2.cells {w wr : World} {bp bq : Nat} {x0 x1 y0 y1 : Value} (h : B2 w wr bp bq x0 x1 y0 y1) : (wr.cell? ⟨bp, 0, none⟩ = some x0 ∧ wr.cell? ⟨bp, 1, none⟩ = some x1) ∧ (wr.cell? ⟨bq, 0, none⟩ = some y0 ∧ wr.cell? ⟨bq, 1, none⟩ = some y1) :=
  ⟨⟨aCell h.p 0 rfl, aCell h.p 1 rfl⟩, ⟨aCell h.q 0 rfl, aCell h.q 1 rfl⟩⟩
theorem B2.new {w w1 w2 : World} {x0 x1 y0 y1 : Value} (h1 : w1 = w.alloc (.cells #[x0, x1] 25)) (h2 : w2 = w1.alloc (.cells #[y0, y1] 25)) {bp bq : Nat} (hp : bp = w.heap.size) (hq : bq = bp + 1) : B2 w w2 bp bq x0 x1 y0 y1 := by
  have k1 : Below w.heap.size w w1 := by rw [h1]; exact below_alloc _ _
  have k2 : Below w1.heap.size w1 w2 := by rw [h2]; exact below_alloc _ _
  have z : w1.heap.size = w.heap.size + 1 := by rw [h1]; simp
  refine ⟨Below.tr k1 k2, Bx.keep (by rw [hp, h1]; exact heap_alloc_new w _) k2, ?_⟩
  rw [hq, hp, ← z, h2]; exact heap_alloc_new w1 _
def HomC (p q : HQ) (base : Nat) (w : World) (u : Value) (c : Int) : Prop :=
  (¬ PairV p q ∧ u = .slice none 0 0 ∧ c = 2) ∨ (PairV p q ∧ (∀ h, ¬ IsH p q h) ∧ u = .slice none 0 0 ∧ c = 5) ∨ (PairV p q ∧ c = 0 ∧ ∃ h, OwnInts base w u h ∧ BestH p q h)
theorem HomC.keep {p q : HQ} {base : Nat} {w w' : World} {u : Value} {c : Int} (h : HomC p q base w u c) (hb : Below w.heap.size w w') : HomC p q base w' u c := by
  rcases h with h | h | ⟨h1, h2, h, h3, h4⟩
  · exact .inl h
  · exact .inr (.inl h)
  · exact .inr (.inr ⟨h1, h2, h, h3.keep hb, h4⟩)
theorem homC_any {p q : HQ} (v u : Value) (w : World) (hv : Qr w v p) (hu : Qr w u q) :
    Calls Try.prog 27 #[v, u] w fun e w' => ∃ a n k c, e = .returned (.tuple #[.slice a n k, .int .i64 c]) ∧ HomC p q w.heap.size w' (.slice a n k) c ∧ Below w.heap.size w w' :=
  (homE_any v u w hv hu).mono fun e w' ⟨hE, hb⟩ => by
    rcases hE with ⟨h1, h2⟩ | ⟨h1, h2, h3⟩ | ⟨h1, y, h, h2, h3, h4⟩
    · exact ⟨none, 0, 0, 2, h2, .inl ⟨h1, rfl, rfl⟩, hb⟩
    · exact ⟨none, 0, 0, 5, h3, .inr (.inl ⟨h1, h2, rfl, rfl⟩), hb⟩
    · obtain ⟨a, n, k, rfl⟩ := own_slice h3
      exact ⟨a, n, k, 0, h2, .inr (.inr ⟨h1, rfl, h, h3, h4⟩), hb⟩
def ContC (p q : HQ) (B : Bool) (c : Int) : Prop := (¬ PairV p q ∧ B = false ∧ c = 2) ∨ (PairV p q ∧ c = 0 ∧ (B = true ↔ ∃ h, IsH q p h))
theorem contC_any {p q : HQ} (v u : Value) (w : World) (hv : Qr w v p) (hu : Qr w u q) :
    Calls Try.prog 32 #[v, u] w fun e w' => ∃ B c, e = .returned (.tuple #[.bool B, .int .i64 c]) ∧ ContC p q B c ∧ Below w.heap.size w w' :=
  (contained_any v u w hv hu).mono fun e w' ⟨hE, hb⟩ => by
    rcases hE with ⟨h1, h2⟩ | ⟨h1, B, h2, h3⟩
    · exact ⟨false, 2, h2, .inl ⟨h1, rfl, rfl⟩, hb⟩
    · exact ⟨B, 0, h3, .inr ⟨h1, rfl, h2⟩, hb⟩
def ResC (q : HQ) (l : List HAt) (base : Nat) (w : World) (u : Value) (c : Int) : Prop :=
  (¬ (QrV q ∧ FsV l) ∧ u = .slice none 0 0 ∧ c = 2) ∨ (QrV q ∧ FsV l ∧ Big l q.2 ∧ u = .slice none 0 0 ∧ c = 3) ∨ (QrV q ∧ FsV l ∧ ¬ Big l q.2 ∧ c = 0 ∧ ∃ R, OwnRows base w u R ∧ IsRes q l R)
theorem ResC.keep {q : HQ} {l : List HAt} {base : Nat} {w w' : World} {u : Value} {c : Int} (h : ResC q l base w u c) (hb : Below w.heap.size w w') : ResC q l base w' u c := by
  rcases h with h | h | ⟨h1, h2, h3, h4, R, h5, h6⟩
  · exact .inl h
  · exact .inr (.inl h)
  · exact .inr (.inr ⟨h1, h2, h3, h4, R, h5.keep hb, h6⟩)
/-- the rows that it returns -/
theorem ResC.rows {q : HQ} {l : List HAt} {base : Nat} {w : World} {u : Value} {c : Int} (h : ResC q l base w u c) : ∃ R, Rows w u R ∧ (c ≠ 0 → R = []) ∧ (c = 0 → IsRes q l R) := by
  have hn : Rows w (.slice none 0 0) [] := (ownRows_nil 0 w).rows
  rcases h with ⟨_, rfl, rfl⟩ | ⟨_, _, _, rfl, rfl⟩ | ⟨h1, h2, h3, rfl, R, h5, h6⟩
  · exact ⟨[], hn, fun _ => rfl, fun h => by omega⟩
  · exact ⟨[], hn, fun _ => rfl, fun h => by omega⟩
  · exact ⟨R, h5.rows, fun h => absurd rfl h, fun _ => h6⟩
theorem resC_any {q : HQ} {l : List HAt} (v u : Value) (w : World) (hq : Qr w v q) (hu : Atoms w u l) :
    Calls Try.prog 19 #[v, u] w fun e w' => ∃ a n k c, e = .returned (.tuple #[.slice a n k, .int .i64 c]) ∧ ResC q l w.heap.size w' (.slice a n k) c ∧ Below w.heap.size w w' :=
  (results_any v u w hq hu).mono fun e w' ⟨hE, hb⟩ => by
    rcases hE with ⟨h1, h2⟩ | ⟨h1, h2, h3, h4⟩ | ⟨h1, h2, h3, y, R, h4, h5, h6⟩
    · exact ⟨none, 0, 0, 2, h2, .inl ⟨h1, rfl, rfl⟩, hb⟩
    · exact ⟨none, 0, 0, 3, h4, .inr (.inl ⟨h1, h2, h3, rfl, rfl⟩), hb⟩
    · obtain ⟨a, k, rfl⟩ := h5.slice
      exact ⟨a, _, k, 0, h4, .inr (.inr ⟨h1, h2, h3, rfl, R, h5, h6⟩), hb⟩
def CntC (q : HQ) (l : List HAt) (n c : Int) : Prop :=
  (¬ (QrV q ∧ FsV l) ∧ n = 0 ∧ c = 2) ∨ (QrV q ∧ FsV l ∧ Big l q.2 ∧ n = 0 ∧ c = 3) ∨ (QrV q ∧ FsV l ∧ ¬ Big l q.2 ∧ c = 0 ∧ ∃ L : List (List Int), L.Nodup ∧ (∀ v, v ∈ L ↔ MaP l q.2 v) ∧ n = L.length)
theorem cntC_any {q : HQ} {l : List HAt} (v u : Value) (w : World) (hq : Qr w v q) (hu : Atoms w u l) :
    Calls Try.prog 23 #[v, u] w fun e w' => ∃ n c, e = .returned (.tuple #[.int .i64 n, .int .i64 c]) ∧ CntC q l n c ∧ Below w.heap.size w w' :=
  (count_any v u w hq hu).mono fun e w' ⟨hE, hb⟩ => by
    rcases hE with ⟨h1, h2⟩ | ⟨h1, h2, h3, h4⟩ | ⟨h1, h2, h3, L, l1, l2, h4⟩
    · exact ⟨0, 2, h2, .inl ⟨h1, rfl, rfl⟩, hb⟩
    · exact ⟨0, 3, h4, .inr (.inl ⟨h1, h2, h3, rfl, rfl⟩), hb⟩
    · exact ⟨L.length, 0, h4, .inr (.inr ⟨h1, h2, h3, rfl, L, l1, l2, rfl⟩), hb⟩
theorem ofC_any {q : HQ} (v : Value) (w : World) (hq : Qr w v q) :
    Calls Try.prog 20 #[v] w fun e w' => ∃ a n k a' n' k', e = .returned (.agg #[.slice a n k, .slice a' n' k']) ∧ OwnQr w.heap.size w' (.agg #[.slice a n k, .slice a' n' k']) (ofQ q) ∧ Below w.heap.size w w' :=
  (ofQ_any q v w hq).mono fun e w' ⟨v', he, ho, hb⟩ => by
    obtain ⟨h, b, rfl, h2, h3⟩ := ho
    obtain ⟨a, n, k, rfl⟩ := own_slice h2
    obtain ⟨a', k', rfl⟩ := Atoms.own h3
    exact ⟨a, n, k, a', _, k', he, ⟨_, _, rfl, h2, h3⟩, hb⟩
theorem facC_any {l : List HAt} (v : Value) (w : World) (hu : Atoms w v l) :
    Calls Try.prog 21 #[v] w fun e w' => ∃ a n k, e = .returned (.slice a n k) ∧ OwnAtoms 77 w.heap.size w' (.slice a n k) (ofF l) ∧ Below w.heap.size w w' :=
  (factsL_any l v w hu).mono fun e w' ⟨v', he, ho, hb⟩ => by
    obtain ⟨a', k', rfl⟩ := Atoms.own ho
    exact ⟨a', _, k', he, ho, hb⟩
#print axioms resC_any
end Go.Proofs.Ytfplmdieeabgpaa
