/- A builder of strings: WriteByte, WriteRune of ASCII. -/
import Derived.Test.YtbnlkmblkokooaaBld
import Derived.Lib.OthersKept
import Derived.Test.YtbnlkmblkokooaaRcom
namespace Go.Proofs.Ytbnlkmblkokooaa
open Go.RowKit
theorem elemBytes : Elem Try.prog 53 5 1 1 := elem_of (z := .int .u8 0) Try.underlying53 (by kernel_rfl) rfl (by omega) (by omega)
theorem bcells_len (l : Bs) : (Lib.byteCells l).length = l.length := by simp [Lib.byteCells]
theorem bcells_snoc (l : Bs) (c : UInt8) : Lib.byteCells (l ++ [c]) = Lib.byteCells l ++ [.int .u8 c.toNat] := by simp [Lib.byteCells]
theorem own_kind {w : World} {B : Nat} {e : TypeId} {v : Value} {n : Nat} {xs : List Value} (h : w.ownsRow B e 1 v n xs) : ∀ g, v.ownBlock = some g → ∃ c fz, w.heap[g]? = some (.cells c e fz) := by
  intro g hg
  rcases h.2 with ⟨rfl, _⟩ | ⟨g', cap, cur, rfl, _, hgg, _⟩
  · simp [Value.ownBlock] at hg
  · simp [Value.ownBlock] at hg
    subst hg
    exact ⟨cur, _, hgg⟩
/-- what a write leaves -/
def WrPost (B b : Nat) (l : Bs) (w : World) (v : Value) (e : Ending) (w' : World) : Prop := e = .returned v ∧ Bld B b l w' ∧ Below B w w' ∧ Lib.OthersKept 5 (some b) w w'
set_option maxHeartbeats 2000000 in
set_option maxRecDepth 100000 in
theorem wbyte_any (B b : Nat) (l : Bs) (c : UInt8) (w : World) (h : Bld B b l w) (hl : l.length ≤ 1000000) (hBw : B ≤ w.heap.size) :
    Calls Try.prog 80 #[.pointer (some ⟨b, 0, none⟩), .int .u8 c.toNat] w (WrPost B b (l ++ [c]) w .nilIface) := by
  have HC := Lib.hid (check_any2 B b (Lib.byteCells l) w h)
  have HL := Lib.hid (bcells_len l)
  obtain ⟨n, hn⟩ : ∃ n, n = l.length := ⟨_, rfl⟩
  have hn1 : n ≤ 1000000 := by omega
  have HN := Lib.hid hn
  clear h hl hn
  go_enter Try.func80, Try.ntmps80
  go_wp2_with fail
  refine HC.out.mono ?_
  rintro e w1 ⟨rfl, ⟨hB, v, hbk, hown, hne⟩, hb1, hk1⟩
  have c1 : w1.cell? ⟨b, 1, none⟩ = some v := by rw [Lib.cell_of_heap hbk]; rfl
  have hlt : b < w1.heap.size := (Array.getElem?_eq_some_iff.1 hbk).1
  have hB1 := hb1.size
  rw [HL.out, ← HN.out] at hown
  have Hbk := Lib.hid hbk
  have Hown := Lib.hid hown
  have Hne := Lib.hid hne
  have Hb1 := Lib.hid hb1
  have Hk1 := Lib.hid hk1
  clear hbk hown hne hb1 hk1
  go_wp2_with (at_builtin; refine append_own rfl (.tmp 11) (.tmp 13) 53 rfl elemBytes rfl (Hown.out.alloc _) [.int .u8 c.toNat] rfl rfl ?c1 ?c2 ?c3 ?c4 ?_)
  case c1 => intro q u hq; exact new_one _ _ _ hq
  case c2 => intro u hu; simp at hu; subst hu; rfl
  case c3 => omega
  case c4 => simp; omega
  intro v' w2 hown' hb2 hgrow
  have hbk2 : w2.heap[b]? = some (.cells #[.pointer (some ⟨b, 0, none⟩), v] 63 (0, 0)) := by
    rw [hgrow.block b (by simp; omega) (fun e => Hne.out e.symm), Lib.alloc_old w1 _ b hlt]
    exact Hbk.out
  have hk2 : Lib.OthersKept 5 (some b) w w2 := (Hk1.out.alloc _).grown hgrow (own_kind (Hown.out.alloc _))
  have d1 : w2.cell? ⟨b, 1, none⟩ = some v := by rw [Lib.cell_of_heap hbk2]; rfl
  have f1 : w2.frozen? ⟨b, 1, none⟩ = false := Lib.frozen_of_heap hbk2 1
  obtain ⟨g, cap, rfl⟩ : ∃ g cap, v' = .slice (some ⟨g, 0, none⟩) (n + 1) cap := by
    rcases hown'.2 with ⟨_, h0⟩ | ⟨g, cap, cur, hv, _⟩
    · omega
    · exact ⟨g, cap, hv⟩
  have Hfin := Lib.hid (show Bld B b (l ++ [c]) (w2.setCell ⟨b, 1, none⟩ (.slice (some ⟨g, 0, none⟩) (n + 1) cap)) from by
    refine Or.inr (Lib.BuilderAt.put hB hbk2 (bs' := Lib.byteCells (l ++ [c])) ?_ (by decide))
    rw [bcells_len, bcells_snoc, List.length_append, List.length_singleton, ← HN.out]
    exact hown')
  have Hb3 := Lib.hid (show Below B w w2 from (Hb1.out.alloc (by omega) _).trans hb2)
  have Hk2 := Lib.hid hk2
  clear hown' hb2 hgrow hbk2 hk2
  go_wp2
  go_ret
  exact ⟨rfl, Hfin.out, Hb3.out.setCell (p := ⟨b, 1, none⟩) hB _, Hk2.out.setCell ⟨b, 1, none⟩ rfl _⟩
#print axioms wbyte_any
end Go.Proofs.Ytbnlkmblkokooaa
