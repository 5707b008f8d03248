/- Contract of the reference's Key. -/
import Derived.Test.YtfplmdieeabgpaaPti
namespace Go.Proofs.Ytfplmdieeabgpaa
open Go.RowKit
theorem append_srcL {P : Program} {ops : Array Oper} {rest : List Oper} {o : Oper} {a : Act} {Q : Exit → Act → World → Prop} {w : World} (hgd : o.guard = none) (s x : Operand) (t : TypeId)
    (ho : o.op = .call { callee := .builtin .append, args := #[s, x], argTypes := #[t, t] }) {e : TypeId} {size bytes : Nat} (he : Elem P t e size bytes)
    {base n : Nat} {v : Value} {xs : List Value} (hs : a.eval s = v) (hown : w.ownsRow base e size v n xs)
    {u : Value} {m : Nat} {news : List Value} (hx : a.eval x = u) (hu : Src w u size m news) (h1 : ∀ u ∈ news, u.oneCell' = true)
    (hn : n + m ≤ 100000000000) (hbase : base ≤ w.heap.size)
    (h : ∀ v' w', w'.ownsRow base e size v' (n + m) (xs ++ news) → Below base w w' → w.grownBy w' v.ownBlock → wpList P ops Q rest (a.put o.dst v') w') : wpList P ops Q (o :: rest) a w :=
  wpList_plain hgd fun _ hK => wp_append_src s x t ho he hs hown hx hu h1 hn hbase fun v' w' h5 h6 h7 => hK _ _ (h v' w' h5 h6 h7)
set_option maxRecDepth 100000 in
set_option maxHeartbeats 2000000 in
theorem key_any (r : Int) (A : List Int) (hA : A.length ≤ 1000000) (u : Value) (w : World) (hu : Ints w u A) :
    Calls Try.prog 107 #[.agg #[.int .i64 r, u]] w fun e w' => ∃ a n k, e = .returned (.slice a n k) ∧ OwnInts w.heap.size w' (.slice a n k) (r :: A) ∧ Below w.heap.size w w' := by
  obtain ⟨ua, uc, rfl⟩ := ints_slice hu
  obtain ⟨un, hun⟩ : ∃ x, x = A.length := ⟨_, rfl⟩
  have Hun := Lib.hid hun
  rw [← hun] at hu hA ⊢
  obtain ⟨w1, hw1⟩ : ∃ x, x = w.alloc (.cells #[.int .i64 r, .slice ua un uc] 77) := ⟨_, rfl⟩
  have hb1 : Below w.heap.size w w1 := by rw [hw1]; exact below_alloc _ _
  have HG := Lib.hid (show w1.heap[w.heap.size]? = some (.cells #[.int .i64 r, .slice ua un uc] 77 (0, 0)) from by rw [hw1]; exact heap_alloc_new _ _)
  obtain ⟨w2, hw2⟩ : ∃ x, x = w1.alloc (.cells #[.int .i64 r] 3) := ⟨_, rfl⟩
  have hb2 : Below w1.heap.size w1 w2 := by rw [hw2]; exact below_alloc _ _
  obtain ⟨g, hg⟩ : ∃ x, x = w1.heap.size := ⟨_, rfl⟩
  have HR := Lib.hid (show w2.ownsRow w.heap.size 3 1 (.slice (some ⟨g, 0, none⟩) 1 1) 1 [.int .i64 r] from by
    rw [hw2, hg]; exact World.ownsRow_lit w1 #[.int .i64 r] 1 hb1.size (by unfold maxLen; omega) rfl)
  have HU := Lib.hid ((hu.keep hb1).keep hb2)
  have Hb := Lib.hid (Below.tr hb1 hb2)
  obtain ⟨ob, hob⟩ : ∃ x, x = w.heap.size := ⟨_, rfl⟩
  rw [← hob] at HG
  have g0 := aCell HG.out 0 rfl
  have g1 := aCell HG.out 1 rfl
  have g1' : (w1.alloc (.cells #[.int .i64 r] 3)).cell? ⟨ob, 1, none⟩ = some (.slice ua un uc) := by rw [← hw2]; exact Below.keep hb2 g1
  have Hw1 := Lib.hid hw1
  have Hw2 := Lib.hid hw2
  have Hob := Lib.hid hob
  have Hg := Lib.hid hg
  clear hu hb1 hb2 hw1 hw2 hun hob hg HG
  go_enter Try.func107, Try.ntmps107
  go_upto_region 1 with fail
  rw [← Hw1.out, ← Hob.out]
  go_wp2_with (first | (at_builtin; rw [← Hw2.out, ← Hg.out]; refine append_srcL rfl (.tmp 5) (.tmp 7) 22 rfl elemInts rfl HR.out rfl (Rd.src HU.out) (ints_oneCell A) (by rw [← Hun.out]; omega) Hb.out.size ?_; intro v' w3 h1 h2 h3))
  have HO := Lib.hid (show OwnInts w.heap.size w3 v' (r :: A) from by
    unfold OwnInts
    rw [List.length_cons, Nat.add_comm]; exact h1)
  have HB := Lib.hid (Hb.out.trans h2)
  obtain ⟨va, vn, vk, rfl⟩ := own_slice HO.out
  clear h1 h2 h3
  go_wp2_with fail
  go_ret
  exact ⟨va, vn, vk, rfl, HO.out, HB.out⟩
#print axioms key_any
end Go.Proofs.Ytfplmdieeabgpaa
