/- Contracts of steps and ownSteps. -/
import Derived.Test.YtnidalbfmicoiaaWalkSa
import Derived.Test.YtnidalbfmicoiaaWalkF
import Derived.Deep.RegionHeld3
import Derived.Deep.DeepCutAuto
import Derived.Deep.AppendLies
namespace Go.Proofs.Ytnidalbfmicoiaa
open Go.RowKit

theorem hold5 {w w' : World} {a0 a1 a2 a3 a4 : Addr} {v0 v1 v2 v3 v4 : Value} (c0 : w.cell? a0 = some v0) (c1 : w.cell? a1 = some v1) (c2 : w.cell? a2 = some v2) (c3 : w.cell? a3 = some v3) (c4 : w.cell? a4 = some v4) (hb : Below w.heap.size w w') :
    w'.cell? a0 = some v0 ∧ w'.cell? a1 = some v1 ∧ w'.cell? a2 = some v2 ∧ w'.cell? a3 = some v3 ∧ w'.cell? a4 = some v4 :=
  ⟨Below.keep hb c0, Below.keep hb c1, Below.keep hb c2, Below.keep hb c3, Below.keep hb c4⟩
theorem far5 {w w1 w' : World} {row : Option Nat} {g : Nat} {v0 v1 v2 v3 v4 : Value} (c0 : w.cell? ⟨g, 0, none⟩ = some v0) (c1 : w.cell? ⟨g, 1, none⟩ = some v1) (c2 : w.cell? ⟨g, 2, none⟩ = some v2) (c3 : w.cell? ⟨g, 3, none⟩ = some v3) (c4 : w.cell? ⟨g, 4, none⟩ = some v4)
    (hb : Below w.heap.size w w1) (hg : w1.grownBy w' row) (hne : some g ≠ row) :
    w'.cell? ⟨g, 0, none⟩ = some v0 ∧ w'.cell? ⟨g, 1, none⟩ = some v1 ∧ w'.cell? ⟨g, 2, none⟩ = some v2 ∧ w'.cell? ⟨g, 3, none⟩ = some v3 ∧ w'.cell? ⟨g, 4, none⟩ = some v4 := by
  have hlt : g < w1.heap.size := Nat.lt_of_lt_of_le (cell_lt c0) hb.size
  have k := fun (j : Nat) => hg.cell_far ⟨g, j, none⟩ hlt hne
  exact ⟨(k 0).trans (Below.keep hb c0), (k 1).trans (Below.keep hb c1), (k 2).trans (Below.keep hb c2), (k 3).trans (Below.keep hb c3), (k 4).trans (Below.keep hb c4)⟩
theorem step_append_grown {P : Program} {ops : Array Oper} {o : Oper} {a : Act} {K : Act → World → Prop} {Q : Exit → Act → World → Prop} {w : World} {E : Prop} (hgd : o.guard = none) (s x : Operand) (t : TypeId)
    (ho : o.op = .call { callee := .builtin .append, args := #[s, x], argTypes := #[t, t] }) {e : TypeId} {size bytes : Nat} (he : Elem P t e size bytes)
    {base n : Nat} {v : Value} {xs : List Value} (hs : a.eval s = v) (hown : w.ownsRow base e size v n xs)
    {g m c : Nat} (news : List Value) (hx : a.eval x = .slice (some ⟨g, 0, none⟩) m c) (hl : news.length = m * size) (hnews : ∀ j u, news[j]? = some u → w.cell? ⟨g, j, none⟩ = some u) (h1 : ∀ u ∈ news, u.oneCell' = true)
    (hn : n + m ≤ 100000000000) (hbase : base ≤ w.heap.size)
    (h : ∀ v' w', w'.ownsRow base e size v' (n + m) (xs ++ news) → Below base w w' → w.grownBy w' v.ownBlock → K (a.put o.dst v') w') : if Region.wanted o (yielded ops a.tmps) = true then Oper.wp P o a w K Q else E := by
  have hw : Region.wanted o (yielded ops a.tmps) = true := by simp [Region.wanted, hgd]
  rw [if_pos hw]
  obtain ⟨ht, i, z, hi, hz, h3, h4, hzs, hsz, hby⟩ := he
  have hbytes : (n + m) * bytes ≤ 100000000000 * 1000 := Nat.mul_le_mul hn hby
  exact wp_append_own w s x t ho base e i z size bytes ht hi hz h3 h4 hzs hsz v n xs hs hown ⟨g, 0, none⟩ m c news hx hl (fun j u hj => by rw [Addr.add_lit, Nat.zero_add]; exact hnews j u hj) h1
    (by unfold maxLen; omega) (by omega) hbase (fun v' w' h5 h6 _ => h v' w' h5 (grown_below hown h6 hbase) h6)
set_option maxRecDepth 100000 in
theorem steps_any (l : List Stp) (v : Value) (w : World) (hv : Steps w v l) :
    Calls Try.prog 38 #[v] w fun e w' => ∃ v', e = .returned v' ∧ Steps w' v' (l.take 102) ∧ Below w.heap.size w w' := by
  obtain ⟨a, b, off, cap, rfl, hle, ha, -, hc⟩ := Steps.get hv
  have hix := run_ix (P := Try.prog) (t := 50) (a := a) (len := l.length) (cap := cap) (b := b) (off := off) (s := 5) Try.underlying50 (by intro w; kernel_rfl) ha
  have Hc := Lib.hid hc
  clear ha hv hc
  go_enter Try.func38, Try.ntmps38
  go_wp2
  go_loopw [3, 8] (fun o i wr => ∃ k : Nat, i = .int .i64 k ∧ k ≤ l.length ∧ k ≤ 102 ∧ Below w.heap.size w wr ∧ wr.ownsRow w.heap.size 53 5 o k (stepCells (l.take k))) (fun _ i _ => l.length - (intOf i).toNat)
  case atStart => exact ⟨0, rfl, Nat.zero_le _, by omega, Below.refl _ _, World.ownsRow_nil _ _ _ _⟩
  case round =>
    obtain ⟨k, rfl, hk, hk102, hb, hown⟩ := hrel
    have Hown := Lib.hid hown
    clear hown
    by_cases hlt : k < l.length
    · obtain ⟨hc1, hc2, hc3, hc4, hc5⟩ := Hc.out k hlt
      have hc1 := Below.keep hb hc1
      have hc2 := Below.keep hb hc2
      have hc3 := Below.keep hb hc3
      have hc4 := Below.keep hb hc4
      have hc5 := Below.keep hb hc5
      by_cases h102 : k < 102
      · have Hk := Lib.hid (stepCells_step l k hlt)
        generalize l[k] = s at *
        obtain ⟨r, i, j, f, t⟩ := s
        simp only at hc1 hc2 hc3 hc4 hc5
        go_upto_region 6 with fail
        have c0 := cell_new wr #[.int .i64 r, .int .i64 i, .int .i64 j, .int .i64 f, .int .i64 t] 107 0
        have c1 := cell_new wr #[.int .i64 r, .int .i64 i, .int .i64 j, .int .i64 f, .int .i64 t] 107 1
        have c2 := cell_new wr #[.int .i64 r, .int .i64 i, .int .i64 j, .int .i64 f, .int .i64 t] 107 2
        have c3 := cell_new wr #[.int .i64 r, .int .i64 i, .int .i64 j, .int .i64 f, .int .i64 t] 107 3
        have c4 := cell_new wr #[.int .i64 r, .int .i64 i, .int .i64 j, .int .i64 f, .int .i64 t] 107 4
        have hb0 := below_alloc wr (.cells #[.int .i64 r, .int .i64 i, .int .i64 j, .int .i64 f, .int .i64 t] 107)
        have Hne := Lib.hid (show some wr.heap.size ≠ u3.ownBlock from fun e => by have := Hown.out.lt _ e.symm; omega)
        have HO := Lib.hid (World.ownsRow.alloc Hown.out (.cells #[.int .i64 r, .int .i64 i, .int .i64 j, .int .i64 f, .int .i64 t] 107))
        generalize wr.alloc (.cells #[.int .i64 r, .int .i64 i, .int .i64 j, .int .i64 f, .int .i64 t] 107) = w0 at *
        have Hb0 := Lib.hid (hb.trans (hb0.mono hb.size))
        have hz := Hb0.out.size
        have C0 := Lib.hid c0
        have C1 := Lib.hid c1
        have C2 := Lib.hid c2
        have C3 := Lib.hid c3
        have C4 := Lib.hid c4
        clear hb0 c0 c1 c2 c3 c4 hc1 hc2 hc3 hc4 hc5 hb
        go_region_held3 (fun w' => w'.cell? ⟨wr.heap.size, 0, none⟩ = some (.int .i64 r) ∧ w'.cell? ⟨wr.heap.size, 1, none⟩ = some (.int .i64 i) ∧ w'.cell? ⟨wr.heap.size, 2, none⟩ = some (.int .i64 j) ∧ w'.cell? ⟨wr.heap.size, 3, none⟩ = some (.int .i64 f) ∧ w'.cell? ⟨wr.heap.size, 4, none⟩ = some (.int .i64 t))
          (first | exact far5 C0.out C1.out C2.out C3.out C4.out (Below.tr (Below.tr (Below.refl _ _).drew hb4) (below_alloc _ _)) hg5 Hne.out | (refine hold5 C0.out C1.out C2.out C3.out C4.out ?_; repeat (first | assumption | exact Below.refl _ _ | refine Below.drew ?_ | refine Below.tr ?_ (below_alloc _ _) | refine Below.tr ?_ (by assumption))))
          (first | (go_at_call 24; refine (dep_any _ _ _).mono ?_; rintro e w4 ⟨rfl, hb4⟩) | (refine step_append_grown (by rfl) (.tmp 15) (.tmp 26) 46 (by rfl) elem46 (by rfl) (owns_keep HO.out (Below.tr (Below.tr (Below.refl _ _).drew hb4) (below_alloc _ _))) [.int .i64 r, .int .i64 i, .int .i64 j, .int .i64 f, .int .i64 t] (by rfl) (by rfl) (by intro q u hq; go_simp) (by intro u hu; simp at hu; rcases hu with rfl | rfl | rfl | rfl | rfl <;> rfl) (by omega) (by have := hb4.size; simp at *; omega) ?_; intro v' w5 hown5 hb5 hg5))
        have H1 := Lib.hid (show w5.ownsRow w.heap.size 53 5 v' (k + 1) (stepCells (l.take (k + 1))) by rw [Hk.out]; exact hown5)
        have hb2 : Below w.heap.size w w5 := ((Hb0.out.trans ((Below.refl _ _).drew)).trans ((hb4.mono (by simp; omega)).trans ((below_alloc w4 _).mono (by have := hb4.size; simp at *; omega)))).trans hb5
        clear hown5 hb5 hg5 hb4
        go_wp2_with fail
        go_roundw
        case rel => exact ⟨k + 1, by go_num, by omega, by omega, hb2, H1.out⟩
        case measure => simp [intOf]; omega
      · have H := owns_rd Hown.out
        have he : k = 102 := by omega
        have hl : (l.take 102).length = k := by simp; omega
        have HF : Steps wr u3 (l.take 102) := by unfold Steps; rw [hl, ← he]; exact H
        have HF := Lib.hid HF
        clear hl H he
        go_wp2
        go_ret
        exact ⟨_, rfl, HF.out.keep (below_alloc _ _), hb.alloc hb.size _⟩
    · obtain rfl : k = l.length := by omega
      have H := owns_rd Hown.out
      have hl : l.take 102 = l.take l.length := by rw [List.take_of_length_le hk102, List.take_length]
      have HF : Steps wr u3 (l.take 102) := by rw [hl]; unfold Steps; simpa using H
      have HF := Lib.hid HF
      clear hl H
      go_wp2
      go_ret
      exact ⟨_, rfl, HF.out, hb⟩
end Go.Proofs.Ytnidalbfmicoiaa
