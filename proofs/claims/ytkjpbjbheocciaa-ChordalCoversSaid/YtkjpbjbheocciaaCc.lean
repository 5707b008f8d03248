/- Contracts of the reference's Clique, coloured, Colours. -/
import Derived.Test.YtkjpbjbheocciaaCb
import Derived.Test.YtkjpbjbheocciaaGg
import Derived.Test.YtkjpbjbheocciaaHe
namespace Go.Proofs.Ytkjpbjbheocciaa
open Go.RowKit

set_option maxRecDepth 100000 in
set_option maxHeartbeats 4000000 in
theorem cliqueR_best {g : List Nat} (hg : Gr g) (v : Value) (w : World) (hv : Ints w v (castN g)) :
    Calls Try.prog 34 #[v] w fun e w' => e = .returned (.int .i64 (bestTo (isC g) (2 ^ g.length) : Nat)) ∧ ∃ q, w' = w.drewN q := by
  obtain ⟨a, c, rfl⟩ := ints_slice hv
  rw [castN_length] at hv ⊢
  have Hv := Lib.hid hv
  have HG := Lib.hid hg
  have hn12 := hg.le
  obtain ⟨F, hF, f1, f2, f3⟩ := pow_name g.length hn12
  rw [← hF]
  have hl1 : (0 : Int) ≤ (g.length : Int) := by omega
  have hl2 : (g.length : Int) < 64 := by omega
  clear hv hg hF
  go_enter Try.func34, Try.ntmps34
  go_wp2_with fail
  go_loopw [3, 8] (fun m i wr => ∃ k M : Nat, i = .int .i64 k ∧ m = .int .i64 M ∧ k ≤ F ∧ (∃ q, wr = w.drewN q) ∧ M = bestTo (isC g) k) (fun _ i _ => F - (intOf i).toNat)
  case atStart => exact ⟨0, 0, rfl, rfl, Nat.zero_le _, ⟨0, rfl⟩, rfl⟩
  case round =>
    obtain ⟨k, M, rfl, rfl, hk, ⟨q0, hwr⟩, hM⟩ := hrel
    have hMk : M ≤ k := by rw [hM]; exact bestTo_le _ _
    have HM := Lib.hid hM
    have Hwr := Lib.hid hwr
    have Hb := Lib.hid (show Below w.heap.size w wr by rw [hwr]; exact bdrewN (Below.refl _ _) _)
    clear hM hwr
    by_cases hlt : k < F
    · have hk4 : k < 4096 := by omega
      have hM4 : M < 4096 := by omega
      have hp1 := pop_le k
      have hp2 := pop_le M
      obtain ⟨x, hx⟩ : ∃ x, x = pop k := ⟨_, rfl⟩
      obtain ⟨y, hy⟩ : ∃ y, y = pop M := ⟨_, rfl⟩
      rw [← hx] at hp1
      rw [← hy] at hp2
      have Hx := Lib.hid (fun w => (hx ▸ size_any k hk4 w : Calls Try.prog 83 #[.int .i64 k] w fun e w' => e = .returned (.int .i64 x) ∧ w = w'))
      have Hy := Lib.hid (fun w => (hy ▸ size_any M hM4 w : Calls Try.prog 83 #[.int .i64 M] w fun e w' => e = .returned (.int .i64 y) ∧ w = w'))
      cases hq : isC g k with
      | true =>
        have Hq := Lib.hid (show decide (Cliq g k) = true from hq)
        by_cases hpop : x > y
        · have R := Lib.hid (best_hit (by rw [← HM.out, ← hx, ← hy]; exact hpop) hq).symm
          clear hx hy hq
          go_wp2_with fail
          refine (isCliqueR_b HG.out k true Hq.out hk4 _ _ (Ints.keep Hv.out Hb.out)).mono ?_
          rintro e w1 ⟨rfl, q1, hw1⟩
          have Hw1 := Lib.hid hw1
          clear hw1
          go_wp2_with fail
          refine (Hx.out _).mono ?_
          rintro e w' ⟨rfl, rfl⟩
          go_wp2_with fail
          refine (Hy.out _).mono ?_
          rintro e w' ⟨rfl, rfl⟩
          go_wp2_with fail
          go_roundw
          case rel => exact ⟨k + 1, k, by go_num, rfl, by omega, ⟨_, by rw [Hw1.out, Hwr.out, World.drewN_drewN]⟩, R.out⟩
          case measure => simp [intOf]; omega
        · have R := Lib.hid (show M = bestTo (isC g) (k + 1) by rw [best_miss (fun h => hpop (by have := h.1; rwa [← HM.out, ← hx, ← hy] at this))]; exact HM.out)
          clear hx hy hq
          go_wp2_with fail
          refine (isCliqueR_b HG.out k true Hq.out hk4 _ _ (Ints.keep Hv.out Hb.out)).mono ?_
          rintro e w1 ⟨rfl, q1, hw1⟩
          have Hw1 := Lib.hid hw1
          clear hw1
          go_wp2_with fail
          refine (Hx.out _).mono ?_
          rintro e w' ⟨rfl, rfl⟩
          go_wp2_with fail
          refine (Hy.out _).mono ?_
          rintro e w' ⟨rfl, rfl⟩
          go_wp2_with fail
          go_roundw
          case rel => exact ⟨k + 1, M, by go_num, rfl, by omega, ⟨_, by rw [Hw1.out, Hwr.out, World.drewN_drewN]⟩, R.out⟩
          case measure => simp [intOf]; omega
      | false =>
        have R := Lib.hid (show M = bestTo (isC g) (k + 1) by rw [best_miss (fun h => by rw [hq] at h; simp at h)]; exact HM.out)
        have Hq := Lib.hid (show decide (Cliq g k) = false from hq)
        clear hx hy hq
        go_wp2_with fail
        refine (isCliqueR_b HG.out k false Hq.out hk4 _ _ (Ints.keep Hv.out Hb.out)).mono ?_
        rintro e w1 ⟨rfl, q1, hw1⟩
        have Hw1 := Lib.hid hw1
        clear hw1
        go_wp2_with fail
        go_roundw
        case rel => exact ⟨k + 1, M, by go_num, rfl, by omega, ⟨_, by rw [Hw1.out, Hwr.out, World.drewN_drewN]⟩, R.out⟩
        case measure => simp [intOf]; omega
    · obtain rfl : k = F := by omega
      go_wp2_with fail
      go_ret
      exact ⟨by rw [← HM.out]; rfl, _, Hwr.out⟩

/-! ### the first colouring -/
/-- colour c fits the next node, as far as the nodes before j say -/
def FitTo (g : List Nat) (l : List Nat) (c j : Nat) : Prop := ∀ i, i < j → ¬ ((nb g l.length).testBit i = true ∧ c = at' l i)
instance (g : List Nat) (l : List Nat) (c j : Nat) : Decidable (FitTo g l c j) := inferInstanceAs (Decidable (∀ i, i < j → _))
theorem fit_step {g l : List Nat} {c j : Nat} : FitTo g l c (j + 1) ↔ FitTo g l c j ∧ ¬ ((nb g l.length).testBit j = true ∧ c = at' l j) := by
  constructor
  · exact fun h => ⟨fun i hi => h i (by omega), h j (by omega)⟩
  · rintro ⟨h1, h2⟩ i hi
    by_cases e : i = j
    · subst e; exact h2
    · exact h1 i (by omega)
/-- the first colouring with k colours that begins with l, to which m nodes are wanted -/
def cf (g : List Nat) (k : Nat) : Nat → List Nat → Option (List Nat)
  | 0, l => some l
  | m + 1, l => ft (fun c => if FitTo g l c l.length then cf g k m (l ++ [c]) else none) k
/-- append to a slice without room, or to nil -/
theorem append_full0 {P : Program} {ops : Array Oper} {rest : List Oper} {o : Oper} {a : Act} {Q : Exit → Act → World → Prop} {w : World} (hgd : o.guard = none) (s x : Operand) (t : TypeId)
    (ho : o.op = .call { callee := .builtin .append, args := #[s, x], argTypes := #[t, t] }) {e : TypeId} {bytes : Nat} (he : Elem P t e 1 bytes)
    {ao : Option Addr} {n : Nat} (olds : List Value) (hs : a.eval s = .slice ao n n) (hno : ao = none → n = 0) (hlo : olds.length = n) (holds : ∀ ad, ao = some ad → ∀ j u, olds[j]? = some u → w.cell? (ad.add j) = some u)
    {g m c : Nat} (news : List Value) (hx : a.eval x = .slice (some ⟨g, 0, none⟩) m c) (hl : news.length = m) (hnews : ∀ j u, news[j]? = some u → w.cell? ⟨g, j, none⟩ = some u) (h1 : ∀ u ∈ news, u.oneCell' = true)
    (hm : 0 < m) (hn : n + m ≤ 100000000000)
    (h : ∀ v' w', w'.ownsRow w.heap.size e 1 v' (n + m) (olds ++ news) → Below w.heap.size w w' → wpList P ops Q rest (a.put o.dst v') w') : wpList P ops Q (o :: rest) a w := by
  obtain ⟨ht, i, z, hi, hz, h3, h4, hzs, hsz, hby⟩ := he
  have hbytes : (n + m) * bytes ≤ 100000000000 * 1000 := Nat.mul_le_mul hn hby
  exact wpList_append_grows w hgd s x t ho e i z 1 bytes ht hi hz h3 h4 hzs hsz ao n n olds hs (fun h => ⟨hno h, hno h⟩) (by omega) holds ⟨g, 0, none⟩ m c news hx (by omega) (fun j u hj => by rw [Addr.add_lit, Nat.zero_add]; exact hnews j u hj) h1
    (by omega) (by unfold maxLen; omega) (by omega) (fun v' w' h5 h6 => h v' w' h5 ⟨h6.os, h6.tape, h6.output, h6.size, fun k hk => h6.block k hk (by simp)⟩)
set_option maxRecDepth 100000 in
set_option maxHeartbeats 8000000 in
theorem colouredR_any {g : List Nat} (hg : Gr g) {k : Nat} (hk12 : k ≤ 12) : ∀ (m : Nat) (l : List Nat) (v u : Value) (w : World), l.length + m = g.length → Ints w v (castN g) → Ints w u (castN l) →
    Calls Try.prog 84 #[v, u, .int .i64 k] w (HolePost (cf g k m l) w) := by
  intro m
  induction m with
  | zero =>
    intro l v u w hm hv hu
    have hpos := hg.pos
    have Hu := Lib.hid hu
    obtain ⟨a, c, rfl⟩ := ints_slice hv
    rw [castN_length] at hv ⊢
    obtain ⟨a', b', off', cap', rfl, hle', ha', hc'⟩ := Ints.way hu
    obtain rfl := ha' (by omega)
    have q : ((l.length : Int) == (g.length : Int)) = true := by rw [beq_iff_eq]; omega
    clear hv hu hc' ha' hm
    go_enter Try.func84, Try.ntmps84
    go_wp2_with fail
    go_ret
    exact ⟨_, rfl, ⟨⟨_, _, _, rfl⟩, Hu.out⟩, Below.refl _ _⟩
  | succ m ih =>
    intro l v u w hm hv hu
    have IH := Lib.hid ih
    have Hv := Lib.hid hv
    have Hu := Lib.hid hu
    obtain ⟨a, b, off, cap, rfl, hle, ha, hc⟩ := Ints.graph hv
    have hix := run_ix (P := Try.prog) (t := 23) (a := a) (len := g.length) (cap := cap) (b := b) (off := off) (s := 1) Try.underlying23 (by intro w; kernel_rfl) ha
    simp only [Nat.mul_one] at hix
    have hg12 := hg.le
    obtain ⟨a', b', off', cap', rfl, hle', ha', hc'⟩ := Ints.way hu
    have hcap := Ints.cap hu
    rw [castN_length] at hcap
    have hix' := run_ix (P := Try.prog) (t := 22) (a := a') (len := l.length) (cap := cap') (b := b') (off := off') (s := 1) Try.underlying22 (by intro w; kernel_rfl) ha'
    simp only [Nat.mul_one] at hix'
    have hfull := run_full (P := Try.prog) (t := 22) (a := a') (len := l.length) (cap := cap') (s := 1) Try.underlying22 (by intro w; kernel_rfl) hcap
    have hlg : l.length < g.length := by omega
    have q : ((l.length : Int) == (g.length : Int)) = false := by rw [beq_eq_false_iff_ne]; omega
    have hcl := hc l.length hlg
    have hixl := hix l.length
    obtain ⟨z, hz⟩ : ∃ z, z = nb g l.length := ⟨_, rfl⟩
    rw [← hz] at hcl
    have Hcl := Lib.hid hcl
    have Hc' := Lib.hid hc'
    have Hix' := Lib.hid hix'
    have Hm := Lib.hid hm
    have Hz := Lib.hid hz
    obtain ⟨F, hF⟩ : ∃ F : Nat → Option (List Nat), F = fun c => if FitTo g l c l.length then cf g k m (l ++ [c]) else none := ⟨_, rfl⟩
    have HFl := Lib.hid (show cf g k (m + 1) l = ft F k by rw [hF]; rfl)
    have HFy := Lib.hid (show ∀ x, FitTo g l x l.length → F x = cf g k m (l ++ [x]) from fun x h => by rw [hF]; exact if_pos h)
    have HFn := Lib.hid (show ∀ x, ¬ FitTo g l x l.length → F x = none from fun x h => by rw [hF]; exact if_neg h)
    have hneN := fun w' => run_neq_slice_nil_any (P := Try.prog) w' 22 3 none 0 0 0 0 Try.underlying22
    have Hnone := Lib.hid (show a' = none → l.length = 0 from fun h => by
      rcases Nat.eq_zero_or_pos l.length with e | e
      · exact e
      · rw [ha' e] at h; cases h)
    have Hold := Lib.hid (show ∀ w', Below w.heap.size w w' → ∀ ad, a' = some ad → ∀ (i : Nat) u, ((castN l).map (Value.int .i64))[i]? = some u → w'.cell? (ad.add i) = some u from fun w' hw ad had i u hu => by
      simp only [castN, List.map_map, List.getElem?_map, Option.map_eq_some_iff] at hu
      obtain ⟨y, h1, rfl⟩ := hu
      have hi : i < l.length := by
        rcases Nat.lt_or_ge i l.length with h | h
        · exact h
        · rw [List.getElem?_eq_none h] at h1; cases h1
      rw [ha' (by omega)] at had
      injection had with had
      subst had
      have e : at' l i = y := by simp [at', h1]
      rw [Addr.add_lit]
      have := Below.keep hw (hc' i hi)
      rw [e] at this
      exact this)
    clear hv hu hc hc' hix hix' hcl hz hF ih hg hle hle' ha ha' hm
    go_enter Try.func84, Try.ntmps84
    go_wp2_with fail
    go_loopw [21] (fun i wr => ∃ x : Nat, i = .int .i64 x ∧ x ≤ k ∧ Below w.heap.size w wr ∧ ft F x = none) (fun i _ => k - (intOf i).toNat)
    case atStart => exact ⟨0, rfl, Nat.zero_le _, Below.refl _ _, rfl⟩
    case round =>
      obtain ⟨x, rfl, hx, hb, hin⟩ := hrel
      have Hb := Lib.hid hb
      have Hin := Lib.hid hin
      clear hb hin
      by_cases hlt : x < k
      · go_wp2_with fail
        go_loopw [9, 26] (fun s i wr => ∃ (j : Nat) (B : Bool), i = .int .i64 j ∧ s = .bool B ∧ j ≤ l.length ∧ Below w.heap.size w wr ∧ B = decide (FitTo g l x j)) (fun _ i _ => l.length - (intOf i).toNat)
        case atStart => exact ⟨0, _, rfl, rfl, Nat.zero_le _, Hb.out, (decide_eq_true (fun i hi => by omega)).symm⟩
        case round =>
          obtain ⟨j, B, rfl, rfl, hj, hb2, hB⟩ := hrel
          have Hb2 := Lib.hid hb2
          have HB := Lib.hid hB
          clear hb2 hB
          by_cases hltj : j < l.length
          · have hcj := Below.keep Hb2.out (Hc'.out j hltj)
            have hcz := Below.keep Hb2.out Hcl.out
            have hixj := Hix'.out j
            obtain ⟨y, hy⟩ : ∃ y, y = at' l j := ⟨_, rfl⟩
            rw [← hy] at hcj
            have i1 : (0 : Int) ≤ (j : Int) := by omega
            have i2 : (j : Int) < 64 := by omega
            have Hst := Lib.hid (show ∀ b : Bool, (B = true → ((¬ (z.testBit j = true ∧ x = y)) ↔ b = true)) → (B && b) = decide (FitTo g l x (j + 1)) from fun b hb => by
              rw [Bool.eq_iff_iff, decide_eq_true_iff, fit_step, Bool.and_eq_true]
              have hBx : B = true ↔ FitTo g l x j := by rw [HB.out]; exact decide_eq_true_iff
              rw [← hBx, ← hy, ← Hz.out]
              constructor
              · rintro ⟨h1, h2⟩; exact ⟨h1, (hb h1).2 h2⟩
              · rintro ⟨h1, h2⟩; exact ⟨h1, (hb h1).1 h2⟩)
            clear hy
            cases B with
            | false =>
              have R := Lib.hid (Hst.out true (fun h => by cases h))
              go_wp2_with fail
              go_roundw
              case rel => exact ⟨j + 1, _, by go_num, rfl, by omega, Hb2.out, R.out⟩
              case measure => simp [intOf]; omega
            | true =>
              cases hbit : z.testBit j with
              | false =>
                have t1 := hasB_0 (s := z) (i := j) (by rw [hasB_nat]; exact hbit)
                have R := Lib.hid (Hst.out true (fun _ => by rw [hbit]; simp))
                clear hbit
                go_wp2_with fail
                go_roundw
                case rel => exact ⟨j + 1, _, by go_num, rfl, by omega, Hb2.out, R.out⟩
                case measure => simp [intOf]; omega
              | true =>
                have t1 := hasB_1 (s := z) (i := j) (by rw [hasB_nat]; exact hbit)
                by_cases hxy : x = y
                · have R := Lib.hid (Hst.out false (fun _ => by rw [hbit]; simp [hxy]))
                  have qx : ((x : Int) != (y : Int)) = false := by rw [bne_eq_false_iff_eq]; omega
                  clear hbit hxy
                  go_wp2_with fail
                  go_roundw
                  case rel => exact ⟨j + 1, _, by go_num, rfl, by omega, Hb2.out, R.out⟩
                  case measure => simp [intOf]; omega
                · have R := Lib.hid (Hst.out true (fun _ => by rw [hbit]; simp [hxy]))
                  have qx : ((x : Int) != (y : Int)) = true := by rw [bne_iff_ne]; omega
                  clear hbit hxy
                  go_wp2_with fail
                  go_roundw
                  case rel => exact ⟨j + 1, _, by go_num, rfl, by omega, Hb2.out, R.out⟩
                  case measure => simp [intOf]; omega
          · obtain rfl : j = l.length := by omega
            by_cases hm : FitTo g l x l.length
            · have hBt : B = true := by rw [HB.out]; exact decide_eq_true hm
              subst hBt
              have HF1 := Lib.hid (HFy.out x hm)
              clear hm
              go_wp2_with (at_builtin; refine append_full0 rfl (.tmp 53) (.tmp 55) 22 rfl elemInts (ao := a') (n := l.length) ((castN l).map (Value.int .i64)) rfl Hnone.out ?d1 ?d2 [.int .i64 x] rfl rfl ?c1 ?c2 (by decide) ?c3 ?_)
              case d1 => simp [castN]
              case d2 => exact Hold.out _ (Below.tr Hb2.out (below_alloc _ _))
              case c1 => intro j u hj; go_simp
              case c2 => intro u hu; simp at hu; subst hu; rfl
              case c3 => omega
              intro v' w4 h1' h2'
              have Hb4 := Lib.hid (show Below w.heap.size w w4 from (Below.tr Hb2.out (below_alloc _ _)).trans (h2'.mono (by have := Hb2.out.size; omega)))
              obtain ⟨na, nc, rfl⟩ := own_some h1' (by omega)
              have R4 := Lib.hid (show Ints w4 (.slice (some na) (l.length + 1) nc) (castN (l ++ [x])) by
                rw [castN_append]
                rw [← castN_length l] at h1' ⊢
                exact OwnInts.ints (OwnInts.snoc h1'))
              clear h1' h2'
              go_wp2_with fail
              refine (IH.out (l ++ [x]) _ _ _ (by simp; have := Hm.out; omega) (Ints.keep Hv.out Hb4.out) R4.out).mono ?_
              rintro e w5 ⟨v5, rfl, hr5, hb5⟩
              have Hb5 := Lib.hid (Below.tr Hb4.out hb5)
              clear hb5
              cases hres : cf g k m (l ++ [x]) with
              | none =>
                rw [hres] at hr5
                have h5 : v5 = .slice none 0 0 := hr5
                subst h5
                have R := Lib.hid (show ft F (x + 1) = none by rw [ft_none Hin.out, HF1.out, hres])
                clear hres hr5
                go_wp2_with fail
                go_roundw
                case rel => exact ⟨x + 1, by go_num, by omega, Hb5.out, R.out⟩
                case measure => simp [intOf]; omega
              | some r =>
                rw [hres] at hr5
                obtain ⟨⟨ra, rn, rc, rfl⟩, hri⟩ := hr5
                have Hri := Lib.hid hri
                have R := Lib.hid (show cf g k (m + 1) l = some r by rw [HFl.out]; exact ft_hit Hin.out (by rw [HF1.out, hres]) hlt)
                have hneS := fun w' => run_neq_slice_nil_any (P := Try.prog) w' 22 3 (some ra) rn rc 0 0 Try.underlying22
                clear hres hri
                go_wp2_with fail
                go_ret
                exact ⟨_, rfl, by rw [R.out]; exact ⟨⟨_, _, _, rfl⟩, Hri.out⟩, Hb5.out⟩
            · have hBt : B = false := by rw [HB.out]; exact decide_eq_false hm
              subst hBt
              have R := Lib.hid (show ft F (x + 1) = none by rw [ft_none Hin.out, HFn.out x hm])
              clear hm
              go_wp2_with fail
              go_roundw
              case rel => exact ⟨x + 1, by go_num, by omega, Hb2.out, R.out⟩
              case measure => simp [intOf]; omega
      · obtain rfl : x = k := by omega
        have R := Lib.hid (show cf g x (m + 1) l = none by rw [HFl.out]; exact Hin.out)
        go_wp2_with fail
        go_ret
        exact ⟨_, rfl, by rw [R.out]; rfl, Hb.out⟩
#print axioms cliqueR_best
#print axioms colouredR_any
end Go.Proofs.Ytkjpbjbheocciaa
