/- Contracts of the reference's try and Hom. -/
import Derived.Test.YtfplmdieeabgpaaIsh
import Derived.ArgAppend
import Derived.Deep.RegionLawGrows
namespace Go.Proofs.Ytfplmdieeabgpaa
open Go.RowKit
theorem wp_append_full {P : Program} {ops : Array Oper} {rest : List Oper} {o : Oper} {a : Act} {Q : Exit → Act → World → Prop} {w : World} (hgd : o.guard = none) (s x : Operand) (t : TypeId)
    (ho : o.op = .call { callee := .builtin .append, args := #[s, x], argTypes := #[t, t] }) {e : TypeId} {bytes : Nat} (he : Elem P t e 1 bytes)
    {ao : Option Addr} {n : Nat} (olds : List Value) (hs : a.eval s = .slice ao n n) (hnone : ao = none → n = 0) (hlo : olds.length = n) (holds : ∀ b, ao = some b → ∀ j u, olds[j]? = some u → w.cell? (b.add j) = some u)
    {g c : Nat} (y : Value) (hx : a.eval x = .slice (some ⟨g, 0, none⟩) 1 c) (hc : w.cell? ⟨g, 0, none⟩ = some y) (hn : n + 1 ≤ 100000000000)
    (h : ∀ v' w', w'.ownsRow w.heap.size e 1 v' (n + 1) (olds ++ [y]) → Below w.heap.size w w' → wpList P ops Q rest (a.put o.dst v') w') (h1 : y.oneCell' = true) : wpList P ops Q (o :: rest) a w := by
  obtain ⟨ht, i, z, hi, hz, h3, h4, hzs, hsz, hby⟩ := he
  have hbytes : (n + 1) * bytes ≤ 100000000000 * 1000 := Nat.mul_le_mul hn hby
  refine wpList_append_grows w hgd s x t ho e i z 1 bytes ht hi hz h3 h4 hzs hsz ao n n olds hs (fun h => ⟨hnone h, hnone h⟩) (by omega) holds ⟨g, 0, none⟩ 1 c [y] hx rfl (fun j u hj => ?_) (fun u hu => by simp at hu; rw [hu]; exact h1)
    (by omega) (by unfold maxLen; omega) (by omega) (fun v' w' h5 h6 => h v' w' h5 ⟨h6.os, h6.tape, h6.output, h6.size, fun k hk => h6.block k hk (by simp)⟩)
  match j with
  | 0 => rw [Addr.add_lit]; simp at hj; rw [← hj]; exact hc
  | j + 1 => simp at hj
theorem step_append_full {P : Program} {ops : Array Oper} {o : Oper} {a : Act} {K : Act → World → Prop} {Q : Exit → Act → World → Prop} {E : Prop} {w : World} (hgd : o.guard = none) (s x : Operand) (t : TypeId)
    (ho : o.op = .call { callee := .builtin .append, args := #[s, x], argTypes := #[t, t] }) {e : TypeId} {bytes : Nat} (he : Elem P t e 1 bytes)
    {ao : Option Addr} {n : Nat} (olds : List Value) (hs : a.eval s = .slice ao n n) (hnone : ao = none → n = 0) (hlo : olds.length = n) (holds : ∀ b, ao = some b → ∀ j u, olds[j]? = some u → w.cell? (b.add j) = some u)
    {g c : Nat} (y : Value) (hx : a.eval x = .slice (some ⟨g, 0, none⟩) 1 c) (hc : w.cell? ⟨g, 0, none⟩ = some y) (hn : n + 1 ≤ 100000000000)
    (h : ∀ v' w', w'.ownsRow w.heap.size e 1 v' (n + 1) (olds ++ [y]) → Below w.heap.size w w' → K (a.put o.dst v') w') (h1 : y.oneCell' = true) : if Region.wanted o (yielded ops a.tmps) = true then Oper.wp P o a w K Q else E := by
  obtain ⟨ht, i, z, hi, hz, h3, h4, hzs, hsz, hby⟩ := he
  have hbytes : (n + 1) * bytes ≤ 100000000000 * 1000 := Nat.mul_le_mul hn hby
  refine step_append_grows hgd s x t ho e i z 1 bytes ht hi hz h3 h4 hzs hsz ao n n olds hs (fun h => ⟨hnone h, hnone h⟩) (by omega) holds ⟨g, 0, none⟩ 1 c [y] hx rfl (fun j u hj => ?_) (fun u hu => by simp at hu; rw [hu]; exact h1)
    (by omega) (by unfold maxLen; omega) (by omega) (fun v' w' h5 h6 => h v' w' h5 ⟨h6.os, h6.tape, h6.output, h6.size, fun k hk => h6.block k hk (by simp)⟩)
  match j with
  | 0 => rw [Addr.add_lit]; simp at hj; rw [← hj]; exact hc
  | j + 1 => simp at hj
theorem ints_full {w : World} {a : Option Addr} {n cap : Nat} {l : List Int} (h : Ints w (.slice a n cap) l) : (a = none → n = 0) ∧ (l.map (Value.int .i64)).length = n ∧ ∀ b, a = some b → ∀ j u, (l.map (Value.int .i64))[j]? = some u → w.cell? (b.add j) = some u := by
  obtain ⟨a', b', off, cap', e, _, hia, hc⟩ := Ints.get h
  injection e with e1 e2 e3
  subst e1; subst e2; subst e3
  refine ⟨fun h => ?_, by simp, fun b hb j u hj => ?_⟩
  · rcases Nat.eq_zero_or_pos l.length with k | k
    · exact k
    · rw [hia k] at h; cases h
  · have hj2 : j < l.length := by
      rcases Nat.lt_or_ge j l.length with k | k
      · exact k
      · rw [List.getElem?_eq_none (by simpa using k)] at hj; cases hj
    rw [hia (by omega)] at hb
    injection hb with hb
    subst hb
    rw [Addr.add_lit, hc j hj2]
    rw [List.getElem?_map, List.getElem?_eq_getElem hj2] at hj
    exact hj
theorem run_fullS {P : Program} {t E : TypeId} {a : Option Addr} {len cap s : Nat} (ht : P.underlying t = some (.slice E))
    (hs : ∀ w, (sizeOf E).run P w = .ok s w) (hc : len ≤ cap) (w : World) :
    (Instr.slice t (.slice a len cap) none (some (.int .i64 len)) (some (.int .i64 len))).run P w = .ok (.slice a len len) w := by
  have he : P.elem t = E := by simp [Program.elem, ht]
  rw [run_slice_hm w t a len cap (by rw [he]; exact ht) .i64 .i64 len len (by omega) (by omega) (by omega), he, hs]
  simp only [Result.andThen, Int.toNat_natCast, sliced, Nat.sub_zero, Nat.zero_mul]
  have : a.map (fun x => x.add 0) = a := by cases a <;> simp [Addr.add_zero']
  rw [this]
  simp
/-- a compare with nil -/
theorem runneN (w : World) (a : Option Addr) (n c : Nat) : (binOp .neq 22 (.slice a n c) (.slice none 0 0)).run Try.prog w = .ok (.bool (!a.isNone)) w := runne_nil w a n c
set_option maxRecDepth 100000 in
set_option maxHeartbeats 16000000 in
theorem tryR_any {p q : HQ} (hpq : PairV p q) : ∀ (n : Nat) (c : List Int) (v u x : Value) (w : World), c.length + n = 8 → Qr w v p → Qr w u q → Ints w x c →
    Calls Try.prog 75 #[v, u, x] w fun e w' => ∃ a n k, e = .returned (.slice a n k) ∧ TryR p q c w' (.slice a n k) ∧ Below w.heap.size w w' := by
  intro n
  induction n with
  | zero =>
    intro c v u x w hcn hp hq hx
    obtain ⟨h0, b0, rfl, hh, hb⟩ := hp
    obtain ⟨h1, b1, rfl, hh1, hb1⟩ := hq
    have Hp := Lib.hid (show Qr w (.agg #[h0, b0]) p from ⟨_, _, rfl, hh, hb⟩)
    have Hq := Lib.hid (show Qr w (.agg #[h1, b1]) q from ⟨_, _, rfl, hh1, hb1⟩)
    obtain ⟨ha, hc, rfl⟩ := ints_slice hh
    obtain ⟨ba, bc, rfl⟩ := atoms_slice hb
    obtain ⟨ha1, hc1, rfl⟩ := ints_slice hh1
    obtain ⟨ba1, bc1, rfl⟩ := atoms_slice hb1
    obtain ⟨n0, hn0⟩ : ∃ x, x = p.1.length := ⟨_, rfl⟩
    obtain ⟨n1, hn1⟩ : ∃ x, x = p.2.length := ⟨_, rfl⟩
    obtain ⟨n2, hn2⟩ : ∃ x, x = q.1.length := ⟨_, rfl⟩
    obtain ⟨n3, hn3⟩ : ∃ x, x = q.2.length := ⟨_, rfl⟩
    rw [← hn0, ← hn1] at Hp
    rw [← hn2, ← hn3] at Hq
    rw [← hn0, ← hn1, ← hn2, ← hn3]
    obtain ⟨w1, hw1⟩ : ∃ x, x = w.alloc (.cells #[.slice ha n0 hc, .slice ba n1 bc] 25) := ⟨_, rfl⟩
    obtain ⟨w2, hw2⟩ : ∃ x, x = w1.alloc (.cells #[.slice ha1 n2 hc1, .slice ba1 n3 bc1] 25) := ⟨_, rfl⟩
    obtain ⟨bp, hbp⟩ : ∃ x, x = w.heap.size := ⟨_, rfl⟩
    obtain ⟨bq, hbq⟩ : ∃ x, x = bp + 1 := ⟨_, rfl⟩
    have HB := Lib.hid (B2.new hw1 hw2 hbp hbq)
    have Hw1 := Lib.hid hw1
    have Hw2 := Lib.hid hw2
    have Hbpe := Lib.hid hbp
    have Hbqe := Lib.hid hbq
    clear hh hb hh1 hb1 hw1 hw2 hbp hbq hn0 hn1 hn2 hn3
    have Hx := Lib.hid hx
    obtain ⟨xa, xb, xoff, xc, rfl, xle, xha, xhc⟩ := Ints.get hx
    obtain ⟨m, hm⟩ : ∃ x, x = c.length := ⟨_, rfl⟩
    rw [← hm] at Hx xha ⊢
    have Hm := Lib.hid hm
    obtain rfl : m = 8 := by omega
    obtain rfl := xha (by omega)
    have Hcn := Lib.hid (hm.symm)
    clear hx xle xha xhc hm hcn
    go_enter Try.func75, Try.ntmps75
    go_upto_region 1 with fail
    rw [← Hw1.out, ← Hw2.out, ← Hbpe.out, ← Hbqe.out]
    clear Hw1 Hw2
    obtain ⟨⟨g0, g1⟩, g2, g3⟩ := HB.out.cells
    have HIs := Lib.hid (isHomR_any hpq c _ _ _ w2 (Hp.out.keep HB.out.b) (Hq.out.keep HB.out.b) (Hx.out.keep HB.out.b))
    go_wp2_with fail
    refine HIs.out.mono ?_
    rintro e w3 ⟨B, rfl, hB, hb⟩
    have HBi := Lib.hid hB
    have HB := Lib.hid (HB.out.keep hb)
    clear hB hb g0 g1 g2 g3
    cases B
    · have HR := Lib.hid (show TryR p q c w3 (.slice none 0 0) from tryR_none Hcn.out fun h => (by have := HBi.out.2 h; cases this))
      go_wp2_with fail
      go_ret
      exact ⟨_, _, _, rfl, HR.out, HB.out.b⟩
    · have HR := Lib.hid (show TryR p q c w3 (.slice (some ⟨xb, xoff, none⟩) 8 xc) from tryR_full Hcn.out rfl (Hx.out.keep HB.out.b) (HBi.out.1 rfl))
      go_wp2_with fail
      go_ret
      exact ⟨_, _, _, rfl, HR.out, HB.out.b⟩
  | succ n ih =>
    intro c v u x w hcn hp hq hx
    obtain ⟨h0, b0, rfl, hh, hb⟩ := hp
    obtain ⟨h1, b1, rfl, hh1, hb1⟩ := hq
    have Hp := Lib.hid (show Qr w (.agg #[h0, b0]) p from ⟨_, _, rfl, hh, hb⟩)
    have Hq := Lib.hid (show Qr w (.agg #[h1, b1]) q from ⟨_, _, rfl, hh1, hb1⟩)
    obtain ⟨ha, hc, rfl⟩ := ints_slice hh
    obtain ⟨ba, bc, rfl⟩ := atoms_slice hb
    obtain ⟨ha1, hc1, rfl⟩ := ints_slice hh1
    obtain ⟨ba1, bc1, rfl⟩ := atoms_slice hb1
    obtain ⟨n0, hn0⟩ : ∃ x, x = p.1.length := ⟨_, rfl⟩
    obtain ⟨n1, hn1⟩ : ∃ x, x = p.2.length := ⟨_, rfl⟩
    obtain ⟨n2, hn2⟩ : ∃ x, x = q.1.length := ⟨_, rfl⟩
    obtain ⟨n3, hn3⟩ : ∃ x, x = q.2.length := ⟨_, rfl⟩
    rw [← hn0, ← hn1] at Hp
    rw [← hn2, ← hn3] at Hq
    rw [← hn0, ← hn1, ← hn2, ← hn3]
    obtain ⟨w1, hw1⟩ : ∃ x, x = w.alloc (.cells #[.slice ha n0 hc, .slice ba n1 bc] 25) := ⟨_, rfl⟩
    obtain ⟨w2, hw2⟩ : ∃ x, x = w1.alloc (.cells #[.slice ha1 n2 hc1, .slice ba1 n3 bc1] 25) := ⟨_, rfl⟩
    obtain ⟨bp, hbp⟩ : ∃ x, x = w.heap.size := ⟨_, rfl⟩
    obtain ⟨bq, hbq⟩ : ∃ x, x = bp + 1 := ⟨_, rfl⟩
    have HB := Lib.hid (B2.new hw1 hw2 hbp hbq)
    have Hw1 := Lib.hid hw1
    have Hw2 := Lib.hid hw2
    have Hbpe := Lib.hid hbp
    have Hbqe := Lib.hid hbq
    clear hh hb hh1 hb1 hw1 hw2 hbp hbq hn0 hn1 hn2 hn3
    have Hx := Lib.hid hx
    obtain ⟨xa, xb, xoff, xc, rfl, xle, xha, xhc⟩ := Ints.get hx
    obtain ⟨m, hm⟩ : ∃ x, x = c.length := ⟨_, rfl⟩
    rw [← hm] at Hx xha ⊢
    have Hm := Lib.hid hm
    have hm8 : m < 8 := by omega
    have hmx : m ≤ xc := by rw [hm]; exact Ints.cap (l := c) (by have := Hx.out; rw [hm] at this; exact this)
    have hsl : ∀ w, (Instr.slice 22 (.slice xa m xc) none (some (.int .i64 m)) (some (.int .i64 m))).run Try.prog w = .ok (.slice xa m m) w := fun w => run_fullS (E := 3) (s := 1) Try.underlying22 (by intro w; kernel_rfl) hmx w
    have Hlen := Lib.hid (show ∀ y : Int, (c ++ [y]).length + n = 8 from fun y => by rw [List.length_append, List.length_singleton]; omega)
    have Hih := Lib.hid ih
    have Hpq := Lib.hid hpq
    have Hme := Lib.hid hm8
    have hne8 : ((m : Int) == 8) = false := by rw [beq_eq_false_iff_ne]; omega
    have HX0 := Lib.hid hmx
    clear hx xle xha xhc hcn ih hmx
    have Hall := Lib.hid (show ∀ w', Below w.heap.size w w' → Calls Try.prog 58 #[.agg #[.slice ha n0 hc, .slice ba n1 bc]] w' fun e w'' => e = .returned (.int .i64 (vsQ p.2 : Nat)) ∧ Below w'.heap.size w' w'' from fun w' hw => by
      obtain ⟨_, _, e, _, h⟩ := Hp.out
      injection e with e
      have e2 := congrArg Array.toList e
      injection e2 with e3 e4
      injection e4 with e5 e6
      rw [← e5] at h
      exact allR_any p.2 (fun i hi t ht => ((Hpq.out.1.2.1 i hi).2.2 t ht).2) (.slice ha n0 hc) (.slice ba n1 bc) w' (h.keep hw))
    obtain ⟨V, hV⟩ : ∃ V, V = vsQ p.2 := ⟨_, rfl⟩
    have HVb := Lib.hid (fun i => show V.testBit i = true ↔ i < 8 ∧ occ p.2 i from by rw [hV]; exact vsQ_bit p.2 i)
    have HV256 : V < 256 := by rw [hV]; exact vsB_lt _ _
    rw [← hV] at Hall
    clear hV hm
    go_enter Try.func75, Try.ntmps75
    go_upto_region 1 with fail
    rw [← Hw1.out, ← Hw2.out, ← Hbpe.out, ← Hbqe.out]
    clear Hw1 Hw2
    obtain ⟨⟨g0, g1⟩, g2, g3⟩ := HB.out.cells
    have HAl := Lib.hid (Hall.out w2 HB.out.b)
    have hn0 : (0 : Int) ≤ (m : Int) := by omega
    have hn64 : (m : Int) < 64 := by omega
    go_wp2_with fail
    refine HAl.out.mono ?_
    rintro e w3 ⟨rfl, hb⟩
    have HB := Lib.hid (HB.out.keep hb)
    clear hb g0 g1 g2 g3
    have t1 := qshr_bit V m (by omega)
    obtain ⟨P, hP, p1, p2, p3⟩ := qpow_name m (by omega)
    rw [p1] at t1
    clear hP
    by_cases h2 : V.testBit m = true
    · rw [if_pos h2] at t1
      have Hocc := Lib.hid (show occ p.2 c.length from by rw [← Hm.out]; exact ((HVb.out m).1 h2).2)
      clear h2
      go_wp2_with fail
      clear t1 p1 p2 p3
      go_loopw [8] (fun vi wr => ∃ z : Int, vi = .int .i64 z ∧ -9 ≤ z ∧ z ≤ 8 ∧ Below w3.heap.size w3 wr ∧ NoLess p q c z) (fun vi _ => (8 - intOf vi).toNat)
      case atStart => exact ⟨-9, rfl, by omega, by omega, Below.refl _ _, noLess_0 Hpq.out.2.1 Hocc.out⟩
      case round =>
        generalize wr = wx at *
        obtain ⟨z, rfl, hz9, hz8, hb, hno⟩ := hrel
        have Hno := Lib.hid hno
        have HBx := Lib.hid (HB.out.keep hb)
        have Hb := Lib.hid hb
        clear hb hno
        by_cases hz : z ≤ 7
        · obtain ⟨w7, hw7⟩ : ∃ y, y = wx.alloc (.cells #[.int .i64 z] 3) := ⟨_, rfl⟩
          have hb : Below wx.heap.size wx w7 := by rw [hw7]; exact below_alloc _ _
          obtain ⟨bl, hbl⟩ : ∃ y, y = wx.heap.size := ⟨_, rfl⟩
          have HL := Lib.hid (show w7.heap[bl]? = some (.cells #[.int .i64 z] 3 (0, 0)) from by rw [hw7, hbl]; exact heap_alloc_new _ _)
          have HB7 := Lib.hid (HBx.out.keep hb)
          have Hb7 := Lib.hid (Below.tr Hb.out hb)
          have HF := Lib.hid (ints_full (Hx.out.keep HB7.out.b))
          have Hw7 := Lib.hid hw7
          have Hbl := Lib.hid hbl
          have hln : m + 1 ≤ 100000000000 := by omega
          clear hw7 hb hbl
          go_wp2_with (first | (at_builtin; rw [← Hw7.out, ← Hbl.out]; refine wp_append_full rfl (.tmp 42) (.tmp 44) 22 rfl elemInts (c.map (Value.int .i64)) rfl HF.out.1 HF.out.2.1 HF.out.2.2 (.int .i64 z) rfl (aCell HL.out 0 rfl) hln ?_ rfl; intro v9 w9 h91 h92; obtain ⟨pa, pn, pk, rfl⟩ := row_sliceI h91; have HI9 := Lib.hid (show Ints w9 (.slice pa pn pk) (c ++ [z]) from (OwnInts.snoc (by rw [Hm.out] at h91; exact h91)).ints); have HB9 := Lib.hid (HB7.out.keep h92); have Hb9 := Lib.hid (Below.tr Hb7.out h92); clear h91 h92; obtain ⟨⟨g0, g1⟩, g2, g3⟩ := HB9.out.cells))
          clear hsl
          have hsl : ∀ w, (Instr.slice 22 (.slice xa m xc) none (some (.int .i64 m)) (some (.int .i64 m))).run Try.prog w = .ok (.slice xa m m) w := fun w => run_fullS (E := 3) (s := 1) Try.underlying22 (by intro w; kernel_rfl) HX0.out w
          refine (possR_any Hpq.out (c ++ [z]) (by have := Hlen.out z; omega) _ _ _ w9 (Hp.out.keep HB9.out.b) (Hq.out.keep HB9.out.b) HI9.out).mono ?_
          rintro e w10 ⟨B, rfl, hB, hb⟩
          have HBi := Lib.hid hB
          have HI10 := Lib.hid (HI9.out.keep hb)
          have HB10 := Lib.hid (HB9.out.keep hb)
          have Hb10 := Lib.hid (Below.tr Hb9.out hb)
          clear hB hb g0 g1 g2 g3
          obtain ⟨⟨g0, g1⟩, g2, g3⟩ := HB10.out.cells
          cases B
          · have HN := Lib.hid (noLess_step (by rw [← Hm.out]; exact Hme.out) Hno.out fun h H hp => (by have := HBi.out.2 (poss_of Hpq.out.1 H hp); cases this))
            go_wp2_with fail
            go_roundw
            case rel => exact ⟨z + 1, by go_num, by omega, by omega, Hb10.out, HN.out⟩
            case measure => simp [intOf]; omega
          · go_wp2_with fail
            refine (Hih.out (c ++ [z]) _ _ _ w10 (Hlen.out z) (Hp.out.keep HB10.out.b) (Hq.out.keep HB10.out.b) HI10.out).mono ?_
            rintro e w11 ⟨ra, rn, rk, rfl, hT, hb⟩
            have HB11 := Lib.hid (HB10.out.keep hb)
            have Hb11 := Lib.hid (Below.tr Hb10.out hb)
            have HT := Lib.hid hT
            have hnn := runneN w11 ra rn rk
            clear hb hT g0 g1 g2 g3
            cases ra with
            | none =>
              have HN := Lib.hid (noLess_step (by rw [← Hm.out]; exact Hme.out) Hno.out (by
                rcases HT.out with h | ⟨_, _, _, _, h, _⟩
                · exact h.2
                · cases h))
              go_wp2_with fail
              go_roundw
              case rel => exact ⟨z + 1, by go_num, by omega, by omega, Hb11.out, HN.out⟩
              case measure => simp [intOf]; omega
            | some ra =>
              have HR := Lib.hid (tryR_found (by rw [← Hm.out]; exact Hme.out) Hno.out rfl HT.out)
              go_wp2_with fail
              go_ret
              exact ⟨_, _, _, rfl, HR.out, HB11.out.b⟩
        · have HR := Lib.hid (noLess_end Hpq.out.2.1 Hocc.out Hno.out (by omega) wx)
          go_wp2_with fail
          go_ret
          exact ⟨_, _, _, rfl, HR.out, HBx.out.b⟩
    · rw [if_neg h2] at t1
      have Hocc := Lib.hid (show ¬ occ p.2 c.length from by rw [← Hm.out]; exact fun h => h2 ((HVb.out m).2 ⟨Hme.out, h⟩))
      clear h2
      go_upto_region 7 with fail
      clear t1 p1 p2 p3
      try simp only [Act.put]
      go_cut [6] (fun o1 wc => ∃ ra rn rk, o1 = .slice ra rn rk ∧ TryR p q (c ++ [99]) wc (.slice ra rn rk) ∧ Below w3.heap.size w3 wc)
      case first =>
        have HS0 := Lib.hid (show Bx w3.drew bp (.slice ha n0 hc) (.slice ba n1 bc) ∧ Bx w3.drew bq (.slice ha1 n2 hc1) (.slice ba1 n3 bc1) from ⟨HB.out.p, HB.out.q⟩)
        have Hw0 := Lib.hid (show Below w.heap.size w w3.drew from HB.out.b.drew)
        have HW0 := Lib.hid (show Below w3.heap.size w3 w3.drew from (Below.refl _ _).drew)
        refine wp_region_held (S := fun w' => Bx w' bp (.slice ha n0 hc) (.slice ba n1 bc) ∧ Bx w' bq (.slice ha1 n2 hc1) (.slice ba1 n3 bc1)) wideK ?_
        change wpAnyH _ _ _ _ _ _ _ _ (World.drew _)
        generalize w3.drew = wd0 at *
        refine wpAnyH_take (i := 0) (v := ?_) rfl (by kernel_rfl) (by kernel_rfl) (by kernel_rfl) (fun _ _ _ h => h) (Or.inl ⟨by rfl, ?_⟩) HS0.out ?_
        rotate_left
        focus (intro w hS; have s0 := aCell hS.1 0 rfl; have s1 := aCell hS.1 1 rfl; clear hS; first | (go_simp; done) | (go_simp; with_reducible rfl))
        simp only [Act.put, List.getElem_toArray, List.getElem_cons_zero, List.setIfInBounds_toArray, List.set_cons_zero, List.set_cons_succ]
        refine wpAnyH_take (i := 1) (v := ?_) rfl (by kernel_rfl) (by kernel_rfl) (by kernel_rfl) (fun _ _ _ h => h) (Or.inl ⟨by rfl, ?_⟩) HS0.out ?_
        rotate_left
        focus (intro w hS; have s0 := aCell hS.2 0 rfl; have s1 := aCell hS.2 1 rfl; clear hS; first | (go_simp; done) | (go_simp; with_reducible rfl))
        simp only [Act.put, List.getElem_toArray, List.getElem_cons_zero, List.getElem_cons_succ, List.setIfInBounds_toArray, List.set_cons_zero, List.set_cons_succ]
        refine wpAnyH_take (i := 2) (v := ?_) rfl (by kernel_rfl) (by kernel_rfl) (by kernel_rfl) (fun _ _ _ h => h) (Or.inl ⟨by rfl, ?_⟩) HS0.out ?_
        rotate_left
        focus (intro w hS; clear hS; first | (go_simp; done) | (go_simp; with_reducible rfl))
        simp only [Act.put, List.getElem_toArray, List.getElem_cons_zero, List.getElem_cons_succ, List.setIfInBounds_toArray, List.set_cons_zero, List.set_cons_succ]
        refine wpAnyH_take (i := 3) (v := ?_) rfl (by kernel_rfl) (by kernel_rfl) (by kernel_rfl) (fun _ _ _ h => h) (Or.inl ⟨by rfl, ?_⟩) HS0.out ?_
        rotate_left
        focus (intro w hS; clear hS; first | (go_simp; done) | (go_simp; with_reducible rfl))
        simp only [Act.put, List.getElem_toArray, List.getElem_cons_zero, List.getElem_cons_succ, List.setIfInBounds_toArray, List.set_cons_zero, List.set_cons_succ]
        refine wpAnyH_take (i := 4) (v := ?_) rfl (by kernel_rfl) (by kernel_rfl) (by kernel_rfl) (fun _ _ _ h => h) (Or.inl ⟨by rfl, ?_⟩) HS0.out ?_
        rotate_left
        focus (intro w hS; clear hS; first | (go_simp; done) | (go_simp; with_reducible rfl))
        simp only [Act.put, List.getElem_toArray, List.getElem_cons_zero, List.getElem_cons_succ, List.setIfInBounds_toArray, List.set_cons_zero, List.set_cons_succ]
        refine wpAnyH_take (i := 5) (v := ?_) rfl (by kernel_rfl) (by kernel_rfl) (by kernel_rfl) (fun _ _ _ h => h) (Or.inl ⟨by rfl, ?_⟩) HS0.out ?_
        rotate_left
        focus (intro w hS; clear hS; first | (go_simp; done) | (go_simp; with_reducible rfl))
        simp only [Act.put, List.getElem_toArray, List.getElem_cons_zero, List.getElem_cons_succ, List.setIfInBounds_toArray, List.set_cons_zero, List.set_cons_succ]
        refine wpAnyH_ready (rs := [6]) (by kernel_rfl) (by simp) ?_
        refine RdyH.cons rfl (fun K2 hK => ?_) RdyH.nil
        obtain ⟨wd1, hwd1⟩ : ∃ y, y = wd0.alloc (.cells #[.int .i64 99] 3) := ⟨_, rfl⟩
        have hb : Below wd0.heap.size wd0 wd1 := by rw [hwd1]; exact below_alloc _ _
        obtain ⟨bl, hbl⟩ : ∃ y, y = wd0.heap.size := ⟨_, rfl⟩
        have HL := Lib.hid (show wd1.heap[bl]? = some (.cells #[.int .i64 99] 3 (0, 0)) from by rw [hwd1, hbl]; exact heap_alloc_new _ _)
        have HS1 := Lib.hid (And.intro (Bx.keep HS0.out.1 hb) (Bx.keep HS0.out.2 hb))
        have Hw1 := Lib.hid (Below.tr Hw0.out hb)
        have HW1 := Lib.hid (Below.tr HW0.out hb)
        have HF := Lib.hid (ints_full (Hx.out.keep Hw1.out))
        have Hwd1 := Lib.hid hwd1
        have Hbl := Lib.hid hbl
        clear hb hwd1 hbl
        go_simp
        rw [← Hwd1.out, ← Hbl.out]
        refine hK _ _ HS1.out ?_
        clear hK K2
        refine wpAnyH_ready (rs := [7]) (by kernel_rfl) (by simp) ?_
        refine RdyH.cons rfl (fun K2 hK => ?_) RdyH.nil
        refine step_append_full rfl (.tmp 31) (.tmp 32) 22 rfl elemInts (c.map (Value.int .i64)) rfl HF.out.1 HF.out.2.1 HF.out.2.2 (.int .i64 99) rfl (aCell HL.out 0 rfl) (by omega) ?_ rfl
        intro v9 wd2 h91 hb
        obtain ⟨pa, pn, pk, rfl⟩ := row_sliceI h91
        have HI9 := Lib.hid (show Ints wd2 (.slice pa pn pk) (c ++ [99]) from (OwnInts.snoc (by rw [Hm.out] at h91; exact h91)).ints)
        have HS2 := Lib.hid (And.intro (Bx.keep HS1.out.1 hb) (Bx.keep HS1.out.2 hb))
        have Hw2 := Lib.hid (Below.tr Hw1.out hb)
        have HW2 := Lib.hid (Below.tr HW1.out hb)
        clear h91 hb
        refine hK _ _ HS2.out ?_
        clear hK K2
        refine wpAnyH_ready (rs := [8]) (by kernel_rfl) (by simp) ?_
        refine RdyH.cons rfl (fun K2 hK => ?_) RdyH.nil
        go_simp
        go_at_call 75
        refine (Hih.out (c ++ [99]) _ _ _ wd2 (Hlen.out 99) (Hp.out.keep Hw2.out) (Hq.out.keep Hw2.out) HI9.out).mono ?_
        rintro e wd3 ⟨ra, rn, rk, rfl, hT, hb⟩
        have HT := Lib.hid hT
        have HS3 := Lib.hid (And.intro (Bx.keep HS2.out.1 hb) (Bx.keep HS2.out.2 hb))
        have Hw3 := Lib.hid (Below.tr Hw2.out hb)
        have HW3 := Lib.hid (Below.tr HW2.out hb)
        clear hT hb
        go_simp
        refine hK _ _ HS3.out ?_
        clear hK K2
        refine wpAnyH_take (i := 9) (v := ?_) rfl (by kernel_rfl) (by kernel_rfl) (by kernel_rfl) (fun _ _ _ h => h) (Or.inl ⟨by rfl, ?_⟩) HS3.out ?_
        rotate_left
        focus (intro w hS; clear hS; first | (go_simp; done) | (go_simp; with_reducible rfl))
        simp only [Act.put, List.getElem_toArray, List.getElem_cons_zero, List.getElem_cons_succ, List.setIfInBounds_toArray, List.set_cons_zero, List.set_cons_succ]
        refine wpAnyH_done (by kernel_rfl) ?_ _
        go_wp2_with fail
        go_meet
        exact ⟨ra, rn, rk, rfl, HT.out, HW3.out⟩
      case rest =>
        obtain ⟨ra, rn, rk, rfl, hT, hb⟩ := hcut
        generalize wc = w4 at *
        have HR := Lib.hid (tryR_skip (by rw [← Hm.out]; exact Hme.out) Hocc.out hT)
        have HB := Lib.hid (HB.out.keep hb)
        clear hb hT
        go_wp2_with fail
        go_ret
        exact ⟨_, _, _, rfl, HR.out, HB.out.b⟩
#print axioms tryR_any
end Go.Proofs.Ytfplmdieeabgpaa
