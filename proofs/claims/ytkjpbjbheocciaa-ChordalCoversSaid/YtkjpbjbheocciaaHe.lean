/- Contract of the reference's holed. -/
import Derived.Test.YtkjpbjbheocciaaHd
import Derived.ArgAppend
namespace Go.Proofs.Ytkjpbjbheocciaa
open Go.RowKit

/-- append to a slice without room: a block of its own -/
theorem append_full {P : Program} {ops : Array Oper} {rest : List Oper} {o : Oper} {a : Act} {Q : Exit → Act → World → Prop} {w : World} (hgd : o.guard = none) (s x : Operand) (t : TypeId)
    (ho : o.op = .call { callee := .builtin .append, args := #[s, x], argTypes := #[t, t] }) {e : TypeId} {bytes : Nat} (he : Elem P t e 1 bytes)
    {ad : Addr} {n : Nat} (olds : List Value) (hs : a.eval s = .slice (some ad) n n) (hlo : olds.length = n) (holds : ∀ j u, olds[j]? = some u → w.cell? (ad.add j) = some u)
    {g m c : Nat} (news : List Value) (hx : a.eval x = .slice (some ⟨g, 0, none⟩) m c) (hl : news.length = m) (hnews : ∀ j u, news[j]? = some u → w.cell? ⟨g, j, none⟩ = some u) (h1 : ∀ u ∈ news, u.oneCell' = true)
    (hm : 0 < m) (hn : n + m ≤ 100000000000)
    (h : ∀ v' w', w'.ownsRow w.heap.size e 1 v' (n + m) (olds ++ news) → Below w.heap.size w w' → wpList P ops Q rest (a.put o.dst v') w') : wpList P ops Q (o :: rest) a w := by
  obtain ⟨ht, i, z, hi, hz, h3, h4, hzs, hsz, hby⟩ := he
  have hbytes : (n + m) * bytes ≤ 100000000000 * 1000 := Nat.mul_le_mul hn hby
  exact wpList_append_grows w hgd s x t ho e i z 1 bytes ht hi hz h3 h4 hzs hsz (some ad) n n olds hs (fun h => by cases h) (by omega) (fun b hb => by injection hb with hb; subst hb; exact holds) ⟨g, 0, none⟩ m c news hx (by omega) (fun j u hj => by rw [Addr.add_lit, Nat.zero_add]; exact hnews j u hj) h1
    (by omega) (by unfold maxLen; omega) (by omega) (fun v' w' h5 h6 => h v' w' h5 ⟨h6.os, h6.tape, h6.output, h6.size, fun k hk => h6.block k hk (by simp)⟩)
theorem run_full {P : Program} {t E : TypeId} {a : Option Addr} {len cap s : Nat} (ht : P.underlying t = some (.slice E))
    (hs : ∀ w, (sizeOf E).run P w = .ok s w) (hc : len ≤ cap) (w : World) :
    (Instr.slice t (.slice a len cap) none (some (.int .i64 len)) (some (.int .i64 len))).run P w = .ok (.slice a len len) w := by
  have he : P.elem t = E := by simp [Program.elem, ht]
  rw [run_slice_hm w t a len cap (by rw [he]; exact ht) .i64 .i64 len len (by omega) (by omega) (by omega), he, hs]
  simp only [Result.andThen, Int.toNat_natCast, sliced, Nat.sub_zero, Nat.zero_mul]
  have : a.map (fun x => x.add 0) = a := by cases a <;> simp [Addr.add_zero']
  rw [this]
  simp
/-- node x may come next, as far as the nodes before j say -/
def OkTo (g : List Nat) (k : Nat) (l : List Nat) (x j : Nat) : Prop := ((nb g x).testBit (at' l (l.length - 1)) = true ∧ at' l 0 < x) ∧ ∀ i, i < j → x ≠ at' l i ∧ ¬ ((nb g x).testBit (at' l i) = true ∧ (0 < i ∨ l.length < k - 1))
instance (g : List Nat) (k : Nat) (l : List Nat) (x j : Nat) : Decidable (OkTo g k l x j) := inferInstanceAs (Decidable (_ ∧ ∀ i, i < j → _))
theorem okTo_0 {g : List Nat} {k : Nat} {l : List Nat} {x : Nat} : OkTo g k l x 0 ↔ ((nb g x).testBit (at' l (l.length - 1)) = true ∧ at' l 0 < x) := ⟨fun h => h.1, fun h => ⟨h, fun i hi => by omega⟩⟩
theorem okTo_keep {g : List Nat} {k : Nat} {l : List Nat} {x j : Nat} (h : x ≠ at' l j ∧ ¬ ((nb g x).testBit (at' l j) = true ∧ (0 < j ∨ l.length < k - 1))) : decide (OkTo g k l x (j + 1)) = decide (OkTo g k l x j) := by
  apply decide_eq_decide.2
  constructor
  · exact fun hh => ⟨hh.1, fun i hi => hh.2 i (by omega)⟩
  · refine fun hh => ⟨hh.1, fun i hi => ?_⟩
    by_cases e : i = j
    · subst e; exact h
    · exact hh.2 i (by omega)
theorem okTo_no {g : List Nat} {k : Nat} {l : List Nat} {x j : Nat} (h : ¬ (x ≠ at' l j ∧ ¬ ((nb g x).testBit (at' l j) = true ∧ (0 < j ∨ l.length < k - 1)))) : decide (OkTo g k l x (j + 1)) = false :=
  decide_eq_false fun hh => h (hh.2 j (by omega))
theorem nat_cast (l : List Nat) : nat' (castN l) = l := by
  unfold nat' castN
  rw [List.map_map]
  conv => rhs; rw [← List.map_id l]
  exact List.map_congr_left fun x _ => by simp
theorem isHole_cast {g : List Nat} {l : List Nat} {k : Nat} (hk : l.length = k) (h4 : 4 ≤ k) (hl : ∀ x ∈ l, x < g.length) : IsHoleI g (castN l) ↔ Hw g k l := by
  subst hk
  unfold IsHoleI
  rw [nat_cast, castN_length]
  constructor
  · exact fun h => h.2.2
  · refine fun h => ⟨h4, fun i hi => ?_, h⟩
    rw [castN_length] at hi
    have e : gI (castN l) i = (at' l i : Nat) := by
      simp [gI, castN, at', hi]
    rw [e]
    have := hl _ (mem_at.2 ⟨i, hi, rfl⟩)
    omega

set_option maxRecDepth 100000 in
set_option maxHeartbeats 8000000 in
theorem holed_any {g : List Nat} (hg : Gr g) {k : Nat} (h4 : 4 ≤ k) (hk12 : k ≤ 12) : ∀ (m : Nat) (l : List Nat) (v u : Value) (w : World), l.length + m = k → 1 ≤ l.length → (∀ x ∈ l, x < g.length) → Ints w v (castN g) → Ints w u (castN l) → (∃ a n c, u = .slice (some a) n c) →
    Calls Try.prog 78 #[v, u, .int .i64 k] w (HolePost (hr g k m l) w) := by
  intro m
  induction m with
  | zero =>
    intro l v u w hk h1 hl hv hu hs
    have Hih := Lib.hid (isHoleR_any hg (castN l) v u w hv hu)
    have Heq := Lib.hid (show decide (IsHoleI g (castN l)) = decide (Hw g k l) from decide_eq_decide.2 (isHole_cast (g := g) (l := l) (k := k) (by omega) h4 hl))
    obtain ⟨a, c, rfl⟩ := ints_slice hv
    obtain ⟨ad, n, cp, rfl⟩ := hs
    obtain ⟨-, hn⟩ := Rd.cap hu
    rw [castN_length] at hn
    have q : ((n : Int) == (k : Int)) = true := by rw [beq_iff_eq]; omega
    have Hu := Lib.hid hu
    by_cases hh : Hw g k l
    · have R := Lib.hid (show hr g k 0 l = some l by rw [hr, if_pos hh])
      have HI := Lib.hid (show decide (IsHoleI g (castN l)) = true by rw [Heq.out]; exact decide_eq_true hh)
      clear hu hv hn hk h1 hh hl Heq
      go_enter Try.func78, Try.ntmps78
      go_wp2_with fail
      refine Hih.out.mono ?_
      rintro e w' ⟨rfl, q1, rfl⟩
      rw [HI.out]
      go_wp2_with fail
      go_ret
      exact ⟨_, rfl, by rw [R.out]; exact ⟨⟨_, _, _, rfl⟩, Ints.keep Hu.out (bdrewN (Below.refl _ _) _)⟩, bdrewN (Below.refl _ _) _⟩
    · have R := Lib.hid (show hr g k 0 l = none by rw [hr, if_neg hh])
      have HI := Lib.hid (show decide (IsHoleI g (castN l)) = false by rw [Heq.out]; exact decide_eq_false hh)
      clear hu hv hn hk h1 hh hl Heq
      go_enter Try.func78, Try.ntmps78
      go_wp2_with fail
      refine Hih.out.mono ?_
      rintro e w' ⟨rfl, q1, rfl⟩
      rw [HI.out]
      go_wp2_with fail
      go_ret
      exact ⟨_, rfl, by rw [R.out]; rfl, bdrewN (Below.refl _ _) _⟩
  | succ m ih =>
    intro l v u w hk h1 hl hv hu hs
    have IH := Lib.hid ih
    have Hv := Lib.hid hv
    have Hu := Lib.hid hu
    obtain ⟨a, b, off, cap, rfl, hle, ha, hc⟩ := Ints.graph hv
    have hix := run_ix (P := Try.prog) (t := 23) (a := a) (len := g.length) (cap := cap) (b := b) (off := off) (s := 1) Try.underlying23 (by intro w; kernel_rfl) ha
    simp only [Nat.mul_one] at hix
    have hg12 := hg.le
    obtain ⟨a', b', off', cap', rfl, hle', ha', hc'⟩ := Ints.way hu
    have hcap := Ints.cap hu
    rw [castN_length] at hcap
    obtain rfl := ha' (by omega)
    obtain ⟨M, hM⟩ : ∃ M, l.length = M + 1 := ⟨l.length - 1, by omega⟩
    have hix' := run_ix (P := Try.prog) (t := 22) (a := some ⟨b', off', none⟩) (len := l.length) (cap := cap') (b := b') (off := off') (s := 1) Try.underlying22 (by intro w; kernel_rfl) (fun _ => rfl)
    have hixT := run_ix (P := Try.prog) (t := 22) (a := some ⟨b', off', none⟩) (len := M) (cap := cap') (b := b') (off := off') (s := 1) Try.underlying22 (by intro w; kernel_rfl) (fun _ => rfl)
    simp only [Nat.mul_one] at hix' hixT
    have htoM := fun w => run_to (P := Try.prog) (t := 22) (a := some ⟨b', off', none⟩) (len := l.length) (cap := cap') (s := 1) Try.underlying22 (by intro w; kernel_rfl) hcap M w (by omega)
    have hfull := run_full (P := Try.prog) (t := 22) (a := some ⟨b', off', none⟩) (len := l.length) (cap := cap') (s := 1) Try.underlying22 (by intro w; kernel_rfl) hcap
    have hix0 : ∀ w, 0 < l.length → (Instr.indexAt 22 (.slice (some ⟨b', off', none⟩) l.length cap') (.int .i64 0)).run Try.prog w = .ok (.pointer (some ⟨b', off', none⟩)) w := fun w h => by have := hix' 0 w h; simpa using this
    have hixM := hix' M
    have hl0 : 0 < l.length := by omega
    have hMl : M < l.length := by omega
    have hM12 : M < 12 := by omega
    have hlk : l.length < k := by omega
    have q : ((l.length : Int) == (k : Int)) = false := by rw [beq_eq_false_iff_ne]; omega
    have f1 : IntKind.i64.wrap ((l.length : Int) - 1) = (M : Int) := by rw [IntWalk.i64_in _ ⟨by omega, by omega⟩]; omega
    have f2 : IntKind.i64.wrap ((k : Int) - 1) = (k : Int) - 1 := by rw [IntWalk.i64_in _ ⟨by omega, by omega⟩]
    have Hc := Lib.hid hc
    have Hc' := Lib.hid hc'
    have Hix := Lib.hid hix
    have HixT := Lib.hid hixT
    have HL := Lib.hid hl
    have Hk := Lib.hid hk
    have HM := Lib.hid hM
    have Hlt := Lib.hid (show ∀ i, i < l.length → at' l i < 12 from fun i hi => by have := hl _ (mem_at.2 ⟨i, hi, rfl⟩); omega)
    obtain ⟨y0, hy0⟩ : ∃ y, y = at' l M := ⟨_, rfl⟩
    obtain ⟨f0, hf0⟩ : ∃ y, y = at' l 0 := ⟨_, rfl⟩
    have hy12 : y0 < 12 := by rw [hy0]; exact Hlt.out M hMl
    have hf12 : f0 < 12 := by rw [hf0]; exact Hlt.out 0 hl0
    have i01 : (0 : Int) ≤ (y0 : Int) := by omega
    have i02 : (y0 : Int) < 64 := by omega
    have Hok0 := Lib.hid (show ∀ x, OkTo g k l x 0 ↔ ((nb g x).testBit y0 = true ∧ f0 < x) from fun x => by rw [okTo_0, hy0, hf0, show l.length - 1 = M by omega])
    have HokM := Lib.hid (show ∀ x, decide (OkTo g k l x M) = decide (MayR g k l x) from fun x => decide_eq_decide.2 (by unfold OkTo MayR; rw [show l.length - 1 = M by omega]))
    have Hy0 := Lib.hid (show w.cell? ⟨b', off' + M, none⟩ = some (.int .i64 (y0 : Nat)) by rw [hy0]; exact hc' M hMl)
    have Hf0 := Lib.hid (show w.cell? ⟨b', off', none⟩ = some (.int .i64 (f0 : Nat)) by rw [hf0]; exact hc' 0 hl0)
    obtain ⟨F, hF⟩ : ∃ F : Nat → Option (List Nat), F = fun x => if MayR g k l x then hr g k m (l ++ [x]) else none := ⟨_, rfl⟩
    have HFl := Lib.hid (show hr g k (m + 1) l = ft F g.length by rw [hF]; rfl)
    have HFy := Lib.hid (show ∀ x, MayR g k l x → F x = hr g k m (l ++ [x]) from fun x h => by rw [hF]; exact if_pos h)
    have HFn := Lib.hid (show ∀ x, ¬ MayR g k l x → F x = none from fun x h => by rw [hF]; exact if_neg h)
    have Hln := Lib.hid (show ∀ x, x < g.length → ∀ y ∈ l ++ [x], y < g.length from fun x hx y hy => by
      rcases List.mem_append.1 hy with h | h
      · exact hl y h
      · rw [List.mem_singleton.1 h]; exact hx)
    have hneN := fun w' => run_neq_slice_nil_any (P := Try.prog) w' 22 3 none 0 0 0 0 Try.underlying22
    clear hv hu hc hc' hix hix' hixT hl hk hM hy0 hf0 hF ih hg hle hle' ha ha' h1
    go_enter Try.func78, Try.ntmps78
    go_wp2_with fail
    go_loopw [22] (fun i wr => ∃ x : Nat, i = .int .i64 x ∧ x ≤ g.length ∧ Below w.heap.size w wr ∧ ft F x = none) (fun i _ => g.length - (intOf i).toNat)
    case atStart => exact ⟨0, rfl, Nat.zero_le _, Below.refl _ _, rfl⟩
    case round =>
      obtain ⟨x, rfl, hx, hb, hin⟩ := hrel
      have Hb := Lib.hid hb
      have Hin := Lib.hid hin
      clear hb hin
      by_cases hlt : x < g.length
      · have hcx := Below.keep Hb.out (Hc.out x hlt)
        have hcy := Below.keep Hb.out Hy0.out
        have hcf := Below.keep Hb.out Hf0.out
        have hixx := Hix.out x
        obtain ⟨z, hz⟩ : ∃ z, z = nb g x := ⟨_, rfl⟩
        rw [← hz] at hcx
        have Hz := Lib.hid hz
        clear hz
        have HB1 := Lib.hid (show z.testBit y0 = true → decide (f0 < x) = decide (OkTo g k l x 0) from fun h => decide_eq_decide.2 (by rw [Hok0.out x, ← Hz.out, h]; simp))
        have HB2 := Lib.hid (show z.testBit y0 = false → false = decide (OkTo g k l x 0) from fun h => (decide_eq_false (by rw [Hok0.out x, ← Hz.out, h]; simp)).symm)
        have Hold := Lib.hid (show ∀ w', Below w.heap.size w w' → ∀ (i : Nat) u, ((castN l).map (Value.int .i64))[i]? = some u → w'.cell? ((⟨b', off', none⟩ : Addr).add i) = some u from fun w' hw i u hu => by
          simp only [castN, List.map_map, List.getElem?_map, Option.map_eq_some_iff] at hu
          obtain ⟨y, h1, rfl⟩ := hu
          have hi : i < l.length := by
            rcases Nat.lt_or_ge i l.length with h | h
            · exact h
            · rw [List.getElem?_eq_none h] at h1; cases h1
          have e : at' l i = y := by simp [at', h1]
          rw [Addr.add_lit]
          have := Below.keep hw (Hc'.out i hi)
          rw [e] at this
          exact this)
        have hix2 := Hix.out x
        cases hbit : z.testBit y0
        case' true =>
          have t1 := hasB_1 (s := z) (i := y0) (by rw [hasB_nat]; exact hbit)
          have HB0 := Lib.hid (HB1.out hbit)
        case' false =>
          have t1 := hasB_0 (s := z) (i := y0) (by rw [hasB_nat]; exact hbit)
          have HB0 := Lib.hid (HB2.out hbit)
        all_goals
          clear hbit
          go_wp2_with fail
          go_quiet (fail)
          clear hcx hcy hcf t1
          go_wp2_with fail
          go_loopw [8, 51] (fun s i wr => ∃ (j : Nat) (B : Bool), i = .int .i64 j ∧ s = .bool B ∧ j ≤ M ∧ Below w.heap.size w wr ∧ B = decide (OkTo g k l x j)) (fun _ i _ => M - (intOf i).toNat)
          case atStart => exact ⟨0, _, rfl, rfl, Nat.zero_le _, bdrewN Hb.out _, HB0.out⟩
          case round =>
            obtain ⟨j, B, rfl, rfl, hj, hb2, hB⟩ := hrel
            have Hb2 := Lib.hid hb2
            have HB := Lib.hid hB
            clear hb2 hB
            by_cases hltj : j < M
            · have hcj := Below.keep Hb2.out (Hc'.out j (by omega))
              have hcx2 := Below.keep Hb2.out (Hc.out x hlt)
              rw [← Hz.out] at hcx2
              have hixj := HixT.out j
              have hl12 := Hlt.out j (by omega)
              obtain ⟨y, hy⟩ : ∃ y, y = at' l j := ⟨_, rfl⟩
              rw [← hy] at hcj hl12
              have i1 : (0 : Int) ≤ (y : Int) := by omega
              have i2 : (y : Int) < 64 := by omega
              have Hstep := Lib.hid (show (x ≠ y ∧ ¬ (z.testBit y = true ∧ (0 < j ∨ l.length < k - 1))) → B = decide (OkTo g k l x (j + 1)) from fun h => by
                rw [okTo_keep (by rw [← hy, ← Hz.out]; exact h)]; exact HB.out)
              have Hstop := Lib.hid (show ¬ (x ≠ y ∧ ¬ (z.testBit y = true ∧ (0 < j ∨ l.length < k - 1))) → false = decide (OkTo g k l x (j + 1)) from fun h => by
                rw [okTo_no (by rw [← hy, ← Hz.out]; exact h)])
              clear hy
              by_cases hxy : x = y
              · have R := Lib.hid (Hstop.out fun h => h.1 hxy)
                have qx : ((x : Int) == (y : Int)) = true := by rw [beq_iff_eq]; omega
                clear hxy
                go_wp2_with fail
                go_roundw
                case rel => exact ⟨j + 1, _, by go_num, rfl, by omega, Hb2.out, R.out⟩
                case measure => simp [intOf]; omega
              · have qx : ((x : Int) == (y : Int)) = false := by rw [beq_eq_false_iff_ne]; omega
                cases hbit : z.testBit y with
                | false =>
                  have t1 := hasB_0 (s := z) (i := y) (by rw [hasB_nat]; exact hbit)
                  have R := Lib.hid (Hstep.out ⟨hxy, fun h => by rw [hbit] at h; cases h.1⟩)
                  clear hbit hxy
                  go_wp2_with fail
                  go_roundw
                  case rel => exact ⟨j + 1, _, by go_num, rfl, by omega, Hb2.out, R.out⟩
                  case measure => simp [intOf]; omega
                | true =>
                  have t1 := hasB_1 (s := z) (i := y) (by rw [hasB_nat]; exact hbit)
                  by_cases hj0 : 0 < j
                  · have R := Lib.hid (Hstop.out fun h => h.2 ⟨hbit, .inl hj0⟩)
                    clear hbit hxy
                    go_wp2_with fail
                    go_roundw
                    case rel => exact ⟨j + 1, _, by go_num, rfl, by omega, Hb2.out, R.out⟩
                    case measure => simp [intOf]; omega
                  · by_cases hk1 : l.length < k - 1
                    · have R := Lib.hid (Hstop.out fun h => h.2 ⟨hbit, .inr hk1⟩)
                      clear hbit hxy
                      go_wp2_with fail
                      go_roundw
                      case rel => exact ⟨j + 1, _, by go_num, rfl, by omega, Hb2.out, R.out⟩
                      case measure => simp [intOf]; omega
                    · have R := Lib.hid (Hstep.out ⟨hxy, fun h => by rcases h.2 with h | h <;> omega⟩)
                      clear hbit hxy
                      go_wp2_with fail
                      go_roundw
                      case rel => exact ⟨j + 1, _, by go_num, rfl, by omega, Hb2.out, R.out⟩
                      case measure => simp [intOf]; omega
            · obtain rfl : M = j := by omega
              by_cases hm : MayR g k l x
              · have hBt : B = true := by rw [HB.out, HokM.out x]; exact decide_eq_true hm
                subst hBt
                have HF1 := Lib.hid (HFy.out x hm)
                clear hm
                go_wp2_with (at_builtin; refine append_full rfl (.tmp 88) (.tmp 90) 22 rfl elemInts (ad := ⟨b', off', none⟩) (n := l.length) ((castN l).map (Value.int .i64)) rfl ?d1 ?d2 [.int .i64 x] rfl rfl ?c1 ?c2 (by decide) ?c3 ?_)
                case d1 => simp [castN]
                case d2 => exact Hold.out _ (Below.tr Hb2.out (below_alloc _ _))
                case c1 => intro j u hj; go_simp
                case c2 => intro u hu; simp at hu; subst hu; rfl
                case c3 => omega
                intro v' w4 h1' h2'
                have Hb4 := Lib.hid (show Below w.heap.size w w4 from (Below.tr Hb2.out (below_alloc _ _)).trans (h2'.mono (by have := Hb2.out.size; omega)))
                obtain ⟨na, nc, rfl⟩ := own_some h1' (by omega)
                have R4 := Lib.hid (show Ints w4 (.slice (some na) (l.length + 1) nc) (castN (l ++ [x])) by
                  rw [castN_append]
                  rw [← castN_length l] at h1' ⊢
                  exact OwnInts.ints (OwnInts.snoc h1'))
                clear h1' h2'
                go_wp2_with fail
                refine (IH.out (l ++ [x]) _ _ _ (by simp; have := Hk.out; omega) (by simp) (Hln.out x hlt) (Ints.keep Hv.out Hb4.out) R4.out ⟨_, _, _, rfl⟩).mono ?_
                rintro e w5 ⟨v5, rfl, hr5, hb5⟩
                have Hb5 := Lib.hid (Below.tr Hb4.out hb5)
                clear hb5
                cases hres : hr g k m (l ++ [x]) with
                | none =>
                  rw [hres] at hr5
                  have h5 : v5 = .slice none 0 0 := hr5
                  subst h5
                  have R := Lib.hid (show ft F (x + 1) = none by rw [ft_none Hin.out, HF1.out, hres])
                  clear hres hr5
                  go_wp2_with fail
                  go_roundw
                  case rel => exact ⟨x + 1, by go_num, by omega, Hb5.out, R.out⟩
                  case measure => simp [intOf]; omega
                | some r =>
                  rw [hres] at hr5
                  obtain ⟨⟨ra, rn, rc, rfl⟩, hri⟩ := hr5
                  have Hri := Lib.hid hri
                  have R := Lib.hid (show hr g k (m + 1) l = some r by rw [HFl.out]; exact ft_hit Hin.out (by rw [HF1.out, hres]) hlt)
                  have hneS := fun w' => run_neq_slice_nil_any (P := Try.prog) w' 22 3 (some ra) rn rc 0 0 Try.underlying22
                  clear hres hri
                  go_wp2_with fail
                  go_ret
                  exact ⟨_, rfl, by rw [R.out]; exact ⟨⟨_, _, _, rfl⟩, Hri.out⟩, Hb5.out⟩
              · have hBt : B = false := by rw [HB.out, HokM.out x]; exact decide_eq_false hm
                subst hBt
                have R := Lib.hid (show ft F (x + 1) = none by rw [ft_none Hin.out, HFn.out x hm])
                clear hm
                go_wp2_with fail
                go_roundw
                case rel => exact ⟨x + 1, by go_num, by omega, Hb2.out, R.out⟩
                case measure => simp [intOf]; omega
      · obtain rfl : x = g.length := by omega
        have R := Lib.hid (show hr g k (m + 1) l = none by rw [HFl.out]; exact Hin.out)
        go_wp2_with fail
        go_ret
        exact ⟨_, rfl, by rw [R.out]; rfl, Hb.out⟩
#print axioms holed_any
end Go.Proofs.Ytkjpbjbheocciaa
