/- Contract of Core. -/
import Derived.Test.YtfplmdieeabgpaaCom
import Derived.Test.YtfplmdieeabgpaaLbx
namespace Go.Proofs.Ytfplmdieeabgpaa
open Go.RowKit
theorem own_len {B : Nat} {w : World} {a : Option Addr} {n c : Nat} {l : List Int} (h : OwnInts B w (.slice a n c) l) : n = l.length := by
  obtain ⟨_, _, e⟩ := ints_slice h.ints
  injection e
theorem own_someI {B : Nat} {w : World} {a : Option Addr} {n c : Nat} {l : List Int} (h : OwnInts B w (.slice a n c) l) (h0 : 0 < l.length) : ∃ b, a = some b := by
  rcases h.2 with ⟨_, h1⟩ | ⟨g, cap, cur, h1, _⟩
  · omega
  · injection h1 with h1; exact ⟨_, h1⟩
def CoreC (q : HQ) (B : Nat) (w : World) (u : Value) (c : Int) : Prop := (¬ QrV q ∧ u = .slice none 0 0 ∧ c = 2) ∨ (QrV q ∧ c = 0 ∧ ∃ L, CoreL q L ∧ OwnInts B w u (cz L))
theorem CoreC.keep {q : HQ} {B : Nat} {w w' : World} {u : Value} {c : Int} (h : CoreC q B w u c) (hb : Below w.heap.size w w') : CoreC q B w' u c := by
  rcases h with h | ⟨h1, h2, L, h3, h4⟩
  · exact .inl h
  · exact .inr ⟨h1, h2, L, h3, h4.keep hb⟩
/-- the best of the sets below k -/
def CoSt (q : HQ) (B : Nat) (w : World) (k : Nat) (u : Value) : Prop := (u = .slice none 0 0 ∧ ∀ S, 0 < S → S < k → ¬ Good q S) ∨
  (∃ a n c S, u = .slice (some a) n c ∧ 0 < S ∧ S < k ∧ Good q S ∧ OwnInts B w u (cz (chL S q.2.length)) ∧ ∀ S', 0 < S' → S' < k → Good q S' → LeL (chL S q.2.length) (chL S' q.2.length))
theorem CoSt.keep {q : HQ} {B : Nat} {w w' : World} {k : Nat} {u : Value} (h : CoSt q B w k u) (hb : Below w.heap.size w w') : CoSt q B w' k u := by
  rcases h with h | ⟨a, n, c, S, h1, h2, h3, h4, h5, h6⟩
  · exact .inl h
  · exact .inr ⟨a, n, c, S, h1, h2, h3, h4, h5.keep hb, h6⟩
theorem coSt_no {q : HQ} {B : Nat} {w : World} {k : Nat} {u : Value} (h : CoSt q B w k u) (hg : ¬ Good q k) : CoSt q B w (k + 1) u := by
  rcases h with ⟨h1, h2⟩ | ⟨a, n, c, S, h1, h2, h3, h4, h5, h6⟩
  · refine .inl ⟨h1, fun S s1 s2 => ?_⟩
    by_cases e : S = k
    · rw [e]; exact hg
    · exact h2 S s1 (by omega)
  · refine .inr ⟨a, n, c, S, h1, h2, by omega, h4, h5, fun T t1 t2 t3 => ?_⟩
    by_cases e : T = k
    · rw [e] at t3; exact absurd t3 hg
    · exact h6 T t1 (by omega) t3
theorem mem_two {S : Nat} (h : 0 < S) : ∃ i, mem' S i := by
  apply Classical.byContradiction
  intro hn
  have : S = 0 := by
    apply Nat.eq_of_testBit_eq
    intro i
    rw [Nat.zero_testBit]
    cases c : S.testBit i with
    | false => rfl
    | true => exact absurd ⟨i, c⟩ hn
  omega
theorem chL_pos {S n : Nat} (h0 : 0 < S) (hS : S < 2 ^ n) : 0 < (chL S n).length := by
  obtain ⟨i, hi⟩ := mem_two h0
  have hin : i < n := by
    rcases Nat.lt_or_ge i n with c | c
    · exact c
    · have := Nat.testBit_lt_two_pow (Nat.lt_of_lt_of_le hS (Nat.pow_le_pow_right (n := 2) (by decide) c))
      unfold mem' at hi
      rw [this] at hi
      cases hi
  have : i ∈ chL S n := (mem_chL n).2 ⟨hin, hi⟩
  exact List.length_pos_of_mem this
theorem coSt_new {q : HQ} {B : Nat} {w : World} {k : Nat} (h0 : 0 < k) (hk : k < 2 ^ q.2.length) {a : Option Addr} {n c : Nat} (ho : OwnInts B w (.slice a n c) (cz (chL k q.2.length))) (hg : Good q k) (h : (∀ S, 0 < S → S < k → ¬ Good q S) ∨ ∃ S, 0 < S ∧ LtL (chL k q.2.length) (chL S q.2.length) ∧ ∀ S', 0 < S' → S' < k → Good q S' → LeL (chL S q.2.length) (chL S' q.2.length)) : CoSt q B w (k + 1) (.slice a n c) := by
  obtain ⟨b, rfl⟩ := own_someI ho (by rw [cz_len]; exact chL_pos h0 hk)
  refine .inr ⟨b, n, c, k, rfl, h0, by omega, hg, ho, fun T t1 t2 t3 => ?_⟩
  by_cases e : T = k
  · rw [e]; exact leL_refl _
  · rcases h with h | ⟨S, s1, s2, s3⟩
    · exact absurd t3 (h T t1 (by omega))
    · exact leL_trans s2 (s3 T t1 (by omega) t3)
theorem coSt_old {q : HQ} {B : Nat} {w : World} {k S : Nat} {a : Addr} {n c : Nat} (h2 : 0 < S) (h3 : S < k) (h4 : Good q S) (h5 : OwnInts B w (.slice (some a) n c) (cz (chL S q.2.length))) (h6 : ∀ S', 0 < S' → S' < k → Good q S' → LeL (chL S q.2.length) (chL S' q.2.length)) (hn : ¬ LtL (chL k q.2.length) (chL S q.2.length)) : CoSt q B w (k + 1) (.slice (some a) n c) := by
  refine .inr ⟨a, n, c, S, rfl, h2, by omega, h4, h5, fun T t1 t2 t3 => ?_⟩
  by_cases e : T = k
  · rw [e]; exact leL_of_not hn
  · exact h6 T t1 (by omega) t3
theorem coSt_end {q : HQ} (hq : QrV q) {B : Nat} {w : World} {u : Value} (h : CoSt q B w (2 ^ q.2.length) u) : CoreC q B w u 0 := by
  have h1 : 0 < 2 ^ q.2.length - 1 := by
    have := Nat.pow_le_pow_right (n := 2) (by decide) hq.1.1
    omega
  rcases h with ⟨_, h⟩ | ⟨a, n, c, S, h1, h2, h3, h4, h5, h6⟩
  · exact absurd (good_full hq) (h _ h1 (by omega))
  · exact .inr ⟨hq, rfl, _, ⟨S, h2, h3, h4, rfl, h6⟩, h5⟩
theorem partQ_valid_len {q : HQ} {S : Nat} : (partQ q S).1.length = q.1.length := rfl
set_option maxRecDepth 100000 in
set_option maxHeartbeats 32000000 in
theorem core_any {q : HQ} (v : Value) (w : World) (hq : Qr w v q) :
    Calls Try.prog 38 #[v] w fun e w' => ∃ a n k c, e = .returned (.tuple #[.slice a n k, .int .i64 c]) ∧ CoreC q w.heap.size w' (.slice a n k) c ∧ Below w.heap.size w w' := by
  obtain ⟨h0, b0, rfl, hh, hb⟩ := hq
  have Hq := Lib.hid (show Qr w (.agg #[h0, b0]) q from ⟨_, _, rfl, hh, hb⟩)
  obtain ⟨ha, hc, rfl⟩ := ints_slice hh
  obtain ⟨ba, bc, rfl⟩ := atoms_slice hb
  obtain ⟨n0, hn0⟩ : ∃ x, x = q.1.length := ⟨_, rfl⟩
  obtain ⟨n1, hn1⟩ : ∃ x, x = q.2.length := ⟨_, rfl⟩
  rw [← hn0, ← hn1] at Hq
  rw [← hn0, ← hn1]
  have Hn1 := Lib.hid hn1
  obtain ⟨w1, hw1⟩ : ∃ x, x = w.alloc (.cells #[.slice ha n0 hc, .slice ba n1 bc] 33) := ⟨_, rfl⟩
  obtain ⟨bq, hbq⟩ : ∃ x, x = w.heap.size := ⟨_, rfl⟩
  have HB := Lib.hid (show Below w.heap.size w w1 from by rw [hw1]; exact below_alloc _ _)
  have HQ := Lib.hid (show w1.heap[bq]? = some (.cells #[.slice ha n0 hc, .slice ba n1 bc] 33 (0, 0)) from by rw [hbq, hw1]; exact heap_alloc_new _ _)
  have Hw1 := Lib.hid hw1
  have Hbq := Lib.hid hbq
  clear hh hb hw1 hbq hn0 hn1
  go_enter Try.func38, Try.ntmps38
  go_upto_region 1 with fail
  rw [← Hw1.out, ← Hbq.out]
  clear Hw1 Hbq
  have g0 := aCell HQ.out 0 rfl
  have g1 := aCell HQ.out 1 rfl
  by_cases hv : QrV q
  · have HV := Lib.hid (qryValid_any q _ w1 (Hq.out.keep HB.out) true (decide_eq_true hv))
    have Hv := Lib.hid hv
    have h5 : n1 ≤ 5 := by rw [Hn1.out]; exact hv.1.2.1
    have h1 : 1 ≤ n1 := by rw [Hn1.out]; exact hv.1.1
    clear hv
    go_wp2_with fail
    refine HV.out.mono ?_
    rintro e w2 ⟨rfl, hb⟩
    have HB2 := Lib.hid (Below.tr HB.out hb)
    have HQ2 := Lib.hid (blk_keep2 HQ.out hb)
    clear hb g0 g1
    go_wp2_with fail
    have Hsh := Lib.hid (qshl_one n1)
    have hp : 2 ^ n1 ≤ 32 := Nat.pow_le_pow_right (n := 2) (by decide) h5
    have hp1 : 2 ≤ 2 ^ n1 := Nat.pow_le_pow_right (n := 2) (i := 1) (by decide) h1
    obtain ⟨p, hpn⟩ : ∃ p, p = 2 ^ n1 := ⟨_, rfl⟩
    rw [← hpn] at Hsh hp hp1
    have Hpn := Lib.hid (show p = 2 ^ q.2.length from by rw [hpn, Hn1.out])
    clear hpn
    go_loopw [4, 5] (fun o vi wr => ∃ (k : Nat) (ca : Option Addr) (cn ck : Nat), o = .slice ca cn ck ∧ vi = .int .i64 k ∧ 1 ≤ k ∧ k ≤ p ∧ Below w2.heap.size w2 wr ∧ CoSt q w.heap.size wr k (.slice ca cn ck)) (fun _ vi _ => p - (intOf vi).toNat)
    case atStart => exact ⟨1, none, 0, 0, rfl, rfl, Nat.le_refl _, by omega, Below.refl _ _, .inl ⟨rfl, fun S s1 s2 => by omega⟩⟩
    case round =>
      generalize wr = wx at *
      obtain ⟨k, ca, cn, ck, rfl, rfl, hk1, hk, hb, hst⟩ := hrel
      have Hb := Lib.hid hb
      have HSt := Lib.hid hst
      clear hb hst
      have HQx := Lib.hid (blk_keep2 HQ2.out Hb.out)
      have g0 := aCell HQx.out 0 rfl
      have g1 := aCell HQx.out 1 rfl
      have hsh := Hsh.out
      have hw1 := wrap_nat p (by omega)
      have hn0 : (0 : Int) ≤ (n1 : Int) := by omega
      have hn64 : (n1 : Int) < 64 := by omega
      by_cases hlt : k < p
      · have hltI : (k : Int) < (p : Int) := by omega
        have HBw := Lib.hid (Below.tr HB2.out Hb.out)
        have HCh := Lib.hid (choose_any (q := q) (by rw [← Hn1.out]; exact h5) k (by omega) _ wx (Hq.out.keep HBw.out))
        have Hk0 := Lib.hid (show 0 < k by omega)
        have Hkp := Lib.hid (show k < 2 ^ q.2.length by rw [← Hpn.out]; exact hlt)
        go_wp2_with fail
        clear hsh hw1 hn0 hn64
        refine HCh.out.mono ?_
        rintro e w5 ⟨la, ln, lk, pa, pn, pc, qa, qn, qc, rfl, hO, hQ, hb⟩
        have HO := Lib.hid (hO.base HBw.out.size)
        have HP := Lib.hid (show Qr w5 (.agg #[.slice pa pn pc, .slice qa qn qc]) (partQ q k) from hQ)
        have Hb5 := Lib.hid (Below.tr Hb.out hb)
        have HSt5 := Lib.hid (HSt.out.keep hb)
        have HQ5 := Lib.hid (blk_keep2 HQx.out hb)
        have hln := own_len hO
        rw [cz_len] at hln
        have Hln := Lib.hid hln
        clear hO hQ hb g0 g1 HCh HSt hln
        obtain ⟨w6, hw6⟩ : ∃ x, x = w5.alloc (.cells #[.slice pa pn pc, .slice qa qn qc] 33) := ⟨_, rfl⟩
        have k6 : Below w5.heap.size w5 w6 := by rw [hw6]; exact below_alloc _ _
        obtain ⟨bp, hbp⟩ : ∃ x, x = w5.heap.size := ⟨_, rfl⟩
        have HX := Lib.hid (show w6.heap[bp]? = some (.cells #[.slice pa pn pc, .slice qa qn qc] 33 (0, 0)) from by rw [hbp, hw6]; exact heap_alloc_new _ _)
        have HO := Lib.hid (HO.out.keep k6)
        have HP := Lib.hid (HP.out.keep k6)
        have HSt := Lib.hid (HSt5.out.keep k6)
        have HQ6 := Lib.hid (blk_keep2 HQ5.out k6)
        have Hb6 := Lib.hid (Below.tr Hb5.out k6)
        have Hw6 := Lib.hid hw6
        have Hbp := Lib.hid hbp
        clear hw6 k6 hbp HSt5 HQ5 Hb5 HQx Hb
        go_upto_region 8 with fail
        rw [← Hw6.out, ← Hbp.out]
        clear Hw6 Hbp
        obtain ⟨w7, hw7⟩ : ∃ x, x = w6 := ⟨_, rfl⟩
        have x0 := aCell HX.out 0 rfl
        have x1 := aCell HX.out 1 rfl
        have q0 := aCell HQ6.out 0 rfl
        have q1 := aCell HQ6.out 1 rfl
        clear hw7
        try simp only [Act.put]
        have Hnil := Lib.hid (runeq_nil w6 ca cn ck)
        have hnil0 := Hnil.out
        have HCase := Lib.hid HSt.out
        rcases HCase.out with ⟨hu, hno⟩ | ⟨ca2, cn2, ck2, S, hu, s2, s3, s4, s5, s6⟩
        · injection hu with u1 u2 u3
          subst u1 u2 u3
          have HBet := Lib.hid (show (∀ S, 0 < S → S < k → ¬ Good q S) ∨ ∃ S, 0 < S ∧ LtL (chL k q.2.length) (chL S q.2.length) ∧ ∀ S', 0 < S' → S' < k → Good q S' → LeL (chL S q.2.length) (chL S' q.2.length) from .inl hno)
          clear hno HCase
          go_upto_region 9 with fail
          by_cases hpv : QrV (partQ q k)
          · have HVp := Lib.hid (qryValid_any (partQ q k) _ w6 HP.out true (decide_eq_true hpv))
            have Hpv := Lib.hid hpv
            clear hpv
            go_wp2_with fail
            refine HVp.out.mono ?_
            rintro e w8 ⟨rfl, hb⟩
            have HO := Lib.hid (HO.out.keep hb)
            have HP := Lib.hid (HP.out.keep hb)
            have HSt := Lib.hid (HSt.out.keep hb)
            have HX8 := Lib.hid (blk_keep2 HX.out hb)
            have HQ8 := Lib.hid (blk_keep2 HQ6.out hb)
            have Hb8 := Lib.hid (Below.tr Hb6.out hb)
            clear hb x0 x1 q0 q1
            have x0 := aCell HX8.out 0 rfl
            have x1 := aCell HX8.out 1 rfl
            have q0 := aCell HQ8.out 0 rfl
            have q1 := aCell HQ8.out 1 rfl
            have HHm := Lib.hid (hom_any Hv.out Hpv.out rfl _ _ w8 (Hq.out.keep (Below.tr HB2.out Hb8.out)) HP.out)
            go_wp2_with fail
            refine HHm.out.mono ?_
            rintro e w9 ⟨y, rfl, hF, hb⟩
            have HO := Lib.hid (HO.out.keep hb)
            have HSt := Lib.hid (HSt.out.keep hb)
            have Hb9 := Lib.hid (Below.tr Hb8.out hb)
            clear hb x0 x1 q0 q1
            have hnil := runne_nil
            rcases hF with ⟨rfl, hno⟩ | ⟨fg, fc, h, rfl, ho, hP, hmin⟩
            · have HN := Lib.hid (coSt_no HSt.out fun h => by
                obtain ⟨x, hx⟩ := h.2
                exact hno x hx)
              clear hno
              go_wp2_with fail
              go_roundw
              case rel => exact ⟨k + 1, _, _, _, rfl, by go_num, by omega, by omega, Hb9.out, HN.out⟩
              case measure => simp [intOf]; omega
            · have HN := Lib.hid (coSt_new Hk0.out Hkp.out HO.out ⟨Hpv.out, h, hP⟩ (HBet.out))
              clear ho hP hmin
              go_wp2_with fail
              go_roundw
              case rel => exact ⟨k + 1, _, _, _, rfl, by go_num, by omega, by omega, Hb9.out, HN.out⟩
              case measure => simp [intOf]; omega
          · have HVp := Lib.hid (qryValid_any (partQ q k) _ w6 HP.out false (decide_eq_false hpv))
            have HN := Lib.hid (fun (w' : World) (hb : Below w6.heap.size w6 w') => coSt_no (HSt.out.keep hb) fun h => hpv h.1)
            clear hpv
            go_wp2_with fail
            refine HVp.out.mono ?_
            rintro e w8 ⟨rfl, hb⟩
            have Hb8 := Lib.hid (Below.tr Hb6.out hb)
            have HN := Lib.hid (HN.out w8 hb)
            clear hb x0 x1 q0 q1
            go_wp2_with fail
            go_roundw
            case rel => exact ⟨k + 1, _, _, _, rfl, by go_num, by omega, by omega, Hb8.out, HN.out⟩
            case measure => simp [intOf]; omega
        · injection hu with u1 u2 u3
          subst u1 u2 u3
          have hcl := own_len s5
          rw [cz_len] at hcl
          have Hcl := Lib.hid hcl
          clear hcl
          have Hs6 := Lib.hid s6
          have Hs4 := Lib.hid s4
          have Hs5 := Lib.hid s5
          have HBetF := Lib.hid (fun (h : LtL (chL k q.2.length) (chL S q.2.length)) => show (∀ S, 0 < S → S < k → ¬ Good q S) ∨ ∃ S, 0 < S ∧ LtL (chL k q.2.length) (chL S q.2.length) ∧ ∀ S', 0 < S' → S' < k → Good q S' → LeL (chL S q.2.length) (chL S' q.2.length) from .inr ⟨S, s2, h, s6⟩)
          have HOldF := Lib.hid (fun (h : ¬ LtL (chL k q.2.length) (chL S q.2.length)) => coSt_old s2 s3 s4 s5 s6 h)
          clear s4 s5 s6 HCase
          by_cases c1 : ln < cn
          · have c1I : (ln : Int) < (cn : Int) := by omega
            have HBet := Lib.hid (HBetF.out (.inl (by have := Hln.out; have := Hcl.out; omega)))
            go_upto_region 9 with fail
            by_cases hpv : QrV (partQ q k)
            · have HVp := Lib.hid (qryValid_any (partQ q k) _ w6 HP.out true (decide_eq_true hpv))
              have Hpv := Lib.hid hpv
              clear hpv
              go_wp2_with fail
              refine HVp.out.mono ?_
              rintro e w8 ⟨rfl, hb⟩
              have HO := Lib.hid (HO.out.keep hb)
              have HP := Lib.hid (HP.out.keep hb)
              have HSt := Lib.hid (HSt.out.keep hb)
              have HX8 := Lib.hid (blk_keep2 HX.out hb)
              have HQ8 := Lib.hid (blk_keep2 HQ6.out hb)
              have Hb8 := Lib.hid (Below.tr Hb6.out hb)
              clear hb x0 x1 q0 q1
              have x0 := aCell HX8.out 0 rfl
              have x1 := aCell HX8.out 1 rfl
              have q0 := aCell HQ8.out 0 rfl
              have q1 := aCell HQ8.out 1 rfl
              have HHm := Lib.hid (hom_any Hv.out Hpv.out rfl _ _ w8 (Hq.out.keep (Below.tr HB2.out Hb8.out)) HP.out)
              go_wp2_with fail
              refine HHm.out.mono ?_
              rintro e w9 ⟨y, rfl, hF, hb⟩
              have HO := Lib.hid (HO.out.keep hb)
              have HSt := Lib.hid (HSt.out.keep hb)
              have Hb9 := Lib.hid (Below.tr Hb8.out hb)
              clear hb x0 x1 q0 q1
              have hnil := runne_nil
              rcases hF with ⟨rfl, hno⟩ | ⟨fg, fc, h, rfl, ho, hP, hmin⟩
              · have HN := Lib.hid (coSt_no HSt.out fun h => by
                  obtain ⟨x, hx⟩ := h.2
                  exact hno x hx)
                clear hno
                go_wp2_with fail
                go_roundw
                case rel => exact ⟨k + 1, _, _, _, rfl, by go_num, by omega, by omega, Hb9.out, HN.out⟩
                case measure => simp [intOf]; omega
              · have HN := Lib.hid (coSt_new Hk0.out Hkp.out HO.out ⟨Hpv.out, h, hP⟩ (HBet.out))
                clear ho hP hmin
                go_wp2_with fail
                go_roundw
                case rel => exact ⟨k + 1, _, _, _, rfl, by go_num, by omega, by omega, Hb9.out, HN.out⟩
                case measure => simp [intOf]; omega
            · have HVp := Lib.hid (qryValid_any (partQ q k) _ w6 HP.out false (decide_eq_false hpv))
              have HN := Lib.hid (fun (w' : World) (hb : Below w6.heap.size w6 w') => coSt_no (HSt.out.keep hb) fun h => hpv h.1)
              clear hpv
              go_wp2_with fail
              refine HVp.out.mono ?_
              rintro e w8 ⟨rfl, hb⟩
              have Hb8 := Lib.hid (Below.tr Hb6.out hb)
              have HN := Lib.hid (HN.out w8 hb)
              clear hb x0 x1 q0 q1
              go_wp2_with fail
              go_roundw
              case rel => exact ⟨k + 1, _, _, _, rfl, by go_num, by omega, by omega, Hb8.out, HN.out⟩
              case measure => simp [intOf]; omega
          · have c1I : ¬ (ln : Int) < (cn : Int) := by omega
            by_cases c2 : ln = cn
            · subst c2
              have c2I : ((ln : Int) == (ln : Int)) = true := by simp
              have HCm := Lib.hid (compare_any _ _ _ _ w6 HO.out.ints Hs5.out.ints)
              obtain ⟨C, hC⟩ : ∃ C, C = cmpL (cz (chL k q.2.length)) (cz (chL S q.2.length)) := ⟨_, rfl⟩
              rw [← hC] at HCm
              have HC := Lib.hid hC
              clear hC
              by_cases c3 : C < 0
              · have HBet := Lib.hid (HBetF.out (.inr ⟨by have := Hln.out; have := Hcl.out; omega, by rw [← HC.out]; exact c3⟩))
                go_wp2_with fail
                refine HCm.out.mono ?_
                rintro e w7 ⟨rfl, rfl⟩
                go_upto_region 9 with fail
                by_cases hpv : QrV (partQ q k)
                · have HVp := Lib.hid (qryValid_any (partQ q k) _ w6 HP.out true (decide_eq_true hpv))
                  have Hpv := Lib.hid hpv
                  clear hpv
                  go_wp2_with fail
                  refine HVp.out.mono ?_
                  rintro e w8 ⟨rfl, hb⟩
                  have HO := Lib.hid (HO.out.keep hb)
                  have HP := Lib.hid (HP.out.keep hb)
                  have HSt := Lib.hid (HSt.out.keep hb)
                  have HX8 := Lib.hid (blk_keep2 HX.out hb)
                  have HQ8 := Lib.hid (blk_keep2 HQ6.out hb)
                  have Hb8 := Lib.hid (Below.tr Hb6.out hb)
                  clear hb x0 x1 q0 q1
                  have x0 := aCell HX8.out 0 rfl
                  have x1 := aCell HX8.out 1 rfl
                  have q0 := aCell HQ8.out 0 rfl
                  have q1 := aCell HQ8.out 1 rfl
                  have HHm := Lib.hid (hom_any Hv.out Hpv.out rfl _ _ w8 (Hq.out.keep (Below.tr HB2.out Hb8.out)) HP.out)
                  go_wp2_with fail
                  refine HHm.out.mono ?_
                  rintro e w9 ⟨y, rfl, hF, hb⟩
                  have HO := Lib.hid (HO.out.keep hb)
                  have HSt := Lib.hid (HSt.out.keep hb)
                  have Hb9 := Lib.hid (Below.tr Hb8.out hb)
                  clear hb x0 x1 q0 q1
                  have hnil := runne_nil
                  rcases hF with ⟨rfl, hno⟩ | ⟨fg, fc, h, rfl, ho, hP, hmin⟩
                  · have HN := Lib.hid (coSt_no HSt.out fun h => by
                      obtain ⟨x, hx⟩ := h.2
                      exact hno x hx)
                    clear hno
                    go_wp2_with fail
                    go_roundw
                    case rel => exact ⟨k + 1, _, _, _, rfl, by go_num, by omega, by omega, Hb9.out, HN.out⟩
                    case measure => simp [intOf]; omega
                  · have HN := Lib.hid (coSt_new Hk0.out Hkp.out HO.out ⟨Hpv.out, h, hP⟩ (HBet.out))
                    clear ho hP hmin
                    go_wp2_with fail
                    go_roundw
                    case rel => exact ⟨k + 1, _, _, _, rfl, by go_num, by omega, by omega, Hb9.out, HN.out⟩
                    case measure => simp [intOf]; omega
                · have HVp := Lib.hid (qryValid_any (partQ q k) _ w6 HP.out false (decide_eq_false hpv))
                  have HN := Lib.hid (fun (w' : World) (hb : Below w6.heap.size w6 w') => coSt_no (HSt.out.keep hb) fun h => hpv h.1)
                  clear hpv
                  go_wp2_with fail
                  refine HVp.out.mono ?_
                  rintro e w8 ⟨rfl, hb⟩
                  have Hb8 := Lib.hid (Below.tr Hb6.out hb)
                  have HN := Lib.hid (HN.out w8 hb)
                  clear hb x0 x1 q0 q1
                  go_wp2_with fail
                  go_roundw
                  case rel => exact ⟨k + 1, _, _, _, rfl, by go_num, by omega, by omega, Hb8.out, HN.out⟩
                  case measure => simp [intOf]; omega
              · have HOld := Lib.hid (HOldF.out fun h => by
                  have := Hln.out
                  have := Hcl.out
                  rcases h with h | ⟨_, h⟩
                  · omega
                  · rw [← HC.out] at h; exact c3 h)
                go_wp2_with fail
                refine HCm.out.mono ?_
                rintro e w7 ⟨rfl, rfl⟩
                clear x0 x1 q0 q1
                go_wp2_with fail
                go_roundw
                case rel => exact ⟨k + 1, _, _, _, rfl, by go_num, by omega, by omega, Hb6.out, HOld.out⟩
                case measure => simp [intOf]; omega
            · have c2I : ((ln : Int) == (cn : Int)) = false := by rw [beq_eq_false_iff_ne]; omega
              have HOld := Lib.hid (HOldF.out fun h => by
                have := Hln.out
                have := Hcl.out
                rcases h with h | h
                · omega
                · omega)
              clear x0 x1 q0 q1
              go_wp2_with fail
              go_roundw
              case rel => exact ⟨k + 1, _, _, _, rfl, by go_num, by omega, by omega, Hb6.out, HOld.out⟩
              case measure => simp [intOf]; omega
      · obtain rfl : p = k := by omega
        have hltI : ¬ (p : Int) < (p : Int) := by omega
        have HE := Lib.hid (coSt_end Hv.out (by rw [← Hpn.out]; exact HSt.out))
        go_wp2_with fail
        go_ret2
        exact ⟨_, _, _, _, rfl, HE.out, Below.tr HB2.out Hb.out⟩
  · have HV := Lib.hid (qryValid_any q _ w1 (Hq.out.keep HB.out) false (decide_eq_false hv))
    have Hv := Lib.hid hv
    clear hv
    go_wp2_with fail
    refine HV.out.mono ?_
    rintro e w2 ⟨rfl, hb⟩
    have HB2 := Lib.hid (Below.tr HB.out hb)
    clear hb g0 g1
    go_wp2_with fail
    go_ret2
    exact ⟨none, 0, 0, 2, rfl, .inl ⟨Hv.out, rfl, rfl⟩, HB2.out⟩
#print axioms core_any
end Go.Proofs.Ytfplmdieeabgpaa
