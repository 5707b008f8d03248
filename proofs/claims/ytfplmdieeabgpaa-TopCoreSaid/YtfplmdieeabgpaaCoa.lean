/- Math: cores. Contract of Core. Math: the core of a core; a core's results. -/
import Derived.Test.YtfplmdieeabgpaaCho
import Derived.Test.YtfplmdieeabgpaaHmb
import Derived.Test.YtfplmdieeabgpaaLbx
import Derived.Test.YtfplmdieeabgpaaRsl
namespace Go.Proofs.Ytfplmdieeabgpaa
open Go.RowKit
theorem occ_dec (body : List At') (i : Nat) : occ body i ∨ ¬ occ body i := Classical.em _
/-- a query whose atoms are atoms of another one has the identity -/
noncomputable def idH (p : HQ) : List Int := (List.range 8).map fun i => @ite _ (occ p.2 i) (Classical.propDecidable _) (i : Int) 99
theorem idH_at {p : HQ} {i : Nat} (hi : i < 8) : (idH p).getD i 0 = @ite _ (occ p.2 i) (Classical.propDecidable _) (i : Int) 99 := by
  unfold idH
  rw [List.getD_eq_getElem?_getD, List.getElem?_map, List.getElem?_range hi]; rfl
theorem sub_hom {p q : HQ} (hp : QrV p) (hh : p.1 = q.1) (hs : ∀ a, a ∈ p.2 → a ∈ q.2) : HomP p q (idH p) := by
  refine ⟨by simp [idH], fun a ha => ?_, fun i hi ho => by rw [idH_at hi, if_neg ho], fun i hi => ?_⟩
  · have e : a.2.map (app (idH p)) = a.2 := by
      conv => rhs; rw [← List.map_id a.2]
      refine List.map_congr_left fun t ht => ?_
      unfold app
      by_cases c : 0 ≤ t
      · have hr := qrV_arg hp ha t ht
        rw [if_pos c, idH_at (by omega), if_pos (occ_of ha ht c), Int.toNat_of_nonneg c]; rfl
      · rw [if_neg c]; rfl
    rw [e]; exact hs a ha
  · obtain ⟨h1, h2, h3⟩ := head_occ hp hi
    rw [idH_at (by omega), if_pos h3, Int.toNat_of_nonneg h1, hh]
/-- the query of some atoms -/
def partQ (q : HQ) (S : Nat) : HQ := (q.1, partA q.2 (chL S q.2.length))
theorem mem_chL {S i : Nat} : ∀ k, i ∈ chL S k ↔ i < k ∧ mem' S i
  | 0 => by simp [chL]
  | k + 1 => by
    rw [chL]
    have h := mem_chL (S := S) (i := i) k
    by_cases c : S.testBit k = true
    · rw [if_pos c, List.mem_append, h, List.mem_singleton]
      constructor
      · rintro (⟨h1, h2⟩ | h1)
        · exact ⟨by omega, h2⟩
        · rw [h1]; exact ⟨by omega, c⟩
      · rintro ⟨h1, h2⟩
        by_cases e : i = k
        · exact .inr e
        · exact .inl ⟨by omega, h2⟩
    · rw [if_neg c, h]
      refine ⟨fun ⟨h1, h2⟩ => ⟨by omega, h2⟩, fun ⟨h1, h2⟩ => ⟨?_, h2⟩⟩
      by_cases e : i = k
      · rw [e] at h2; exact absurd h2 c
      · omega
theorem mem_partA {l : List HAt} {S : Nat} {a : HAt} : a ∈ partA l (chL S l.length) ↔ ∃ i, ∃ h : i < l.length, mem' S i ∧ a = l[i] := by
  unfold partA
  rw [List.mem_map]
  constructor
  · rintro ⟨i, hi, rfl⟩
    obtain ⟨h1, h2⟩ := (mem_chL _).1 hi
    exact ⟨i, h1, h2, (at_get h1).symm⟩
  · rintro ⟨i, h, h2, rfl⟩
    exact ⟨i, (mem_chL _).2 ⟨h, h2⟩, (at_get h).symm⟩
theorem partQ_sub {q : HQ} {S : Nat} : ∀ a, a ∈ (partQ q S).2 → a ∈ q.2 := fun a ha => by
  obtain ⟨i, h, _, rfl⟩ := mem_partA.1 ha
  exact List.getElem_mem h
theorem chL_full (n : Nat) : ∀ k, k ≤ n → chL (2 ^ n - 1) k = List.range k
  | 0, _ => rfl
  | k + 1, h => by
    rw [chL, if_pos (by rw [Nat.testBit_two_pow_sub_one]; simp; omega), chL_full n k (by omega), List.range_succ]
theorem partQ_full (q : HQ) : partQ q (2 ^ q.2.length - 1) = q := by
  unfold partQ partA
  rw [chL_full _ _ (Nat.le_refl _)]
  refine Prod.ext rfl (List.ext_getElem (by simp) fun i h1 h2 => ?_)
  simp only [List.getElem_map, List.getElem_range]
  exact (at_get h2).symm
/-- the atoms of a set make an equal query -/
def Good (q : HQ) (S : Nat) : Prop := QrV (partQ q S) ∧ ∃ h, IsH q (partQ q S) h
theorem good_full {q : HQ} (hq : QrV q) : Good q (2 ^ q.2.length - 1) := by
  unfold Good
  rw [partQ_full]
  exact ⟨hq, idH q, isH_of hq hq (sub_hom hq rfl fun _ h => h)⟩
def LeL (a b : List Nat) : Prop := a.length < b.length ∨ (a.length = b.length ∧ cmpL (cz a) (cz b) ≤ 0)
def LtL (a b : List Nat) : Prop := a.length < b.length ∨ (a.length = b.length ∧ cmpL (cz a) (cz b) < 0)
theorem leL_of_not {a b : List Nat} (h : ¬ LtL a b) : LeL b a := by
  have hs := cmpL_swap (cz a) (cz b)
  rcases Nat.lt_trichotomy a.length b.length with c | c | c
  · exact absurd (.inl c) h
  · refine .inr ⟨c.symm, ?_⟩
    have : ¬ cmpL (cz a) (cz b) < 0 := fun k => h (.inr ⟨c, k⟩)
    omega
  · exact .inl c
theorem leL_refl (a : List Nat) : LeL a a := .inr ⟨rfl, by rw [cmpL_refl]; omega⟩
theorem leL_trans {a b c : List Nat} (h : LtL a b) (k : LeL b c) : LeL a c := by
  rcases h with h | ⟨h1, h2⟩
  · rcases k with k | ⟨k1, _⟩
    · exact .inl (by omega)
    · exact .inl (by omega)
  · rcases k with k | ⟨k1, k2⟩
    · exact .inl (by omega)
    · refine .inr ⟨by omega, ?_⟩
      by_cases z : cmpL (cz b) (cz c) = 0
      · rw [← cmpL_eq z]; omega
      · have := cmpL_trans h2 (show cmpL (cz b) (cz c) < 0 by omega); omega
theorem cz_inj : ∀ {a b : List Nat}, cz a = cz b → a = b
  | [], [], _ => rfl
  | [], _ :: _, h => by simp [cz] at h
  | _ :: _, [], h => by simp [cz] at h
  | x :: a, y :: b, h => by
    simp only [cz, List.map_cons, List.cons.injEq] at h
    rw [cz_inj (a := a) (b := b) h.2, show x = y by omega]
theorem leL_anti {a b : List Nat} (h : LeL a b) (k : LeL b a) : a = b := by
  have hs := cmpL_swap (cz a) (cz b)
  rcases h with h | ⟨h1, h2⟩
  · rcases k with k | ⟨k1, _⟩ <;> omega
  · rcases k with k | ⟨_, k2⟩
    · omega
    · exact cz_inj (cmpL_eq (by omega))
/-- the core -/
def CoreL (q : HQ) (c : List Nat) : Prop := ∃ S, 0 < S ∧ S < 2 ^ q.2.length ∧ Good q S ∧ c = chL S q.2.length ∧ ∀ S', 0 < S' → S' < 2 ^ q.2.length → Good q S' → LeL (chL S q.2.length) (chL S' q.2.length)
theorem coreL_same {q : HQ} {c d : List Nat} (h : CoreL q c) (k : CoreL q d) : c = d := by
  obtain ⟨S, s1, s2, s3, rfl, s4⟩ := h
  obtain ⟨T, t1, t2, t3, rfl, t4⟩ := k
  exact leL_anti (s4 T t1 t2 t3) (t4 S s1 s2 s3)
#print axioms good_full
#print axioms coreL_same
theorem own_len {B : Nat} {w : World} {a : Option Addr} {n c : Nat} {l : List Int} (h : OwnInts B w (.slice a n c) l) : n = l.length := by
  obtain ⟨_, _, e⟩ := ints_slice h.ints
  injection e
theorem own_someI {B : Nat} {w : World} {a : Option Addr} {n c : Nat} {l : List Int} (h : OwnInts B w (.slice a n c) l) (h0 : 0 < l.length) : ∃ b, a = some b := by
  rcases h.2 with ⟨_, h1⟩ | ⟨g, cap, cur, h1, _⟩
  · omega
  · injection h1 with h1; exact ⟨_, h1⟩
def CoreC (q : HQ) (B : Nat) (w : World) (u : Value) (c : Int) : Prop := (¬ QrV q ∧ u = .slice none 0 0 ∧ c = 2) ∨ (QrV q ∧ c = 0 ∧ ∃ L, CoreL q L ∧ OwnInts B w u (cz L))
theorem CoreC.keep {q : HQ} {B : Nat} {w w' : World} {u : Value} {c : Int} (h : CoreC q B w u c) (hb : Below w.heap.size w w') : CoreC q B w' u c := by
  rcases h with h | ⟨h1, h2, L, h3, h4⟩
  · exact .inl h
  · exact .inr ⟨h1, h2, L, h3, h4.keep hb⟩
/-- the best of the sets below k -/
def CoSt (q : HQ) (B : Nat) (w : World) (k : Nat) (u : Value) : Prop := (u = .slice none 0 0 ∧ ∀ S, 0 < S → S < k → ¬ Good q S) ∨
  (∃ a n c S, u = .slice (some a) n c ∧ 0 < S ∧ S < k ∧ Good q S ∧ OwnInts B w u (cz (chL S q.2.length)) ∧ ∀ S', 0 < S' → S' < k → Good q S' → LeL (chL S q.2.length) (chL S' q.2.length))
theorem CoSt.keep {q : HQ} {B : Nat} {w w' : World} {k : Nat} {u : Value} (h : CoSt q B w k u) (hb : Below w.heap.size w w') : CoSt q B w' k u := by
  rcases h with h | ⟨a, n, c, S, h1, h2, h3, h4, h5, h6⟩
  · exact .inl h
  · exact .inr ⟨a, n, c, S, h1, h2, h3, h4, h5.keep hb, h6⟩
theorem coSt_no {q : HQ} {B : Nat} {w : World} {k : Nat} {u : Value} (h : CoSt q B w k u) (hg : ¬ Good q k) : CoSt q B w (k + 1) u := by
  rcases h with ⟨h1, h2⟩ | ⟨a, n, c, S, h1, h2, h3, h4, h5, h6⟩
  · refine .inl ⟨h1, fun S s1 s2 => ?_⟩
    by_cases e : S = k
    · rw [e]; exact hg
    · exact h2 S s1 (by omega)
  · refine .inr ⟨a, n, c, S, h1, h2, by omega, h4, h5, fun T t1 t2 t3 => ?_⟩
    by_cases e : T = k
    · rw [e] at t3; exact absurd t3 hg
    · exact h6 T t1 (by omega) t3
theorem mem_two {S : Nat} (h : 0 < S) : ∃ i, mem' S i := by
  apply Classical.byContradiction
  intro hn
  have : S = 0 := by
    apply Nat.eq_of_testBit_eq
    intro i
    rw [Nat.zero_testBit]
    cases c : S.testBit i with
    | false => rfl
    | true => exact absurd ⟨i, c⟩ hn
  omega
theorem chL_pos {S n : Nat} (h0 : 0 < S) (hS : S < 2 ^ n) : 0 < (chL S n).length := by
  obtain ⟨i, hi⟩ := mem_two h0
  have hin : i < n := by
    rcases Nat.lt_or_ge i n with c | c
    · exact c
    · have := Nat.testBit_lt_two_pow (Nat.lt_of_lt_of_le hS (Nat.pow_le_pow_right (n := 2) (by decide) c))
      unfold mem' at hi
      rw [this] at hi
      cases hi
  have : i ∈ chL S n := (mem_chL n).2 ⟨hin, hi⟩
  exact List.length_pos_of_mem this
theorem coSt_new {q : HQ} {B : Nat} {w : World} {k : Nat} (h0 : 0 < k) (hk : k < 2 ^ q.2.length) {a : Option Addr} {n c : Nat} (ho : OwnInts B w (.slice a n c) (cz (chL k q.2.length))) (hg : Good q k) (h : (∀ S, 0 < S → S < k → ¬ Good q S) ∨ ∃ S, 0 < S ∧ LtL (chL k q.2.length) (chL S q.2.length) ∧ ∀ S', 0 < S' → S' < k → Good q S' → LeL (chL S q.2.length) (chL S' q.2.length)) : CoSt q B w (k + 1) (.slice a n c) := by
  obtain ⟨b, rfl⟩ := own_someI ho (by rw [cz_len]; exact chL_pos h0 hk)
  refine .inr ⟨b, n, c, k, rfl, h0, by omega, hg, ho, fun T t1 t2 t3 => ?_⟩
  by_cases e : T = k
  · rw [e]; exact leL_refl _
  · rcases h with h | ⟨S, s1, s2, s3⟩
    · exact absurd t3 (h T t1 (by omega))
    · exact leL_trans s2 (s3 T t1 (by omega) t3)
theorem coSt_old {q : HQ} {B : Nat} {w : World} {k S : Nat} {a : Addr} {n c : Nat} (h2 : 0 < S) (h3 : S < k) (h4 : Good q S) (h5 : OwnInts B w (.slice (some a) n c) (cz (chL S q.2.length))) (h6 : ∀ S', 0 < S' → S' < k → Good q S' → LeL (chL S q.2.length) (chL S' q.2.length)) (hn : ¬ LtL (chL k q.2.length) (chL S q.2.length)) : CoSt q B w (k + 1) (.slice (some a) n c) := by
  refine .inr ⟨a, n, c, S, rfl, h2, by omega, h4, h5, fun T t1 t2 t3 => ?_⟩
  by_cases e : T = k
  · rw [e]; exact leL_of_not hn
  · exact h6 T t1 (by omega) t3
theorem coSt_end {q : HQ} (hq : QrV q) {B : Nat} {w : World} {u : Value} (h : CoSt q B w (2 ^ q.2.length) u) : CoreC q B w u 0 := by
  have h1 : 0 < 2 ^ q.2.length - 1 := by
    have := Nat.pow_le_pow_right (n := 2) (by decide) hq.1.1
    omega
  rcases h with ⟨_, h⟩ | ⟨a, n, c, S, h1, h2, h3, h4, h5, h6⟩
  · exact absurd (good_full hq) (h _ h1 (by omega))
  · exact .inr ⟨hq, rfl, _, ⟨S, h2, h3, h4, rfl, h6⟩, h5⟩
theorem partQ_valid_len {q : HQ} {S : Nat} : (partQ q S).1.length = q.1.length := rfl
set_option maxRecDepth 100000 in
set_option maxHeartbeats 32000000 in
theorem core_any {q : HQ} (v : Value) (w : World) (hq : Qr w v q) :
    Calls Try.prog 38 #[v] w fun e w' => ∃ a n k c, e = .returned (.tuple #[.slice a n k, .int .i64 c]) ∧ CoreC q w.heap.size w' (.slice a n k) c ∧ Below w.heap.size w w' := by
  obtain ⟨h0, b0, rfl, hh, hb⟩ := hq
  have Hq := Lib.hid (show Qr w (.agg #[h0, b0]) q from ⟨_, _, rfl, hh, hb⟩)
  obtain ⟨ha, hc, rfl⟩ := ints_slice hh
  obtain ⟨ba, bc, rfl⟩ := atoms_slice hb
  obtain ⟨n0, hn0⟩ : ∃ x, x = q.1.length := ⟨_, rfl⟩
  obtain ⟨n1, hn1⟩ : ∃ x, x = q.2.length := ⟨_, rfl⟩
  rw [← hn0, ← hn1] at Hq
  rw [← hn0, ← hn1]
  have Hn1 := Lib.hid hn1
  obtain ⟨w1, hw1⟩ : ∃ x, x = w.alloc (.cells #[.slice ha n0 hc, .slice ba n1 bc] 33) := ⟨_, rfl⟩
  obtain ⟨bq, hbq⟩ : ∃ x, x = w.heap.size := ⟨_, rfl⟩
  have HB := Lib.hid (show Below w.heap.size w w1 from by rw [hw1]; exact below_alloc _ _)
  have HQ := Lib.hid (show w1.heap[bq]? = some (.cells #[.slice ha n0 hc, .slice ba n1 bc] 33 (0, 0)) from by rw [hbq, hw1]; exact heap_alloc_new _ _)
  have Hw1 := Lib.hid hw1
  have Hbq := Lib.hid hbq
  clear hh hb hw1 hbq hn0 hn1
  go_enter Try.func38, Try.ntmps38
  go_upto_region 1 with fail
  rw [← Hw1.out, ← Hbq.out]
  clear Hw1 Hbq
  have g0 := aCell HQ.out 0 rfl
  have g1 := aCell HQ.out 1 rfl
  by_cases hv : QrV q
  · have HV := Lib.hid (qryValid_any q _ w1 (Hq.out.keep HB.out) true (decide_eq_true hv))
    have Hv := Lib.hid hv
    have h5 : n1 ≤ 5 := by rw [Hn1.out]; exact hv.1.2.1
    have h1 : 1 ≤ n1 := by rw [Hn1.out]; exact hv.1.1
    clear hv
    go_wp2_with fail
    refine HV.out.mono ?_
    rintro e w2 ⟨rfl, hb⟩
    have HB2 := Lib.hid (Below.tr HB.out hb)
    have HQ2 := Lib.hid (blk_keep2 HQ.out hb)
    clear hb g0 g1
    go_wp2_with fail
    have Hsh := Lib.hid (qshl_one n1)
    have hp : 2 ^ n1 ≤ 32 := Nat.pow_le_pow_right (n := 2) (by decide) h5
    have hp1 : 2 ≤ 2 ^ n1 := Nat.pow_le_pow_right (n := 2) (i := 1) (by decide) h1
    obtain ⟨p, hpn⟩ : ∃ p, p = 2 ^ n1 := ⟨_, rfl⟩
    rw [← hpn] at Hsh hp hp1
    have Hpn := Lib.hid (show p = 2 ^ q.2.length from by rw [hpn, Hn1.out])
    clear hpn
    go_loopw [4, 5] (fun o vi wr => ∃ (k : Nat) (ca : Option Addr) (cn ck : Nat), o = .slice ca cn ck ∧ vi = .int .i64 k ∧ 1 ≤ k ∧ k ≤ p ∧ Below w2.heap.size w2 wr ∧ CoSt q w.heap.size wr k (.slice ca cn ck)) (fun _ vi _ => p - (intOf vi).toNat)
    case atStart => exact ⟨1, none, 0, 0, rfl, rfl, Nat.le_refl _, by omega, Below.refl _ _, .inl ⟨rfl, fun S s1 s2 => by omega⟩⟩
    case round =>
      generalize wr = wx at *
      obtain ⟨k, ca, cn, ck, rfl, rfl, hk1, hk, hb, hst⟩ := hrel
      have Hb := Lib.hid hb
      have HSt := Lib.hid hst
      clear hb hst
      have HQx := Lib.hid (blk_keep2 HQ2.out Hb.out)
      have g0 := aCell HQx.out 0 rfl
      have g1 := aCell HQx.out 1 rfl
      have hsh := Hsh.out
      have hw1 := wrap_nat p (by omega)
      have hn0 : (0 : Int) ≤ (n1 : Int) := by omega
      have hn64 : (n1 : Int) < 64 := by omega
      by_cases hlt : k < p
      · have hltI : (k : Int) < (p : Int) := by omega
        have HBw := Lib.hid (Below.tr HB2.out Hb.out)
        have HCh := Lib.hid (choose_any (q := q) (by rw [← Hn1.out]; exact h5) k (by omega) _ wx (Hq.out.keep HBw.out))
        have Hk0 := Lib.hid (show 0 < k by omega)
        have Hkp := Lib.hid (show k < 2 ^ q.2.length by rw [← Hpn.out]; exact hlt)
        go_wp2_with fail
        clear hsh hw1 hn0 hn64
        refine HCh.out.mono ?_
        rintro e w5 ⟨la, ln, lk, pa, pn, pc, qa, qn, qc, rfl, hO, hQ, hb⟩
        have HO := Lib.hid (hO.base HBw.out.size)
        have HP := Lib.hid (show Qr w5 (.agg #[.slice pa pn pc, .slice qa qn qc]) (partQ q k) from hQ)
        have Hb5 := Lib.hid (Below.tr Hb.out hb)
        have HSt5 := Lib.hid (HSt.out.keep hb)
        have HQ5 := Lib.hid (blk_keep2 HQx.out hb)
        have hln := own_len hO
        rw [cz_len] at hln
        have Hln := Lib.hid hln
        clear hO hQ hb g0 g1 HCh HSt hln
        obtain ⟨w6, hw6⟩ : ∃ x, x = w5.alloc (.cells #[.slice pa pn pc, .slice qa qn qc] 33) := ⟨_, rfl⟩
        have k6 : Below w5.heap.size w5 w6 := by rw [hw6]; exact below_alloc _ _
        obtain ⟨bp, hbp⟩ : ∃ x, x = w5.heap.size := ⟨_, rfl⟩
        have HX := Lib.hid (show w6.heap[bp]? = some (.cells #[.slice pa pn pc, .slice qa qn qc] 33 (0, 0)) from by rw [hbp, hw6]; exact heap_alloc_new _ _)
        have HO := Lib.hid (HO.out.keep k6)
        have HP := Lib.hid (HP.out.keep k6)
        have HSt := Lib.hid (HSt5.out.keep k6)
        have HQ6 := Lib.hid (blk_keep2 HQ5.out k6)
        have Hb6 := Lib.hid (Below.tr Hb5.out k6)
        have Hw6 := Lib.hid hw6
        have Hbp := Lib.hid hbp
        clear hw6 k6 hbp HSt5 HQ5 Hb5 HQx Hb
        go_upto_region 8 with fail
        rw [← Hw6.out, ← Hbp.out]
        clear Hw6 Hbp
        obtain ⟨w7, hw7⟩ : ∃ x, x = w6 := ⟨_, rfl⟩
        have x0 := aCell HX.out 0 rfl
        have x1 := aCell HX.out 1 rfl
        have q0 := aCell HQ6.out 0 rfl
        have q1 := aCell HQ6.out 1 rfl
        clear hw7
        try simp only [Act.put]
        have Hnil := Lib.hid (runeq_nil w6 ca cn ck)
        have hnil0 := Hnil.out
        have HCase := Lib.hid HSt.out
        rcases HCase.out with ⟨hu, hno⟩ | ⟨ca2, cn2, ck2, S, hu, s2, s3, s4, s5, s6⟩
        · injection hu with u1 u2 u3
          subst u1 u2 u3
          have HBet := Lib.hid (show (∀ S, 0 < S → S < k → ¬ Good q S) ∨ ∃ S, 0 < S ∧ LtL (chL k q.2.length) (chL S q.2.length) ∧ ∀ S', 0 < S' → S' < k → Good q S' → LeL (chL S q.2.length) (chL S' q.2.length) from .inl hno)
          clear hno HCase
          go_upto_region 9 with fail
          by_cases hpv : QrV (partQ q k)
          · have HVp := Lib.hid (qryValid_any (partQ q k) _ w6 HP.out true (decide_eq_true hpv))
            have Hpv := Lib.hid hpv
            clear hpv
            go_wp2_with fail
            refine HVp.out.mono ?_
            rintro e w8 ⟨rfl, hb⟩
            have HO := Lib.hid (HO.out.keep hb)
            have HP := Lib.hid (HP.out.keep hb)
            have HSt := Lib.hid (HSt.out.keep hb)
            have HX8 := Lib.hid (blk_keep2 HX.out hb)
            have HQ8 := Lib.hid (blk_keep2 HQ6.out hb)
            have Hb8 := Lib.hid (Below.tr Hb6.out hb)
            clear hb x0 x1 q0 q1
            have x0 := aCell HX8.out 0 rfl
            have x1 := aCell HX8.out 1 rfl
            have q0 := aCell HQ8.out 0 rfl
            have q1 := aCell HQ8.out 1 rfl
            have HHm := Lib.hid (hom_any Hv.out Hpv.out rfl _ _ w8 (Hq.out.keep (Below.tr HB2.out Hb8.out)) HP.out)
            go_wp2_with fail
            refine HHm.out.mono ?_
            rintro e w9 ⟨y, rfl, hF, hb⟩
            have HO := Lib.hid (HO.out.keep hb)
            have HSt := Lib.hid (HSt.out.keep hb)
            have Hb9 := Lib.hid (Below.tr Hb8.out hb)
            clear hb x0 x1 q0 q1
            have hnil := runne_nil
            rcases hF with ⟨rfl, hno⟩ | ⟨fg, fc, h, rfl, ho, hP, hmin⟩
            · have HN := Lib.hid (coSt_no HSt.out fun h => by
                obtain ⟨x, hx⟩ := h.2
                exact hno x hx)
              clear hno
              go_wp2_with fail
              go_roundw
              case rel => exact ⟨k + 1, _, _, _, rfl, by go_num, by omega, by omega, Hb9.out, HN.out⟩
              case measure => simp [intOf]; omega
            · have HN := Lib.hid (coSt_new Hk0.out Hkp.out HO.out ⟨Hpv.out, h, hP⟩ (HBet.out))
              clear ho hP hmin
              go_wp2_with fail
              go_roundw
              case rel => exact ⟨k + 1, _, _, _, rfl, by go_num, by omega, by omega, Hb9.out, HN.out⟩
              case measure => simp [intOf]; omega
          · have HVp := Lib.hid (qryValid_any (partQ q k) _ w6 HP.out false (decide_eq_false hpv))
            have HN := Lib.hid (fun (w' : World) (hb : Below w6.heap.size w6 w') => coSt_no (HSt.out.keep hb) fun h => hpv h.1)
            clear hpv
            go_wp2_with fail
            refine HVp.out.mono ?_
            rintro e w8 ⟨rfl, hb⟩
            have Hb8 := Lib.hid (Below.tr Hb6.out hb)
            have HN := Lib.hid (HN.out w8 hb)
            clear hb x0 x1 q0 q1
            go_wp2_with fail
            go_roundw
            case rel => exact ⟨k + 1, _, _, _, rfl, by go_num, by omega, by omega, Hb8.out, HN.out⟩
            case measure => simp [intOf]; omega
        · injection hu with u1 u2 u3
          subst u1 u2 u3
          have hcl := own_len s5
          rw [cz_len] at hcl
          have Hcl := Lib.hid hcl
          clear hcl
          have Hs6 := Lib.hid s6
          have Hs4 := Lib.hid s4
          have Hs5 := Lib.hid s5
          have HBetF := Lib.hid (fun (h : LtL (chL k q.2.length) (chL S q.2.length)) => show (∀ S, 0 < S → S < k → ¬ Good q S) ∨ ∃ S, 0 < S ∧ LtL (chL k q.2.length) (chL S q.2.length) ∧ ∀ S', 0 < S' → S' < k → Good q S' → LeL (chL S q.2.length) (chL S' q.2.length) from .inr ⟨S, s2, h, s6⟩)
          have HOldF := Lib.hid (fun (h : ¬ LtL (chL k q.2.length) (chL S q.2.length)) => coSt_old s2 s3 s4 s5 s6 h)
          clear s4 s5 s6 HCase
          by_cases c1 : ln < cn
          · have c1I : (ln : Int) < (cn : Int) := by omega
            have HBet := Lib.hid (HBetF.out (.inl (by have := Hln.out; have := Hcl.out; omega)))
            go_upto_region 9 with fail
            by_cases hpv : QrV (partQ q k)
            · have HVp := Lib.hid (qryValid_any (partQ q k) _ w6 HP.out true (decide_eq_true hpv))
              have Hpv := Lib.hid hpv
              clear hpv
              go_wp2_with fail
              refine HVp.out.mono ?_
              rintro e w8 ⟨rfl, hb⟩
              have HO := Lib.hid (HO.out.keep hb)
              have HP := Lib.hid (HP.out.keep hb)
              have HSt := Lib.hid (HSt.out.keep hb)
              have HX8 := Lib.hid (blk_keep2 HX.out hb)
              have HQ8 := Lib.hid (blk_keep2 HQ6.out hb)
              have Hb8 := Lib.hid (Below.tr Hb6.out hb)
              clear hb x0 x1 q0 q1
              have x0 := aCell HX8.out 0 rfl
              have x1 := aCell HX8.out 1 rfl
              have q0 := aCell HQ8.out 0 rfl
              have q1 := aCell HQ8.out 1 rfl
              have HHm := Lib.hid (hom_any Hv.out Hpv.out rfl _ _ w8 (Hq.out.keep (Below.tr HB2.out Hb8.out)) HP.out)
              go_wp2_with fail
              refine HHm.out.mono ?_
              rintro e w9 ⟨y, rfl, hF, hb⟩
              have HO := Lib.hid (HO.out.keep hb)
              have HSt := Lib.hid (HSt.out.keep hb)
              have Hb9 := Lib.hid (Below.tr Hb8.out hb)
              clear hb x0 x1 q0 q1
              have hnil := runne_nil
              rcases hF with ⟨rfl, hno⟩ | ⟨fg, fc, h, rfl, ho, hP, hmin⟩
              · have HN := Lib.hid (coSt_no HSt.out fun h => by
                  obtain ⟨x, hx⟩ := h.2
                  exact hno x hx)
                clear hno
                go_wp2_with fail
                go_roundw
                case rel => exact ⟨k + 1, _, _, _, rfl, by go_num, by omega, by omega, Hb9.out, HN.out⟩
                case measure => simp [intOf]; omega
              · have HN := Lib.hid (coSt_new Hk0.out Hkp.out HO.out ⟨Hpv.out, h, hP⟩ (HBet.out))
                clear ho hP hmin
                go_wp2_with fail
                go_roundw
                case rel => exact ⟨k + 1, _, _, _, rfl, by go_num, by omega, by omega, Hb9.out, HN.out⟩
                case measure => simp [intOf]; omega
            · have HVp := Lib.hid (qryValid_any (partQ q k) _ w6 HP.out false (decide_eq_false hpv))
              have HN := Lib.hid (fun (w' : World) (hb : Below w6.heap.size w6 w') => coSt_no (HSt.out.keep hb) fun h => hpv h.1)
              clear hpv
              go_wp2_with fail
              refine HVp.out.mono ?_
              rintro e w8 ⟨rfl, hb⟩
              have Hb8 := Lib.hid (Below.tr Hb6.out hb)
              have HN := Lib.hid (HN.out w8 hb)
              clear hb x0 x1 q0 q1
              go_wp2_with fail
              go_roundw
              case rel => exact ⟨k + 1, _, _, _, rfl, by go_num, by omega, by omega, Hb8.out, HN.out⟩
              case measure => simp [intOf]; omega
          · have c1I : ¬ (ln : Int) < (cn : Int) := by omega
            by_cases c2 : ln = cn
            · subst c2
              have c2I : ((ln : Int) == (ln : Int)) = true := by simp
              have HCm := Lib.hid (compare_any _ _ _ _ w6 HO.out.ints Hs5.out.ints)
              obtain ⟨C, hC⟩ : ∃ C, C = cmpL (cz (chL k q.2.length)) (cz (chL S q.2.length)) := ⟨_, rfl⟩
              rw [← hC] at HCm
              have HC := Lib.hid hC
              clear hC
              by_cases c3 : C < 0
              · have HBet := Lib.hid (HBetF.out (.inr ⟨by have := Hln.out; have := Hcl.out; omega, by rw [← HC.out]; exact c3⟩))
                go_wp2_with fail
                refine HCm.out.mono ?_
                rintro e w7 ⟨rfl, rfl⟩
                go_upto_region 9 with fail
                by_cases hpv : QrV (partQ q k)
                · have HVp := Lib.hid (qryValid_any (partQ q k) _ w6 HP.out true (decide_eq_true hpv))
                  have Hpv := Lib.hid hpv
                  clear hpv
                  go_wp2_with fail
                  refine HVp.out.mono ?_
                  rintro e w8 ⟨rfl, hb⟩
                  have HO := Lib.hid (HO.out.keep hb)
                  have HP := Lib.hid (HP.out.keep hb)
                  have HSt := Lib.hid (HSt.out.keep hb)
                  have HX8 := Lib.hid (blk_keep2 HX.out hb)
                  have HQ8 := Lib.hid (blk_keep2 HQ6.out hb)
                  have Hb8 := Lib.hid (Below.tr Hb6.out hb)
                  clear hb x0 x1 q0 q1
                  have x0 := aCell HX8.out 0 rfl
                  have x1 := aCell HX8.out 1 rfl
                  have q0 := aCell HQ8.out 0 rfl
                  have q1 := aCell HQ8.out 1 rfl
                  have HHm := Lib.hid (hom_any Hv.out Hpv.out rfl _ _ w8 (Hq.out.keep (Below.tr HB2.out Hb8.out)) HP.out)
                  go_wp2_with fail
                  refine HHm.out.mono ?_
                  rintro e w9 ⟨y, rfl, hF, hb⟩
                  have HO := Lib.hid (HO.out.keep hb)
                  have HSt := Lib.hid (HSt.out.keep hb)
                  have Hb9 := Lib.hid (Below.tr Hb8.out hb)
                  clear hb x0 x1 q0 q1
                  have hnil := runne_nil
                  rcases hF with ⟨rfl, hno⟩ | ⟨fg, fc, h, rfl, ho, hP, hmin⟩
                  · have HN := Lib.hid (coSt_no HSt.out fun h => by
                      obtain ⟨x, hx⟩ := h.2
                      exact hno x hx)
                    clear hno
                    go_wp2_with fail
                    go_roundw
                    case rel => exact ⟨k + 1, _, _, _, rfl, by go_num, by omega, by omega, Hb9.out, HN.out⟩
                    case measure => simp [intOf]; omega
                  · have HN := Lib.hid (coSt_new Hk0.out Hkp.out HO.out ⟨Hpv.out, h, hP⟩ (HBet.out))
                    clear ho hP hmin
                    go_wp2_with fail
                    go_roundw
                    case rel => exact ⟨k + 1, _, _, _, rfl, by go_num, by omega, by omega, Hb9.out, HN.out⟩
                    case measure => simp [intOf]; omega
                · have HVp := Lib.hid (qryValid_any (partQ q k) _ w6 HP.out false (decide_eq_false hpv))
                  have HN := Lib.hid (fun (w' : World) (hb : Below w6.heap.size w6 w') => coSt_no (HSt.out.keep hb) fun h => hpv h.1)
                  clear hpv
                  go_wp2_with fail
                  refine HVp.out.mono ?_
                  rintro e w8 ⟨rfl, hb⟩
                  have Hb8 := Lib.hid (Below.tr Hb6.out hb)
                  have HN := Lib.hid (HN.out w8 hb)
                  clear hb x0 x1 q0 q1
                  go_wp2_with fail
                  go_roundw
                  case rel => exact ⟨k + 1, _, _, _, rfl, by go_num, by omega, by omega, Hb8.out, HN.out⟩
                  case measure => simp [intOf]; omega
              · have HOld := Lib.hid (HOldF.out fun h => by
                  have := Hln.out
                  have := Hcl.out
                  rcases h with h | ⟨_, h⟩
                  · omega
                  · rw [← HC.out] at h; exact c3 h)
                go_wp2_with fail
                refine HCm.out.mono ?_
                rintro e w7 ⟨rfl, rfl⟩
                clear x0 x1 q0 q1
                go_wp2_with fail
                go_roundw
                case rel => exact ⟨k + 1, _, _, _, rfl, by go_num, by omega, by omega, Hb6.out, HOld.out⟩
                case measure => simp [intOf]; omega
            · have c2I : ((ln : Int) == (cn : Int)) = false := by rw [beq_eq_false_iff_ne]; omega
              have HOld := Lib.hid (HOldF.out fun h => by
                have := Hln.out
                have := Hcl.out
                rcases h with h | h
                · omega
                · omega)
              clear x0 x1 q0 q1
              go_wp2_with fail
              go_roundw
              case rel => exact ⟨k + 1, _, _, _, rfl, by go_num, by omega, by omega, Hb6.out, HOld.out⟩
              case measure => simp [intOf]; omega
      · obtain rfl : p = k := by omega
        have hltI : ¬ (p : Int) < (p : Int) := by omega
        have HE := Lib.hid (coSt_end Hv.out (by rw [← Hpn.out]; exact HSt.out))
        go_wp2_with fail
        go_ret2
        exact ⟨_, _, _, _, rfl, HE.out, Below.tr HB2.out Hb.out⟩
  · have HV := Lib.hid (qryValid_any q _ w1 (Hq.out.keep HB.out) false (decide_eq_false hv))
    have Hv := Lib.hid hv
    clear hv
    go_wp2_with fail
    refine HV.out.mono ?_
    rintro e w2 ⟨rfl, hb⟩
    have HB2 := Lib.hid (Below.tr HB.out hb)
    clear hb g0 g1
    go_wp2_with fail
    go_ret2
    exact ⟨none, 0, 0, 2, rfl, .inl ⟨Hv.out, rfl, rfl⟩, HB2.out⟩
#print axioms core_any
theorem sorted_eq : ∀ {l m : List Nat}, l.Pairwise (· < ·) → m.Pairwise (· < ·) → (∀ x, x ∈ l ↔ x ∈ m) → l = m
  | [], [], _, _, _ => rfl
  | [], y :: m, _, _, h => by have := (h y).2 (by simp); simp at this
  | x :: l, [], _, _, h => by have := (h x).1 (by simp); simp at this
  | x :: l, y :: m, hl, hm, h => by
    obtain ⟨l1, l2⟩ := List.pairwise_cons.1 hl
    obtain ⟨m1, m2⟩ := List.pairwise_cons.1 hm
    have e : x = y := by
      rcases List.mem_cons.1 ((h x).1 (by simp)) with k | k
      · exact k
      · rcases List.mem_cons.1 ((h y).2 (by simp)) with j | j
        · exact j.symm
        · have := m1 x k
          have := l1 y j
          omega
    subst e
    rw [sorted_eq l2 m2 fun z => ?_]
    constructor
    · intro hz
      rcases List.mem_cons.1 ((h z).1 (List.mem_cons_of_mem _ hz)) with k | k
      · have := l1 z hz; omega
      · exact k
    · intro hz
      rcases List.mem_cons.1 ((h z).2 (List.mem_cons_of_mem _ hz)) with k | k
      · have := m1 z hz; omega
      · exact k
theorem chL_sorted (S : Nat) : ∀ k, (chL S k).Pairwise (· < ·)
  | 0 => by simp [chL]
  | k + 1 => by
    rw [chL]
    by_cases c : S.testBit k = true
    · rw [if_pos c]
      refine List.pairwise_append.2 ⟨chL_sorted S k, by simp, fun a ha b hb => ?_⟩
      simp at hb; subst hb
      exact ((mem_chL _).1 ha).1
    · rw [if_neg c]; exact chL_sorted S k
/-- a number for each set -/
theorem num_of (P : Nat → Prop) : ∀ n, ∃ S, S < 2 ^ n ∧ ∀ i, mem' S i ↔ i < n ∧ P i
  | 0 => ⟨0, by simp, fun i => ⟨fun h => by simp [mem'] at h, fun h => by omega⟩⟩
  | n + 1 => by
    obtain ⟨S, h1, h2⟩ := num_of P n
    have hp : 2 ^ (n + 1) = 2 * 2 ^ n := by rw [Nat.pow_succ]; omega
    by_cases c : P n
    · refine ⟨S ||| 2 ^ n, Nat.or_lt_two_pow (by omega) (Nat.pow_lt_pow_right (by decide) (by omega)), fun i => ?_⟩
      have := h2 i
      unfold mem' at this ⊢
      rw [Nat.testBit_or, Bool.or_eq_true, this, Nat.testBit_two_pow, decide_eq_true_iff]
      constructor
      · rintro (⟨k1, k2⟩ | k)
        · exact ⟨by omega, k2⟩
        · rw [← k]; exact ⟨by omega, c⟩
      · rintro ⟨k1, k2⟩
        by_cases e : n = i
        · exact .inr e
        · exact .inl ⟨by omega, k2⟩
    · refine ⟨S, by omega, fun i => ?_⟩
      rw [h2 i]
      refine ⟨fun ⟨k1, k2⟩ => ⟨by omega, k2⟩, fun ⟨k1, k2⟩ => ⟨?_, k2⟩⟩
      by_cases e : i = n
      · rw [e] at k2; exact absurd k2 c
      · omega
theorem partA_get {l : List HAt} {L : List Nat} {j : Nat} (hj : j < L.length) : (aR (partA l L) j, aA (partA l L) j) = (aR l (L.getD j 0), aA l (L.getD j 0)) := by
  have : (partA l L).getD j (0, []) = (aR l (L.getD j 0), aA l (L.getD j 0)) := by
    simp [partA, List.getD_eq_getElem?_getD, hj]
  show ((partA l L).getD j (0, []) : HAt) = _
  exact this
/-- some atoms of some atoms -/
theorem part_part {q : HQ} {S T : Nat} : ∃ S', S' < 2 ^ q.2.length ∧ chL S' q.2.length = (chL T (chL S q.2.length).length).map (fun j => (chL S q.2.length).getD j 0) ∧ partQ q S' = partQ (partQ q S) T := by
  obtain ⟨c, hc⟩ : ∃ c, c = chL S q.2.length := ⟨_, rfl⟩
  have hs := chL_sorted S q.2.length
  have hm : ∀ x, x ∈ c → x < q.2.length := fun x hx => by rw [hc] at hx; exact ((mem_chL _).1 hx).1
  rw [← hc] at hs ⊢
  obtain ⟨S', s1, s2⟩ := num_of (fun i => ∃ j, j ∈ chL T c.length ∧ i = c.getD j 0) q.2.length
  have gt : ∀ j, j < c.length → c.getD j 0 = c.getD j 0 ∧ c.getD j 0 ∈ c := fun j hj => ⟨rfl, by rw [List.getD_eq_getElem?_getD, List.getElem?_eq_getElem hj]; exact List.getElem_mem hj⟩
  have e : chL S' q.2.length = (chL T c.length).map (fun j => c.getD j 0) := by
    refine sorted_eq (chL_sorted _ _) ?_ fun x => ?_
    · refine List.pairwise_map.2 ((chL_sorted T c.length).imp_of_mem fun {a b} ha hb hab => ?_)
      have h1 := ((mem_chL _).1 ha).1
      have h2 := ((mem_chL _).1 hb).1
      rw [List.getD_eq_getElem?_getD, List.getElem?_eq_getElem h1, List.getD_eq_getElem?_getD, List.getElem?_eq_getElem h2]
      exact List.pairwise_iff_getElem.1 hs a b h1 h2 hab
    · rw [mem_chL, s2, List.mem_map]
      constructor
      · rintro ⟨_, _, j, h1, h2⟩; exact ⟨j, h1, h2.symm⟩
      · rintro ⟨j, h1, rfl⟩
        have := hm _ (gt j ((mem_chL _).1 h1).1).2
        exact ⟨this, this, j, h1, rfl⟩
  refine ⟨S', s1, e, ?_⟩
  have hl : (partQ q S).2.length = c.length := by unfold partQ; rw [partA_len, hc]
  refine Prod.ext rfl ?_
  show partA q.2 (chL S' q.2.length) = partA (partQ q S).2 (chL T (partQ q S).2.length)
  rw [e, hl]
  show List.map _ (List.map _ _) = List.map _ _
  rw [List.map_map]
  refine List.map_congr_left fun j hj => ?_
  have := partA_get (l := q.2) (L := c) (j := j) ((mem_chL _).1 hj).1
  rw [show (partQ q S).2 = partA q.2 c by rw [hc]; rfl]
  exact this.symm
theorem good_hom {q : HQ} (hq : QrV q) {S : Nat} (h : Good q S) : ∃ x, HomP q (partQ q S) x := by
  obtain ⟨h1, x, hx⟩ := h
  exact ⟨x, homP_of hq h1 hx⟩
theorem comp_hom {p q r : HQ} (hp : QrV p) (hq : QrV q) (hl : p.1.length = q.1.length) {h k : List Int} (H : HomP p q h) (K : HomP q r k) : ∃ c, HomP p r c := by
  refine ⟨(List.range 8).map fun i => if 0 ≤ h.getD i 0 ∧ h.getD i 0 < 8 then k.getD (h.getD i 0).toNat 0 else h.getD i 0, hom_comp hp hq hl H K (by simp) fun i hi => ?_⟩
  rw [List.getD_eq_getElem?_getD, List.getElem?_map, List.getElem?_range hi]; rfl
/-- the core of the core is all of it -/
theorem core_core {q : HQ} (hq : QrV q) {S : Nat} (h0 : 0 < S) (hS : S < 2 ^ q.2.length) (hg : Good q S) (hm : ∀ S', 0 < S' → S' < 2 ^ q.2.length → Good q S' → LeL (chL S q.2.length) (chL S' q.2.length)) {d : List Nat} (hd : CoreL (partQ q S) d) : d.length = (chL S q.2.length).length := by
  obtain ⟨T, t1, t2, t3, rfl, t4⟩ := hd
  have hl : (partQ q S).2.length = (chL S q.2.length).length := by unfold partQ; rw [partA_len]
  have hc0 := chL_pos h0 hS
  rw [hl] at t2 t4 ⊢
  have hle : (chL T (chL S q.2.length).length).length ≤ (chL S q.2.length).length := chL_len _ _
  obtain ⟨S', s1, s2, s3⟩ := part_part (q := q) (S := S) (T := T)
  have hlen : (chL S' q.2.length).length = (chL T (chL S q.2.length).length).length := by rw [s2, List.length_map]
  have hd0 := chL_pos t1 t2
  have hs0 : 0 < S' := by
    rcases Nat.eq_zero_or_pos S' with c | c
    · have : chL S' q.2.length = [] := by
        rw [List.eq_nil_iff_forall_not_mem]
        intro x hx
        have := ((mem_chL _).1 hx).2
        rw [c] at this; simp [mem'] at this
      rw [this] at hlen
      simp only [List.length_nil] at hlen
      omega
    · exact c
  have g' : Good q S' := by
    obtain ⟨x, hx⟩ := good_hom hq hg
    obtain ⟨y, hy⟩ := good_hom hg.1 t3
    obtain ⟨z, hz⟩ := comp_hom hq hg.1 rfl hx hy
    unfold Good
    rw [s3]
    exact ⟨t3.1, z, isH_of hq t3.1 hz⟩
  have := hm S' hs0 s1 g'
  rcases this with h | ⟨h, _⟩ <;> omega
theorem core_res {q : HQ} (hq : QrV q) {S : Nat} (hg : Good q S) {l : List HAt} {R R' : List (List Int)} (hR : IsRes q l R) (hR' : IsRes (partQ q S) l R') : R = R' := by
  obtain ⟨x, hx⟩ := good_hom hq hg
  have hy := sub_hom hg.1 (q := q) rfl partQ_sub
  refine strict_eq hR.1 hR'.1 fun r => ?_
  rw [hR.2, hR'.2]
  constructor
  · rintro ⟨v, hv, rfl⟩
    obtain ⟨v', h1, h2⟩ := hom_match hq hg.1 rfl hy hv
    exact ⟨v', h1, h2.symm⟩
  · rintro ⟨v, hv, rfl⟩
    obtain ⟨v', h1, h2⟩ := hom_match hg.1 hq rfl hx hv
    exact ⟨v', h1, h2.symm⟩
#print axioms core_core
#print axioms core_res
end Go.Proofs.Ytfplmdieeabgpaa
