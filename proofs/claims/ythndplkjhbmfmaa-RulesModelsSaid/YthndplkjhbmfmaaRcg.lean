/- Contracts for consequences: what get does, hindered. -/
import Derived.Test.YthndplkjhbmfmaaRcm
import Derived.Test.YthndplkjhbmfmaaRjn
namespace Go.Proofs.Ythndplkjhbmfmaa
open Go.RowKit
/-- the blocks of got and queue that may change -/
def Bd (bg bq mg : Nat) (qv : Value) (k : Nat) : Prop := k = bg ∨ k = bq ∨ k = mg ∨ qv.ownBlock = some k
/-- got and queue in the heap -/
structure BX (base : Nat) (w : World) (bg bq mg : Nat) (qv : Value) (got : Int → Prop) (Qu : List Int) : Prop where
  g : w.heap[bg]? = some (.cells #[.map (some mg)] 130 (0, 0))
  q : w.heap[bq]? = some (.cells #[qv] 23 (0, 0))
  s : ∃ n, KSet w mg n got
  o : OQ base w qv Qu
  ge : ∀ k, Bd bg bq mg qv k → base ≤ k
theorem BX.lt {base : Nat} {w : World} {bg bq mg : Nat} {qv : Value} {got : Int → Prop} {Qu : List Int} (h : BX base w bg bq mg qv got Qu) {k : Nat} (hk : Bd bg bq mg qv k) : k < w.heap.size := by
  rcases hk with rfl | rfl | rfl | hk
  · exact (Array.getElem?_eq_some_iff.1 h.g).1
  · exact (Array.getElem?_eq_some_iff.1 h.q).1
  · obtain ⟨n, hs⟩ := h.s; exact hs.lt
  · exact (h.o.lt hk).2
theorem BX.keep {base : Nat} {w w' : World} {bg bq mg : Nat} {qv : Value} {got : Int → Prop} {Qu : List Int} (h : BX base w bg bq mg qv got Qu) (hb : Below w.heap.size w w') : BX base w' bg bq mg qv got Qu :=
  ⟨blk_keep2 h.g hb, blk_keep2 h.q hb, by obtain ⟨n, hs⟩ := h.s; exact ⟨n, hs.keep hb⟩, h.o.keep hb, h.ge⟩
theorem BX.kinds {base : Nat} {w : World} {bg bq mg : Nat} {qv : Value} {got : Int → Prop} {Qu : List Int} (h : BX base w bg bq mg qv got Qu) : bg ≠ bq ∧ bg ≠ mg ∧ bq ≠ mg ∧ ∀ k, qv.ownBlock = some k → k ≠ bg ∧ k ≠ bq ∧ k ≠ mg := by
  obtain ⟨n, hs⟩ := h.s
  obtain ⟨es, clock, hm, _⟩ := hs.len_run
  refine ⟨fun e => ?_, fun e => ?_, fun e => ?_, fun k hk => ?_⟩
  · have h1 := h.g
    rw [e, h.q] at h1
    injection h1 with h1
    injection h1 with _ h1 _
    exact absurd h1 (by decide)
  · have h1 := h.g
    rw [e, hm] at h1
    injection h1 with h1
    cases h1
  · have h1 := h.q
    rw [e, hm] at h1
    injection h1 with h1
    cases h1
  · obtain ⟨cur, hc⟩ := h.o.typ hk
    refine ⟨fun e => ?_, fun e => ?_, fun e => ?_⟩
    · rw [e, h.g] at hc
      injection hc with hc
      injection hc with _ hc _
      exact absurd hc (by decide)
    · rw [e, h.q] at hc
      injection hc with hc
      injection hc with _ hc _
      exact absurd hc (by decide)
    · rw [e, hm] at hc
      injection hc with hc
      cases hc
open Classical in
/-- the queue behind get(c) -/
noncomputable def nxQ (got : Int → Prop) (Qu : List Int) (c : Int) : List Int := if got c then Qu else Qu ++ [c]
theorem nxQ_in {got : Int → Prop} {Qu : List Int} {c : Int} (h : got c) : nxQ got Qu c = Qu := if_pos h
theorem nxQ_new {got : Int → Prop} {Qu : List Int} {c : Int} (h : ¬ got c) : nxQ got Qu c = Qu ++ [c] := if_neg h
theorem CQ.getn {I : List PIn} {cnt : Nat → Bool} {S K got : Int → Prop} {P Qu : List Int} (h : CQ I cnt S K got P Qu) {c : Int} (hc : ConsI I cnt S K c) : CQ I cnt S K (fun x => got x ∨ x = c) P (nxQ got Qu c) := by
  by_cases hg : got c
  · rw [nxQ_in hg]; exact h.congr fun x => ⟨fun k => k.elim id fun e => e ▸ hg, .inl⟩
  · rw [nxQ_new hg]; exact h.get hg hc
/-- what get leaves -/
def GtE (base : Nat) (w w' : World) (bg bq mg : Nat) (qv : Value) (got : Int → Prop) (Qu : List Int) (c : Int) (e : Ending) : Prop :=
  e = .returned (.tuple #[]) ∧ ∃ qv', BX base w' bg bq mg qv' (fun x => got x ∨ x = c) (nxQ got Qu c) ∧ Mv w w' (Bd bg bq mg qv) (Bd bg bq mg qv')
set_option maxRecDepth 100000 in
set_option maxHeartbeats 4000000 in
theorem get_any {base : Nat} {w : World} {bg bq mg : Nat} {qv : Value} {got : Int → Prop} {Qu : List Int} (h : BX base w bg bq mg qv got Qu) (hbase : base ≤ w.heap.size) (c : Int) (hc : KOk c) (hQ : Qu.length ≤ 1000000) :
    Calls Try.prog 133 #[.int .i64 c, .pointer (some ⟨bg, 0, none⟩), .pointer (some ⟨bq, 0, none⟩)] w fun e w' => GtE base w w' bg bq mg qv got Qu c e := by
  obtain ⟨n, hs⟩ := h.s
  have hle := hs.le
  have H := Lib.hid h
  have HS := Lib.hid hs
  have g0 := aCell h.g 0 rfl
  by_cases hr : got c
  · have hl := hs.look hc true ⟨fun _ => hr, fun _ => rfl⟩
    have HE := Lib.hid (show BX base w bg bq mg qv (fun x => got x ∨ x = c) (nxQ got Qu c) from by
      rw [nxQ_in hr]
      exact ⟨h.g, h.q, ⟨n, hs.congr fun x => ⟨.inl, fun k => k.elim id fun e => e ▸ hr⟩⟩, h.o, h.ge⟩)
    clear h hs hr
    go_enter Try.func133, Try.ntmps133
    go_wp2_with fail
    go_end0
    exact ⟨rfl, qv, HE.out, Mv.refl _ _⟩
  · have hl := hs.look hc false ⟨fun k => (by cases k), fun k => absurd k hr⟩
    have Hc := Lib.hid hc
    have Hr := Lib.hid hr
    have Hkd := Lib.hid h.kinds
    clear h hs hr hc
    go_enter Try.func133, Try.ntmps133
    go_upto_region 2 with (first | (at_mapUpdate; refine wpList_put_set rfl _ rfl _ _ _ rfl rfl rfl rfl HS.out Hc.out (by omega) ?_; intro w2 n2 hs2 hn2 hg2))
    have HG2 := Lib.hid ((hg2.block bg (H.out.lt (.inl rfl)) (fun e => Hkd.out.2.1 (Option.some.inj e))).trans H.out.g)
    have HQ2 := Lib.hid ((hg2.block bq (H.out.lt (.inr (.inl rfl))) (fun e => Hkd.out.2.2.1 (Option.some.inj e))).trans H.out.q)
    have HO2 := Lib.hid (H.out.o.block fun k hk => hg2.block k (H.out.lt (.inr (.inr (.inr hk)))) fun e => (Hkd.out.2.2.2 k hk).2.2 (Option.some.inj e))
    have HS2 := Lib.hid hs2
    have Hg2 := Lib.hid hg2
    have hsz := hg2.size
    clear hs2 hn2 hg2 hl g0
    obtain ⟨w3, hw3⟩ : ∃ x, x = w2.alloc (.cells #[.int .i64 c] 3) := ⟨_, rfl⟩
    have hb3 : Below w2.heap.size w2 w3 := by rw [hw3]; exact below_alloc _ _
    obtain ⟨bl, hbl⟩ : ∃ x, x = w2.heap.size := ⟨_, rfl⟩
    have HL := Lib.hid (show w3.heap[bl]? = some (.cells #[.int .i64 c] 3 (0, 0)) from by rw [hw3, hbl]; exact heap_alloc_new _ _)
    have HO3 := Lib.hid (HO2.out.keep hb3)
    have Hb3 := Lib.hid hb3
    have hb3s : base ≤ w3.heap.size := by have := hb3.size; omega
    have g3 := aCell HQ2.out 0 rfl
    have Hw3 := Lib.hid hw3
    have Hbl := Lib.hid hbl
    clear hw3 hb3 hbl
    obtain ⟨ua, un, uc, hqv⟩ := oq_form HO3.out
    subst hqv
    go_wp2_with (first | (at_builtin; rw [← Hw3.out, ← Hbl.out]; refine wpList_app_q rfl (.tmp 10) (.tmp 12) rfl rfl HO3.out (Nat.le_trans hQ (by omega)) hb3s rfl (aCell HL.out 0 rfl) ?_; intro v5 w5 h51 h52 h53; obtain ⟨pa, pn, pk, rfl⟩ := oq_form h51; have hbk := (h52.block bq (by have := Hb3.out.size; have := H.out.lt (.inr (.inl rfl)); omega) (fun e => (Hkd.out.2.2.2 bq e.symm).2.1 rfl)).trans (blk_keep2 HQ2.out Hb3.out); have x1 := aCell hbk 0 rfl; have x2 := frozen_of_row w5 bq 0 _ _ hbk; have HBK := Lib.hid hbk; have H51 := Lib.hid h51; have H52 := Lib.hid h52; have H53 := Lib.hid h53; clear hbk h51 h52 h53 g3))
    go_end0
    have hlt := fun k hk => H.out.lt (k := k) hk
    have hsz3 := Hb3.out.size
    have hsz5 := H52.out.size
    have hkb : ∀ k, k < w.heap.size → ¬ Bd bg bq mg (.slice ua un uc) k → (w5.setCell ⟨bq, 0, none⟩ (.slice pa pn pk)).heap[k]? = w.heap[k]? := fun k hk hn => by
      rw [heap_setCell_other w5 ⟨bq, 0, none⟩ k _ (fun e => hn (.inr (.inl e)))]
      rw [H52.out.block k (by omega) (fun e => hn (.inr (.inr (.inr e.symm)))), Hb3.out.block k (by omega), Hg2.out.block k hk (fun e => hn (.inr (.inr (.inl (Option.some.inj e)))))]
    have hnew : ∀ k, (Value.slice pa pn pk).ownBlock = some k → (Value.slice ua un uc).ownBlock = some k ∨ w.heap.size ≤ k := fun k hk => by
      rcases H53.out with e | e
      · exact .inl (e ▸ hk)
      · have := e k hk; exact .inr (by omega)
    have hne : ∀ k, (Value.slice pa pn pk).ownBlock = some k → k ≠ bq ∧ k ≠ bg ∧ k ≠ mg := fun k hk => by
      rcases hnew k hk with e | e
      · have := Hkd.out.2.2.2 k e; exact ⟨this.2.1, this.1, this.2.2⟩
      · have h1 := hlt bq (.inr (.inl rfl)); have h2 := hlt bg (.inl rfl); have h3 := hlt mg (.inr (.inr (.inl rfl)))
        exact ⟨by omega, by omega, by omega⟩
    refine ⟨rfl, .slice pa pn pk, ⟨?_, ?_, ?_, ?_, ?_⟩, ⟨?_, ?_, ?_, ?_, hkb, ?_⟩⟩
    · rw [heap_setCell_other w5 ⟨bq, 0, none⟩ bg _ Hkd.out.1, H52.out.block bg (by have := hlt bg (.inl rfl); omega) (fun e => (Hkd.out.2.2.2 bg e.symm).1 rfl), Hb3.out.block bg (by have := hlt bg (.inl rfl); omega)]
      exact HG2.out
    · rw [heap_setCell_same w5 bq 0 _ _ (.slice pa pn pk) HBK.out]
      rfl
    · refine ⟨n2, ?_⟩
      exact ((HS2.out.keep Hb3.out).kept H52.out (fun e => (Hkd.out.2.2.2 mg e.symm).2.2 rfl)).kept (grown_setCell w5 bq 0 _) (by simp; exact fun e => Hkd.out.2.2.1 e.symm)
    · rw [nxQ_new Hr.out]
      exact H51.out.block fun k hk => heap_setCell_other w5 ⟨bq, 0, none⟩ k _ (hne k hk).1
    · intro k hk
      rcases hk with e | e | e | e
      · exact H.out.ge k (.inl e)
      · exact H.out.ge k (.inr (.inl e))
      · exact H.out.ge k (.inr (.inr (.inl e)))
      · rcases hnew k e with q | q
        · exact H.out.ge k (.inr (.inr (.inr q)))
        · omega
    · show w5.os = w.os
      rw [H52.out.os, Hb3.out.os, Hg2.out.os]
    · show w5.tape = w.tape
      rw [H52.out.tape, Hb3.out.tape, Hg2.out.tape]
    · show w5.output = w.output
      rw [H52.out.output, Hb3.out.output, Hg2.out.output]
    · have h9 : (w5.setCell ⟨bq, 0, none⟩ (.slice pa pn pk)).heap.size = w5.heap.size := by simp
      omega
    · intro k hk
      rcases hk with e | e | e | e
      · exact .inl (.inl e)
      · exact .inl (.inr (.inl e))
      · exact .inl (.inr (.inr (.inl e)))
      · rcases hnew k e with q | q
        · exact .inl (.inr (.inr (.inr q)))
        · exact .inr q
/-- is a fact there -/
theorem there_any (c : Int) (hc : KOk c) (K : Int → Prop) (mk nk bx : Nat) (w : World) (hx : w.heap[bx]? = some (.cells #[.map (some mk)] 130 (0, 0))) (hk : KSet w mk nk K) (B : Bool) (hB : B = true ↔ K c) :
    Calls Try.prog 147 #[.int .i64 c, .pointer (some ⟨bx, 0, none⟩)] w fun e w' => e = .returned (.bool B) ∧ ∃ n, w' = w.drewN n := by
  have hl := hk.look hc B hB
  have g0 := aCell hx 0 rfl
  clear hk hB hc hx
  go_enter Try.func147, Try.ntmps147
  go_wp2_with fail
  go_ret
  exact ⟨rfl, 0, rfl⟩
set_option maxRecDepth 100000 in
set_option maxHeartbeats 8000000 in
theorem idxK_any (A : List Int) (hA : ∀ c, c ∈ A → KOk c) (K : Int → Prop) (mk nk bx : Nat) (u : Value) (w : World) (hx : w.heap[bx]? = some (.cells #[.map (some mk)] 130 (0, 0))) (hk : KSet w mk nk K) (hu : Ints w u A) :
    Calls Try.prog 110 #[u, .func (.func 147) #[] #[.pointer (some ⟨bx, 0, none⟩)]] w fun e w' => ∃ c : Int, e = .returned (.int .i64 c) ∧ (0 ≤ c ↔ ∃ x, x ∈ A ∧ K x) ∧ ∃ n, w' = w.drewN n := by
  obtain ⟨a, b, off, cap, rfl, hle, ha, hcs⟩ := Ints.get hu
  have Hix := Lib.hid (run_ix (P := Try.prog) (t := 23) (a := a) (len := A.length) (cap := cap) (b := b) (off := off) (s := 1) Try.underlying23 (by intro w; kernel_rfl) ha)
  simp only [Nat.mul_one] at Hix
  have Hc := Lib.hid (show ∀ i, i < A.length → w.cell? ⟨b, off + i, none⟩ = some (.int .i64 (A.getD i 0)) from fun i hi => by rw [hcs i hi, List.getD_eq_getElem?_getD, List.getElem?_eq_getElem hi]; rfl)
  have HX := Lib.hid (show ∀ d, (w.drewN d).heap[bx]? = some (.cells #[.map (some mk)] 130 (0, 0)) ∧ KSet (w.drewN d) mk nk K from fun d => ⟨hx, hk.keep (bdrewN2 (Below.refl _ _) d)⟩)
  have HA := Lib.hid hA
  clear hu ha hcs hx hk hA
  obtain ⟨n, hn⟩ : ∃ x, x = A.length := ⟨_, rfl⟩
  have Hn := Lib.hid hn
  rw [← hn] at Hix Hc hle ⊢
  clear hn
  go_enter Try.func110, Try.ntmps110
  go_wp2_with fail
  go_loopw [8] (fun vi wr => ∃ k q : Nat, vi = .int .i64 k ∧ k ≤ n ∧ wr = w.drewN q ∧ ∀ j, j < k → ¬ K (A.getD j 0)) (fun vi _ => n - (intOf vi).toNat)
  case atStart => exact ⟨0, 0, rfl, Nat.zero_le _, rfl, fun j hj => by omega⟩
  case round =>
    obtain ⟨k, q, rfl, hk, hwr, hin⟩ := hrel
    have Hwr := Lib.hid hwr
    have Hin := Lib.hid hin
    clear hwr hin
    by_cases hlt : k < n
    · have hck := (show wr.cell? ⟨b, off + k, none⟩ = w.cell? ⟨b, off + k, none⟩ by rw [Hwr.out]; rfl).trans (Hc.out k hlt)
      have hixk := Hix.out k
      have hm : A.getD k 0 ∈ A := by
        have : k < A.length := by rw [← Hn.out]; exact hlt
        rw [List.getD_eq_getElem?_getD, List.getElem?_eq_getElem this]; exact List.getElem_mem this
      have Hm := Lib.hid hm
      obtain ⟨x, hx⟩ : ∃ x, x = A.getD k 0 := ⟨_, rfl⟩
      rw [← hx] at hck Hm
      have Hx := Lib.hid hx
      have h1 := HX.out q
      rw [← Hwr.out] at h1
      clear hx hm
      by_cases c : K x
      · have HE := Lib.hid (there_any x (HA.out x Hm.out) K mk nk bx wr h1.1 h1.2 true ⟨fun _ => c, fun _ => rfl⟩)
        have HM := Lib.hid (show ∃ x, x ∈ A ∧ K x from ⟨x, Hm.out, c⟩)
        clear c h1
        go_wp2_with fail
        refine HE.out.mono ?_
        rintro e w5 ⟨rfl, m, hm⟩
        have Hm2 := Lib.hid hm
        clear hm
        go_wp2_with fail
        go_ret
        exact ⟨k, rfl, ⟨fun _ => HM.out, fun _ => by omega⟩, q + m, by rw [Hm2.out, Hwr.out]; exact World.drewN_drewN _ _ _⟩
      · have HE := Lib.hid (there_any x (HA.out x Hm.out) K mk nk bx wr h1.1 h1.2 false ⟨fun h => (by cases h), fun h => absurd h c⟩)
        have HN := Lib.hid (show ∀ j, j < k + 1 → ¬ K (A.getD j 0) from fun j hj => by
          by_cases e : j = k
          · subst e; rw [← Hx.out]; exact c
          · exact Hin.out j (by omega))
        clear c h1
        go_wp2_with fail
        refine HE.out.mono ?_
        rintro e w5 ⟨rfl, m, hm⟩
        have Hm2 := Lib.hid hm
        clear hm
        go_wp2_with fail
        go_roundw
        case rel => exact ⟨k + 1, q + m, by go_num, by omega, by rw [Hm2.out, Hwr.out]; exact World.drewN_drewN _ _ _, HN.out⟩
        case measure => simp [intOf]; omega
    · have HN := Lib.hid (show ¬ ∃ x, x ∈ A ∧ K x from fun ⟨x, hx, hK⟩ => by
        obtain ⟨j, hj, e⟩ := List.getElem_of_mem hx
        refine Hin.out j (by rw [Hn.out] at hlt; omega) ?_
        rw [List.getD_eq_getElem?_getD, List.getElem?_eq_getElem hj]
        show K A[j]
        rw [e]; exact hK)
      go_wp2_with fail
      go_ret
      exact ⟨-1, rfl, ⟨fun h => by omega, fun h => absurd h HN.out⟩, q, Hwr.out⟩
theorem contK_any (A : List Int) (hA : ∀ c, c ∈ A → KOk c) (K : Int → Prop) (mk nk bx : Nat) (u : Value) (w : World) (hx : w.heap[bx]? = some (.cells #[.map (some mk)] 130 (0, 0))) (hk : KSet w mk nk K) (hu : Ints w u A) (B : Bool) (hB : B = true ↔ ∃ x, x ∈ A ∧ K x) :
    Calls Try.prog 51 #[u, .func (.func 147) #[] #[.pointer (some ⟨bx, 0, none⟩)]] w fun e w' => e = .returned (.bool B) ∧ ∃ n, w' = w.drewN n := by
  have HC := Lib.hid (idxK_any A hA K mk nk bx u w hx hk hu)
  obtain ⟨a, c, rfl⟩ := ints_slice hu
  have HB := Lib.hid hB
  clear hx hk hu hB
  go_enter Try.func51, Try.ntmps51
  go_wp2_with fail
  refine HC.out.mono ?_
  rintro e w5 ⟨x, rfl, hx, m, hm⟩
  have Hm := Lib.hid hm
  clear hm
  have HB2 := Lib.hid (show B = decide (0 ≤ x) from by
    have := HB.out.trans hx.symm
    cases B
    · exact (decide_eq_false fun h => by have := this.2 h; cases this).symm
    · exact (decide_eq_true (this.1 rfl)).symm)
  clear hx
  go_wp2_with fail
  go_ret
  exact ⟨by rw [HB2.out]; rfl, _, Hm.out⟩
/-- is an instance hindered -/
theorem hind_any (i : PIn) (hA : ∀ c, c ∈ i.avoid → KOk c) (K : Int → Prop) (mk nk : Nat) (u v : Value) (w : World) (hk : KSet w mk nk K) (hv : Ints w v i.avoid) (B : Bool) (hB : B = true ↔ ∃ x, x ∈ i.avoid ∧ K x) :
    Calls Try.prog 130 #[.agg #[.int .i64 i.rule, .int .i64 i.head, u, v], .map (some mk)] w fun e w' => e = .returned (.bool B) ∧ Below w.heap.size w w' := by
  obtain ⟨w1, hw1⟩ : ∃ x, x = w.alloc (.cells #[.int .i64 i.rule, .int .i64 i.head, u, v] 207) := ⟨_, rfl⟩
  obtain ⟨w2, hw2⟩ : ∃ x, x = w1.alloc (.cells #[.map (some mk)] 130) := ⟨_, rfl⟩
  have hb1 : Below w.heap.size w w1 := by rw [hw1]; exact below_alloc _ _
  have hb2 : Below w1.heap.size w1 w2 := by rw [hw2]; exact below_alloc _ _
  obtain ⟨bi, hbi⟩ : ∃ x, x = w.heap.size := ⟨_, rfl⟩
  obtain ⟨bx, hbx⟩ : ∃ x, x = w.heap.size + 1 := ⟨_, rfl⟩
  have hs1 : w1.heap.size = w.heap.size + 1 := by rw [hw1]; exact Array.size_push _
  have hI := blk_keep2 (show w1.heap[bi]? = some (.cells #[.int .i64 i.rule, .int .i64 i.head, u, v] 207 (0, 0)) from by rw [hw1, hbi]; exact heap_alloc_new _ _) hb2
  have hX : w2.heap[bx]? = some (.cells #[.map (some mk)] 130 (0, 0)) := by rw [hw2, hbx, ← hs1]; exact heap_alloc_new _ _
  have HC := Lib.hid (contK_any i.avoid hA K mk nk bx v w2 hX ((hk.keep hb1).keep hb2) ((hv.keep hb1).keep hb2) B hB)
  have HB := Lib.hid (show Below w.heap.size w w2 from Below.tr hb1 hb2)
  have Hw1 := Lib.hid hw1
  have Hw2 := Lib.hid hw2
  have Hbi := Lib.hid hbi
  have Hbx := Lib.hid hbx
  obtain ⟨va, vc, rfl⟩ := ints_slice hv
  have g3 := aCell hI 3 rfl
  clear hA hk hv hB hw1 hw2 hb1 hb2 hI hX hbi hbx hs1
  go_enter Try.func130, Try.ntmps130
  go_upto_region 1 with fail
  rw [← Hw1.out, ← Hw2.out, ← Hbx.out, ← Hbi.out]
  clear Hw1 Hw2 Hbi Hbx
  go_wp2_with fail
  refine HC.out.mono ?_
  rintro e w5 ⟨rfl, m, hm⟩
  have Hm := Lib.hid hm
  clear hm g3
  go_wp2_with fail
  go_ret
  exact ⟨rfl, by rw [Hm.out]; exact bdrewN2 HB.out m⟩
#print axioms get_any
#print axioms hind_any
end Go.Proofs.Ythndplkjhbmfmaa
