/- Contract of (*program).consequences: what it needs. -/
import Derived.Test.YthndplkjhbmfmaaRcg
import Derived.Test.YthndplkjhbmfmaaRgr
namespace Go.Proofs.Ythndplkjhbmfmaa
open Go.RowKit
theorem KIt.blks {w w' : World} {b r cnt : Nat} {p q : Int → Prop} (h : KIt w b r p q cnt) (hb : w'.heap[b]? = w.heap[b]?) (hr : w'.heap[r]? = w.heap[r]?) : KIt w' b r p q cnt := by
  obtain ⟨D, left, ⟨es, clock, since, seen, c0, h1, F, hs, hD, h2, rest⟩, h3⟩ := h
  exact ⟨D, left, ⟨es, clock, since, seen, c0, hb.trans h1, F, hs, hD, hr.trans h2, rest⟩, h3⟩
theorem KIt.iter {w : World} {b r cnt : Nat} {p q : Int → Prop} (h : KIt w b r p q cnt) : ∃ x y z u, w.heap[r]? = some (.mapIter x y z u) := by
  obtain ⟨D, left, ⟨es, clock, since, seen, c0, h1, F, hs, hD, h2, rest⟩, h3⟩ := h
  exact ⟨_, _, _, _, h2⟩
theorem BX.other {base : Nat} {w w' : World} {bg bq mg : Nat} {qv : Value} {got : Int → Prop} {Qu : List Int} (h : BX base w bg bq mg qv got Qu) {g : Nat} (hg : w.grownBy w' (some g)) (hn : ¬ Bd bg bq mg qv g) : BX base w' bg bq mg qv got Qu := by
  have hk : ∀ k, Bd bg bq mg qv k → w'.heap[k]? = w.heap[k]? := fun k hk => hg.block k (h.lt hk) fun e => hn (Option.some.inj e ▸ hk)
  refine ⟨(hk bg (.inl rfl)).trans h.g, (hk bq (.inr (.inl rfl))).trans h.q, ?_, h.o.block fun k e => hk k (.inr (.inr (.inr e))), h.ge⟩
  obtain ⟨n, hs⟩ := h.s
  exact ⟨n, hs.kept hg fun e => hn (.inr (.inr (.inl (Option.some.inj e).symm)))⟩
theorem BX.iter {base : Nat} {w : World} {bg bq mg b r cnt : Nat} {qv : Value} {got p q : Int → Prop} {Qu : List Int} (h : BX base w bg bq mg qv got Qu) (hi : KIt w b r p q cnt) : ¬ Bd bg bq mg qv r := by
  obtain ⟨x, y, z, u, hr⟩ := hi.iter
  intro e
  rcases e with rfl | rfl | rfl | e
  · have := h.g
    rw [hr] at this
    injection this with this
    cases this
  · have := h.q
    rw [hr] at this
    injection this with this
    cases this
  · obtain ⟨n, hs⟩ := h.s
    obtain ⟨es, clock, hm, _⟩ := hs.len_run
    rw [hr] at hm
    injection hm with hm
    cases hm
  · obtain ⟨cur, hc⟩ := h.o.typ e
    rw [hr] at hc
    injection hc with hc
    cases hc
/-- the queue's box is set -/
theorem BX.setq {base : Nat} {w : World} {bg bq mg : Nat} {qv v' : Value} {got : Int → Prop} {Qu q : List Int} (h : BX base w bg bq mg qv got Qu) (ho : OQ base w v' q) (hv : v'.ownBlock = qv.ownBlock) :
    BX base (w.setCell ⟨bq, 0, none⟩ v') bg bq mg v' got q ∧ Mv w (w.setCell ⟨bq, 0, none⟩ v') (Bd bg bq mg qv) (Bd bg bq mg v') := by
  have hkd := h.kinds
  have hsz : (w.setCell ⟨bq, 0, none⟩ v').heap.size = w.heap.size := by simp
  refine ⟨⟨?_, ?_, ?_, ?_, fun k hk => h.ge k (by unfold Bd at hk ⊢; rw [← hv]; exact hk)⟩, ⟨rfl, rfl, rfl, by omega, fun k _ hn => heap_setCell_other w ⟨bq, 0, none⟩ k v' fun e => hn (.inr (.inl e)), fun k hk => .inl (by unfold Bd at hk ⊢; rw [← hv]; exact hk)⟩⟩
  · rw [heap_setCell_other w ⟨bq, 0, none⟩ bg v' hkd.1]; exact h.g
  · rw [heap_setCell_same w bq 0 _ _ v' h.q]; rfl
  · obtain ⟨n, hs⟩ := h.s
    exact ⟨n, hs.kept (grown_setCell w bq 0 v') (by simp; exact fun e => hkd.2.2.1 e.symm)⟩
  · exact ho.block fun k hk => heap_setCell_other w ⟨bq, 0, none⟩ k v' (hkd.2.2.2 k (hv ▸ hk)).2.1
/-- what consequences keeps -/
structure CW (B : Nat) (w wr : World) (bg bq mg gm N : Nat) (got : Int → Prop) (Qu : List Int) (ms : List Int) : Prop where
  x : ∃ qv, BX B wr bg bq mg qv got Qu ∧ ¬ Bd bg bq mg qv gm
  bel : Below B w wr
  row : OwnInts B wr (.slice (some ⟨gm, 0, none⟩) N N) ms
  len : ms.length = N
theorem CW.keep {B : Nat} {w wr w' : World} {bg bq mg gm N : Nat} {got : Int → Prop} {Qu : List Int} {ms : List Int} (h : CW B w wr bg bq mg gm N got Qu ms) (hb : Below wr.heap.size wr w') (hB : B ≤ wr.heap.size) : CW B w w' bg bq mg gm N got Qu ms := by
  obtain ⟨⟨qv, h1, h2⟩, h3, h4, h5⟩ := h
  exact ⟨⟨qv, h1.keep hb, h2⟩, h3.trans (hb.mono hB), h4.keep hb, h5⟩
theorem cw_get {B : Nat} {w wr w' : World} {bg bq mg gm N : Nat} {got got' : Int → Prop} {Qu Qu' : List Int} {ms : List Int} {qv qv' : Value} (hx : BX B wr bg bq mg qv got Qu) (hn : ¬ Bd bg bq mg qv gm) (hbel : Below B w wr) (hB : B ≤ wr.heap.size) (hrow : OwnInts B wr (.slice (some ⟨gm, 0, none⟩) N N) ms) (hl : ms.length = N) (hx' : BX B w' bg bq mg qv' got' Qu') (hm : Mv wr w' (Bd bg bq mg qv) (Bd bg bq mg qv')) : CW B w w' bg bq mg gm N got' Qu' ms := by
  have hlt : B ≤ gm ∧ gm < wr.heap.size := own_lt hrow rfl
  refine ⟨⟨qv', hx', fun e => ?_⟩, hbel.trans (hm.below hB hx.ge), ?_, hl⟩
  · rcases hm.new gm e with q | q
    · exact hn q
    · have := hlt.2; omega
  · exact own_block hrow fun k hk => by
      have : gm = k := by injection hk
      subst this
      exact hm.blk gm hlt.2 hn
theorem CW.set {B : Nat} {w wr : World} {bg bq mg gm N : Nat} {got : Int → Prop} {Qu : List Int} {ms : List Int} (h : CW B w wr bg bq mg gm N got Qu ms) (k : Nat) (x : Int) : CW B w (wr.setCell ⟨gm, k, none⟩ (.int .i64 x)) bg bq mg gm N got Qu (ms.set k x) := by
  obtain ⟨⟨qv, h1, h2⟩, h3, h4, h5⟩ := h
  obtain ⟨r1, r2⟩ := own_setR h4 h5.symm k x
  have hge : B ≤ gm := (own_lt h4 rfl).1
  refine ⟨⟨qv, h1.other r2 h2, h2⟩, h3.trans ⟨r2.os, r2.tape, r2.output, r2.size, fun k hk => heap_setCell_other wr ⟨gm, _, none⟩ k _ (by show k ≠ gm; omega)⟩, r1, by rw [List.length_set]; exact h5⟩
theorem CW.cell {B : Nat} {w wr : World} {bg bq mg gm N : Nat} {got : Int → Prop} {Qu : List Int} {ms : List Int} (h : CW B w wr bg bq mg gm N got Qu ms) {k : Nat} (hk : k < N) : wr.cell? ⟨gm, k, none⟩ = some (.int .i64 (ms.getD k 0)) ∧ wr.frozen? ⟨gm, k, none⟩ = false :=
  ⟨ownI_cellR h.row h.len.symm (by rw [h.len]; exact hk), World.ownsRow.frozenAt (show wr.ownsRow B 3 1 (.slice (some ⟨gm, 0, none⟩) N N) N (ms.map (Value.int .i64)) from by have := h.row; unfold OwnInts at this; rw [h.len] at this; exact this) k⟩
/-- the queue is short -/
theorem cq_len {I : List PIn} {cnt : Nat → Bool} {S K got : Int → Prop} {P Qu : List Int} (h : CQ I cnt S K got P Qu) (hk : ∀ x, got x → KOk x) : P.length + Qu.length ≤ 294 := by
  have := len_le h.nod (m := (List.range 294).map fun (i : Nat) => (i : Int)) fun x hx => by
    have := hk x ((h.iff x).2 hx)
    unfold KOk at this
    exact List.mem_map.2 ⟨x.toNat, List.mem_range.2 (by omega), by omega⟩
  simpa using this
theorem BX.vok {base : Nat} {w : World} {bg bq mg : Nat} {qv : Value} {got : Int → Prop} {Qu : List Int} (h : BX base w bg bq mg qv got Qu) : ∀ x, got x → KOk x := fun x hx => by obtain ⟨n, hs⟩ := h.s; exact hs.vok hx
/-- how much is left to do -/
def cqm (w : World) (bq mg : Nat) : Nat := 294 + (match w.cell? ⟨bq, 0, none⟩ with | some (.slice _ n _) => n | _ => 0) - (match w.heap[mg]? with | some (.map es _) => es.size | _ => 0)
theorem cqm_eq {I : List PIn} {cnt : Nat → Bool} {S K got : Int → Prop} {P Qu : List Int} {base : Nat} {w : World} {bg bq mg : Nat} {qv : Value} (h : BX base w bg bq mg qv got Qu) (hq : CQ I cnt S K got P Qu) : cqm w bq mg = 294 - P.length := by
  obtain ⟨n, hs⟩ := h.s
  have hn := hs.len hq.nod fun v => (hq.iff v).symm
  obtain ⟨es, clock, hm, he⟩ := hs.len_run
  obtain ⟨a, c, e⟩ := h.o.slice
  unfold cqm
  rw [aCell h.q 0 rfl, hm, e]
  show 294 + Qu.length - es.size = _
  rw [he, hn, List.length_append]
  omega
theorem inC_at : ∀ {l : List PIn} {us : List (Value × Value)} (_ : us.length = l.length) {i : Nat} (h : i < l.length) (h' : i < us.length), (inC l us)[i * 4]? = some (.int .i64 l[i].rule) ∧ (inC l us)[i * 4 + 1]? = some (.int .i64 l[i].head) ∧ (inC l us)[i * 4 + 2]? = some us[i].1 ∧ (inC l us)[i * 4 + 3]? = some us[i].2
  | a :: l, v :: vs, _, 0, _, _ => ⟨rfl, rfl, rfl, rfl⟩
  | a :: l, v :: vs, h, i + 1, hi, hi' => by
    have := inC_at (l := l) (us := vs) (by simpa using h) (i := i) (by simpa using hi) (by simpa using hi')
    have e : inC (a :: l) (v :: vs) = .int .i64 a.rule :: .int .i64 a.head :: v.1 :: v.2 :: inC l vs := rfl
    rw [e, show (i + 1) * 4 = (i * 4 + 3) + 1 from by omega]
    simp only [List.getElem?_cons_succ, List.getElem_cons_succ]
    exact this
theorem InsR.get {base bnd : Nat} {w : World} {v : Value} {I : List PIn} {D : Nat → Prop} (h : InsR base bnd w v I D) : ∃ (a : Option Addr) (b off cap : Nat), v = .slice a I.length cap ∧ (0 < I.length → a = some ⟨b, off, none⟩) ∧
    ∀ i (h : i < I.length), ∃ (na : Option Addr) (nc : Nat) (aa : Option Addr) (ac : Nat), w.cell? ⟨b, off + i * 4, none⟩ = some (.int .i64 I[i].rule) ∧ w.cell? ⟨b, off + i * 4 + 1, none⟩ = some (.int .i64 I[i].head) ∧ w.cell? ⟨b, off + i * 4 + 2, none⟩ = some (.slice na I[i].need.length nc) ∧ w.cell? ⟨b, off + i * 4 + 3, none⟩ = some (.slice aa I[i].avoid.length ac) ∧
      Ints w (.slice na I[i].need.length nc) I[i].need ∧ Ints w (.slice aa I[i].avoid.length ac) I[i].avoid := by
  obtain ⟨us, h1, h2, h3⟩ := h
  obtain ⟨_, _, a, b, off, cap, h4, h5, h6⟩ := owns_rd h2
  refine ⟨a, b, off, cap, h4, h5.1, fun i hi => ?_⟩
  have hl := inC_len h1
  have hi' : i < us.length := by omega
  obtain ⟨e0, e1, e2, e3⟩ := inC_at h1 hi hi'
  have g0 := h6 (i * 4) (by omega)
  have g1 := h6 (i * 4 + 1) (by omega)
  have g2 := h6 (i * 4 + 2) (by omega)
  have g3 := h6 (i * 4 + 3) (by omega)
  rw [List.getElem?_eq_getElem (by omega)] at e0 e1 e2 e3
  rw [Option.some.inj e0] at g0
  rw [Option.some.inj e1] at g1
  rw [Option.some.inj e2] at g2
  rw [Option.some.inj e3] at g3
  obtain ⟨⟨i1, _⟩, i2, _⟩ := h3 i hi hi'
  obtain ⟨na, nc, en⟩ := ints_slice i1
  obtain ⟨aa, ac, ea⟩ := ints_slice i2
  rw [en] at g2 i1
  rw [ea] at g3 i2
  exact ⟨na, nc, aa, ac, g0, by rw [Nat.add_assoc]; exact g1, by rw [Nat.add_assoc]; exact g2, by rw [Nat.add_assoc]; exact g3, i1, i2⟩
/-- the instances' codes -/
def InsV (I : List PIn) : Prop := ∀ i, i ∈ I → KOk i.head ∧ (∀ c, c ∈ i.need → KOk c) ∧ (∀ c, c ∈ i.avoid → KOk c) ∧ i.need.length ≤ 3
theorem gd_insV {l : List RRule} {fs : List RAt} (hv : ValR l fs) {S : PSt} (h : Gd l fs S) : InsV S.I := fun i hi => by
  obtain ⟨r, m, h1, h2, h3⟩ := h.gr.sound i hi
  have hm := List.mem_of_getElem? h1
  have hr := hv.ats r hm
  rw [h3]
  refine ⟨kok_pcd (gnd_fc hr.1 fun t ht => h2 t (.inl ht)), need_iff.2 fun b hb _ => kok_pcd (gnd_fc (hr.2 b hb) fun t ht => h2 t (.inr ⟨b, hb, ht⟩)), avoid_iff.2 fun b hb _ => kok_pcd (gnd_fc (hr.2 b hb) fun t ht => h2 t (.inr ⟨b, hb, ht⟩)), ?_⟩
  rw [insOf_need]
  exact Nat.le_trans (codes_len r m _).1 (hv.b3 r hm)
theorem CM.cong {I : List PIn} {cnt : Nat → Bool} {K got : Int → Prop} {P : List Int} {u u' : Nat → Nat} {ms : List Int} (h : CM I cnt K got P u ms) (hu : ∀ i, u' i = u i) : CM I cnt K got P u' ms := by
  have : u' = u := funext hu
  rw [this]; exact h
theorem bump_take {U : List Int} {j i : Nat} (hj : j < U.length) (hi : U.getD j 0 = (i : Int)) (k : Nat) : (U.take (j + 1)).count (k : Int) = bump (fun i => (U.take j).count (i : Int)) i k := by
  rw [count_take_succ hj, hi]
  unfold bump
  by_cases e : k = i
  · subst e; simp
  · rw [if_neg (show ¬ (i : Int) = (k : Int) by omega), if_neg e]; rfl
theorem CM.small {I : List PIn} {cnt : Nat → Bool} {K got : Int → Prop} {P : List Int} {u : Nat → Nat} {ms : List Int} (h : CM I cnt K got P u ms) {i : Nat} (hi : i < I.length) (h3 : I[i].need.length ≤ 3) (hu : u i ≤ 3) : -10 ≤ ms.getD i 0 ∧ ms.getD i 0 ≤ 10 := by
  have e := h.val i hi
  have d := dn_le P I[i]
  by_cases c : Live cnt K I[i]
  · rw [bas_live c] at e; omega
  · rw [bas_dead c] at e; omega
#print axioms CW.set
end Go.Proofs.Ythndplkjhbmfmaa
