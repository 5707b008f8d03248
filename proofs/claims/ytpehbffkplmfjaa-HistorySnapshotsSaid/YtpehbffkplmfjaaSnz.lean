/- The reference's all: the edges of all sorts as a table. -/
import Derived.Test.YtpehbffkplmfjaaSnx
namespace Go.Proofs.Ytpehbffkplmfjaa
open Go.RowKit
/-- both write an item, one commits before the other -/
def WW (h : List NOp) (a c x : Nat) : Prop := a ≠ c ∧ WrP h a x ∧ WrP h c x ∧ lv h h.length (7 + a) < lv h h.length (7 + c)
/-- the edges found before (j, x), and from the first k -/
def SA (h : List NOp) (l : List Nat) (j x k a c : Nat) : Prop :=
  antiF h a c = true ∨ (∃ j' x', j' < l.length ∧ x' < 6 ∧ (j' < j ∨ j' = j ∧ x' < x) ∧ c = l.getD j' 0 ∧ ((a ∈ l ∧ WW h a c x') ∨ (lbR h x' c l.length = a ∧ 0 < a ∧ RdP h c x'))) ∨ ∃ k', k' < k ∧ k' < l.length ∧ a = l.getD k' 0 ∧ c = l.getD j 0 ∧ WW h a c x
def MQ (S : Nat → Nat → Prop) (E : Nat → Nat → Bool) : Prop := ∀ a c, E a c = true ↔ S a c
theorem mq_to {S T : Nat → Nat → Prop} {E : Nat → Nat → Bool} (h : MQ S E) (e : ∀ a c, S a c ↔ T a c) : MQ T E := fun a c => (h a c).trans (e a c)
theorem mq_put {S T : Nat → Nat → Prop} {E : Nat → Nat → Bool} {a0 c0 : Nat} (h : MQ S E) (e : ∀ a c, S a c ∨ a = a0 ∧ c = c0 ↔ T a c) : MQ T (fun a c => if a = a0 ∧ c = c0 then true else E a c) := fun a c => by
  rw [← e]
  show (if a = a0 ∧ c = c0 then true else E a c) = true ↔ _
  by_cases q : a = a0 ∧ c = c0
  · rw [if_pos q]; exact ⟨fun _ => .inr q, fun _ => rfl⟩
  · rw [if_neg q, h a c]; exact ⟨.inl, fun r => r.elim id fun r => absurd r q⟩
theorem sa_k_no {h : List NOp} {l : List Nat} {j x k : Nat} (hn : ¬ WW h (l.getD k 0) (l.getD j 0) x) (a c : Nat) : SA h l j x k a c ↔ SA h l j x (k + 1) a c := by
  unfold SA
  refine or_congr Iff.rfl (or_congr Iff.rfl ⟨fun ⟨k', h1, r⟩ => ⟨k', by omega, r⟩, fun ⟨k', h1, h2, h3, h4, h5⟩ => ⟨k', ?_, h2, h3, h4, h5⟩⟩)
  by_cases e : k' = k
  · subst e; rw [h3, h4] at h5; exact absurd h5 hn
  · omega
theorem sa_k_yes {h : List NOp} {l : List Nat} {j x k : Nat} (hk : k < l.length) (hy : WW h (l.getD k 0) (l.getD j 0) x) (a c : Nat) : SA h l j x k a c ∨ a = l.getD k 0 ∧ c = l.getD j 0 ↔ SA h l j x (k + 1) a c := by
  unfold SA
  constructor
  · rintro ((r | r | ⟨k', h1, r⟩) | ⟨rfl, rfl⟩)
    · exact .inl r
    · exact .inr (.inl r)
    · exact .inr (.inr ⟨k', by omega, r⟩)
    · exact .inr (.inr ⟨k, by omega, hk, rfl, rfl, hy⟩)
  · rintro (r | r | ⟨k', h1, h2, h3, h4, h5⟩)
    · exact .inl (.inl r)
    · exact .inl (.inr (.inl r))
    · by_cases e : k' = k
      · subst e; exact .inr ⟨h3, h4⟩
      · exact .inl (.inr (.inr ⟨k', by omega, h2, h3, h4, h5⟩))
theorem sa_x {h : List NOp} {l : List Nat} {j x : Nat} (hj : j < l.length) (hx : x < 6) (a c : Nat) : SA h l j x l.length a c ∨ (a = lbR h x (l.getD j 0) l.length ∧ c = l.getD j 0 ∧ 0 < a ∧ RdP h c x) ↔ SA h l j (x + 1) 0 a c := by
  unfold SA
  constructor
  · rintro ((r | ⟨j', x', h1, h2, h3, h4⟩ | ⟨k', h1, h2, h3, h4, h5⟩) | ⟨r1, r2, r3, r4⟩)
    · exact .inl r
    · exact .inr (.inl ⟨j', x', h1, h2, by omega, h4⟩)
    · exact .inr (.inl ⟨j, x, hj, hx, by omega, h4, .inl ⟨by rw [h3]; exact getD_mem h2, h5⟩⟩)
    · exact .inr (.inl ⟨j, x, hj, hx, by omega, r2, .inr ⟨by rw [r2]; exact r1.symm, r3, r4⟩⟩)
  · rintro (r | ⟨j', x', h1, h2, h3, h4, h5⟩ | ⟨k', h1, _⟩)
    · exact .inl (.inl r)
    · by_cases e : j' = j ∧ x' = x
      · obtain ⟨rfl, rfl⟩ := e
        rcases h5 with ⟨h5, h6⟩ | ⟨h5, h6, h7⟩
        · obtain ⟨k', hk', e⟩ := mem_getD.2 h5
          exact .inl (.inr (.inr ⟨k', hk', hk', e, h4, h6⟩))
        · exact .inr ⟨by rw [← h4]; exact h5.symm, h4, h6, h7⟩
      · exact .inl (.inr (.inl ⟨j', x', h1, h2, by omega, h4, h5⟩))
    · omega
theorem sa_x_no {h : List NOp} {l : List Nat} {j x : Nat} (hj : j < l.length) (hx : x < 6) (hn : ¬ (0 < lbR h x (l.getD j 0) l.length ∧ RdP h (l.getD j 0) x)) (a c : Nat) : SA h l j x l.length a c ↔ SA h l j (x + 1) 0 a c := by
  rw [← sa_x hj hx]
  exact ⟨.inl, fun r => r.elim id fun ⟨r1, r2, r3, r4⟩ => absurd ⟨by rw [← r1]; exact r3, by rw [← r2]; exact r4⟩ hn⟩
theorem sa_x_yes {h : List NOp} {l : List Nat} {j x : Nat} (hj : j < l.length) (hx : x < 6) (hy : 0 < lbR h x (l.getD j 0) l.length ∧ RdP h (l.getD j 0) x) (a c : Nat) : SA h l j x l.length a c ∨ a = lbR h x (l.getD j 0) l.length ∧ c = l.getD j 0 ↔ SA h l j (x + 1) 0 a c := by
  rw [← sa_x hj hx]
  refine or_congr Iff.rfl ⟨fun ⟨r1, r2⟩ => ⟨r1, r2, by rw [r1]; exact hy.1, by rw [r2]; exact hy.2⟩, fun r => ⟨r.1, r.2.1⟩⟩
theorem sa_j {h : List NOp} {l : List Nat} {j : Nat} (a c : Nat) : SA h l j 6 0 a c ↔ SA h l (j + 1) 0 0 a c := by
  unfold SA
  refine or_congr Iff.rfl (or_congr ⟨fun ⟨j', x', h1, h2, h3, h4⟩ => ⟨j', x', h1, h2, by omega, h4⟩, fun ⟨j', x', h1, h2, h3, h4⟩ => ⟨j', x', h1, h2, by omega, h4⟩⟩ ⟨fun ⟨k', h1, _⟩ => by omega, fun ⟨k', h1, _⟩ => by omega⟩)
theorem sa_0 {h : List NOp} {l : List Nat} (a c : Nat) : antiF h a c = true ↔ SA h l 0 0 0 a c := by
  unfold SA
  refine ⟨.inl, fun r => r.elim id fun r => r.elim (fun ⟨j', x', h1, h2, h3, h4⟩ => by omega) fun ⟨k', h1, _⟩ => by omega⟩
theorem sa_end {h : List NOp} (hh : VH h) {E : Nat → Nat → Bool} (q : MQ (SA h (comN h 7) (comN h 7).length 0 0) E) : E = fun a b => (snEd h a).testBit b := by
  funext a c
  rw [Bool.eq_iff_iff, q a c, ← allE_snEd hh a c]
  unfold SA AllE antiF
  rw [decide_eq_true_eq, and_assoc]
  refine or_congr Iff.rfl ⟨?_, ?_⟩
  · rintro (⟨j', x', h1, h2, h3, rfl, h5⟩ | ⟨k', h1, _⟩)
    · refine ⟨getD_mem h1, x', h2, ?_⟩
      rcases h5 with ⟨h5, h6⟩ | h5
      · exact .inl ⟨h5, h6⟩
      · exact .inr h5
    · omega
  · rintro ⟨h1, x, hx, h2⟩
    obtain ⟨j, hj, rfl⟩ := mem_getD.2 h1
    refine .inl ⟨j, x, hj, hx, .inl hj, rfl, ?_⟩
    rcases h2 with ⟨h2, h3⟩ | h2
    · exact .inl ⟨h2, h3⟩
    · exact .inr h2
/-- what the walk of a table keeps: the table lies in block mb -/
structure Tc (w w2 wr : World) (mb : Nat) (E : Nat → Nat → Bool) : Prop where
  b : Below w.heap.size w wr
  g : w2.grownBy wr (some mb)
  v : MatB wr w.heap.size fun _ _ => false
  e : MatB wr mb E
theorem Tc.keep {w w2 wr w' : World} {mb : Nat} {E : Nat → Nat → Bool} (h : Tc w w2 wr mb E) (hb : Below wr.heap.size wr w') : Tc w w2 w' mb E := ⟨Below.tr h.b hb, sn_tr h.g (below_grown hb), Blk.keep h.v hb, Blk.keep h.e hb⟩
theorem Tc.put {w w2 wr : World} {mb : Nat} {E : Nat → Nat → Bool} (h : Tc w w2 wr mb E) (hm : w.heap.size < mb) {s t : Nat} (ht : t < 7) : Tc w w2 (wr.setCell ⟨mb, s * 7 + t, none⟩ (.bool true)) mb (fun x y => if x = s ∧ y = t then true else E x y) :=
  ⟨h.b.setCell (by simp; omega) _, sn_tr h.g (put_grown _ _ _ _), Blk.other h.v (by omega) _, MatB.put h.e ht⟩
set_option maxRecDepth 100000 in
set_option maxHeartbeats 16000000 in
theorem all_any {h : List NOp} (hh : VH h) (v : Value) (w : World) (hv : Ops w v (castO h)) :
    Calls Try.prog 73 #[v] w fun e w' => e = .returned (.agg (mat fun a b => (snEd h a).testBit b)) ∧ Below w.heap.size w w' := by
  obtain ⟨w1, hw1⟩ : ∃ w1, w1 = w.alloc (.cells #[.bool false, .bool false, .bool false, .bool false, .bool false, .bool false, .bool false, .bool false, .bool false, .bool false, .bool false, .bool false, .bool false, .bool false, .bool false, .bool false, .bool false, .bool false, .bool false, .bool false, .bool false, .bool false, .bool false, .bool false, .bool false, .bool false, .bool false, .bool false, .bool false, .bool false, .bool false, .bool false, .bool false, .bool false, .bool false, .bool false, .bool false, .bool false, .bool false, .bool false, .bool false, .bool false, .bool false, .bool false, .bool false, .bool false, .bool false, .bool false, .bool false] 80) := ⟨_, rfl⟩
  have hb0 : Below w.heap.size w w1 := by rw [hw1]; exact below_alloc _ _
  have hB1 : MatB w1 w.heap.size fun _ _ => false := by rw [hw1]; exact blk_new w 80 49 fun _ => .bool false
  have hsz : w1.heap.size = w.heap.size + 1 := by rw [hw1]; simp
  have HA := Lib.hid (anti_any hh v w1 (Ops.keep hv hb0))
  have HC := Lib.hid (fun (w' : World) (hb : Below w.heap.size w w') => committedR_any hh v w' (Ops.keep hv hb))
  have HE := Lib.hid (fun (a : Nat) (ma : a ∈ comN h 7) (w' : World) (hb : Below w.heap.size w w') => by
    have := end_any hh (q := 2) (by omega) a v w' (Ops.keep hv hb)
    rwa [endI_is (mem_comS.1 ma).1 (mem_comS.1 ma).2] at this)
  have HG := Lib.hid (fun (a : Nat) (ma : a ∈ comN h 7) (w' : World) (hb : Below w.heap.size w w') => by
    have := beginR_any hh (com_has hh (mem_comS.1 ma).1 (mem_comS.1 ma).2) v w' (Ops.keep hv hb)
    rwa [← lv_beg h (mem_comS.1 ma).1] at this)
  have HW := Lib.hid (fun (t x : Nat) (w' : World) (hb : Below w.heap.size w w') => writesR_any hh t x v w' (Ops.keep hv hb))
  have HR := Lib.hid (fun (t x : Nat) (w' : World) (hb : Below w.heap.size w w') => readsR_any hh t x v w' (Ops.keep hv hb))
  have HF := Lib.hid (fun E q => sa_end hh (E := E) q)
  have HLs := Lib.hid (fun x b k => show lbR h x b (k + 1) = if LbQ h x b (lbR h x b k) ((comN h 7).getD k 0) then (comN h 7).getD k 0 else lbR h x b k from rfl)
  have HLm := Lib.hid (fun x b k hk => lbR_mem (h := h) (x := x) (b := b) k hk)
  have Hm := Lib.hid (fun k (hk : k < (comN h 7).length) => getD_mem hk)
  have H7 := Lib.hid (fun k (hk : k ∈ comN h 7) => (mem_comS.1 hk).1)
  have hl7 := comN_le h 7
  obtain ⟨l, hl⟩ : ∃ l, l = comN h 7 := ⟨_, rfl⟩
  rw [← hl] at HC HE HG HF HLs HLm Hm H7 hl7
  obtain ⟨G, hG⟩ : ∃ G : Nat → Nat → Bool, G = fun a b => (snEd h a).testBit b := ⟨_, rfl⟩
  rw [← hG] at HF ⊢
  obtain ⟨a0, c0, rfl⟩ := ops_slice hv
  clear hv hh hl hG
  have Hw1 := Lib.hid hw1
  have Hb0 := Lib.hid hb0
  have HB1 := Lib.hid hB1
  have Hsz := Lib.hid hsz
  clear hw1 hb0 hB1 hsz
  go_enter Try.func73, Try.ntmps73
  go_wp2_with fail
  rw [← Hw1.out]
  clear Hw1
  refine HA.out.mono ?_
  rintro e w2 ⟨rfl, hb2⟩
  obtain ⟨w3, hw3⟩ : ∃ w3, w3 = w2.alloc (.cells #[.bool false, .bool false, .bool false, .bool false, .bool false, .bool false, .bool false, .bool false, .bool false, .bool false, .bool false, .bool false, .bool false, .bool false, .bool false, .bool false, .bool false, .bool false, .bool false, .bool false, .bool false, .bool false, .bool false, .bool false, .bool false, .bool false, .bool false, .bool false, .bool false, .bool false, .bool false, .bool false, .bool false, .bool false, .bool false, .bool false, .bool false, .bool false, .bool false, .bool false, .bool false, .bool false, .bool false, .bool false, .bool false, .bool false, .bool false, .bool false, .bool false] 80) := ⟨_, rfl⟩
  obtain ⟨mb, hmb⟩ : ∃ mb, mb = w2.heap.size := ⟨_, rfl⟩
  have hB3 : MatB w3 mb fun _ _ => false := by rw [hw3, hmb]; exact blk_new w2 80 49 fun _ => .bool false
  have hb3 : Below w.heap.size w w3 := by rw [hw3]; exact Below.tr (Below.tr Hb0.out hb2) (below_alloc _ _)
  have hV3 : MatB w3 w.heap.size fun _ _ => false := by rw [hw3]; exact Blk.keep (Blk.keep HB1.out hb2) (below_alloc _ _)
  have hlt : w.heap.size < mb := by have := hb2.size; have := Hsz.out; omega
  obtain ⟨L, hL⟩ : ∃ L, L = mat (antiF h) := ⟨_, rfl⟩
  have hS : (Try.prog.info? 80).map (·.size) = some L.size := by rw [hL]; unfold mat; rw [row_size]; kernel_rfl
  have h1 : L.all (·.oneCell') = true := by rw [hL]; exact mat_one _
  have hz : (row 49 fun _ => Value.bool false).size = L.size := by rw [hL]; unfold mat; rw [row_size, row_size]
  have hM4 : MatB (w3.setRow mb L) mb (antiF h) := by rw [hL]; exact Blk.setRow hB3 _
  have hV4 : MatB (w3.setRow mb L) w.heap.size fun _ _ => false := by
    have hb : Below mb w3 (w3.setRow mb L) := below_setRow (Below.refl _ _) (Nat.le_refl _) _
    exact (hb.block _ hlt).trans hV3
  have hb4 : Below w.heap.size w (w3.setRow mb L) := below_setRow hb3 (by omega) _
  have HB3 := Lib.hid (show w3.heap[mb]? = some (.cells (row 49 fun _ => Value.bool false) 80 (0, 0)) from hB3)
  have HS := Lib.hid hS
  have H1 := Lib.hid h1
  have HZ := Lib.hid hz
  have HM4 := Lib.hid hM4
  have HV4 := Lib.hid hV4
  have Hb4 := Lib.hid hb4
  have Hw3 := Lib.hid hw3
  have Hmb := Lib.hid hmb
  have Hlt := Lib.hid hlt
  rw [← hL]
  clear hB3 hb3 hV3 hS h1 hz hM4 hV4 hb4 hb2 hw3 hmb hlt hL HB1 Hb0 HA
  go_wp2_with (first | (rw [← Hw3.out, ← Hmb.out]; refine wpList_store_row rfl 80 (.tmp 3) (.tmp 12) rfl mb L rfl rfl 80 (row 49 fun _ => .bool false) HB3.out HS.out HZ.out H1.out ?_))
  generalize w3.setRow mb L = w4 at *
  refine (HC.out w4 Hb4.out).mono ?_
  rintro e w5 ⟨v1, rfl, ho1, hb5⟩
  obtain ⟨A1, b1, f1, c1, rfl, ha1, hc1, hg1⟩ := own_get ho1
  have Hix1 := Lib.hid (run_ix (P := Try.prog) (t := 24) (a := A1) (len := l.length) (cap := c1) (b := b1) (off := f1) (s := 1) Try.underlying24 (by intro w; kernel_rfl) ha1)
  simp only [Nat.mul_one] at Hix1
  have Hc1 := Lib.hid hc1
  have Hg1 := Lib.hid (show 0 < l.length → b1 ≠ mb from fun q => by have := hg1 q; have := HM4.out.lt; omega)
  have HT := Lib.hid (show Tc w w5 w5 mb (antiF h) from ⟨Below.tr Hb4.out hb5, ⟨rfl, rfl, rfl, Nat.le_refl _, fun _ _ _ => rfl⟩, Blk.keep HV4.out hb5, Blk.keep HM4.out hb5⟩)
  clear ho1 ha1 hc1 hg1 hb5 HM4 HV4 Hb4 HB3 HS H1 HZ Hw3 Hmb
  have Hlt2 := Hlt
  go_wp2_with fail
  go_loopw [17] (fun vj wr => ∃ (j : Nat) (E : Nat → Nat → Bool), vj = .int .i64 j ∧ j ≤ l.length ∧ Tc w w5 wr mb E ∧ MQ (SA h l j 0 0) E) (fun vj _ => l.length - (intOf vj).toNat)
  case atStart => exact ⟨0, _, rfl, Nat.zero_le _, HT.out, sa_0⟩
  case round =>
    clear HT
    obtain ⟨j, E, rfl, hj, hT, hM⟩ := hrel
    obtain ⟨wA, hwA⟩ : ∃ wA : World, wA = wr := ⟨_, rfl⟩
    subst hwA
    have HT := Lib.hid hT
    have HM := Lib.hid hM
    clear hT hM
    by_cases hjl : j < l.length
    · have hixj := Hix1.out j
      have hcj := grown_cell (Hc1.out j hjl) HT.out.g (Hg1.out (by omega))
      have mc := Lib.hid (Hm.out j hjl)
      have HKn := Lib.hid (fun (x k : Nat) => sa_k_no (h := h) (l := l) (j := j) (x := x) (k := k))
      have HKy := Lib.hid (fun (x k : Nat) (hk : k < l.length) => sa_k_yes (h := h) (l := l) (j := j) (x := x) (k := k) hk)
      have HXn := Lib.hid (fun (x : Nat) (hx : x < 6) => sa_x_no (h := h) hjl hx)
      have HXy := Lib.hid (fun (x : Nat) (hx : x < 6) => sa_x_yes (h := h) hjl hx)
      obtain ⟨c, hc⟩ : ∃ c, c = l.getD j 0 := ⟨_, rfl⟩
      rw [← hc] at hcj mc HKn HKy HXn HXy
      clear hc
      have hc7 := H7.out c mc.out
      go_wp2_with fail
      clear hcj hixj
      go_loopw [21] (fun vx wr => ∃ (x : Nat) (E : Nat → Nat → Bool), vx = .int .i64 x ∧ x ≤ 6 ∧ Tc w w5 wr mb E ∧ MQ (SA h l j x 0) E) (fun vx _ => 6 - (intOf vx).toNat)
      case atStart => exact ⟨0, _, rfl, Nat.zero_le _, HT.out, HM.out⟩
      case round =>
        clear HT HM
        obtain ⟨x, E, rfl, hx, hT, hM⟩ := hrel
        obtain ⟨wB, hwB⟩ : ∃ wB : World, wB = wr := ⟨_, rfl⟩
        subst hwB
        have HT := Lib.hid hT
        have HM := Lib.hid hM
        clear hT hM
        by_cases hx6 : x < 6
        · have HXn' := Lib.hid (HXn.out x hx6)
          have HXy' := Lib.hid (HXy.out x hx6)
          go_wp2_with fail
          rw [show decide ((x : Int) < 6) = true from decide_eq_true (by omega)]
          obtain ⟨wo, hwo⟩ : ∃ wo : World, wo = wB := ⟨_, rfl⟩
          clear hwo
          go_loopw [8, 26] (fun vl vk wr => ∃ (k p : Nat) (E : Nat → Nat → Bool), vl = .int .i64 p ∧ vk = .int .i64 k ∧ k ≤ l.length ∧ p = lbR h x c k ∧ Tc w w5 wr mb E ∧ MQ (SA h l j x k) E) (fun _ vk _ => l.length - (intOf vk).toNat)
          case atStart => exact ⟨0, 0, _, rfl, rfl, Nat.zero_le _, rfl, HT.out, HM.out⟩
          case round =>
            clear HT HM
            obtain ⟨k, p, E, rfl, rfl, hk, hp, hT, hM⟩ := hrel
            have HT := Lib.hid hT
            have HM := Lib.hid hM
            have Hp := Lib.hid hp
            clear hT hM hp
            by_cases hkl : k < l.length
            · have hixk := Hix1.out k
              have hck := grown_cell (Hc1.out k hkl) HT.out.g (Hg1.out (by omega))
              have ma := Lib.hid (Hm.out k hkl)
              have HSn := Lib.hid (fun hn => mq_to HM.out (HKn.out x k hn))
              have HSy := Lib.hid (fun hy => mq_put HM.out (HKy.out x k hkl hy))
              have HLn := Lib.hid (HLs.out x c k)
              have HLk := Lib.hid (HLm.out x c k hk)
              obtain ⟨a, ha⟩ : ∃ a, a = l.getD k 0 := ⟨_, rfl⟩
              rw [← ha] at hck ma HSn HSy HLn
              rw [← Hp.out] at HLn HLk
              have ha7 := H7.out a ma.out
              clear ha
              by_cases e1 : a = c
              · have q1 : ((a : Int) != (c : Int)) = false := by rw [bne_eq_false_iff_eq]; omega
                have S := Lib.hid (HSn.out fun r => r.1 e1)
                have R := Lib.hid (show p = lbR h x c (k + 1) from by rw [HLn.out, if_neg (fun r => r.1 e1)])
                clear e1
                go_wp2_with fail
                go_roundw
                case rel => exact ⟨k + 1, p, E, rfl, by go_num, by omega, R.out, HT.out, S.out⟩
                case measure => simp [intOf]; omega
              · have q1 : ((a : Int) != (c : Int)) = true := by rw [bne_iff_ne]; omega
                have Hne := Lib.hid e1
                clear e1
                go_wp2_with fail
                refine (HW.out a x _ HT.out.b).mono ?_
                rintro e w6 ⟨B1, rfl, hB1, hb6⟩
                have HT6 := Lib.hid (HT.out.keep hb6)
                have HB1 := Lib.hid hB1
                clear hb6 hB1 hck hixk
                cases B1 with
                | false =>
                  have HB1f := Lib.hid (show ¬ WrP h a x from fun r => by have := HB1.out.2 r; cases this)
                  have S := Lib.hid (HSn.out fun r => HB1f.out r.2.1)
                  have R := Lib.hid (show p = lbR h x c (k + 1) from by rw [HLn.out, if_neg (fun r => HB1f.out r.2.1)])
                  go_wp2_with fail
                  go_roundw
                  case rel => exact ⟨k + 1, p, E, rfl, by go_num, by omega, R.out, HT6.out, S.out⟩
                  case measure => simp [intOf]; omega
                | true =>
                  have HB1t := Lib.hid (HB1.out.1 rfl)
                  go_wp2_with fail
                  refine (HW.out c x _ HT6.out.b).mono ?_
                  rintro e w7 ⟨B2, rfl, hB2, hb7⟩
                  have HT7 := Lib.hid (HT6.out.keep hb7)
                  have HB2 := Lib.hid hB2
                  clear hb7 hB2
                  cases B2 with
                  | false =>
                    have HB2f := Lib.hid (show ¬ WrP h c x from fun r => by have := HB2.out.2 r; cases this)
                    have S := Lib.hid (HSn.out fun r => HB2f.out r.2.2.1)
                    have HEa := Lib.hid (fun w' hb => HE.out a ma.out w' hb)
                    have HGc := Lib.hid (fun w' hb => HG.out c mc.out w' hb)
                    have HLq := Lib.hid (show LbQ h x c p a ↔ lv h h.length (7 + a) < lv h h.length c ∧ (p = 0 ∨ lv h h.length (7 + p) < lv h h.length (7 + a)) from ⟨fun r => r.2.2, fun r => ⟨Hne.out, HB1t.out, r⟩⟩)
                    obtain ⟨ca, hca⟩ : ∃ n, n = lv h h.length (7 + a) := ⟨_, rfl⟩
                    obtain ⟨bc, hbc⟩ : ∃ n, n = lv h h.length c := ⟨_, rfl⟩
                    rw [← hca] at HEa HLq
                    rw [← hbc] at HGc HLq
                    clear hca hbc
                    go_wp2_with fail
                    refine (HEa.out _ HT7.out.b).mono ?_
                    rintro e w8 ⟨rfl, hb8⟩
                    have HT8 := Lib.hid (HT7.out.keep hb8)
                    clear hb8
                    go_wp2_with fail
                    refine (HGc.out _ HT8.out.b).mono ?_
                    rintro e w9 ⟨rfl, rfl⟩
                    by_cases f1 : ca < bc
                    · have q1 : (ca : Int) < (bc : Int) := by omega
                      by_cases f2 : p = 0
                      · have q2 : ((p : Int) == 0) = true := by rw [beq_iff_eq]; omega
                        have R := Lib.hid (show a = lbR h x c (k + 1) from by rw [HLn.out, if_pos (HLq.out.2 ⟨f1, .inl f2⟩)])
                        clear f1 f2
                        go_wp2_with fail
                        go_roundw
                        case rel => exact ⟨k + 1, a, E, rfl, by go_num, by omega, R.out, HT8.out, S.out⟩
                        case measure => simp [intOf]; omega
                      · have q2 : ((p : Int) == 0) = false := by rw [beq_eq_false_iff_ne]; omega
                        have mp := Lib.hid (show p ∈ l from HLk.out.elim (fun r => absurd r f2) (fun r => r.1))
                        have HEp := Lib.hid (fun w' hb => HE.out p mp.out w' hb)
                        obtain ⟨cp, hcp⟩ : ∃ n, n = lv h h.length (7 + p) := ⟨_, rfl⟩
                        rw [← hcp] at HEp HLq
                        clear hcp
                        have Hf2 := Lib.hid f2
                        clear f2
                        go_wp2_with fail
                        refine (HEa.out _ HT8.out.b).mono ?_
                        rintro e w10 ⟨rfl, hb10⟩
                        have HT10 := Lib.hid (HT8.out.keep hb10)
                        clear hb10
                        go_wp2_with fail
                        refine (HEp.out _ HT10.out.b).mono ?_
                        rintro e w11 ⟨rfl, hb11⟩
                        have HT11 := Lib.hid (HT10.out.keep hb11)
                        clear hb11
                        by_cases f3 : cp < ca
                        · have q3 : (ca : Int) > (cp : Int) := by omega
                          have R := Lib.hid (show a = lbR h x c (k + 1) from by rw [HLn.out, if_pos (HLq.out.2 ⟨f1, .inr f3⟩)])
                          clear f1 f3
                          go_wp2_with fail
                          go_roundw
                          case rel => exact ⟨k + 1, a, E, rfl, by go_num, by omega, R.out, HT11.out, S.out⟩
                          case measure => simp [intOf]; omega
                        · have q3 : ¬ (ca : Int) > (cp : Int) := by omega
                          have R := Lib.hid (show p = lbR h x c (k + 1) from by rw [HLn.out, if_neg (fun r => (HLq.out.1 r).2.elim Hf2.out f3)])
                          clear f1 f3
                          go_wp2_with fail
                          go_roundw
                          case rel => exact ⟨k + 1, p, E, rfl, by go_num, by omega, R.out, HT11.out, S.out⟩
                          case measure => simp [intOf]; omega
                    · have q1 : ¬ (ca : Int) < (bc : Int) := by omega
                      have R := Lib.hid (show p = lbR h x c (k + 1) from by rw [HLn.out, if_neg (fun r => f1 (HLq.out.1 r).1)])
                      clear f1
                      go_wp2_with fail
                      go_roundw
                      case rel => exact ⟨k + 1, p, E, rfl, by go_num, by omega, R.out, HT8.out, S.out⟩
                      case measure => simp [intOf]; omega
                  | true =>
                    have HB2t := Lib.hid (HB2.out.1 rfl)
                    have HEa2 := Lib.hid (fun w' hb => HE.out a ma.out w' hb)
                    have HEc2 := Lib.hid (fun w' hb => HE.out c mc.out w' hb)
                    have HWW := Lib.hid (show WW h a c x ↔ lv h h.length (7 + a) < lv h h.length (7 + c) from ⟨fun r => r.2.2.2, fun r => ⟨Hne.out, HB1t.out, HB2t.out, r⟩⟩)
                    obtain ⟨za, hza⟩ : ∃ n, n = lv h h.length (7 + a) := ⟨_, rfl⟩
                    obtain ⟨zc, hzc⟩ : ∃ n, n = lv h h.length (7 + c) := ⟨_, rfl⟩
                    rw [← hza] at HEa2 HWW
                    rw [← hzc] at HEc2 HWW
                    clear hza hzc
                    go_wp2_with fail
                    refine (HEa2.out _ HT7.out.b).mono ?_
                    rintro e w12 ⟨rfl, hb12⟩
                    have HT12 := Lib.hid (HT7.out.keep hb12)
                    clear hb12
                    go_wp2_with fail
                    refine (HEc2.out _ HT12.out.b).mono ?_
                    rintro e w13 ⟨rfl, hb13⟩
                    have HT13 := Lib.hid (HT12.out.keep hb13)
                    clear hb13
                    by_cases g1 : za < zc
                    · have p1 : (za : Int) < (zc : Int) := by omega
                      have hs7 : (a : Int) < 7 := by omega
                      have ht7 : (c : Int) < 7 := by omega
                      have hs0 : (0 : Int) ≤ (a : Int) := by omega
                      have ht0 : (0 : Int) ≤ (c : Int) := by omega
                      have hfz := Blk.fz HT13.out.e (a * 7 + c)
                      have hme := Blk.at HT13.out.e (show a * 7 + c < 49 by omega)
                      have hz66 := cells66
                      obtain ⟨E2, hTS⟩ : ∃ E2, Tc w w5 (w13.setCell ⟨mb, a * 7 + c, none⟩ (.bool true)) mb E2 ∧ MQ (SA h l j x (k + 1)) E2 := ⟨_, HT13.out.put Hlt2.out (s := a) hc7, HSy.out (HWW.out.2 g1)⟩
                      have HT14 := Lib.hid hTS.1
                      have S := Lib.hid hTS.2
                      clear g1 HT13 HT12 HT7 HT6 HT hTS
                      have HEa := Lib.hid (fun w' hb => HE.out a ma.out w' hb)
                      have HGc := Lib.hid (fun w' hb => HG.out c mc.out w' hb)
                      have HLq := Lib.hid (show LbQ h x c p a ↔ lv h h.length (7 + a) < lv h h.length c ∧ (p = 0 ∨ lv h h.length (7 + p) < lv h h.length (7 + a)) from ⟨fun r => r.2.2, fun r => ⟨Hne.out, HB1t.out, r⟩⟩)
                      obtain ⟨ca, hca⟩ : ∃ n, n = lv h h.length (7 + a) := ⟨_, rfl⟩
                      obtain ⟨bc, hbc⟩ : ∃ n, n = lv h h.length c := ⟨_, rfl⟩
                      rw [← hca] at HEa HLq
                      rw [← hbc] at HGc HLq
                      clear hca hbc
                      go_wp2_with fail
                      refine (HEa.out _ HT14.out.b).mono ?_
                      rintro e w8 ⟨rfl, hb8⟩
                      have HT8 := Lib.hid (HT14.out.keep hb8)
                      clear hb8
                      go_wp2_with fail
                      refine (HGc.out _ HT8.out.b).mono ?_
                      rintro e w9 ⟨rfl, rfl⟩
                      by_cases f1 : ca < bc
                      · have q1 : (ca : Int) < (bc : Int) := by omega
                        by_cases f2 : p = 0
                        · have q2 : ((p : Int) == 0) = true := by rw [beq_iff_eq]; omega
                          have R := Lib.hid (show a = lbR h x c (k + 1) from by rw [HLn.out, if_pos (HLq.out.2 ⟨f1, .inl f2⟩)])
                          clear f1 f2
                          go_wp2_with fail
                          go_roundw
                          case rel => exact ⟨k + 1, a, E2, rfl, by go_num, by omega, R.out, HT8.out, S.out⟩
                          case measure => simp [intOf]; omega
                        · have q2 : ((p : Int) == 0) = false := by rw [beq_eq_false_iff_ne]; omega
                          have mp := Lib.hid (show p ∈ l from HLk.out.elim (fun r => absurd r f2) (fun r => r.1))
                          have HEp := Lib.hid (fun w' hb => HE.out p mp.out w' hb)
                          obtain ⟨cp, hcp⟩ : ∃ n, n = lv h h.length (7 + p) := ⟨_, rfl⟩
                          rw [← hcp] at HEp HLq
                          clear hcp
                          have Hf2 := Lib.hid f2
                          clear f2
                          go_wp2_with fail
                          refine (HEa.out _ HT8.out.b).mono ?_
                          rintro e w10 ⟨rfl, hb10⟩
                          have HT10 := Lib.hid (HT8.out.keep hb10)
                          clear hb10
                          go_wp2_with fail
                          refine (HEp.out _ HT10.out.b).mono ?_
                          rintro e w11 ⟨rfl, hb11⟩
                          have HT11 := Lib.hid (HT10.out.keep hb11)
                          clear hb11
                          by_cases f3 : cp < ca
                          · have q3 : (ca : Int) > (cp : Int) := by omega
                            have R := Lib.hid (show a = lbR h x c (k + 1) from by rw [HLn.out, if_pos (HLq.out.2 ⟨f1, .inr f3⟩)])
                            clear f1 f3
                            go_wp2_with fail
                            go_roundw
                            case rel => exact ⟨k + 1, a, E2, rfl, by go_num, by omega, R.out, HT11.out, S.out⟩
                            case measure => simp [intOf]; omega
                          · have q3 : ¬ (ca : Int) > (cp : Int) := by omega
                            have R := Lib.hid (show p = lbR h x c (k + 1) from by rw [HLn.out, if_neg (fun r => (HLq.out.1 r).2.elim Hf2.out f3)])
                            clear f1 f3
                            go_wp2_with fail
                            go_roundw
                            case rel => exact ⟨k + 1, p, E2, rfl, by go_num, by omega, R.out, HT11.out, S.out⟩
                            case measure => simp [intOf]; omega
                      · have q1 : ¬ (ca : Int) < (bc : Int) := by omega
                        have R := Lib.hid (show p = lbR h x c (k + 1) from by rw [HLn.out, if_neg (fun r => f1 (HLq.out.1 r).1)])
                        clear f1
                        go_wp2_with fail
                        go_roundw
                        case rel => exact ⟨k + 1, p, E2, rfl, by go_num, by omega, R.out, HT8.out, S.out⟩
                        case measure => simp [intOf]; omega
                    · have p1 : ¬ (za : Int) < (zc : Int) := by omega
                      have S := Lib.hid (HSn.out fun r => g1 (HWW.out.1 r))
                      clear g1
                      have HEa := Lib.hid (fun w' hb => HE.out a ma.out w' hb)
                      have HGc := Lib.hid (fun w' hb => HG.out c mc.out w' hb)
                      have HLq := Lib.hid (show LbQ h x c p a ↔ lv h h.length (7 + a) < lv h h.length c ∧ (p = 0 ∨ lv h h.length (7 + p) < lv h h.length (7 + a)) from ⟨fun r => r.2.2, fun r => ⟨Hne.out, HB1t.out, r⟩⟩)
                      obtain ⟨ca, hca⟩ : ∃ n, n = lv h h.length (7 + a) := ⟨_, rfl⟩
                      obtain ⟨bc, hbc⟩ : ∃ n, n = lv h h.length c := ⟨_, rfl⟩
                      rw [← hca] at HEa HLq
                      rw [← hbc] at HGc HLq
                      clear hca hbc
                      go_wp2_with fail
                      refine (HEa.out _ HT13.out.b).mono ?_
                      rintro e w8 ⟨rfl, hb8⟩
                      have HT8 := Lib.hid (HT13.out.keep hb8)
                      clear hb8
                      go_wp2_with fail
                      refine (HGc.out _ HT8.out.b).mono ?_
                      rintro e w9 ⟨rfl, rfl⟩
                      by_cases f1 : ca < bc
                      · have q1 : (ca : Int) < (bc : Int) := by omega
                        by_cases f2 : p = 0
                        · have q2 : ((p : Int) == 0) = true := by rw [beq_iff_eq]; omega
                          have R := Lib.hid (show a = lbR h x c (k + 1) from by rw [HLn.out, if_pos (HLq.out.2 ⟨f1, .inl f2⟩)])
                          clear f1 f2
                          go_wp2_with fail
                          go_roundw
                          case rel => exact ⟨k + 1, a, E, rfl, by go_num, by omega, R.out, HT8.out, S.out⟩
                          case measure => simp [intOf]; omega
                        · have q2 : ((p : Int) == 0) = false := by rw [beq_eq_false_iff_ne]; omega
                          have mp := Lib.hid (show p ∈ l from HLk.out.elim (fun r => absurd r f2) (fun r => r.1))
                          have HEp := Lib.hid (fun w' hb => HE.out p mp.out w' hb)
                          obtain ⟨cp, hcp⟩ : ∃ n, n = lv h h.length (7 + p) := ⟨_, rfl⟩
                          rw [← hcp] at HEp HLq
                          clear hcp
                          have Hf2 := Lib.hid f2
                          clear f2
                          go_wp2_with fail
                          refine (HEa.out _ HT8.out.b).mono ?_
                          rintro e w10 ⟨rfl, hb10⟩
                          have HT10 := Lib.hid (HT8.out.keep hb10)
                          clear hb10
                          go_wp2_with fail
                          refine (HEp.out _ HT10.out.b).mono ?_
                          rintro e w11 ⟨rfl, hb11⟩
                          have HT11 := Lib.hid (HT10.out.keep hb11)
                          clear hb11
                          by_cases f3 : cp < ca
                          · have q3 : (ca : Int) > (cp : Int) := by omega
                            have R := Lib.hid (show a = lbR h x c (k + 1) from by rw [HLn.out, if_pos (HLq.out.2 ⟨f1, .inr f3⟩)])
                            clear f1 f3
                            go_wp2_with fail
                            go_roundw
                            case rel => exact ⟨k + 1, a, E, rfl, by go_num, by omega, R.out, HT11.out, S.out⟩
                            case measure => simp [intOf]; omega
                          · have q3 : ¬ (ca : Int) > (cp : Int) := by omega
                            have R := Lib.hid (show p = lbR h x c (k + 1) from by rw [HLn.out, if_neg (fun r => (HLq.out.1 r).2.elim Hf2.out f3)])
                            clear f1 f3
                            go_wp2_with fail
                            go_roundw
                            case rel => exact ⟨k + 1, p, E, rfl, by go_num, by omega, R.out, HT11.out, S.out⟩
                            case measure => simp [intOf]; omega
                      · have q1 : ¬ (ca : Int) < (bc : Int) := by omega
                        have R := Lib.hid (show p = lbR h x c (k + 1) from by rw [HLn.out, if_neg (fun r => f1 (HLq.out.1 r).1)])
                        clear f1
                        go_wp2_with fail
                        go_roundw
                        case rel => exact ⟨k + 1, p, E, rfl, by go_num, by omega, R.out, HT8.out, S.out⟩
                        case measure => simp [intOf]; omega
            · obtain rfl : k = l.length := by omega
              rw [← Hp.out] at HXn' HXy'
              by_cases e1 : 0 < p
              · have q1 : (p : Int) > 0 := by omega
                have mp := Lib.hid (show p ∈ l from by
                  have := HLm.out x c l.length (Nat.le_refl _)
                  rw [← Hp.out] at this
                  exact this.elim (fun r => by omega) (fun r => r.1))
                have hp7 := H7.out p mp.out
                go_wp2_with fail
                refine (HR.out c x _ HT.out.b).mono ?_
                rintro e w6 ⟨B1, rfl, hB1, hb6⟩
                have HT6 := Lib.hid (HT.out.keep hb6)
                have HB1 := Lib.hid hB1
                clear hb6 hB1
                cases B1 with
                | false =>
                  have S := Lib.hid (mq_to HM.out (HXn'.out (fun r => by have := HB1.out.2 r.2; cases this)))
                  go_wp2_with fail
                  go_roundw
                  case rel => exact ⟨x + 1, E, by go_num, by omega, HT6.out, S.out⟩
                  case measure => simp [intOf]; omega
                | true =>
                  have hs7 : (p : Int) < 7 := by omega
                  have ht7 : (c : Int) < 7 := by omega
                  have hs0 : (0 : Int) ≤ (p : Int) := by omega
                  have ht0 : (0 : Int) ≤ (c : Int) := by omega
                  have hfz := Blk.fz HT6.out.e (p * 7 + c)
                  have hme := Blk.at HT6.out.e (show p * 7 + c < 49 by omega)
                  have hz66 := cells66
                  obtain ⟨E2, hTS⟩ : ∃ E2, Tc w w5 (w6.setCell ⟨mb, p * 7 + c, none⟩ (.bool true)) mb E2 ∧ MQ (SA h l j (x + 1) 0) E2 := ⟨_, HT6.out.put Hlt2.out (s := p) hc7, mq_put HM.out (HXy'.out ⟨e1, HB1.out.1 rfl⟩)⟩
                  have HT14 := Lib.hid hTS.1
                  have S := Lib.hid hTS.2
                  clear e1 HT6 HT hTS
                  go_wp2_with fail
                  go_roundw
                  case rel => exact ⟨x + 1, E2, by go_num, by omega, HT14.out, S.out⟩
                  case measure => simp [intOf]; omega
              · have q1 : ¬ (p : Int) > 0 := by omega
                have S := Lib.hid (mq_to HM.out (HXn'.out (fun r => e1 r.1)))
                clear e1
                go_wp2_with fail
                go_roundw
                case rel => exact ⟨x + 1, E, by go_num, by omega, HT.out, S.out⟩
                case measure => simp [intOf]; omega
        · obtain rfl : x = 6 := by omega
          have S := Lib.hid (mq_to HM.out sa_j)
          go_wp2_with fail
          go_roundw
          case rel => exact ⟨j + 1, E, by go_num, by omega, HT.out, S.out⟩
          case measure => simp [intOf]; omega
    · obtain rfl : j = l.length := by omega
      obtain rfl := HF.out E HM.out
      have hB1 := HT.out.v
      have hB2 := HT.out.e
      unfold MatB Blk at hB1 hB2
      have hF : Blk (wA.setRow w.heap.size (mat E)) w.heap.size 80 49 (fun j => .bool (E (j / 7) (j % 7))) := Blk.setRow HT.out.v _
      have hR : Below w.heap.size w (wA.setRow w.heap.size (mat E)) := below_setRow HT.out.b (Nat.le_refl _) _
      have hS : (Try.prog.info? 80).map (·.size) = some (mat E).size := by unfold mat; rw [row_size]; kernel_rfl
      have hM : mat E = row 49 fun j => .bool (E (j / 7) (j % 7)) := rfl
      rw [← hM] at hB2
      have h1 := mat_one E
      have hsz : (row 49 fun _ => Value.bool false).size = (mat E).size := by unfold mat; rw [row_size, row_size]
      have HB1 := Lib.hid hB1
      have HB2 := Lib.hid hB2
      have HS := Lib.hid hS
      have H1 := Lib.hid h1
      have HZ := Lib.hid hsz
      have HF := Lib.hid hF
      have HR := Lib.hid hR
      clear hB1 hB2 hS h1 hsz hF hR hM
      obtain ⟨L, hL⟩ : ∃ L, L = mat E := ⟨_, rfl⟩
      rw [← hL] at HB2 HS H1 HZ HF HR
      have HL := Lib.hid hL
      clear hL
      go_wp2_with (first | (refine wpList_load_row rfl 80 (.tmp 3) rfl mb rfl 80 L (0, 0) _ HB2.out undEdges rfl HS.out ?_) | (refine wpList_store_row rfl 80 (.tmp 2) (.tmp 92) rfl w.heap.size L rfl rfl 80 (row 49 fun _ => .bool false) HB1.out HS.out HZ.out H1.out ?_))
      exact bodyPost_ret (results_cell_row Try.results73 _ _ w.heap.size 80 L (0, 0) _ rfl (by have := HF.out; rw [HL.out] at this ⊢; exact this) undEdges rfl HS.out) rfl ⟨by rw [HL.out], HR.out⟩
#print axioms all_any
end Go.Proofs.Ytpehbffkplmfjaa
