/- Contract of hom. -/
import Derived.Test.YtfplmdieeabgpaaTrm
import Derived.Test.YtfplmdieeabgpaaFnd
import Derived.Test.YtfplmdieeabgpaaHeld
import Derived.Test.YtfplmdieeabgpaaOf
import Derived.Test.YtfplmdieeabgpaaCml
import Derived.Test.YtfplmdieeabgpaaRsl
import Derived.Lib.SliceRun
namespace Go.Proofs.Ytfplmdieeabgpaa
open Go.RowKit
theorem exists_nodup {α : Type} : ∀ l : List α, ∃ m : List α, m.Nodup ∧ (∀ x, x ∈ m ↔ x ∈ l) ∧ m.length ≤ l.length
  | [] => ⟨[], by simp, fun x => Iff.rfl, Nat.le_refl _⟩
  | a :: l => by
    obtain ⟨m, h1, h2, h3⟩ := exists_nodup l
    by_cases h : a ∈ m
    · refine ⟨m, h1, fun x => ?_, by simp; omega⟩
      rw [List.mem_cons, h2]
      exact ⟨.inr, fun q => q.elim (fun e => e ▸ (h2 a).1 h) id⟩
    · refine ⟨a :: m, List.nodup_cons.2 ⟨h, h1⟩, fun x => by rw [List.mem_cons, List.mem_cons, h2], by simp; omega⟩
theorem stepL_len (F : List At') (a : At') : ∀ now : List (List Int), (stepL F a now).length ≤ now.length * F.length
  | [] => by simp [stepL]
  | v :: now => by
    have := stepL_len F a now
    unfold stepL at *
    rw [List.flatMap_cons, List.length_append, List.length_cons, Nat.succ_mul]
    have := List.length_filterMap_le (extA v a) F
    omega
theorem mL_len (F body : List At') : ∀ k, (mL F body k).length ≤ F.length ^ k
  | 0 => by simp [mL]
  | k + 1 => by
    rw [mL, Nat.pow_succ]
    exact Nat.le_trans (stepL_len F _ _) (Nat.mul_le_mul_right _ (mL_len F body k))
theorem few_notBig {facts body : List At'} (h : OkB facts body) (h1 : facts.length ≤ 5) (h2 : body.length ≤ 5) : ¬ Big facts body := by
  rintro ⟨k, k1, k2, k3⟩
  obtain ⟨F, f1, f2, f3⟩ := exists_nodup facts
  have := (bigAt_iff h f1 f2 k2).1 k3
  have a := mL_len F body k
  have b : F.length ^ k ≤ 5 ^ k := Nat.pow_le_pow_left (by omega) k
  have c : 5 ^ k ≤ 5 ^ 5 := Nat.pow_le_pow_right (by omega) (by omega)
  have d : (5 : Nat) ^ 5 = 3125 := by decide
  omega
theorem numOf_fz {t : Int} (h : -9 ≤ t ∧ t ≤ 7) : (0 ≤ t → numOf fz t = 10 + t) ∧ (t < 0 → numOf fz t = -t) := by
  refine ⟨fun q => ?_, fun q => by unfold numOf; rw [if_neg (by omega)]⟩
  obtain ⟨n, rfl⟩ : ∃ n : Nat, t = n := ⟨t.toNat, by omega⟩
  unfold numOf
  rw [if_pos q, Int.toNat_natCast]
  have hn : n < 8 := by omega
  match n, hn with
  | 0, _ => rfl
  | 1, _ => rfl
  | 2, _ => rfl
  | 3, _ => rfl
  | 4, _ => rfl
  | 5, _ => rfl
  | 6, _ => rfl
  | 7, _ => rfl
theorem qrV_arg {q : HQ} (h : QrV q) {a : HAt} (ha : a ∈ q.2) : ∀ t, t ∈ a.2 → -9 ≤ t ∧ t ≤ 7 := by
  obtain ⟨i, hi, rfl⟩ := List.getElem_of_mem ha
  intro t ht
  exact (h.2.1 i hi).2.2 t (by rw [at_get hi] at ht; exact ht)
theorem frA_ok {p q : HQ} (hp : QrV p) (hq : QrV q) : OkB (q.2.map frA) p.2 := by
  refine ⟨fun b hb t ht => (qrV_arg hp hb t ht).2, fun f hf x hx => ?_⟩
  obtain ⟨a, ha, rfl⟩ := List.mem_map.1 hf
  obtain ⟨t, ht, rfl⟩ := List.mem_map.1 (show x ∈ a.2.map (numOf fz) from hx)
  have := qrV_arg hq ha t ht
  obtain ⟨h1, h2⟩ := numOf_fz (t := t) this
  by_cases c : 0 ≤ t
  · rw [h1 c]; omega
  · rw [h2 (by omega)]; omega
theorem hom_notBig {p q : HQ} (hp : QrV p) (hq : QrV q) : ¬ Big (q.2.map frA) p.2 :=
  few_notBig (frA_ok hp hq) (by rw [List.length_map]; exact hq.1.2.1) hp.1.2.1
theorem matchF_any {p q : HQ} (hp : QrV p) (hq : QrV q) (u u2 : Value) (w : World) (hu : Atoms w u p.2) (hu2 : Atoms w u2 (q.2.map frA)) :
    Calls Try.prog 104 #[u, u2] w fun e w' => ∃ b n, e = .returned (.tuple #[.map (some b), .bool true]) ∧ w.heap.size ≤ b ∧ MSetN w' b n (MaP (q.2.map frA) p.2) ∧ Below w.heap.size w w' :=
  (matches_any (q.2.map frA) p.2 (frA_ok hp hq) (by have := hp.1; omega) (by rw [List.length_map]; have := hq.1; omega) (fun k hk i hi => (qv_args hp k hk).2 i hi) u u2 w hu hu2).mono fun e w' ⟨hE, hb⟩ => by
    rcases hE with ⟨h, _⟩ | ⟨_, b, n, h1, h2, h3⟩
    · exact absurd h (hom_notBig hp hq)
    · exact ⟨b, n, h1, h2, h3, hb⟩
/-- h is what a match of p in the frozen q leads to -/
def IsH (p q : HQ) (h : List Int) : Prop := ∃ v, MaP (q.2.map frA) p.2 v ∧ h = trm v ∧ agr h p.1 q.1
/-- .. among the matches that are gone through -/
def IsHd (p q : HQ) (left : List Int → Prop) (h : List Int) : Prop := ∃ v, MaP (q.2.map frA) p.2 v ∧ ¬ left v ∧ h = trm v ∧ agr h p.1 q.1
/-- the first of them -/
def First (bs : Nat) (w : World) (u : Value) (P : List Int → Prop) : Prop :=
  (u = .slice none 0 0 ∧ ∀ h, ¬ P h) ∨ ∃ g c h, u = .slice (some g) 8 c ∧ OwnInts bs w u h ∧ P h ∧ ∀ h', P h' → cmpL h h' ≤ 0
theorem First.keep {bs : Nat} {w w' : World} {u : Value} {P : List Int → Prop} (h : First bs w u P) (hb : Below w.heap.size w w') : First bs w' u P := by
  rcases h with h | ⟨g, c, h, h1, h2, h3⟩
  · exact .inl h
  · exact .inr ⟨g, c, h, h1, h2.keep hb, h3⟩
theorem First.iter {bs : Nat} {w w' : World} {u : Value} {P : List Int → Prop} (h : First bs w u P) {b r cnt : Nat} {p q : List Int → Prop} (hi : MIt w b r p q cnt) (hg : w.grownBy w' (some r)) : First bs w' u P := by
  rcases h with h | ⟨g, c, h, h1, h2, h3⟩
  · exact .inl h
  · exact .inr ⟨g, c, h, h1, World.ownsRow.kept h2 hg (row_notIt h2 hi).1, h3⟩
theorem First.same {bs : Nat} {w : World} {u : Value} {P Q : List Int → Prop} (h : First bs w u P) (hpq : ∀ h, P h ↔ Q h) : First bs w u Q := by
  rcases h with ⟨h1, h2⟩ | ⟨g, c, h, h1, h2, h3, h4⟩
  · exact .inl ⟨h1, fun h q => h2 h ((hpq h).2 q)⟩
  · exact .inr ⟨g, c, h, h1, h2, (hpq h).1 h3, fun h' q => h4 h' ((hpq h').2 q)⟩
theorem isHd_step {p q : HQ} {left : List Int → Prop} {v : List Int} (hv : MaP (q.2.map frA) p.2 v) (h : List Int) : IsHd p q (fun x => left x ∧ x ≠ v) h ↔ IsHd p q left h ∨ (h = trm v ∧ agr (trm v) p.1 q.1) := by
  constructor
  · rintro ⟨z, h1, h2, rfl, h4⟩
    by_cases c : left z
    · have : z = v := Classical.byContradiction fun e => h2 ⟨c, e⟩
      subst this
      exact .inr ⟨rfl, h4⟩
    · exact .inl ⟨z, h1, c, rfl, h4⟩
  · rintro (⟨z, h1, h2, h3, h4⟩ | ⟨rfl, h4⟩)
    · exact ⟨z, h1, fun c => h2 c.1, h3, h4⟩
    · exact ⟨v, hv, fun c => c.2 rfl, rfl, h4⟩
theorem own8 {bs : Nat} {w : World} {y : Value} {l : List Int} (h : OwnInts bs w y l) (h8 : l.length = 8) : ∃ g c, y = .slice (some g) 8 c := by
  rcases h.2 with ⟨_, h0⟩ | ⟨g, cap, cur, rfl, _⟩
  · omega
  · exact ⟨_, _, by rw [h8]⟩
theorem runeq_nil (w : World) (a : Option Addr) (n c : Nat) : (binOp .eql 22 (.slice a n c) (.slice none 0 0)).run Try.prog w = .ok (.bool a.isNone) w :=
  Lib.run_eql_slice_nil w 22 3 a n c 0 0 Try.underlying22
set_option maxRecDepth 100000 in
set_option maxHeartbeats 16000000 in
theorem hom_any {p q : HQ} (hp : QrV p) (hq : QrV q) (hl : p.1.length = q.1.length) (v u : Value) (w : World) (hv : Qr w v p) (hu : Qr w u q) :
    Calls Try.prog 74 #[v, u] w fun e w' => ∃ y, e = .returned y ∧ First w.heap.size w' y (IsH p q) ∧ Below w.heap.size w w' := by
  obtain ⟨h0, b0, rfl, hh, hb⟩ := hv
  obtain ⟨h1, b1, rfl, hh1, hb1⟩ := hu
  have hfr := fun w' (hb' : Below w.heap.size w w') => freeze_any q (by have := hq.1.2.1; omega) (qv_args hq) (.agg #[h1, b1]) w' ⟨h1, b1, rfl, hh1.keep hb', hb1.keep hb'⟩
  have hmt := fun w' u' (hb' : Below w.heap.size w w') (h : Atoms w' u' (q.2.map frA)) => matchF_any hp hq b0 u' w' (hb.keep hb') h
  obtain ⟨ha, hc, rfl⟩ := ints_slice hh
  obtain ⟨ba, bc, rfl⟩ := atoms_slice hb
  obtain ⟨ha1, hc1, rfl⟩ := ints_slice hh1
  obtain ⟨ba1, bc1, rfl⟩ := atoms_slice hb1
  have HFr := Lib.hid hfr
  have HMt := Lib.hid hmt
  have Hh := Lib.hid hh
  have Hh1 := Lib.hid hh1
  have Hl := Lib.hid (Nat.le_of_eq hl)
  have Hhd := Lib.hid (show ∀ k, k < p.1.length → 0 ≤ p.1.getD k 0 ∧ p.1.getD k 0 < 8 from fun k hk => (hp.2.2 _ (by rw [List.getD_eq_getElem?_getD, List.getElem?_eq_getElem hk]; exact List.getElem_mem hk)).1)
  have Hok := Lib.hid (frA_ok hp hq)
  obtain ⟨w1, hw1⟩ : ∃ x, x = w.alloc (.cells #[.slice ha p.1.length hc, .slice ba p.2.length bc] 33) := ⟨_, rfl⟩
  obtain ⟨w2, hw2⟩ : ∃ x, x = w1.alloc (.cells #[.slice ha1 q.1.length hc1, .slice ba1 q.2.length bc1] 33) := ⟨_, rfl⟩
  have k1 : Below w.heap.size w w1 := by rw [hw1]; exact below_alloc _ _
  have k2 : Below w1.heap.size w1 w2 := by rw [hw2]; exact below_alloc _ _
  obtain ⟨bp, hbp⟩ : ∃ x, x = w.heap.size := ⟨_, rfl⟩
  obtain ⟨bq, hbq'⟩ : ∃ x, x = bp + 1 := ⟨_, rfl⟩
  have hbq : bq = w1.heap.size := by rw [hbq', hbp, hw1]; simp
  have hS : w2.heap[bp]? = some (.cells #[.slice ha p.1.length hc, .slice ba p.2.length bc] 33 (0, 0)) ∧ w2.heap[bq]? = some (.cells #[.slice ha1 q.1.length hc1, .slice ba1 q.2.length bc1] 33 (0, 0)) := by
    refine ⟨blk_keep2 (by rw [hbp, hw1]; exact heap_alloc_new w _) k2, by rw [hbq, hw2]; exact heap_alloc_new w1 _⟩
  have HS := Lib.hid (show w2.drew.heap[bp]? = some (.cells #[.slice ha p.1.length hc, .slice ba p.2.length bc] 33 (0, 0)) ∧ w2.drew.heap[bq]? = some (.cells #[.slice ha1 q.1.length hc1, .slice ba1 q.2.length bc1] 33 (0, 0)) from hS)
  have HB4 := Lib.hid (show Below w.heap.size w w2.drew from (Below.tr k1 k2).drew)
  have Hbq := Lib.hid (show bp < bq from by rw [hbp, hbq, hw1]; simp)
  have Hw1 := Lib.hid hw1
  have Hw2 := Lib.hid hw2
  have Hbpe := Lib.hid hbp
  have Hbqe := Lib.hid hbq'
  clear hfr hmt hh hh1 hb hb1 hl hp hq hw1 hw2 k1 k2 hbp hbq hbq' hS
  go_enter Try.func74, Try.ntmps74
  go_upto_region 1 with fail
  rw [← Hw1.out, ← Hw2.out, ← Hbpe.out, ← Hbqe.out]
  clear Hw1 Hw2
  refine wp_region_held (S := fun w' => w'.heap[bp]? = some (.cells #[.slice ha p.1.length hc, .slice ba p.2.length bc] 33 (0, 0)) ∧ w'.heap[bq]? = some (.cells #[.slice ha1 q.1.length hc1, .slice ba1 q.2.length bc1] 33 (0, 0))) wideK ?_
  change wpAnyH _ _ _ _ _ _ _ _ (World.drew _)
  generalize w2.drew = w5 at *
  refine wpAnyH_take (i := 0) (v := ?_) rfl (by kernel_rfl) (by kernel_rfl) (by kernel_rfl) (fun _ _ _ h => h) (Or.inl ⟨by rfl, ?_⟩) HS.out ?_
  rotate_left
  focus (intro w hS; clear hS; first | (go_simp; done) | (go_simp; with_reducible rfl))
  simp only [Act.put, List.getElem_toArray, List.getElem_cons_zero, List.setIfInBounds_toArray, List.set_cons_zero, List.set_cons_succ]
  refine wpAnyH_take (i := 1) (v := ?_) rfl (by kernel_rfl) (by kernel_rfl) (by kernel_rfl) (fun _ _ _ h => h) (Or.inl ⟨by rfl, ?_⟩) HS.out ?_
  rotate_left
  focus (intro w hS; have s0 := aCell hS.1 1 rfl; clear hS; first | (go_simp; done) | (go_simp; with_reducible rfl))
  simp only [Act.put, List.getElem_toArray, List.getElem_cons_zero, List.getElem_cons_succ, List.setIfInBounds_toArray, List.set_cons_zero, List.set_cons_succ]
  refine wpAnyH_take (i := 2) (v := ?_) rfl (by kernel_rfl) (by kernel_rfl) (by kernel_rfl) (fun _ _ _ h => h) (Or.inl ⟨by rfl, ?_⟩) HS.out ?_
  rotate_left
  focus (intro w hS; have s0 := aCell hS.2 0 rfl; have s1 := aCell hS.2 1 rfl; clear hS; first | (go_simp; done) | (go_simp; with_reducible rfl))
  simp only [Act.put, List.getElem_toArray, List.getElem_cons_zero, List.getElem_cons_succ, List.setIfInBounds_toArray, List.set_cons_zero, List.set_cons_succ]
  refine wpAnyH_ready (rs := [3]) (by kernel_rfl) (by simp) ?_
  refine RdyH.cons rfl (fun K2 hK => ?_) RdyH.nil
  go_simp
  go_at_call 84
  refine (HFr.out _ HB4.out).mono ?_
  rintro e w6 ⟨u6, rfl, ho6, hb6⟩
  obtain ⟨na, nn, nc, rfl⟩ : ∃ x y z, u6 = .slice x y z := by
    obtain ⟨x, z, h⟩ := Atoms.own ho6
    exact ⟨_, _, _, h⟩
  have HS6 := Lib.hid (And.intro (blk_keep2 HS.out.1 hb6) (blk_keep2 HS.out.2 hb6))
  have HB6 := Lib.hid (Below.tr HB4.out hb6)
  have HO6 := Lib.hid ho6.atoms
  clear ho6 hb6
  go_simp
  refine hK _ _ HS6.out ?_
  clear hK K2
  refine wpAnyH_ready (rs := [4]) (by kernel_rfl) (by simp) ?_
  refine RdyH.cons rfl (fun K2 hK => ?_) RdyH.nil
  go_simp
  go_at_call 104
  refine (HMt.out _ _ HB6.out HO6.out).mono ?_
  rintro e w7 ⟨b, n, rfl, hge, hm7, hb7⟩
  have HS7 := Lib.hid (And.intro (blk_keep2 HS6.out.1 hb7) (blk_keep2 HS6.out.2 hb7))
  have HB7 := Lib.hid (Below.tr HB6.out hb7)
  have HM7 := Lib.hid hm7
  have Hge := Lib.hid (Nat.le_trans HB6.out.size hge)
  clear hm7 hb7 hge
  go_simp
  refine hK _ _ HS7.out ?_
  clear hK K2
  refine wpAnyH_take (i := 5) (v := ?_) rfl (by kernel_rfl) (by kernel_rfl) (by kernel_rfl) (fun _ _ _ h => h) (Or.inl ⟨by rfl, ?_⟩) HS7.out ?_
  rotate_left
  focus (intro w hS; clear hS; first | (go_simp; done) | (go_simp; with_reducible rfl))
  simp only [Act.put, List.getElem_toArray, List.getElem_cons_zero, List.getElem_cons_succ, List.setIfInBounds_toArray, List.set_cons_zero, List.set_cons_succ]
  refine wpAnyH_take (i := 6) (v := ?_) rfl (by kernel_rfl) (by kernel_rfl) (by kernel_rfl) (fun _ _ _ h => h) (Or.inl ⟨by rfl, ?_⟩) HS7.out ?_
  rotate_left
  focus (intro w hS; clear hS; first | (go_simp; done) | (go_simp; with_reducible rfl))
  simp only [Act.put, List.getElem_toArray, List.getElem_cons_zero, List.getElem_cons_succ, List.setIfInBounds_toArray, List.set_cons_zero, List.set_cons_succ]
  refine wpAnyH_take (i := 7) (v := ?_) rfl (by kernel_rfl) (by kernel_rfl) (by kernel_rfl) (fun _ _ _ h => h) (Or.inl ⟨by rfl, ?_⟩) HS7.out ?_
  rotate_left
  focus (intro w hS; clear hS; first | (go_simp; done) | (go_simp; with_reducible rfl))
  simp only [Act.put, List.getElem_toArray, List.getElem_cons_zero, List.getElem_cons_succ, List.setIfInBounds_toArray, List.set_cons_zero, List.set_cons_succ]
  refine wpAnyH_take (i := 8) (v := ?_) rfl (by kernel_rfl) (by kernel_rfl) (by kernel_rfl) (fun _ _ _ h => h) (Or.inl ⟨by rfl, ?_⟩) HS7.out ?_
  rotate_left
  focus (intro w hS; clear hS; first | (go_simp; done) | (go_simp; with_reducible rfl))
  simp only [Act.put, List.getElem_toArray, List.getElem_cons_zero, List.getElem_cons_succ, List.setIfInBounds_toArray, List.set_cons_zero, List.set_cons_succ]
  refine wpAnyH_take (i := 9) (v := ?_) rfl (by kernel_rfl) (by kernel_rfl) (by kernel_rfl) (fun _ _ _ h => h) (Or.inl ⟨by rfl, ?_⟩) HS7.out ?_
  rotate_left
  focus (intro w hS; clear hS; first | (go_simp; done) | (go_simp; with_reducible rfl))
  simp only [Act.put, List.getElem_toArray, List.getElem_cons_zero, List.getElem_cons_succ, List.setIfInBounds_toArray, List.set_cons_zero, List.set_cons_succ]
  refine wpAnyH_done (by kernel_rfl) ?_ _
  clear HS6 HB6 HO6 HFr HMt HS HB4
  go_wp2_with (first | (at_range; refine wpList_range_match rfl _ rfl _ rfl rfl HM7.out ?_; intro w0 hr0 hg0 hs0))
  obtain ⟨rr, hrr⟩ : ∃ x, x = w7.heap.size := ⟨_, rfl⟩
  have Hrr := Lib.hid (show bq < rr by rw [hrr]; exact (Array.getElem?_eq_some_iff.1 HS7.out.2).1)
  rw [← hrr] at hr0 ⊢
  have hb0 : Below w7.heap.size w7 w0 := ⟨hg0.os, hg0.tape, hg0.output, hg0.size, fun k hk => hg0.block k hk (by simp)⟩
  have Hr0 := Lib.hid hr0
  have HS0 := Lib.hid (And.intro (blk_keep2 HS7.out.1 hb0) (blk_keep2 HS7.out.2 hb0))
  have Hb0 := Lib.hid (Below.tr HB7.out hb0)
  clear hb0 hr0 hg0 hs0 hrr HM7 HB7 HS7
  go_frame
  go_loopw [7] (fun vf wr => ∃ (left : List Int → Prop) (cnt : Nat), MIt wr b rr (MaP (q.2.map frA) p.2) left cnt ∧ First w.heap.size wr vf (IsHd p q left) ∧ (wr.heap[bp]? = some (.cells #[.slice ha p.1.length hc, .slice ba p.2.length bc] 33 (0, 0)) ∧ wr.heap[bq]? = some (.cells #[.slice ha1 q.1.length hc1, .slice ba1 q.2.length bc1] 33 (0, 0))) ∧ Below w.heap.size w wr) (fun _ wr => wr.rangeLeft b rr)
  case atStart => exact ⟨_, _, Hr0.out, .inl ⟨rfl, fun h ⟨v, h1, h2, _⟩ => h2 h1⟩, HS0.out, Hb0.out⟩
  case round =>
    clear Hr0 HS0 Hb0
    obtain ⟨left, cnt, hr, hf, hs, hb⟩ := hrel
    have Hr := Lib.hid hr
    have Hf := Lib.hid hf
    have HS := Lib.hid hs
    have Hb := Lib.hid hb
    clear hr hf hs hb
    go_wp2_with (first | (at_next; refine wpList_next_match rfl _ rfl _ rfl rfl Hr.out ?_ ?_))
    · intro hq0
      have R := Lib.hid (Hf.out.same (fun h => show IsHd p q left h ↔ IsH p q h from ⟨fun ⟨v, h1, _, h3⟩ => ⟨v, h1, h3⟩, fun ⟨v, h1, h3⟩ => ⟨v, h1, hq0 v, h3⟩⟩))
      clear hq0
      go_wp2_with fail
      go_ret
      exact ⟨_, rfl, R.out, Hb.out⟩
    · intro v c w3 cnt3 hqv hvk hr3 hlt3 hg3 hs3 hen
      have hb3 : Below w.heap.size w w3 := Hb.out.grown hg3 Hb.out.size (fun j hj => by cases hj; have := Hrr.out; have := Hbqe.out; have := Hbpe.out; omega)
      have hne : ∀ {i : Nat}, i ≠ rr → some i ≠ some rr := fun h e => h (Option.some.inj e)
      have hs3' : w3.heap[bp]? = some (.cells #[.slice ha p.1.length hc, .slice ba p.2.length bc] 33 (0, 0)) ∧ w3.heap[bq]? = some (.cells #[.slice ha1 q.1.length hc1, .slice ba1 q.2.length bc1] 33 (0, 0)) :=
        ⟨(hg3.block bp (Array.getElem?_eq_some_iff.1 HS.out.1).1 (hne (by have := Hrr.out; have := Hbq.out; omega))).trans HS.out.1, (hg3.block bq (Array.getElem?_eq_some_iff.1 HS.out.2).1 (hne (by have := Hrr.out; omega))).trans HS.out.2⟩
      have hf3 := Hf.out.iter Hr.out hg3
      have HMv := Lib.hid (show MaP (q.2.map frA) p.2 v from by obtain ⟨D, left', _, _, _, _, h6⟩ := Hr.out; exact h6 v hqv)
      have hz8 := heap_alloc_new w3 (.cells Z8 95)
      have h8 := hvk.1
      have HSv := Lib.hid (sizeVr h8)
      have Hzs := Lib.hid (vrow8 h8)
      have H1v := Lib.hid (vrow_one v)
      have Hcall := Lib.hid (fun w' => terms_any v h8 (fun i hi => hvk.2 _ (by rw [List.getD_eq_getElem?_getD, List.getElem?_eq_getElem (by omega)]; exact List.getElem_mem _)) w')
      obtain ⟨X, hX⟩ : ∃ X, X = vrow v := ⟨_, rfl⟩
      rw [← hX] at HSv Hzs H1v hen Hcall
      obtain ⟨wv, hwv⟩ : ∃ wv, wv = (w3.alloc (.cells Z8 95)).setRow w3.heap.size X := ⟨_, rfl⟩
      have Hv := Lib.hid (show wv.heap[w3.heap.size]? = some (.cells X 95 (0, 0)) from by rw [hwv]; exact setRow_heap _ _ _ X _ _ hz8)
      have hbb : Below w3.heap.size w3 wv := by rw [hwv]; exact below_setRow (below_alloc _ _) (Nat.le_refl _) _
      have Hrv := Lib.hid (hr3.keep hbb)
      have Hfv := Lib.hid (hf3.keep hbb)
      have Hsv := Lib.hid (And.intro (blk_keep2 hs3'.1 hbb) (blk_keep2 hs3'.2 hbb))
      have Hbv := Lib.hid (Below.tr hb3 hbb)
      have Hz8 := Lib.hid hz8
      have Hwv := Lib.hid hwv
      have Hlt3 := Lib.hid hlt3
      have Ht8 := Lib.hid (show (trm v).length = 8 by simp [trm, h8])
      have Hst := Lib.hid (isHd_step (left := left) HMv.out)
      clear hbb hz8 hwv hX hg3 hs3 hb3 hr3 hvk hqv h8 hlt3 hf3 hs3' hne
      go_upto_region 6 with (first | (refine wpList_store_row rfl 95 (.tmp 8) (.tmp 23) rfl w3.heap.size X rfl rfl 95 _ Hz8.out HSv.out Hzs.out H1v.out ?_))
      go_frame
      rw [← Hwv.out]
      clear Hwv Hz8 hen
      go_wp2_with (first | (refine wpList_load_row rfl 95 (.tmp 8) rfl w3.heap.size rfl 95 X (0, 0) _ Hv.out undV rfl HSv.out ?_))
      refine (Hcall.out _).mono ?_
      rintro e w4 ⟨y, rfl, hy, hb4⟩
      obtain ⟨yg, yc, rfl⟩ := own8 hy Ht8.out
      have Hr4 := Lib.hid (Hrv.out.keep hb4)
      have Hf4 := Lib.hid (Hfv.out.keep hb4)
      have Hs4 := Lib.hid (And.intro (blk_keep2 Hsv.out.1 hb4) (blk_keep2 Hsv.out.2 hb4))
      have Hb4 := Lib.hid (Below.tr Hbv.out hb4)
      have Hy := Lib.hid (show OwnInts w.heap.size w4 (.slice (some yg) 8 yc) (trm v) from hy.base Hbv.out.size)
      clear hb4 hy Hcall Hv HSv Hzs H1v
      have g0 := aCell Hs4.out.1 0 rfl
      have g1 := aCell Hs4.out.2 0 rfl
      obtain ⟨B, hB⟩ : ∃ B, decide (agr (trm v) p.1 q.1) = B := ⟨_, rfl⟩
      have HAg := Lib.hid (agrees_any (trm v) p.1 q.1 Ht8.out Hhd.out Hl.out _ _ _ w4 Hy.out.ints (Hh.out.keep Hb4.out) (Hh1.out.keep Hb4.out) B hB)
      cases B with
      | false =>
        have HFn := Lib.hid (Hf4.out.same (fun h => show IsHd p q left h ↔ IsHd p q (fun x => left x ∧ x ≠ v) h from ⟨fun k => (Hst.out h).2 (.inl k), fun k => ((Hst.out h).1 k).elim id fun k => absurd k.2 (of_decide_eq_false hB)⟩))
        clear hB
        go_wp2_with fail
        refine HAg.out.mono ?_
        rintro e w5 ⟨rfl, m, hm⟩
        have hb5 : Below w4.heap.size w4 w5 := by rw [hm]; exact ⟨rfl, rfl, rfl, Nat.le_refl _, fun _ _ => rfl⟩
        have HF5 := Lib.hid (HFn.out.keep hb5)
        have HR5 := Lib.hid (Hr4.out.keep hb5)
        have HS5 := Lib.hid (And.intro (blk_keep2 Hs4.out.1 hb5) (blk_keep2 Hs4.out.2 hb5))
        have HB5 := Lib.hid (Below.tr Hb4.out hb5)
        clear hm hb5 g0 g1
        go_wp2_with fail
        go_roundw
        case rel => exact ⟨_, cnt3, HR5.out, HF5.out, HS5.out, HB5.out⟩
        case measure => rw [HR5.out.left_eq, Hr.out.left_eq]; exact Hlt3.out
      | true =>
        have Hagr := Lib.hid (of_decide_eq_true hB)
        clear hB
        have hnil := runeq_nil
        rcases Hf4.out with ⟨rfl, hno⟩ | ⟨fg, fc, h0, rfl, hoh, hP, hmin⟩
        · have HFn := Lib.hid (show First w.heap.size w4 (.slice (some yg) 8 yc) (IsHd p q (fun x => left x ∧ x ≠ v)) from
            .inr ⟨yg, yc, trm v, rfl, Hy.out, (Hst.out _).2 (.inr ⟨rfl, Hagr.out⟩), fun h' k => ((Hst.out h').1 k).elim (fun k => absurd k (hno h')) fun k => by rw [k.1, cmpL_refl]; exact Int.le_refl _⟩)
          clear hno
          go_wp2_with fail
          refine HAg.out.mono ?_
          rintro e w5 ⟨rfl, m, hm⟩
          have hb5 : Below w4.heap.size w4 w5 := by rw [hm]; exact ⟨rfl, rfl, rfl, Nat.le_refl _, fun _ _ => rfl⟩
          have HF5 := Lib.hid (HFn.out.keep hb5)
          have HR5 := Lib.hid (Hr4.out.keep hb5)
          have HS5 := Lib.hid (And.intro (blk_keep2 Hs4.out.1 hb5) (blk_keep2 Hs4.out.2 hb5))
          have HB5 := Lib.hid (Below.tr Hb4.out hb5)
          clear hm hb5 g0 g1
          go_wp2_with fail
          go_roundw
          case rel => exact ⟨_, cnt3, HR5.out, HF5.out, HS5.out, HB5.out⟩
          case measure => rw [HR5.out.left_eq, Hr.out.left_eq]; exact Hlt3.out
        · have HC := Lib.hid (fun w' (hw : Ints w' (.slice (some yg) 8 yc) (trm v)) (hw2 : Ints w' (.slice (some fg) 8 fc) h0) => compare_any (trm v) h0 _ _ w' hw hw2)
          obtain ⟨C, hC⟩ : ∃ C, C = cmpL (trm v) h0 := ⟨_, rfl⟩
          rw [← hC] at HC
          by_cases hlt : C < 0
          · have HFn := Lib.hid (show First w.heap.size w4 (.slice (some yg) 8 yc) (IsHd p q (fun x => left x ∧ x ≠ v)) from
              .inr ⟨yg, yc, trm v, rfl, Hy.out, (Hst.out _).2 (.inr ⟨rfl, Hagr.out⟩), fun h' k => ((Hst.out h').1 k).elim (fun k => by
                have a := hmin h' k
                rw [hC] at hlt
                by_cases e : cmpL h0 h' = 0
                · rw [← cmpL_eq e]; omega
                · have := cmpL_trans hlt (show cmpL h0 h' < 0 by omega); omega) fun k => by rw [k.1, cmpL_refl]; exact Int.le_refl _⟩)
            have Hoh := Lib.hid hoh
            clear hoh hP hmin hC
            go_wp2_with fail
            refine HAg.out.mono ?_
            rintro e w5 ⟨rfl, m, hm⟩
            have hb5 : Below w4.heap.size w4 w5 := by rw [hm]; exact ⟨rfl, rfl, rfl, Nat.le_refl _, fun _ _ => rfl⟩
            have HF5 := Lib.hid (HFn.out.keep hb5)
            have HR5 := Lib.hid (Hr4.out.keep hb5)
            have HS5 := Lib.hid (And.intro (blk_keep2 Hs4.out.1 hb5) (blk_keep2 Hs4.out.2 hb5))
            have HB5 := Lib.hid (Below.tr Hb4.out hb5)
            have HC5 := Lib.hid (HC.out w5 ((Hy.out.keep hb5).ints) ((Hoh.out.keep hb5).ints))
            clear hm hb5 g0 g1
            go_wp2_with fail
            refine HC5.out.mono ?_
            rintro e w6 ⟨rfl, rfl⟩
            go_wp2_with fail
            go_roundw
            case rel => exact ⟨_, cnt3, HR5.out, HF5.out, HS5.out, HB5.out⟩
            case measure => rw [HR5.out.left_eq, Hr.out.left_eq]; exact Hlt3.out
          · have HFn := Lib.hid (show First w.heap.size w4 (.slice (some fg) 8 fc) (IsHd p q (fun x => left x ∧ x ≠ v)) from
              .inr ⟨fg, fc, h0, rfl, hoh, (Hst.out _).2 (.inl hP), fun h' k => ((Hst.out h').1 k).elim (hmin h') fun k => by rw [k.1, cmpL_swap]; omega⟩)
            have Hoh := Lib.hid hoh
            clear hoh hP hmin hC
            go_wp2_with fail
            refine HAg.out.mono ?_
            rintro e w5 ⟨rfl, m, hm⟩
            have hb5 : Below w4.heap.size w4 w5 := by rw [hm]; exact ⟨rfl, rfl, rfl, Nat.le_refl _, fun _ _ => rfl⟩
            have HF5 := Lib.hid (HFn.out.keep hb5)
            have HR5 := Lib.hid (Hr4.out.keep hb5)
            have HS5 := Lib.hid (And.intro (blk_keep2 Hs4.out.1 hb5) (blk_keep2 Hs4.out.2 hb5))
            have HB5 := Lib.hid (Below.tr Hb4.out hb5)
            have HC5 := Lib.hid (HC.out w5 ((Hy.out.keep hb5).ints) ((Hoh.out.keep hb5).ints))
            clear hm hb5 g0 g1
            go_wp2_with fail
            refine HC5.out.mono ?_
            rintro e w6 ⟨rfl, rfl⟩
            go_wp2_with fail
            go_roundw
            case rel => exact ⟨_, cnt3, HR5.out, HF5.out, HS5.out, HB5.out⟩
            case measure => rw [HR5.out.left_eq, Hr.out.left_eq]; exact Hlt3.out
#print axioms hom_any
end Go.Proofs.Ytfplmdieeabgpaa
