/- Contract of choose: some atoms of a query. -/
import Derived.Test.YtfplmdieeabgpaaDrl
import Derived.Test.YtfplmdieeabgpaaImg
import Derived.Test.YtfplmdieeabgpaaExv
namespace Go.Proofs.Ytfplmdieeabgpaa
open Go.RowKit
/-- own atoms whose arguments lie in an older world -/
def SubA (e : TypeId) (w0 : World) (B : Nat) (w : World) (v : Value) (l : List HAt) : Prop := ∃ vs : List Value, vs.length = l.length ∧ w.ownsRow B e 2 v l.length (atC l vs) ∧ ∀ i, i < l.length → Ints w0 (vs.getD i (.bool false)) (aA l i)
theorem SubA.keep {e : TypeId} {w0 w w' : World} {B : Nat} {v : Value} {l : List HAt} (h : SubA e w0 B w v l) (hb : Below w.heap.size w w') : SubA e w0 B w' v l := by
  obtain ⟨vs, h1, h2, h3⟩ := h
  exact ⟨vs, h1, owns_keep h2 hb, h3⟩
theorem SubA.atoms {e : TypeId} {w0 w : World} {B : Nat} {v : Value} {l : List HAt} (h : SubA e w0 B w v l) (hb : Below w0.heap.size w0 w) : Atoms w v l := by
  obtain ⟨vs, h1, h2, h3⟩ := h
  exact ⟨vs, h1, owns_rd h2, fun i hi => (h3 i hi).keep hb⟩
theorem SubA.grown {e : TypeId} (he : e ≠ 3) {w0 w w' : World} {B B' : Nat} {v u : Value} {l : List HAt} {L : List Int} (h : SubA e w0 B w v l) (k : OwnInts B' w u L) (hg : w.grownBy w' u.ownBlock) : SubA e w0 B w' v l := by
  obtain ⟨vs, h1, h2, h3⟩ := h
  exact ⟨vs, h1, h2.kept hg (rows_apart h2 k he), h3⟩
theorem SubA.cell {e : TypeId} {w0 w : World} {B : Nat} {v : Value} {l : List HAt} (h : SubA e w0 B w v l) {b j : Nat} (hb : b < B) (x : Value) : SubA e w0 B (w.setCell ⟨b, j, none⟩ x) v l := by
  obtain ⟨vs, h1, h2, h3⟩ := h
  exact ⟨vs, h1, ownsRow_setCell_below h2 hb _, h3⟩
theorem subA_nil (e : TypeId) (w0 : World) (B : Nat) (w : World) : SubA e w0 B w (.slice none 0 0) [] := ⟨[], rfl, World.ownsRow_nil w B e 2, fun i hi => by cases hi⟩
theorem SubA.slice {e : TypeId} {w0 w : World} {B : Nat} {v : Value} {l : List HAt} (h : SubA e w0 B w v l) : ∃ a n k, v = .slice a n k := by
  obtain ⟨vs, h1, h2, h3⟩ := h
  exact row_sliceI h2
theorem SubA.snoc {e : TypeId} {w0 w' : World} {B : Nat} {v' u : Value} {l : List HAt} {vs : List Value} {r : Int} {A : List Int} (h1 : vs.length = l.length) (h3 : ∀ i, i < l.length → Ints w0 (vs.getD i (.bool false)) (aA l i)) (hu : Ints w0 u A)
    (h : w'.ownsRow B e 2 v' (l.length + 1) (atC l vs ++ [.int .i64 r, u])) : SubA e w0 B w' v' (l ++ [(r, A)]) := by
  refine ⟨vs ++ [u], by simp [h1], ?_, fun i hi => ?_⟩
  · rw [atC_snoc h1]; simpa using h
  · rw [List.length_append] at hi
    by_cases e2 : i < l.length
    · have := h3 i e2
      rwa [show (vs ++ [u]).getD i (.bool false) = vs.getD i (.bool false) by simp [List.getD_eq_getElem?_getD, List.getElem?_append_left (show i < vs.length by omega)], show aA (l ++ [(r, A)]) i = aA l i by simp [aA, List.getD_eq_getElem?_getD, List.getElem?_append_left e2]]
    · have : i = l.length := by simp at hi; omega
      subst this
      rwa [show (vs ++ [u]).getD l.length (.bool false) = u by simp [List.getD_eq_getElem?_getD, ← h1], show aA (l ++ [(r, A)]) l.length = A by simp [aA, List.getD_eq_getElem?_getD]]
/-- the numbers of a set below k -/
def chL (S : Nat) : Nat → List Nat
  | 0 => []
  | k + 1 => if S.testBit k = true then chL S k ++ [k] else chL S k
theorem chL_len (S : Nat) : ∀ k, (chL S k).length ≤ k
  | 0 => Nat.le_refl _
  | k + 1 => by rw [chL]; have := chL_len S k; split <;> simp <;> omega
def partA (l : List HAt) (L : List Nat) : List HAt := L.map fun i => (aR l i, aA l i)
theorem partA_len (l : List HAt) (L : List Nat) : (partA l L).length = L.length := by simp [partA]
theorem cz_snoc (L : List Nat) (k : Nat) : cz (L ++ [k]) = cz L ++ [(k : Int)] := by simp [cz]
theorem partA_snoc (l : List HAt) (L : List Nat) (k : Nat) : partA l (L ++ [k]) = partA l L ++ [(aR l k, aA l k)] := by simp [partA]
theorem results_tmp_cell {P : Program} {fn : Func} {p t' : Tmp} {ty : TypeId} (h : fn.results = #[.tmp t', .cell p ty]) (tmps : Array Value) (w : World) (g : Nat) (t : TypeId) (cs : Array Value) (fr : Nat × Nat) (d : TypeDesc)
    (hp : tmps.getD p undef = .pointer (some ⟨g, 0, none⟩)) (hg : w.heap[g]? = some (.cells cs t fr))
    (hu : P.underlying ty = some d) (hd : (match d with | .struct _ | .array _ _ => true | _ => false) = true) (hi : (P.info? ty).map (·.size) = some cs.size) :
    (results fn tmps).run P w = .ok (.tuple #[tmps.getD t' undef, .agg cs]) w := by
  have hp' : tmps[p]?.getD undef = .pointer (some ⟨g, 0, none⟩) := by simpa using hp
  simp [results, h, hp', asAddr, run_loadVar_row w g t ty cs fr d hg hu hd hi]
/-- what the walk of choose keeps -/
structure Ch (B : Nat) (w wr : World) (h0 b0 lv bv : Value) (L : List Nat) (body : List HAt) : Prop where
  z : B = w.heap.size
  b : Below w.heap.size w wr
  q : wr.heap[B]? = some (.cells #[h0, b0] 33 (0, 0))
  r : wr.heap[B + 1]? = some (.cells #[.slice none 0 0, .slice none 0 0] 33 (0, 0))
  p : wr.heap[B + 2]? = some (.cells #[h0, bv] 33 (0, 0))
  l : OwnInts (B + 3) wr lv (cz L)
  s : SubA 88 w (B + 3) wr bv body
theorem Ch.keep {B : Nat} {w wr w' : World} {h0 b0 lv bv : Value} {L : List Nat} {body : List HAt} (h : Ch B w wr h0 b0 lv bv L body) (hb : Below wr.heap.size wr w') : Ch B w w' h0 b0 lv bv L body :=
  ⟨h.z, Below.tr h.b hb, blk_keep2 h.q hb, blk_keep2 h.r hb, blk_keep2 h.p hb, h.l.keep hb, h.s.keep hb⟩
theorem Ch.putL {B : Nat} {w wr w' : World} {h0 b0 lv lv' bv : Value} {L L' : List Nat} {body : List HAt} (h : Ch B w wr h0 b0 lv bv L body) (hb : Below (B + 3) wr w') (hg : wr.grownBy w' lv.ownBlock) (k : OwnInts (B + 3) w' lv' (cz L')) : Ch B w w' h0 b0 lv' bv L' body := by
  have hz := h.z
  exact ⟨hz, h.b.trans (hb.mono (by omega)), (hb.block _ (by omega)).trans h.q, (hb.block _ (by omega)).trans h.r, (hb.block _ (by omega)).trans h.p, k, h.s.grown (by decide) h.l hg⟩
theorem Ch.putB {B : Nat} {w wr w' : World} {h0 b0 lv bv bv' : Value} {L : List Nat} {body body' : List HAt} (h : Ch B w wr h0 b0 lv bv L body) (hb : Below (B + 3) wr w') (hg : wr.grownBy w' bv.ownBlock) (k : SubA 88 w (B + 3) w' bv' body') : Ch B w (w'.setCell ⟨B + 2, 1, none⟩ bv') h0 b0 lv bv' L body' := by
  have hz := h.z
  have hp' := (hb.block _ (by omega)).trans h.p
  obtain ⟨vs, s1, s2, s3⟩ := h.s
  refine ⟨hz, (h.b.trans (hb.mono (by omega))).setCell (by simp; omega) _, ?_, ?_, ?_, ownsRow_setCell_below (ints_grown (by decide) h.l s2 hg) (by simp) _, k.cell (by omega) _⟩
  · exact (heap_setCell_other w' ⟨B + 2, 1, none⟩ _ _ (by simp)).trans ((hb.block _ (by omega)).trans h.q)
  · exact (heap_setCell_other w' ⟨B + 2, 1, none⟩ _ _ (by simp)).trans ((hb.block _ (by omega)).trans h.r)
  · rw [heap_setCell_same w' _ 1 _ _ bv' hp']; rfl
set_option maxRecDepth 100000 in
set_option maxHeartbeats 16000000 in
theorem choose_any {q : HQ} (h5 : q.2.length ≤ 5) (S : Nat) (hS : S < 64) (v : Value) (w : World) (hq : Qr w v q) :
    Calls Try.prog 88 #[v, .int .i64 (S : Nat)] w fun e w' => ∃ la ln lk pa pn pk qa qn qk, e = .returned (.tuple #[.slice la ln lk, .agg #[.slice pa pn pk, .slice qa qn qk]]) ∧ OwnInts w.heap.size w' (.slice la ln lk) (cz (chL S q.2.length)) ∧ Qr w' (.agg #[.slice pa pn pk, .slice qa qn qk]) (q.1, partA q.2 (chL S q.2.length)) ∧ Below w.heap.size w w' := by
  obtain ⟨hd, bd⟩ := q
  obtain ⟨h0, b0, rfl, hh, hb⟩ := hq
  obtain ⟨a, b, off, cap, vs, rfl, hle, hia, _, hcl⟩ := Atoms.get hb
  obtain ⟨n, hn2⟩ : ∃ x, x = bd.length := ⟨_, rfl⟩
  have Hh := Lib.hid hh
  obtain ⟨ha, hc, rfl⟩ := ints_slice hh
  have Hn := Lib.hid hn2
  simp only at hb hia hcl hle h5 hh ⊢
  rw [← hn2] at hia hcl hle h5 ⊢
  obtain ⟨hn, hhn⟩ : ∃ x, x = hd.length := ⟨_, rfl⟩
  simp only at Hh
  rw [← hhn] at Hh ⊢
  have Hix := Lib.hid (run_ix (P := Try.prog) (t := 31) (a := a) (len := n) (cap := cap) (b := b) (off := off) (s := 2) Try.underlying31 (by intro w; kernel_rfl) hia)
  have Hc := Lib.hid hcl
  obtain ⟨w1, hw1⟩ : ∃ x, x = w.alloc (.cells #[.slice ha hn hc, .slice a n cap] 33) := ⟨_, rfl⟩
  obtain ⟨w2, hw2⟩ : ∃ x, x = w1.alloc (.cells #[.slice none 0 0, .slice none 0 0] 33) := ⟨_, rfl⟩
  obtain ⟨w3, hw3⟩ : ∃ x, x = w2.alloc (.cells #[.slice ha hn hc, .slice none 0 0] 33) := ⟨_, rfl⟩
  have k1 : Below w.heap.size w w1 := by rw [hw1]; exact below_alloc _ _
  have k2 : Below w1.heap.size w1 w2 := by rw [hw2]; exact below_alloc _ _
  have k3 : Below w2.heap.size w2 w3 := by rw [hw3]; exact below_alloc _ _
  obtain ⟨B, hB⟩ : ∃ x, x = w.heap.size := ⟨_, rfl⟩
  have z1 : w1.heap.size = B + 1 := by rw [hB, hw1]; simp
  have z2 : w2.heap.size = B + 2 := by rw [show B + 2 = w1.heap.size + 1 by omega, hw2]; simp
  have g1 : w1.heap[B]? = some (.cells #[.slice ha hn hc, .slice a n cap] 33 (0, 0)) := by rw [hB, hw1]; exact heap_alloc_new _ _
  have g2 : w2.heap[B + 1]? = some (.cells #[.slice none 0 0, .slice none 0 0] 33 (0, 0)) := by rw [← z1, hw2]; exact heap_alloc_new _ _
  have g3 : w3.heap[B + 2]? = some (.cells #[.slice ha hn hc, .slice none 0 0] 33 (0, 0)) := by rw [← z2, hw3]; exact heap_alloc_new _ _
  have HI := Lib.hid (show Ch B w w3 (.slice ha hn hc) (.slice a n cap) (.slice none 0 0) (.slice none 0 0) [] [] from ⟨hB, Below.tr k1 (Below.tr k2 k3), blk_keep2 g1 (Below.tr k2 k3), blk_keep2 g2 k3, g3, ownInts_nil _ _, subA_nil _ _ _ _⟩)
  have HG := Lib.hid (show w2.heap[B]? = some (.cells #[.slice ha hn hc, .slice a n cap] 33 (0, 0)) from blk_keep2 g1 k2)
  have Hz2 := Lib.hid z2
  have Hw1 := Lib.hid hw1
  have Hw2 := Lib.hid hw2
  have Hw3 := Lib.hid hw3
  have HBe := Lib.hid hB
  clear hw1 hw2 hw3 hB k1 k2 k3 z1 z2 g1 g2 g3 hh hb hia hcl hn2 hhn
  go_enter Try.func88, Try.ntmps88
  go_upto_region 1 with fail
  rw [← Hw1.out, ← Hw2.out, ← HBe.out]
  clear Hw1 Hw2
  have g0 := aCell HG.out 0 rfl
  go_upto_region 2 with fail
  rw [← Hw3.out, Hz2.out]
  clear Hw3 g0
  have g1 := aCell HI.out.q 1 rfl
  go_wp2_with fail
  clear g1
  go_loopw [7, 16] (fun o vi wr => ∃ (k : Nat) (la : Option Addr) (ln lk : Nat) (ba : Option Addr) (bn bk : Nat), o = .slice la ln lk ∧ vi = .int .i64 k ∧ k ≤ n ∧ Ch B w wr (.slice ha hn hc) (.slice a n cap) (.slice la ln lk) (.slice ba bn bk) (chL S k) (partA bd (chL S k))) (fun _ vi _ => n - (intOf vi).toNat)
  case atStart => exact ⟨0, none, 0, 0, none, 0, 0, rfl, rfl, Nat.zero_le _, HI.out⟩
  case round =>
    generalize wr = wx at *
    clear HI
    obtain ⟨k, la, ln, lk, ba, bn, bk, rfl, rfl, hk, hi⟩ := hrel
    have HI := Lib.hid hi
    clear hi
    by_cases hlt : k < n
    · have hc1 := Below.keep HI.out.b (Hc.out k hlt).1
      have hc2 := Below.keep HI.out.b (Hc.out k hlt).2.1
      have Hi := Lib.hid (Hc.out k hlt).2.2
      have hixk := Hix.out k
      have HCh := Lib.hid (show chL S (k + 1) = if S.testBit k = true then chL S k ++ [k] else chL S k from rfl)
      have HPa := Lib.hid (partA_snoc bd (chL S k) k)
      have Hlc := Lib.hid (chL_len S k)
      obtain ⟨ua, uc, hua⟩ := ints_slice Hi.out
      rw [hua] at hc2 Hi
      clear hua
      obtain ⟨r, hr⟩ : ∃ t, t = aR bd k := ⟨_, rfl⟩
      obtain ⟨A, hA⟩ : ∃ t, t = aA bd k := ⟨_, rfl⟩
      rw [← hr] at hc1 HPa
      rw [← hA] at hc2 Hi HPa
      clear hr hA
      obtain ⟨un, hun⟩ : ∃ x, x = A.length := ⟨_, rfl⟩
      rw [← hun] at hc2 Hi
      obtain ⟨wn, hwn⟩ : ∃ x, x = wx.alloc (.cells #[.int .i64 r, .slice ua un uc] 88) := ⟨_, rfl⟩
      have kn : Below wx.heap.size wx wn := by rw [hwn]; exact below_alloc _ _
      obtain ⟨bA, hbA⟩ : ∃ x, x = wx.heap.size := ⟨_, rfl⟩
      have HA := Lib.hid (show wn.heap[bA]? = some (.cells #[.int .i64 r, .slice ua un uc] 88 (0, 0)) from by rw [hbA, hwn]; exact heap_alloc_new _ _)
      have HIn := Lib.hid (HI.out.keep kn)
      have HbA := Lib.hid (show B + 3 ≤ bA from by have := (Array.getElem?_eq_some_iff.1 HI.out.p).1; omega)
      have Hwn := Lib.hid hwn
      have HbAe := Lib.hid hbA
      clear hwn kn hbA hun HI
      go_upto_region 6 with fail
      rw [← Hwn.out, ← HbAe.out]
      clear Hwn hc1 hc2 hixk HbAe
      have k0 : (0 : Int) ≤ (k : Int) := by omega
      have k64 : (k : Int) < 64 := by omega
      have t1 := qshr_bit S k (by omega)
      obtain ⟨P, hP, p1, p2, p3⟩ := qpow_name k (by omega)
      rw [p1] at t1
      clear hP
      by_cases h2 : S.testBit k = true
      · rw [if_pos h2] at t1
        have HCh := Lib.hid (HCh.out.trans (if_pos h2))
        clear h2
        go_upto_region 7 with fail
        clear t1 p1 p2 p3 k0 k64
        obtain ⟨w7, hw7⟩ : ∃ x, x = wn.alloc (.cells #[.int .i64 k] 3) := ⟨_, rfl⟩
        have k7 : Below wn.heap.size wn w7 := by rw [hw7]; exact below_alloc _ _
        obtain ⟨bl, hbl⟩ : ∃ x, x = wn.heap.size := ⟨_, rfl⟩
        have HL := Lib.hid (show w7.heap[bl]? = some (.cells #[.int .i64 k] 3 (0, 0)) from by rw [hw7, hbl]; exact heap_alloc_new _ _)
        have HI7 := Lib.hid (HIn.out.keep k7)
        have HA7 := Lib.hid (blk_keep2 HA.out k7)
        have Hz7 := Lib.hid (show B + 3 ≤ w7.heap.size from by have := (Array.getElem?_eq_some_iff.1 HI7.out.p).1; omega)
        have hln : (cz (chL S k)).length + 1 ≤ 100000000000 := by rw [cz_len]; have := Hlc.out; omega
        have Hw7 := Lib.hid hw7
        have Hbl := Lib.hid hbl
        clear hw7 k7 hbl
        go_upto_region 8 with (first | (at_builtin; rw [← Hw7.out, ← Hbl.out]; refine append_own rfl (.tmp 26) (.tmp 28) 22 rfl elemInts rfl HI7.out.l (m := 1) [.int .i64 k] rfl rfl (fun k y hk => aCell HL.out k (by simpa using hk)) (ints_oneCell [(k : Int)]) hln Hz7.out ?_; intro v9 w9 h91 h92 h93; obtain ⟨pa, pn, pk, rfl⟩ := row_sliceI h91; have HI9 := Lib.hid (HI7.out.putL (L' := chL S k ++ [k]) h92 h93 (by rw [cz_snoc]; exact OwnInts.snoc h91)); have HA9 := Lib.hid (block_grown HI7.out.l h93 HA7.out (by decide)); clear h91 h92 h93))
        obtain ⟨w10, hw10⟩ : ∃ x, x = w9.alloc (.cells #[.int .i64 r, .slice ua un uc] 88) := ⟨_, rfl⟩
        have k10 : Below w9.heap.size w9 w10 := by rw [hw10]; exact below_alloc _ _
        obtain ⟨bm, hbm⟩ : ∃ x, x = w9.heap.size := ⟨_, rfl⟩
        have HM := Lib.hid (show w10.heap[bm]? = some (.cells #[.int .i64 r, .slice ua un uc] 88 (0, 0)) from by rw [hw10, hbm]; exact heap_alloc_new _ _)
        have HI10 := Lib.hid (HI9.out.keep k10)
        have Hz10 := Lib.hid (show B + 3 ≤ w10.heap.size from by have := (Array.getElem?_eq_some_iff.1 HI10.out.p).1; omega)
        have Hw10 := Lib.hid hw10
        have Hbm := Lib.hid hbm
        have g1 := aCell HI9.out.p 1 rfl
        have g2 := aCell HA9.out 0 rfl
        have g3 := aCell HA9.out 1 rfl
        obtain ⟨vs1, e1, e2, e3⟩ := HI10.out.s
        have hln : (partA bd (chL S k)).length + 1 ≤ 100000000000 := by rw [partA_len]; have := Hlc.out; omega
        clear hw10 k10 hbm HIn HI7
        go_wp2_with (first | (at_builtin; rw [← Hw10.out, ← Hbm.out]; refine append_own rfl (.tmp 31) (.tmp 33) 31 rfl elemAtoms rfl e2 (m := 1) [.int .i64 r, .slice ua un uc] rfl rfl (fun k y hk => aCell HM.out k (by simpa using hk)) (by intro u hu; simp at hu; rcases hu with rfl | rfl <;> rfl) hln Hz10.out ?_; intro v11 w11 h91 h92 h93; obtain ⟨qa, qn, qk, rfl⟩ := row_sliceI h91; have hp' := (h92.block (B + 2) (by omega)).trans HI10.out.p; have gk := aCell hp' 1 rfl; have gf := frozen_of_row w11 _ 1 _ _ hp'; have HN := Lib.hid (HI10.out.putB (body' := partA bd (chL S k) ++ [(r, A)]) h92 h93 (SubA.snoc e1 e3 Hi.out h91)); clear h91 h92 h93 hp'))
        rw [← HPa.out, ← HCh.out] at HN
        go_roundw
        case rel => exact ⟨k + 1, _, _, _, _, _, _, rfl, by go_num, by omega, HN.out⟩
        case measure => simp [intOf]; omega
      · rw [if_neg h2] at t1
        have HCh := Lib.hid (HCh.out.trans (if_neg h2))
        rw [← HCh.out] at HIn
        clear h2
        go_wp2_with fail
        go_roundw
        case rel => exact ⟨k + 1, _, _, _, _, _, _, rfl, by go_num, by omega, HIn.out⟩
        case measure => simp [intOf]; omega
    · obtain rfl : n = k := by omega
      have c0 := aCell HI.out.p 0 rfl
      have c1 := aCell HI.out.p 1 rfl
      have r0 := aCell HI.out.r 0 rfl
      have r1 := aCell HI.out.r 1 rfl
      have f0 := frozen_of_row wx _ 0 _ _ HI.out.r
      have f1 := frozen_of_row wx _ 1 _ _ HI.out.r
      go_upto_region 10 with fail
      go_region
      obtain ⟨w5, hw5⟩ : ∃ w5, w5 = ((wx.setCell ⟨B + 1, 0, none⟩ (.slice ha hn hc)).setCell ⟨B + 1, 1, none⟩ (.slice ba bn bk)).drew := ⟨_, rfl⟩
      have HG := Lib.hid (show w5.heap[B + 1]? = some (.cells #[.slice ha hn hc, .slice ba bn bk] 33 (0, 0)) from by
        rw [hw5]
        show ((wx.setCell ⟨B + 1, 0, none⟩ (.slice ha hn hc)).setCell ⟨B + 1, 1, none⟩ (.slice ba bn bk)).heap[B + 1]? = _
        rw [heap_setCell_same _ _ 1 _ _ _ (heap_setCell_same wx _ 0 _ _ _ HI.out.r)]; rfl)
      have hz := HI.out.z
      have hbd : Below w.heap.size w w5 := by rw [hw5]; exact ((HI.out.b.setCell (by simp; omega) _).setCell (by simp; omega) _).drew
      have HO := Lib.hid (show OwnInts w.heap.size w5 (.slice la ln lk) (cz (chL S n)) from by
        rw [hw5]
        exact OwnInts.base (base := B + 3) (OwnInts.keep (show OwnInts (B + 3) _ _ _ from ownsRow_setCell_below (ownsRow_setCell_below HI.out.l (show B + 1 < B + 3 by omega) _) (show B + 1 < B + 3 by omega) _) (Below.refl _ _).drew) (by omega))
      have HA := Lib.hid (show Atoms w5 (.slice ba bn bk) (partA bd (chL S n)) from by
        refine SubA.atoms (B := B + 3) (e := 88) (w0 := w) ?_ hbd
        rw [hw5]
        exact SubA.keep ((HI.out.s.cell (by omega) _).cell (by omega) _) (Below.refl _ _).drew)
      have HB := Lib.hid hbd
      have Hh5 := Lib.hid (Hh.out.keep hbd)
      rw [← hw5]
      clear hw5 hz hbd c0 c1 r0 r1 f0 f1 HI
      go_wp2_with fail
      exact bodyPost_ret (results_tmp_cell Try.results88 _ _ (B + 1) 33 _ (0, 0) _ rfl HG.out Try.underlying33 rfl (by kernel_rfl)) rfl ⟨_, _, _, _, _, _, _, _, _, rfl, HO.out, ⟨_, _, rfl, Hh5.out, HA.out⟩, HB.out⟩
#print axioms choose_any
end Go.Proofs.Ytfplmdieeabgpaa
