/- Contract of earTree. -/
import Derived.Test.YtfplmdieeabgpaaLea
import Derived.Test.YtfplmdieeabgpaaQry
import Derived.Test.YtfplmdieeabgpaaOf
import Derived.Test.YtfplmdieeabgpaaRes
namespace Go.Proofs.Ytfplmdieeabgpaa
open Go.RowKit
/-- atom i has variable v -/
def Vq (l : List HAt) (i v : Nat) : Prop := (vsA (aA l i)).testBit v = true
theorem vq_lt {l : List HAt} {i v : Nat} (h : Vq l i v) : v < 8 := by
  rcases Nat.lt_or_ge v 8 with k | k
  · exact k
  · have := Nat.testBit_lt_two_pow (Nat.lt_of_lt_of_le (vsA_lt (aA l i)) (show 256 ≤ 2 ^ v from Nat.le_trans (show 256 ≤ 2 ^ 8 by decide) (Nat.pow_le_pow_right (by decide) k)))
    unfold Vq at h; rw [this] at h; cases h
structure Inv (V : Nat → Nat → Prop) (n L : Nat) (X : List Nat) : Prop where
  len : X.length = n
  lt : ∀ i, X.getD i 0 < 256
  sub : ∀ i, mem' L i → ∀ v, (X.getD i 0).testBit v = true → V i v
  two : ∀ i, mem' L i → ∀ v, (∃ k, mem' L k ∧ k ≠ i ∧ V k v) → V i v → (X.getD i 0).testBit v = true
structure Cur (V : Nat → Nat → Prop) (n L : Nat) (X : List Nat) : Prop where
  len : X.length = n
  lt : ∀ i, X.getD i 0 < 256
  cur : ∀ i, mem' L i → ∀ v, (X.getD i 0).testBit v = true ↔ V i v ∧ ∃ k, mem' L k ∧ k ≠ i ∧ V k v
theorem map_and (X : List Nat) (T i : Nat) : (X.map (· &&& T)).getD i 0 = X.getD i 0 &&& T := by
  simp only [List.getD_eq_getElem?_getD, List.getElem?_map]
  cases X[i]? <;> simp
theorem cur_of {V : Nat → Nat → Prop} {n L T : Nat} {X : List Nat} (h : Inv V n L X) (hs : ∀ i, mem' L i → i < n) (ht : TwiceP L X X.length T) : Cur V n L (X.map (· &&& T)) := by
  refine ⟨by rw [List.length_map]; exact h.len, fun i => by rw [map_and]; have := h.lt i; have := Nat.and_le_left (n := X.getD i 0) (m := T); omega, fun i hi v => ?_⟩
  rw [map_and, Nat.testBit_and, Bool.and_eq_true, ht v]
  constructor
  · rintro ⟨h1, a, b, h2, h3, h4, h5, h6, h7⟩
    refine ⟨h.sub i hi v h1, ?_⟩
    by_cases c : a = i
    · exact ⟨b, h5, by omega, h.sub b h5 v h7⟩
    · exact ⟨a, h4, c, h.sub a h4 v h6⟩
  · rintro ⟨h1, k, h2, h3, h4⟩
    have x1 := h.two i hi v ⟨k, h2, h3, h4⟩ h1
    have x2 := h.two k h2 v ⟨i, hi, fun c => h3 c.symm, h1⟩ h4
    refine ⟨x1, ?_⟩
    rw [h.len]
    rcases Nat.lt_or_ge i k with c | c
    · exact ⟨i, k, c, hs k h2, hi, h2, x1, x2⟩
    · exact ⟨k, i, by omega, hs i hi, h2, hi, x2, x1⟩
theorem ear_iff {V : Nat → Nat → Prop} {n L : Nat} {X : List Nat} (h : Cur V n L X) (hs : ∀ i, mem' L i → i < n) (i j : Nat) : EarX L X i j ↔ EarP V (mem' L) i j := by
  unfold EarX EarP
  rw [h.len, ndiff_eq_zero]
  constructor
  · rintro ⟨_, _, h3, h4, h5, h6⟩
    refine ⟨h4, h5, h3, fun v hv hk => ?_⟩
    exact ((h.cur j h5 v).1 (h6 v ((h.cur i h4 v).2 ⟨hv, hk⟩))).1
  · rintro ⟨h4, h5, h3, h6⟩
    refine ⟨hs i h4, hs j h5, h3, h4, h5, fun v hv => ?_⟩
    obtain ⟨h7, h8⟩ := (h.cur i h4 v).1 hv
    exact (h.cur j h5 v).2 ⟨h6 v h7 h8, i, h4, h3, h7⟩
theorem inv_del {V : Nat → Nat → Prop} {n L e : Nat} {X : List Nat} (h : Cur V n L X) : Inv V n (ndiff L (2 ^ e)) X :=
  ⟨h.len, h.lt, fun i hi v hv => ((h.cur i (mem_del.1 hi).1 v).1 hv).1, fun i hi v hk hv => by
    obtain ⟨k, k1, k2, k3⟩ := hk
    exact (h.cur i (mem_del.1 hi).1 v).2 ⟨hv, k, (mem_del.1 k1).1, k2, k3⟩⟩
def X0 (l : List HAt) : List Nat := (List.range l.length).map fun i => vsA (aA l i)
theorem x0_get {l : List HAt} {i : Nat} (h : i < l.length) : (X0 l).getD i 0 = vsA (aA l i) := by
  simp [X0, List.getD_eq_getElem?_getD, h]
theorem inv_0 (l : List HAt) : Inv (Vq l) l.length (2 ^ l.length - 1) (X0 l) := by
  have hm : ∀ i, mem' (2 ^ l.length - 1) i → i < l.length := fun i h => by unfold mem' at h; rw [Nat.testBit_two_pow_sub_one] at h; simpa using h
  refine ⟨by simp [X0], fun i => ?_, fun i hi v hv => ?_, fun i hi v _ hv => ?_⟩
  · by_cases c : i < l.length
    · rw [x0_get c]; exact vsA_lt _
    · rw [List.getD_eq_getElem?_getD, List.getElem?_eq_none (by simp [X0]; omega)]; decide
  · rw [x0_get (hm i hi)] at hv; exact hv
  · rw [x0_get (hm i hi)]; exact hv
/-- a row filled from the front -/
def fT (n : Nat) (f : Nat → Int) (k : Nat) : List Int := (List.range n).map fun i => if i < k then f i else 0
theorem fT_len (n : Nat) (f : Nat → Int) (k : Nat) : (fT n f k).length = n := by simp [fT]
theorem fT_set {n : Nat} {f : Nat → Int} {k : Nat} (_ : k < n) : (fT n f k).set k (f k) = fT n f (k + 1) := by
  refine List.ext_getElem (by simp [fT]) fun i h1 h2 => ?_
  rw [List.getElem_set]
  have hi : i < n := by rw [fT_len] at h2; exact h2
  simp only [fT, List.getElem_map, List.getElem_range]
  by_cases c : k = i
  · rw [if_pos c, if_pos (by omega), c]
  · rw [if_neg c]
    by_cases d : i < k
    · rw [if_pos d, if_pos (by omega)]
    · rw [if_neg d, if_neg (by omega)]
theorem fT_0 (n : Nat) (f : Nat → Int) : fT n f 0 = List.replicate n 0 := by
  refine List.ext_getElem (by simp [fT]) fun i h1 h2 => by simp [fT]
theorem fT_all (n : Nat) (f : Nat → Int) : fT n f n = (List.range n).map f := by
  unfold fT
  exact List.map_congr_left fun i hi => by rw [if_pos (List.mem_range.1 hi)]
theorem x0_cz (l : List HAt) : (List.range l.length).map (fun i => ((vsA (aA l i) : Nat) : Int)) = cz (X0 l) := by simp [cz, X0, List.map_map]
theorem rep_neg (n : Nat) : (List.range n).map (fun _ => (-1 : Int)) = List.replicate n (-1) := by
  refine List.ext_getElem (by simp) fun i h1 h2 => by simp
theorem drB (w : World) {n : Nat} : Below w.heap.size w (w.drewN n) := ⟨rfl, rfl, rfl, Nat.le_refl _, fun _ _ => rfl⟩
theorem own_made {B n : Nat} {w : World} {g : Nat} (h : w.ownsRow B 3 1 (.slice (some ⟨g, 0, none⟩) n n) n (madeCells (Value.int IntKind.i64 0).cells (n * 1)).toList) : OwnInts B w (.slice (some ⟨g, 0, none⟩) n n) (List.replicate n 0) := by
  have e : (madeCells (Value.int IntKind.i64 0).cells (n * 1)).toList = (List.replicate n (0 : Int)).map (Value.int .i64) := by
    rw [Nat.mul_one, List.map_replicate]
    exact toList_madeCells_one _ _
  rw [e] at h
  unfold OwnInts
  rw [List.length_replicate]; exact h
/-- the box of the query, and the two rows -/
structure Et (w wr : World) (bq n gv gp : Nat) (h0 b0 : Value) (X Y : List Int) : Prop where
  b : Below w.heap.size w wr
  q : wr.heap[bq]? = some (.cells #[h0, b0] 33 (0, 0))
  v : OwnInts w.heap.size wr (.slice (some ⟨gv, 0, none⟩) n n) X
  p : OwnInts w.heap.size wr (.slice (some ⟨gp, 0, none⟩) n n) Y
theorem Et.keep {w wr w' : World} {bq n gv gp : Nat} {h0 b0 : Value} {X Y : List Int} (h : Et w wr bq n gv gp h0 b0 X Y) (hb : Below wr.heap.size wr w') : Et w w' bq n gv gp h0 b0 X Y :=
  ⟨Below.tr h.b hb, blk_keep2 h.q hb, h.v.keep hb, h.p.keep hb⟩
theorem Et.setV {w wr w' : World} {bq n gv gp : Nat} {h0 b0 : Value} {X X' Y : List Int} (h : Et w wr bq n gv gp h0 b0 X Y) (hg : w.heap.size ≤ bq ∧ bq < gv ∧ gv < gp) (k : OwnInts w.heap.size w' (.slice (some ⟨gv, 0, none⟩) n n) X') (kp : Kp gv wr w') : Et w w' bq n gv gp h0 b0 X' Y :=
  ⟨kp.below h.b (by omega), (kp.blk bq (by omega)).trans h.q, k, kp.own h.p fun b hb => by have e : some gp = some b := hb; injection e; omega⟩
theorem Et.setP {w wr w' : World} {bq n gv gp : Nat} {h0 b0 : Value} {X Y Y' : List Int} (h : Et w wr bq n gv gp h0 b0 X Y) (hg : w.heap.size ≤ bq ∧ bq < gv ∧ gv < gp) (k : OwnInts w.heap.size w' (.slice (some ⟨gp, 0, none⟩) n n) Y') (kp : Kp gp wr w') : Et w w' bq n gv gp h0 b0 X Y' :=
  ⟨kp.below h.b (by omega), (kp.blk bq (by omega)).trans h.q, kp.own h.v fun b hb => by have e : some gv = some b := hb; injection e; omega, k⟩
theorem own_fz {B : Nat} {w : World} {g n cap : Nat} {l : List Int} (h : OwnInts B w (.slice (some ⟨g, 0, none⟩) n cap) l) (hn : n = l.length) (j : Nat) : w.frozen? ⟨g, j, none⟩ = false := by
  subst hn
  exact World.ownsRow.frozenAt h j
set_option maxRecDepth 100000 in
set_option maxHeartbeats 16000000 in
theorem earTree_any {q : HQ} (hq : QrV q) (v : Value) (w : World) (hv : Qr w v q) :
    Calls Try.prog 91 #[v] w fun e w' => ∃ (L : Nat) (a : Addr) (n k : Nat) (par : List Int) (rk : Nat → Nat) (rem : List Nat), e = .returned (.tuple #[.int .i64 (L : Nat), .slice (some a) n k]) ∧ OwnInts w.heap.size w' (.slice (some a) n k) par ∧ Run (Vq q.2) q.2.length L par rk rem ∧ Reach (Vq q.2) (2 ^ q.2.length - 1) L ∧ Done (Vq q.2) L ∧ Below w.heap.size w w' := by
  obtain ⟨hd, bd⟩ := q
  obtain ⟨h0, b0, rfl, hh, hb⟩ := hv
  have hlen := hq.1
  simp only at hlen
  obtain ⟨a, b, off, cap, vs, rfl, hle, hia, _, hcl⟩ := Atoms.get hb
  obtain ⟨n, hn2⟩ : ∃ x, x = bd.length := ⟨_, rfl⟩
  have Hn := Lib.hid hn2
  simp only at hb hia hcl hle ⊢
  rw [← hn2] at hia hcl hle hlen ⊢
  have Hix := Lib.hid (run_ix (P := Try.prog) (t := 31) (a := a) (len := n) (cap := cap) (b := b) (off := off) (s := 2) Try.underlying31 (by intro w; kernel_rfl) hia)
  have Hc := Lib.hid hcl
  obtain ⟨w1, hw1⟩ : ∃ x, x = w.alloc (.cells #[h0, .slice a n cap] 33) := ⟨_, rfl⟩
  have k1 : Below w.heap.size w w1 := by rw [hw1]; exact below_alloc _ _
  obtain ⟨bq, hbq⟩ : ∃ x, x = w.heap.size := ⟨_, rfl⟩
  have HQ := Lib.hid (show w1.heap[bq]? = some (.cells #[h0, .slice a n cap] 33 (0, 0)) from by rw [hbq, hw1]; exact heap_alloc_new _ _)
  have z1 : w1.heap.size = bq + 1 := by rw [hbq, hw1]; simp
  have Hz1 := Lib.hid z1
  have HB1 := Lib.hid k1
  have Hw1 := Lib.hid hw1
  have Hbq := Lib.hid hbq
  obtain ⟨i0, hi, hz, hzz, hby0⟩ := info_parts infoInt
  have hby : i0.bytes * n ≤ 281474976710656 := by rw [hby0]; omega
  have Hi := Lib.hid hi
  have Hz := Lib.hid hz
  have Hzz := Lib.hid hzz
  have Hby := Lib.hid hby
  clear hw1 k1 hbq hn2 hh hb hia hcl z1 hi hz hzz hby hby0
  go_enter Try.func91, Try.ntmps91
  go_upto_region 1 with fail
  rw [← Hw1.out, ← Hbq.out]
  clear Hw1
  have g1 := aCell HQ.out 1 rfl
  go_upto_region 2 with (first | (refine wpList_make_full _ rfl (.tmp 13) (.tmp 13) 22 rfl w1.heap.size 3 i0 (.int .i64 0) 1 Try.underlying22 Hi.out Hz.out Hzz.out .i64 .i64 _ _ n rfl rfl rfl rfl Hby.out (by unfold maxLen; omega) (Nat.le_refl _) ?_; intro w3 hown hgr))
  have hb3 : Below w1.heap.size w1 w3 := ⟨hgr.os, hgr.tape, hgr.output, hgr.size, fun k hk => hgr.block k hk (by simp)⟩
  have hs3 : w1.heap.size < w3.heap.size := (World.ownsRow.lt hown w1.heap.size rfl).2
  obtain ⟨gv, hgv⟩ : ∃ x, x = w1.heap.size := ⟨_, rfl⟩
  rw [← hgv] at hown hs3 ⊢
  have HV3 := Lib.hid (OwnInts.base (own_made hown) (by rw [hgv]; exact HB1.out.size))
  have HB3 := Lib.hid (Below.tr HB1.out hb3)
  have HQ3 := Lib.hid (blk_keep2 HQ.out hb3)
  have HG := Lib.hid (show w.heap.size ≤ bq ∧ bq < gv from ⟨by rw [Hbq.out]; omega, by rw [hgv, Hz1.out]; omega⟩)
  have g1 := aCell HQ3.out 1 rfl
  clear hown hgr hb3 hgv
  go_upto_region 3 with (first | (refine wpList_make_full _ rfl (.tmp 17) (.tmp 17) 22 rfl w3.heap.size 3 i0 (.int .i64 0) 1 Try.underlying22 Hi.out Hz.out Hzz.out .i64 .i64 _ _ n rfl rfl rfl rfl Hby.out (by unfold maxLen; omega) (Nat.le_refl _) ?_; intro w4 hown hgr))
  have hb4 : Below w3.heap.size w3 w4 := ⟨hgr.os, hgr.tape, hgr.output, hgr.size, fun k hk => hgr.block k hk (by simp)⟩
  obtain ⟨gp, hgp⟩ : ∃ x, x = w3.heap.size := ⟨_, rfl⟩
  rw [← hgp] at hown hs3 ⊢
  have HG := Lib.hid (show w.heap.size ≤ bq ∧ bq < gv ∧ gv < gp from ⟨HG.out.1, HG.out.2, hs3⟩)
  have HE := Lib.hid (show Et w w4 bq n gv gp h0 (.slice a n cap) (fT n (fun i => (vsA (aA bd i) : Nat)) 0) (fT n (fun _ => -1) 0) from
    ⟨Below.tr HB3.out hb4, blk_keep2 HQ3.out hb4, by rw [fT_0]; exact HV3.out.keep hb4, by rw [fT_0]; exact OwnInts.base (own_made hown) (by rw [hgp]; exact HB3.out.size)⟩)
  have g1 := aCell HE.out.q 1 rfl
  have Hixv := Lib.hid (run_ix (P := Try.prog) (t := 22) (a := some ⟨gv, 0, none⟩) (len := n) (cap := n) (b := gv) (off := 0) (s := 1) Try.underlying22 (by intro w; kernel_rfl) (fun _ => rfl))
  have Hixp := Lib.hid (run_ix (P := Try.prog) (t := 22) (a := some ⟨gp, 0, none⟩) (len := n) (cap := n) (b := gp) (off := 0) (s := 1) Try.underlying22 (by intro w; kernel_rfl) (fun _ => rfl))
  simp only [Nat.zero_add, Nat.mul_one] at Hixv Hixp
  clear hown hgr hb4 hgp hs3 HV3 HB3 HQ3 HQ HB1
  go_wp2_with fail
  clear g1
  go_loopw [22] (fun vi wr => ∃ k : Nat, vi = .int .i64 k ∧ k ≤ n ∧ Et w wr bq n gv gp h0 (.slice a n cap) (fT n (fun i => (vsA (aA bd i) : Nat)) k) (fT n (fun _ => -1) k)) (fun vi _ => n - (intOf vi).toNat)
  case atStart => exact ⟨0, rfl, Nat.zero_le _, HE.out⟩
  case round =>
    generalize wr = wx at *
    clear HE
    obtain ⟨k, rfl, hk, he⟩ := hrel
    have HE := Lib.hid he
    clear he
    by_cases hlt : k < n
    · have hc1 := Below.keep HE.out.b (Hc.out k hlt).1
      have hc2 := Below.keep HE.out.b (Hc.out k hlt).2.1
      have hi := Ints.keep (Hc.out k hlt).2.2 HE.out.b
      have hixk := Hix.out k
      have HSv := Lib.hid (fT_set (f := fun i => (vsA (aA bd i) : Nat)) hlt)
      have HSp := Lib.hid (fT_set (f := fun _ => -1) hlt)
      obtain ⟨ua, uc, hua⟩ := ints_slice hi
      rw [hua] at hc2 hi
      clear hua
      obtain ⟨r, hr⟩ : ∃ t, t = aR bd k := ⟨_, rfl⟩
      obtain ⟨A, hA⟩ : ∃ t, t = aA bd k := ⟨_, rfl⟩
      rw [← hr] at hc1
      rw [← hA] at hc2 hi HSv
      clear hr hA
      obtain ⟨un, hun⟩ : ∃ x, x = A.length := ⟨_, rfl⟩
      rw [← hun] at hc2 hi
      obtain ⟨wn, hwn⟩ : ∃ x, x = wx.alloc (.cells #[.int .i64 r, .slice ua un uc] 88) := ⟨_, rfl⟩
      have kn : Below wx.heap.size wx wn := by rw [hwn]; exact below_alloc _ _
      obtain ⟨bA, hbA⟩ : ∃ x, x = wx.heap.size := ⟨_, rfl⟩
      have HA := Lib.hid (show wn.heap[bA]? = some (.cells #[.int .i64 r, .slice ua un uc] 88 (0, 0)) from by rw [hbA, hwn]; exact heap_alloc_new _ _)
      have HEn := Lib.hid (HE.out.keep kn)
      have HVa := Lib.hid (atomVars_any r A _ wn (hi.keep kn))
      have Hwn := Lib.hid hwn
      have HbA := Lib.hid hbA
      clear hwn kn hbA hi hun HE
      go_upto_region 6 with fail
      rw [← Hwn.out, ← HbA.out]
      clear Hwn hc1 hc2 hixk
      have g0 := aCell HA.out 0 rfl
      have g1 := aCell HA.out 1 rfl
      go_wp2_with fail
      refine HVa.out.mono ?_
      rintro e w5 ⟨rfl, hb⟩
      have HE5 := Lib.hid (HEn.out.keep hb)
      obtain ⟨N, hN⟩ : ∃ N, N = vsA A := ⟨_, rfl⟩
      rw [← hN] at HSv ⊢
      clear hb g0 g1 hN
      have hixv := Hixv.out k
      have hixp := Hixp.out k
      have hcv := ownI_cell HE5.out.v (fT_len _ _ _).symm (k := k) (by rw [fT_len]; exact hlt)
      have hfv := own_fz HE5.out.v (fT_len _ _ _).symm k
      obtain ⟨c0, hc0⟩ : ∃ c0, c0 = (fT n (fun i => (vsA (aA bd i) : Nat)) k).getD k 0 := ⟨_, rfl⟩
      rw [← hc0] at hcv
      clear hc0
      obtain ⟨w6, hw6⟩ : ∃ x, x = w5.setCell ⟨gv, k, none⟩ (.int .i64 N) := ⟨_, rfl⟩
      have HE6 := Lib.hid (show Et w w6 bq n gv gp h0 (.slice a n cap) (fT n (fun i => (vsA (aA bd i) : Nat)) (k + 1)) (fT n (fun _ => -1) k) from by
        obtain ⟨k1, k2⟩ := own_setI HE5.out.v (fT_len _ _ _).symm k N
        rw [HSv.out, ← hw6] at k1
        rw [← hw6] at k2
        exact HE5.out.setV HG.out k1 k2)
      have hcp := ownI_cell HE6.out.p (fT_len _ _ _).symm (k := k) (by rw [fT_len]; exact hlt)
      have hfp := own_fz HE6.out.p (fT_len _ _ _).symm k
      obtain ⟨c1, hc1⟩ : ∃ c1, c1 = (fT n (fun _ => -1) k).getD k 0 := ⟨_, rfl⟩
      rw [← hc1] at hcp
      have HE7 := Lib.hid (show Et w (w6.setCell ⟨gp, k, none⟩ (.int .i64 (-1))) bq n gv gp h0 (.slice a n cap) (fT n (fun i => (vsA (aA bd i) : Nat)) (k + 1)) (fT n (fun _ => -1) (k + 1)) from by
        obtain ⟨k1, k2⟩ := own_setI HE6.out.p (fT_len _ _ _).symm k (-1)
        rw [HSp.out] at k1
        exact HE6.out.setP HG.out k1 k2)
      rw [hw6] at hcp hfp
      have Hw6 := Lib.hid hw6
      clear hc1 hw6
      go_wp2_with fail
      rw [← Hw6.out]
      go_roundw
      case rel => exact ⟨k + 1, by go_num, by omega, HE7.out⟩
      case measure => simp [intOf]; omega
    · obtain rfl : n = k := by omega
      rw [fT_all, fT_all, rep_neg, show (List.range n).map (fun i => ((vsA (aA bd i) : Nat) : Int)) = cz (X0 bd) by rw [Hn.out]; exact x0_cz bd] at HE
      have g1 := aCell HE.out.q 1 rfl
      have hsh := qshl_one n
      have hp : 2 ^ n ≤ 32 := Nat.pow_le_pow_right (n := 2) (by decide) (show n ≤ 5 by omega)
      have hp0 : 0 < 2 ^ n := Nat.two_pow_pos n
      have HS := Lib.hid (run_start (Vq bd) (n := n) (by omega))
      have HI := Lib.hid (show Inv (Vq bd) n (2 ^ n - 1) (X0 bd) from by have := inv_0 bd; rwa [← Hn.out] at this)
      have HR := Lib.hid (Reach.refl (V := Vq bd) (A := 2 ^ n - 1))
      obtain ⟨p, hpn⟩ : ∃ p, p = 2 ^ n := ⟨_, rfl⟩
      rw [← hpn] at hsh hp hp0 HS HI HR
      have hw1 := wrap_nat p (by omega)
      have hw2 : IntKind.i64.wrap ((p : Int) - 1) = ((p - 1 : Nat) : Int) := by rw [show (p : Int) - 1 = ((p - 1 : Nat) : Int) by omega]; exact wrap_nat _ (by omega)
      have hn0 : (0 : Int) ≤ (n : Int) := by omega
      have hn64 : (n : Int) < 64 := by omega
      have Hpn := Lib.hid hpn
      clear hpn
      go_wp2_with fail
      clear g1 hsh hw1 hw2
      go_loopw [8] (fun o wr => ∃ (L : Nat) (X : List Nat) (par : List Int) (rk : Nat → Nat) (rem : List Nat), o = .int .i64 (L : Nat) ∧ Et w wr bq n gv gp h0 (.slice a n cap) (cz X) par ∧ Run (Vq bd) n L par rk rem ∧ Reach (Vq bd) (p - 1) L ∧ Inv (Vq bd) n L X) (fun o _ => (intOf o).toNat)
      case atStart => exact ⟨p - 1, X0 bd, List.replicate n (-1), fun _ => 0, [], by first | rfl | go_num, HE.out, HS.out, HR.out, HI.out⟩
      case round =>
        generalize wr = wx at *
        clear HE HS HI HR
        obtain ⟨L, X, par, rk, rem, rfl, he, hru, hre, hin⟩ := hrel
        have HE := Lib.hid he
        have HRu := Lib.hid hru
        have HRe := Lib.hid hre
        have HIn := Lib.hid hin
        have hL : L < 32 := by
          apply Nat.lt_of_lt_of_le (m := 2 ^ n) ?_ (Nat.pow_le_pow_right (n := 2) (by decide) (show n ≤ 5 by omega))
          apply Nat.lt_pow_two_of_testBit
          intro i hi
          cases c : L.testBit i with
          | false => rfl
          | true => have := hru.sub i c; omega
        have HDl := Lib.hid (show Calls Try.prog 118 #[.slice (some ⟨gv, 0, none⟩) n n, .int .i64 (L : Nat)] wx fun e w' => e = .returned (.tuple #[]) ∧ ∃ T, TwiceP L X X.length T ∧ OwnInts w.heap.size w' (.slice (some ⟨gv, 0, none⟩) n n) (cz (X.map (· &&& T))) ∧ Kp gv wx w' from by
          have := dropL_any X L hL hin.lt (by rw [hin.len]; omega) (base := w.heap.size) (g := gv) (cap := n) wx (by rw [hin.len]; exact he.v)
          rw [hin.len] at this ⊢; exact this)
        clear he hru hre hin
        go_wp2_with fail
        refine HDl.out.mono ?_
        rintro e w5 ⟨rfl, T, hT, hO, hK⟩
        have HE5 := Lib.hid (HE.out.setV HG.out hO hK)
        have HCu := Lib.hid (cur_of HIn.out HRu.out.sub hT)
        clear hT hO hK HDl HIn HE
        generalize X.map (· &&& T) = Y at *
        have HLe := Lib.hid (show Calls Try.prog 119 #[.slice (some ⟨gv, 0, none⟩) n n, .int .i64 (L : Nat)] w5 fun e w' => ∃ E H : Int, e = .returned (.tuple #[.int .i64 E, .int .i64 H]) ∧ ((E = -1 ∧ H = -1 ∧ ∀ i j, ¬ EarX L Y i j) ∨ ∃ i j : Nat, E = i ∧ H = j ∧ EarX L Y i j ∧ ∀ i' j', EarX L Y i' j' → i' ≤ i) ∧ ∃ q, w' = w5.drewN q from
          lastEar_any Y L hL HCu.out.lt (by rw [HCu.out.len]; omega) _ w5 HE5.out.v.ints)
        go_wp2_with fail
        refine HLe.out.mono ?_
        rintro e w6 ⟨E, H, rfl, hEH, q, hq6⟩
        have HE6 := Lib.hid (HE5.out.keep (show Below w5.heap.size w5 w6 from by rw [hq6]; exact drB w5))
        clear hq6 HLe HE5
        rcases hEH with ⟨rfl, rfl, hno⟩ | ⟨i, j, rfl, rfl, hEar, hmax⟩
        · have HDo := Lib.hid (show Done (Vq bd) L from fun e h k => hno e h ((ear_iff HCu.out HRu.out.sub e h).2 k))
          clear hno
          go_wp2_with fail
          go_ret2
          exact ⟨L, ⟨gp, 0, none⟩, n, n, par, rk, rem, rfl, HE6.out.p, HRu.out, by rw [← Hpn.out]; exact HRe.out, HDo.out, HE6.out.b⟩
        · have HEar := Lib.hid ((ear_iff HCu.out HRu.out.sub i j).1 hEar)
          have HLa := Lib.hid (show LastEar (Vq bd) L i from ⟨⟨j, HEar.out⟩, fun e' h' k => hmax e' h' ((ear_iff HCu.out HRu.out.sub e' h').2 k)⟩)
          have hin : i < n := HRu.out.sub i HEar.out.1
          have HRu2 := Lib.hid (run_step HRu.out HEar.out)
          have HRe2 := Lib.hid (Reach.step HRe.out HLa.out)
          have HIn2 := Lib.hid (inv_del (e := i) HCu.out)
          have hlt2 : ndiff L (2 ^ i) < L := by
            have h1 := ndiff_le L (2 ^ i)
            rcases Nat.lt_or_ge (ndiff L (2 ^ i)) L with c | c
            · exact c
            · exfalso
              have e2 : ndiff L (2 ^ i) = L := by omega
              have := HEar.out.1
              rw [← e2] at this
              exact (mem_del.1 this).2 rfl
          have hlen : n = par.length := HRu.out.len.symm
          have hcp := ownI_cell HE6.out.p hlen (k := i) (by rw [← hlen]; exact hin)
          have hfp := own_fz HE6.out.p hlen i
          have hixp := Hixp.out i
          obtain ⟨c0, hc0⟩ : ∃ c0, c0 = par.getD i 0 := ⟨_, rfl⟩
          rw [← hc0] at hcp
          have HE7 := Lib.hid (show Et w (w6.setCell ⟨gp, i, none⟩ (.int .i64 j)) bq n gv gp h0 (.slice a n cap) (cz Y) (par.set i j) from by
            obtain ⟨k1, k2⟩ := own_setI HE6.out.p hlen i j
            exact HE6.out.setP HG.out k1 k2)
          have hsh := qshl_one i
          have hp2 : 2 ^ i < 256 := Nat.lt_of_lt_of_eq (Nat.pow_lt_pow_right (a := 2) (by decide) (show i < 8 by omega)) (by decide)
          have hand := bits_andNot_nat L (2 ^ i) (by omega) (by omega)
          obtain ⟨r, hr⟩ : ∃ r, r = 2 ^ i := ⟨_, rfl⟩
          rw [← hr] at hsh hp2 hand hlt2 HRu2 HRe2 HIn2
          have hw1 := wrap_nat r (by omega)
          obtain ⟨M, hM⟩ : ∃ M, M = ndiff L r := ⟨_, rfl⟩
          rw [← hM] at hand hlt2 HRu2 HRe2 HIn2
          have hi0 : (0 : Int) ≤ (i : Int) := by omega
          have hi64 : (i : Int) < 64 := by omega
          have hneg : ¬ (i : Int) < 0 := by omega
          clear hc0 hlen hr hM hEar hmax HRu HRe HCu HE6
          go_wp2_with fail
          go_roundw
          case rel => exact ⟨M, Y, _, _, _, rfl, HE7.out, HRu2.out, HRe2.out, HIn2.out⟩
          case measure => simp [intOf]; omega
#print axioms earTree_any
end Go.Proofs.Ytfplmdieeabgpaa
