/- Contract of the reference's Rest. -/
import Derived.Test.YtfplmdieeabgpaaJtr
import Derived.Test.YtfplmdieeabgpaaRq
import Derived.Test.YtfplmdieeabgpaaLbx
namespace Go.Proofs.Ytfplmdieeabgpaa
open Go.RowKit
/-- the box of the query, and the row -/
structure Es (w wr : World) (bq n gv : Nat) (h0 b0 : Value) (X : List Int) : Prop where
  b : Below w.heap.size w wr
  q : Bx wr bq h0 b0
  v : OwnInts w.heap.size wr (.slice (some ⟨gv, 0, none⟩) n n) X
theorem Es.keep {w wr w' : World} {bq n gv : Nat} {h0 b0 : Value} {X : List Int} (h : Es w wr bq n gv h0 b0 X) (hb : Below wr.heap.size wr w') : Es w w' bq n gv h0 b0 X :=
  ⟨Below.tr h.b hb, h.q.keep hb, h.v.keep hb⟩
theorem Es.setV {w wr w' : World} {bq n gv : Nat} {h0 b0 : Value} {X X' : List Int} (h : Es w wr bq n gv h0 b0 X) (hg : w.heap.size ≤ bq ∧ bq < gv) (k : OwnInts w.heap.size w' (.slice (some ⟨gv, 0, none⟩) n n) X') (kp : Kp gv wr w') : Es w w' bq n gv h0 b0 X' :=
  ⟨kp.below h.b (by omega), (kp.blk bq (by omega)).trans h.q, k⟩
def OtherP (L : Nat) (X : List Nat) (i m O : Nat) : Prop := ∀ v, O.testBit v = true ↔ ∃ j, j < m ∧ j ≠ i ∧ mem' L j ∧ (X.getD j 0).testBit v = true
theorem other_0 (L : Nat) (X : List Nat) (i : Nat) : OtherP L X i 0 0 := fun v => ⟨fun h => by simp at h, fun ⟨j, h, _⟩ => by omega⟩
theorem other_in {L : Nat} {X : List Nat} {i m O : Nat} (h : OtherP L X i m O) (h1 : m ≠ i) (h2 : mem' L m) : OtherP L X i (m + 1) (O ||| X.getD m 0) := fun v => by
  rw [Nat.testBit_or, Bool.or_eq_true, h v]
  constructor
  · rintro (⟨j, h3, h4, h5, h6⟩ | h3)
    · exact ⟨j, by omega, h4, h5, h6⟩
    · exact ⟨m, by omega, h1, h2, h3⟩
  · rintro ⟨j, h3, h4, h5, h6⟩
    by_cases c : j = m
    · subst c; exact .inr h6
    · exact .inl ⟨j, by omega, h4, h5, h6⟩
theorem other_out {L : Nat} {X : List Nat} {i m O : Nat} (h : OtherP L X i m O) (h1 : ¬ (m ≠ i ∧ mem' L m)) : OtherP L X i (m + 1) O := fun v => by
  rw [h v]
  constructor
  · rintro ⟨j, h3, h4⟩; exact ⟨j, by omega, h4⟩
  · rintro ⟨j, h3, h4, h5, h6⟩
    by_cases c : j = m
    · subst c; exact absurd ⟨h4, h5⟩ h1
    · exact ⟨j, by omega, h4, h5, h6⟩
/-- the rows before i are narrowed -/
structure Mid (V : Nat → Nat → Prop) (n L i : Nat) (X : List Nat) : Prop where
  inv : Inv V n L X
  cur : ∀ j, j < i → mem' L j → ∀ v, (X.getD j 0).testBit v = true → ∃ k, mem' L k ∧ k ≠ j ∧ V k v
theorem set_get {X : List Nat} {i : Nat} (hi : i < X.length) (x j : Nat) : (X.set i x).getD j 0 = if j = i then x else X.getD j 0 := by
  simp only [List.getD_eq_getElem?_getD, List.getElem?_set]
  by_cases c : j = i
  · subst c; simp [hi]
  · rw [if_neg (fun k => c k.symm), if_neg c]
theorem mid_step {V : Nat → Nat → Prop} {n L i O : Nat} {X : List Nat} (h : Mid V n L i X) (hi : i < n) (hs : ∀ j, mem' L j → j < n) (hO : OtherP L X i n O) : Mid V n L (i + 1) (X.set i (X.getD i 0 &&& O)) := by
  have hl := h.inv.len
  have g := fun j => set_get (X := X) (i := i) (by omega) (X.getD i 0 &&& O) j
  refine ⟨⟨by rw [List.length_set]; exact hl, fun j => ?_, fun j hj v hv => ?_, fun j hj v hk hv => ?_⟩, fun j hj hm v hv => ?_⟩
  · rw [g j]
    by_cases c : j = i
    · rw [if_pos c]; have := h.inv.lt i; have := Nat.and_le_left (n := X.getD i 0) (m := O); omega
    · rw [if_neg c]; exact h.inv.lt j
  · rw [g j] at hv
    by_cases c : j = i
    · rw [if_pos c, Nat.testBit_and, Bool.and_eq_true] at hv
      subst c; exact h.inv.sub j hj v hv.1
    · rw [if_neg c] at hv; exact h.inv.sub j hj v hv
  · rw [g j]
    by_cases c : j = i
    · subst c
      rw [if_pos rfl, Nat.testBit_and, Bool.and_eq_true]
      refine ⟨h.inv.two j hj v hk hv, (hO v).2 ?_⟩
      obtain ⟨k, k1, k2, k3⟩ := hk
      exact ⟨k, hs k k1, k2, k1, h.inv.two k k1 v ⟨j, hj, fun c => k2 c.symm, hv⟩ k3⟩
    · rw [if_neg c]; exact h.inv.two j hj v hk hv
  · rw [g j] at hv
    by_cases c : j = i
    · rw [if_pos c, Nat.testBit_and, Bool.and_eq_true] at hv
      obtain ⟨k, _, k2, k3, k4⟩ := (hO v).1 hv.2
      exact ⟨k, k3, by rw [c]; exact k2, h.inv.sub k k3 v k4⟩
    · rw [if_neg c] at hv; exact h.cur j (by omega) hm v hv
theorem mid_cur {V : Nat → Nat → Prop} {n L : Nat} {X : List Nat} (h : Mid V n L n X) (hs : ∀ j, mem' L j → j < n) : Cur V n L X :=
  ⟨h.inv.len, h.inv.lt, fun i hi v => ⟨fun k => ⟨h.inv.sub i hi v k, h.cur i (hs i hi) hi v k⟩, fun ⟨k1, k2⟩ => h.inv.two i hi v k2 k1⟩⟩
def GoneP (L : Nat) (X : List Nat) (i : Nat) (G : Int) : Prop := (G = -1 ∧ ∀ i', i' < i → ∀ j, ¬ EarX L X i' j) ∨ ∃ e h : Nat, G = e ∧ e < i ∧ EarX L X e h ∧ ∀ i', i' < i → ∀ j, EarX L X i' j → i' ≤ e
def GoneJ (L : Nat) (X : List Nat) (i j : Nat) (G : Int) : Prop := (G = i ∧ ∃ h, EarX L X i h) ∨ ((∀ h, h < j → ¬ EarX L X i h) ∧ GoneP L X i G)
theorem goneJ_end {L : Nat} {X : List Nat} {i : Nat} {G : Int} (h : GoneJ L X i X.length G) : GoneP L X (i + 1) G := by
  rcases h with ⟨h1, x, h2⟩ | ⟨h1, h2⟩
  · exact .inr ⟨i, x, h1, by omega, h2, fun i' hi' _ _ => by omega⟩
  · have no : ∀ j, ¬ EarX L X i j := fun j k => h1 j k.2.1 k
    rcases h2 with ⟨h3, h4⟩ | ⟨e, x, h3, h4, h5, h6⟩
    · refine .inl ⟨h3, fun i' hi' j => ?_⟩
      by_cases c : i' = i
      · rw [c]; exact no j
      · exact h4 i' (by omega) j
    · refine .inr ⟨e, x, h3, by omega, h5, fun i' hi' j k => ?_⟩
      by_cases c : i' = i
      · rw [c] at k; exact absurd k (no j)
      · exact h6 i' (by omega) j k
theorem cz_set (X : List Nat) (i x : Nat) : (cz X).set i ((x : Nat) : Int) = cz (X.set i x) := by simp [cz, List.map_set]
set_option maxRecDepth 100000 in
set_option maxHeartbeats 32000000 in
theorem restR_any {q : HQ} (hq : QrV q) (v : Value) (w : World) (hv : Qr w v q) :
    Calls Try.prog 44 #[v] w fun e w' => ∃ m : Int, e = .returned (.int .i64 m) ∧ (∃ L : Nat, FinL q L ∧ ((OneL L ∧ m = 0) ∨ (¬ OneL L ∧ m = L))) ∧ Below w.heap.size w w' := by
  obtain ⟨hd, bd⟩ := q
  obtain ⟨h0, b0, rfl, hh, hb⟩ := hv
  have hlen := hq.1
  simp only at hlen
  have h7 : ∀ i, i < bd.length → ∀ t, t ∈ aA bd i → t ≤ 7 := fun i hi t ht => ((hq.2.1 i hi).2.2 t ht).2
  obtain ⟨a, b, off, cap, vs, rfl, hle, hia, _, hcl⟩ := Atoms.get hb
  obtain ⟨n, hn2⟩ : ∃ x, x = bd.length := ⟨_, rfl⟩
  have Hn := Lib.hid hn2
  simp only at hb hia hcl hle ⊢
  rw [← hn2] at hia hcl hle hlen h7 ⊢
  have H7 := Lib.hid h7
  have Hix := Lib.hid (run_ix (P := Try.prog) (t := 23) (a := a) (len := n) (cap := cap) (b := b) (off := off) (s := 2) Try.underlying23 (by intro w; kernel_rfl) hia)
  have Hc := Lib.hid hcl
  obtain ⟨w1, hw1⟩ : ∃ x, x = w.alloc (.cells #[h0, .slice a n cap] 25) := ⟨_, rfl⟩
  have k1 : Below w.heap.size w w1 := by rw [hw1]; exact below_alloc _ _
  obtain ⟨bq, hbq⟩ : ∃ x, x = w.heap.size := ⟨_, rfl⟩
  have HQ := Lib.hid (show Bx w1 bq h0 (.slice a n cap) from by rw [hbq, hw1]; exact heap_alloc_new _ _)
  have z1 : w1.heap.size = bq + 1 := by rw [hbq, hw1]; simp
  have Hz1 := Lib.hid z1
  have HB1 := Lib.hid k1
  have Hw1 := Lib.hid hw1
  have Hbq := Lib.hid hbq
  obtain ⟨i0, hi, hz, hzz, hby0⟩ := info_parts infoInt
  have hby : i0.bytes * n ≤ 281474976710656 := by rw [hby0]; omega
  have Hi := Lib.hid hi
  have Hz := Lib.hid hz
  have Hzz := Lib.hid hzz
  have Hby := Lib.hid hby
  have hsh := qshl_one n
  have hp : 2 ^ n ≤ 32 := Nat.pow_le_pow_right (n := 2) (by decide) (show n ≤ 5 by omega)
  have hp0 : 0 < 2 ^ n := Nat.two_pow_pos n
  have HS := Lib.hid (run_start (Vq bd) (n := n) (by omega))
  have HI := Lib.hid (show Inv (Vq bd) n (2 ^ n - 1) (X0 bd) from by have := inv_0 bd; rwa [← hn2] at this)
  have HR := Lib.hid (Reach.refl (V := Vq bd) (A := 2 ^ n - 1))
  obtain ⟨p, hpn⟩ : ∃ p, p = 2 ^ n := ⟨_, rfl⟩
  rw [← hpn] at hsh hp hp0 HS HI HR
  have hw1' := wrap_nat p (by omega)
  have hw2' : IntKind.i64.wrap ((p : Int) - 1) = ((p - 1 : Nat) : Int) := by rw [show (p : Int) - 1 = ((p - 1 : Nat) : Int) by omega]; exact wrap_nat _ (by omega)
  have hn0 : (0 : Int) ≤ (n : Int) := by omega
  have hn64 : (n : Int) < 64 := by omega
  have Hpn := Lib.hid hpn
  clear hw1 k1 hbq hn2 hh hb hia hcl z1 hi hz hzz hby hby0 hq h7 hpn
  go_enter Try.func44, Try.ntmps44
  go_upto_region 1 with fail
  rw [← Hw1.out, ← Hbq.out]
  clear Hw1
  have g1 := aCell HQ.out 1 rfl
  go_upto_region 3 with (first | (refine wpList_make_full _ rfl (.tmp 18) (.tmp 18) 22 rfl w1.heap.size 3 i0 (.int .i64 0) 1 Try.underlying22 Hi.out Hz.out Hzz.out .i64 .i64 _ _ n rfl rfl rfl rfl Hby.out (by unfold maxLen; omega) (Nat.le_refl _) ?_; intro w3 hown hgr))
  have hb3 : Below w1.heap.size w1 w3 := ⟨hgr.os, hgr.tape, hgr.output, hgr.size, fun k hk => hgr.block k hk (by simp)⟩
  obtain ⟨gv, hgv⟩ : ∃ x, x = w1.heap.size := ⟨_, rfl⟩
  rw [← hgv] at hown ⊢
  have HG := Lib.hid (show w.heap.size ≤ bq ∧ bq < gv from ⟨by rw [Hbq.out]; omega, by rw [hgv, Hz1.out]; omega⟩)
  have HE := Lib.hid (show Es w w3 bq n gv h0 (.slice a n cap) (fT n (fun i => (vsA (aA bd i) : Nat)) 0) from
    ⟨Below.tr HB1.out hb3, Bx.keep HQ.out hb3, by rw [fT_0]; exact OwnInts.base (own_made hown) (by rw [hgv]; exact HB1.out.size)⟩)
  have g1 := aCell HE.out.q 1 rfl
  have Hixv := Lib.hid (run_ix (P := Try.prog) (t := 22) (a := some ⟨gv, 0, none⟩) (len := n) (cap := n) (b := gv) (off := 0) (s := 1) Try.underlying22 (by intro w; kernel_rfl) (fun _ => rfl))
  simp only [Nat.zero_add, Nat.mul_one] at Hixv
  clear hown hgr hb3 hgv HQ HB1
  go_wp2_with fail
  clear g1 hsh hw1' hw2'
  go_loopw [26] (fun vi wr => ∃ k : Nat, vi = .int .i64 k ∧ k ≤ n ∧ Es w wr bq n gv h0 (.slice a n cap) (fT n (fun i => (vsA (aA bd i) : Nat)) k)) (fun vi _ => n - (intOf vi).toNat)
  case atStart => exact ⟨0, rfl, Nat.zero_le _, HE.out⟩
  case round =>
    generalize wr = wx at *
    clear HE
    obtain ⟨k, rfl, hk, he⟩ := hrel
    have HE := Lib.hid he
    clear he
    by_cases hlt : k < n
    · have hc1 := Below.keep HE.out.b (Hc.out k hlt).1
      have hc2 := Below.keep HE.out.b (Hc.out k hlt).2.1
      have hi := Ints.keep (Hc.out k hlt).2.2 HE.out.b
      have hixk := Hix.out k
      have HSv := Lib.hid (fT_set (f := fun i => (vsA (aA bd i) : Nat)) hlt)
      have H7k := Lib.hid (H7.out k hlt)
      obtain ⟨ua, uc, hua⟩ := ints_slice hi
      rw [hua] at hc2 hi
      clear hua
      obtain ⟨r, hr⟩ : ∃ t, t = aR bd k := ⟨_, rfl⟩
      obtain ⟨A, hA⟩ : ∃ t, t = aA bd k := ⟨_, rfl⟩
      rw [← hr] at hc1
      rw [← hA] at hc2 hi HSv H7k
      clear hr hA
      obtain ⟨un, hun⟩ : ∃ x, x = A.length := ⟨_, rfl⟩
      rw [← hun] at hc2 hi
      obtain ⟨wn, hwn⟩ : ∃ x, x = wx.alloc (.cells #[.int .i64 r, .slice ua un uc] 80) := ⟨_, rfl⟩
      have kn : Below wx.heap.size wx wn := by rw [hwn]; exact below_alloc _ _
      obtain ⟨bA, hbA⟩ : ∃ x, x = wx.heap.size := ⟨_, rfl⟩
      have HA := Lib.hid (show wn.heap[bA]? = some (.cells #[.int .i64 r, .slice ua un uc] 80 (0, 0)) from by rw [hbA, hwn]; exact heap_alloc_new _ _)
      have HEn := Lib.hid (HE.out.keep kn)
      have HVa := Lib.hid (varsR_any r A H7k.out _ wn (hi.keep kn))
      have Hwn := Lib.hid hwn
      have HbA := Lib.hid hbA
      clear hwn kn hbA hi hun HE
      go_upto_region 7 with fail
      rw [← Hwn.out, ← HbA.out]
      clear Hwn hc1 hc2 hixk
      have g0 := aCell HA.out 0 rfl
      have g1 := aCell HA.out 1 rfl
      go_wp2_with fail
      refine HVa.out.mono ?_
      rintro e w5 ⟨rfl, hb⟩
      have HE5 := Lib.hid (HEn.out.keep hb)
      obtain ⟨N, hN⟩ : ∃ N, N = vsA A := ⟨_, rfl⟩
      rw [← hN] at HSv ⊢
      clear hb g0 g1 hN
      have hixv := Hixv.out k
      have hcv := ownI_cell HE5.out.v (fT_len _ _ _).symm (k := k) (by rw [fT_len]; exact hlt)
      have hfv := own_fz HE5.out.v (fT_len _ _ _).symm k
      obtain ⟨c0, hc0⟩ : ∃ c0, c0 = (fT n (fun i => (vsA (aA bd i) : Nat)) k).getD k 0 := ⟨_, rfl⟩
      rw [← hc0] at hcv
      clear hc0
      have HE6 := Lib.hid (show Es w (w5.setCell ⟨gv, k, none⟩ (.int .i64 N)) bq n gv h0 (.slice a n cap) (fT n (fun i => (vsA (aA bd i) : Nat)) (k + 1)) from by
        obtain ⟨k1, k2⟩ := own_setI HE5.out.v (fT_len _ _ _).symm k N
        rw [HSv.out] at k1
        exact HE5.out.setV HG.out k1 k2)
      go_wp2_with fail
      go_roundw
      case rel => exact ⟨k + 1, by go_num, by omega, HE6.out⟩
      case measure => simp [intOf]; omega
    · obtain rfl : n = k := by omega
      rw [fT_all, show (List.range n).map (fun i => ((vsA (aA bd i) : Nat) : Int)) = cz (X0 bd) by rw [Hn.out]; exact x0_cz bd] at HE
      go_wp2_with fail
      go_loopw [5] (fun o wr => ∃ (L : Nat) (X : List Nat) (par : List Int) (rk : Nat → Nat) (rem : List Nat), o = .int .i64 (L : Nat) ∧ Es w wr bq n gv h0 (.slice a n cap) (cz X) ∧ Run (Vq bd) n L par rk rem ∧ Reach (Vq bd) (p - 1) L ∧ Inv (Vq bd) n L X) (fun o _ => (intOf o).toNat)
      case atStart => exact ⟨p - 1, X0 bd, List.replicate n (-1), fun _ => 0, [], by first | rfl | go_num, HE.out, HS.out, HR.out, HI.out⟩
      case round =>
        generalize wr = wx at *
        clear HE HS HI HR
        obtain ⟨L, X, par, rk, rem, rfl, he, hru, hre, hin⟩ := hrel
        have HE := Lib.hid he
        have HRu := Lib.hid hru
        have HRe := Lib.hid hre
        have HIn := Lib.hid hin
        have hL : L < 32 := by
          apply Nat.lt_of_lt_of_le (m := 2 ^ n) ?_ (Nat.pow_le_pow_right (n := 2) (by decide) (show n ≤ 5 by omega))
          apply Nat.lt_pow_two_of_testBit
          intro i hi
          cases c : L.testBit i with
          | false => rfl
          | true => have := hru.sub i c; omega
        clear he hru hre hin
        go_wp2_with fail
        go_loopw [38] (fun vi wr => ∃ (i : Nat) (X : List Nat), vi = .int .i64 i ∧ i ≤ n ∧ Es w wr bq n gv h0 (.slice a n cap) (cz X) ∧ Mid (Vq bd) n L i X) (fun vi _ => n - (intOf vi).toNat)
        case atStart => exact ⟨0, X, rfl, Nat.zero_le _, HE.out, HIn.out, fun j hj => by omega⟩
        case round =>
          generalize wr = wy at *
          clear HE HIn
          obtain ⟨i, X, rfl, hi, he, hmd⟩ := hrel
          have HE := Lib.hid he
          have HMd := Lib.hid hmd
          clear he hmd
          by_cases hlt : i < n
          · go_wp2_with fail
            go_loopw [9, 42] (fun x vi wr => ∃ m O : Nat, x = .int .i64 (O : Nat) ∧ vi = .int .i64 m ∧ m ≤ n ∧ wr = wy ∧ O < 256 ∧ OtherP L X i m O) (fun _ vi _ => n - (intOf vi).toNat)
            case atStart => exact ⟨0, 0, rfl, rfl, Nat.zero_le _, rfl, by decide, other_0 L X i⟩
            case round =>
              obtain ⟨m, O, rfl, rfl, hm, hwr, hO, hot⟩ := hrel
              obtain rfl : wy = wr := hwr.symm
              have HOt := Lib.hid hot
              clear hot
              by_cases hlm : m < n
              · have hmX : m < X.length := by rw [HMd.out.inv.len]; exact hlm
                have hcm := ownI_cell HE.out.v (by rw [cz_len]; exact HMd.out.inv.len.symm) (k := m) (by rw [cz_len]; exact hmX)
                rw [cz_get] at hcm
                have hixm := Hixv.out m
                have hx := HMd.out.inv.lt m
                have HOi := Lib.hid (other_in (m := m) HOt.out)
                have HOo := Lib.hid (other_out (m := m) HOt.out)
                obtain ⟨x, hxe⟩ : ∃ x, x = X.getD m 0 := ⟨_, rfl⟩
                rw [← hxe] at hcm hx HOi
                clear hxe hmX
                have hm0 : (0 : Int) ≤ (m : Int) := by omega
                have hm64 : (m : Int) < 64 := by omega
                have t1 := qshr_bit L m (by omega)
                obtain ⟨P, hP, p1, p2, p3⟩ := qpow_name m (by omega)
                rw [p1] at t1
                clear hP
                by_cases hmi : m = i
                · have HO2 := Lib.hid (HOo.out fun h => h.1 hmi)
                  have hne : ((m : Int) != (i : Int)) = false := by rw [bne_eq_false_iff_eq]; omega
                  clear hmi
                  go_wp2_with fail
                  go_roundw
                  case rel => exact ⟨m + 1, O, rfl, by go_num, by omega, by first | rfl | trivial, hO, HO2.out⟩
                  case measure => simp [intOf]; omega
                · have hne : ((m : Int) != (i : Int)) = true := by rw [bne_iff_ne]; omega
                  by_cases h2 : L.testBit m = true
                  · rw [if_pos h2] at t1
                    have HO2 := Lib.hid (HOi.out hmi h2)
                    have e1 := bits_or_nat O x (by omega) (by omega)
                    have l1 : O ||| x < 256 := Nat.or_lt_two_pow (n := 8) hO hx
                    obtain ⟨N, hN⟩ : ∃ N, N = O ||| x := ⟨_, rfl⟩
                    rw [← hN] at e1 l1 HO2
                    clear hN h2 hmi
                    go_wp2_with fail
                    go_roundw
                    case rel => exact ⟨m + 1, N, rfl, by go_num, by omega, by first | rfl | trivial, l1, HO2.out⟩
                    case measure => simp [intOf]; omega
                  · rw [if_neg h2] at t1
                    have HO2 := Lib.hid (HOo.out fun h => h2 h.2)
                    clear h2 hmi
                    go_wp2_with fail
                    go_roundw
                    case rel => exact ⟨m + 1, O, rfl, by go_num, by omega, by first | rfl | trivial, hO, HO2.out⟩
                    case measure => simp [intOf]; omega
              · obtain rfl : n = m := by omega
                have hiX : i < X.length := by rw [HMd.out.inv.len]; exact hlt
                have hlenX : n = (cz X).length := by rw [cz_len]; exact HMd.out.inv.len.symm
                have hci := ownI_cell HE.out.v hlenX (k := i) (by rw [cz_len]; exact hiX)
                rw [cz_get] at hci
                have hfi := own_fz HE.out.v hlenX i
                have hixi := Hixv.out i
                have hx := HMd.out.inv.lt i
                have HM2 := Lib.hid (mid_step HMd.out hlt HRu.out.sub HOt.out)
                have HE2 := Lib.hid (fun (N : Nat) => show Es w (wy.setCell ⟨gv, i, none⟩ (.int .i64 N)) bq n gv h0 (.slice a n cap) (cz (X.set i N)) from by
                  obtain ⟨k1, k2⟩ := own_setI HE.out.v hlenX i N
                  rw [cz_set] at k1
                  exact HE.out.setV HG.out k1 k2)
                obtain ⟨x, hxe⟩ : ∃ x, x = X.getD i 0 := ⟨_, rfl⟩
                rw [← hxe] at hci hx HM2
                clear hxe hiX hlenX
                have e1 := bits_and_nat x O (by omega) (by omega)
                obtain ⟨N, hN⟩ : ∃ N, N = x &&& O := ⟨_, rfl⟩
                rw [← hN] at e1 HM2
                have HE2 := Lib.hid (HE2.out N)
                clear hN
                go_wp2_with fail
                go_roundw
                case rel => exact ⟨i + 1, _, by go_num, by omega, HE2.out, HM2.out⟩
                case measure => simp [intOf]; omega
          · obtain rfl : n = i := by omega
            have HCu := Lib.hid (mid_cur HMd.out HRu.out.sub)
            have HX := Lib.hid (show ∀ i, i < n → wy.cell? ⟨gv, i, none⟩ = some (.int .i64 (X.getD i 0 : Nat)) from fun i hi => by
              rw [ownI_cell HE.out.v (by rw [cz_len]; exact HCu.out.len.symm) (k := i) (by rw [cz_len, HCu.out.len]; exact hi), cz_get])
            have HnX := Lib.hid (show n = X.length from HCu.out.len.symm)
            clear HMd
            go_wp2_with fail
            go_loopw [11, 71] (fun x vi wr => ∃ (i q : Nat) (G : Int), x = .int .i64 G ∧ vi = .int .i64 i ∧ i ≤ n ∧ wr = wy.drewN q ∧ GoneP L X i G) (fun _ vi _ => n - (intOf vi).toNat)
            case atStart => exact ⟨0, 0, -1, rfl, rfl, Nat.zero_le _, rfl, .inl ⟨rfl, fun i' h => by omega⟩⟩
            case round =>
              obtain ⟨i, q, G, rfl, rfl, hi, hwr, hgo⟩ := hrel
              have Hwr := Lib.hid hwr
              have HGo := Lib.hid hgo
              clear hwr hgo
              by_cases hlt : i < n
              · go_wp2_with fail
                go_loopw [11, 75] (fun x vi wr => ∃ (j q : Nat) (G : Int), x = .int .i64 G ∧ vi = .int .i64 j ∧ j ≤ n ∧ wr = wy.drewN q ∧ GoneJ L X i j G) (fun _ vi _ => n - (intOf vi).toNat)
                case atStart => exact ⟨0, q, G, rfl, rfl, Nat.zero_le _, Hwr.out, .inr ⟨fun h h1 => by omega, HGo.out⟩⟩
                case round =>
                  clear Hwr HGo
                  obtain ⟨j, q, G, rfl, rfl, hj, hwr, hgo⟩ := hrel
                  have Hwr := Lib.hid hwr
                  have HGo := Lib.hid hgo
                  clear hwr hgo
                  by_cases hlj : j < n
                  · have HYes := Lib.hid (fun (h : EarX L X i j) => show GoneJ L X i (j + 1) i from .inl ⟨rfl, j, h⟩)
                    have HNo := Lib.hid (fun (h : ¬ EarX L X i j) => show GoneJ L X i (j + 1) G from by
                      rcases HGo.out with h1 | ⟨h1, h2⟩
                      · exact .inl h1
                      · refine .inr ⟨fun h' h3 => ?_, h2⟩
                        by_cases c : h' = j
                        · rw [c]; exact h
                        · exact h1 h' (by omega))
                    have i0 : (0 : Int) ≤ (i : Int) := by omega
                    have i64 : (i : Int) < 64 := by omega
                    have j0 : (0 : Int) ≤ (j : Int) := by omega
                    have j64 : (j : Int) < 64 := by omega
                    have t1 := qshr_bit L i (by omega)
                    obtain ⟨P, hP, p1, p2, p3⟩ := qpow_name i (by omega)
                    rw [p1] at t1
                    have s1 := qshr_bit L j (by omega)
                    obtain ⟨R, hR, r1, r2, r3⟩ := qpow_name j (by omega)
                    rw [r1] at s1
                    clear hP hR
                    by_cases hij : i = j
                    · have HF := Lib.hid (HNo.out fun h => h.2.2.1 hij)
                      have hne : ((i : Int) != (j : Int)) = false := by rw [bne_eq_false_iff_eq]; omega
                      clear HYes HNo
                      subst hij
                      go_upto_region 28 with fail
                      go_quiet (fail)
                      go_wp2_with fail
                      go_roundw
                      case rel => exact ⟨i + 1, _, G, rfl, by go_num, by omega, drew_at Hwr.out, HF.out⟩
                      case measure => simp [intOf]; omega
                    · have hne : ((i : Int) != (j : Int)) = true := by rw [bne_iff_ne]; omega
                      by_cases hii : L.testBit i = true
                      · rw [if_pos hii] at t1
                        by_cases hjj : L.testBit j = true
                        · rw [if_pos hjj] at s1
                          have hci := (show wr.cell? ⟨gv, i, none⟩ = wy.cell? ⟨gv, i, none⟩ by rw [Hwr.out]; rfl).trans (HX.out i hlt)
                          have hcj := (show wr.cell? ⟨gv, j, none⟩ = wy.cell? ⟨gv, j, none⟩ by rw [Hwr.out]; rfl).trans (HX.out j hlj)
                          have hxi := Hixv.out i
                          have hxj := Hixv.out j
                          have l1 := HCu.out.lt i
                          have l2 := HCu.out.lt j
                          obtain ⟨x, hx⟩ : ∃ x, x = X.getD i 0 := ⟨_, rfl⟩
                          obtain ⟨y, hy⟩ : ∃ y, y = X.getD j 0 := ⟨_, rfl⟩
                          have HEx := Lib.hid (show EarX L X i j ↔ ndiff x y = 0 from by rw [hx, hy]; exact ⟨fun h => h.2.2.2.2.2, fun h => ⟨by rw [← HnX.out]; exact hlt, by rw [← HnX.out]; exact hlj, hij, hii, hjj, h⟩⟩)
                          rw [← hx] at hci l1
                          rw [← hy] at hcj l2
                          clear hx hy
                          have e1 := bits_andNot_nat x y (by omega) (by omega)
                          obtain ⟨N, hN⟩ : ∃ N, N = ndiff x y := ⟨_, rfl⟩
                          rw [← hN] at e1 HEx
                          clear hN
                          by_cases hz : N = 0
                          · have HF := Lib.hid (HYes.out (HEx.out.2 hz))
                            have hz2 : ((N : Int) == 0) = true := by rw [hz]; rfl
                            clear hz HYes HNo
                            go_upto_region 28 with fail
                            go_quiet (fail)
                            go_wp2_with fail
                            go_roundw
                            case rel => exact ⟨j + 1, _, i, rfl, by go_num, by omega, drew_at Hwr.out, HF.out⟩
                            case measure => simp [intOf]; omega
                          · have HF := Lib.hid (HNo.out fun h => hz (HEx.out.1 h))
                            have hz2 : ((N : Int) == 0) = false := by rw [beq_eq_false_iff_ne]; omega
                            clear hz HYes HNo
                            go_upto_region 28 with fail
                            go_quiet (fail)
                            go_wp2_with fail
                            go_roundw
                            case rel => exact ⟨j + 1, _, G, rfl, by go_num, by omega, drew_at Hwr.out, HF.out⟩
                            case measure => simp [intOf]; omega
                        · rw [if_neg hjj] at s1
                          have HF := Lib.hid (HNo.out fun h => hjj h.2.2.2.2.1)
                          clear HYes HNo
                          go_upto_region 28 with fail
                          go_quiet (fail)
                          go_wp2_with fail
                          go_roundw
                          case rel => exact ⟨j + 1, _, G, rfl, by go_num, by omega, drew_at Hwr.out, HF.out⟩
                          case measure => simp [intOf]; omega
                      · rw [if_neg hii] at t1
                        have HF := Lib.hid (HNo.out fun h => hii h.2.2.2.1)
                        clear HYes HNo
                        go_upto_region 28 with fail
                        go_quiet (fail)
                        go_wp2_with fail
                        go_roundw
                        case rel => exact ⟨j + 1, _, G, rfl, by go_num, by omega, drew_at Hwr.out, HF.out⟩
                        case measure => simp [intOf]; omega
                  · obtain rfl : n = j := by omega
                    have HF := Lib.hid (show GoneP L X (i + 1) G from goneJ_end (by rw [← HnX.out]; exact HGo.out))
                    go_wp2_with fail
                    go_roundw
                    case rel => exact ⟨i + 1, q, G, rfl, by go_num, by omega, Hwr.out, HF.out⟩
                    case measure => simp [intOf]; omega
              · obtain rfl : n = i := by omega
                have HEz := Lib.hid (HE.out.keep (show Below wy.heap.size wy wr from by rw [Hwr.out]; exact drB wy))
                have HXz := Lib.hid (show ∀ i, i < n → wr.cell? ⟨gv, i, none⟩ = some (.int .i64 (X.getD i 0 : Nat)) from fun i hi => (show wr.cell? ⟨gv, i, none⟩ = wy.cell? ⟨gv, i, none⟩ by rw [Hwr.out]; rfl).trans (HX.out i hi))
                clear Hwr HE HX
                rcases HGo.out with ⟨rfl, hno⟩ | ⟨e, h, rfl, hen, hEar, hmax⟩
                · have HDo := Lib.hid (show Done (Vq bd) L from fun e h k => hno e (HRu.out.sub e k.1) h ((ear_iff HCu.out HRu.out.sub e h).2 k))
                  have HFi := Lib.hid (show FinL (hd, bd) L from ⟨by rw [show (hd, bd).2.length = n from Hn.out.symm, ← Hpn.out]; exact HRe.out, HDo.out, fun i hi => by rw [show (hd, bd).2.length = n from Hn.out.symm]; exact HRu.out.sub i hi, HRu.out.some⟩)
                  clear hno HGo
                  go_wp2_with fail
                  obtain ⟨w0, hw0⟩ : ∃ w0, w0 = wr := ⟨_, rfl⟩
                  rw [← hw0] at HEz HXz
                  have Hw0 := Lib.hid hw0
                  clear hw0
                  go_loopw [117] (fun vi wz => ∃ k : Nat, vi = .int .i64 k ∧ k ≤ n ∧ wz = w0 ∧ ∀ i, i < k → L ≠ 2 ^ i) (fun vi _ => n - (intOf vi).toNat)
                  case atStart => exact ⟨0, rfl, Nat.zero_le _, Hw0.out.symm, fun i h => by omega⟩
                  case round =>
                    clear Hw0
                    obtain ⟨k, rfl, hk, hwr, hne⟩ := hrel
                    obtain rfl : w0 = wr := hwr.symm
                    have HNe := Lib.hid hne
                    clear hne
                    by_cases hlt : k < n
                    · have hsh := qshl_one k
                      have hp2 : 2 ^ k < 256 := Nat.lt_of_lt_of_eq (Nat.pow_lt_pow_right (a := 2) (by decide) (show k < 8 by omega)) (by decide)
                      have hck := HXz.out k hlt
                      have hixk := Hixv.out k
                      have hk0 : (0 : Int) ≤ (k : Int) := by omega
                      have hk64 : (k : Int) < 64 := by omega
                      by_cases hL2 : L = 2 ^ k
                      · have hone : OneL L := fun i j hi hj => by
                          unfold mem' at hi hj
                          rw [hL2, Nat.testBit_two_pow] at hi hj
                          have := of_decide_eq_true hi
                          have := of_decide_eq_true hj
                          omega
                        have hX0 : X.getD k 0 = 0 := by
                          apply Nat.eq_of_testBit_eq
                          intro v
                          rw [Nat.zero_testBit]
                          cases c : (X.getD k 0).testBit v with
                          | false => rfl
                          | true =>
                            have hmk : mem' L k := by unfold mem'; rw [hL2, Nat.testBit_two_pow]; simp
                            obtain ⟨_, j, j1, j2, _⟩ := (HCu.out.cur k hmk v).1 c
                            exact absurd (hone j k j1 hmk) j2
                        have HOne := Lib.hid hone
                        rw [hX0] at hck
                        obtain ⟨r, hr⟩ : ∃ r, r = 2 ^ k := ⟨_, rfl⟩
                        rw [← hr] at hsh hp2
                        have hw1 := wrap_nat r (by omega)
                        have heq : ((L : Int) == (r : Int)) = true := by rw [beq_iff_eq, hL2, hr]
                        clear hone hX0 hL2 hr
                        go_wp2_with fail
                        go_ret
                        exact ⟨0, rfl, ⟨L, HFi.out, .inl ⟨HOne.out, rfl⟩⟩, HEz.out.b⟩
                      · have HN := Lib.hid (show ∀ i, i < k + 1 → L ≠ 2 ^ i from fun i hi => by
                          by_cases c : i = k
                          · rw [c]; exact hL2
                          · exact HNe.out i (by omega))
                        obtain ⟨r, hr⟩ : ∃ r, r = 2 ^ k := ⟨_, rfl⟩
                        rw [← hr] at hsh hp2
                        have hw1 := wrap_nat r (by omega)
                        have heq : ((L : Int) == (r : Int)) = false := by rw [beq_eq_false_iff_ne, hr]; omega
                        clear hL2 hr
                        go_wp2_with fail
                        go_roundw
                        case rel => exact ⟨k + 1, by go_num, by omega, by first | rfl | trivial, HN.out⟩
                        case measure => simp [intOf]; omega
                    · obtain rfl : n = k := by omega
                      have HMo := Lib.hid (show ¬ OneL L from fun h => by
                        obtain ⟨r, hr⟩ := HRu.out.some
                        refine HNe.out r (HRu.out.sub r hr) ?_
                        apply Nat.eq_of_testBit_eq
                        intro i
                        rw [Nat.testBit_two_pow]
                        cases c : L.testBit i with
                        | true => exact (decide_eq_true (h r i hr c)).symm
                        | false => exact (decide_eq_false fun k => by rw [← k] at c; unfold mem' at hr; rw [hr] at c; cases c).symm)
                      go_wp2_with fail
                      go_ret
                      exact ⟨L, rfl, ⟨L, HFi.out, .inr ⟨HMo.out, rfl⟩⟩, HEz.out.b⟩
                · have HEar := Lib.hid ((ear_iff HCu.out HRu.out.sub e h).1 hEar)
                  have HLa := Lib.hid (show LastEar (Vq bd) L e from ⟨⟨h, HEar.out⟩, fun e' h' k => hmax e' (HRu.out.sub e' k.1) h' ((ear_iff HCu.out HRu.out.sub e' h').2 k)⟩)
                  have HRu2 := Lib.hid (run_step HRu.out HEar.out)
                  have HRe2 := Lib.hid (Reach.step HRe.out HLa.out)
                  have HIn2 := Lib.hid (inv_del (e := e) HCu.out)
                  have hlt2 : ndiff L (2 ^ e) < L := by
                    have h1 := ndiff_le L (2 ^ e)
                    rcases Nat.lt_or_ge (ndiff L (2 ^ e)) L with c | c
                    · exact c
                    · exfalso
                      have e2 : ndiff L (2 ^ e) = L := by omega
                      have := HEar.out.1
                      rw [← e2] at this
                      exact (mem_del.1 this).2 rfl
                  have hsh := qshl_one e
                  have hp2 : 2 ^ e < 256 := Nat.lt_of_lt_of_eq (Nat.pow_lt_pow_right (a := 2) (by decide) (show e < 8 by omega)) (by decide)
                  have hand := bits_andNot_nat L (2 ^ e) (by omega) (by omega)
                  obtain ⟨r, hr⟩ : ∃ r, r = 2 ^ e := ⟨_, rfl⟩
                  rw [← hr] at hsh hp2 hand hlt2 HRu2 HRe2 HIn2
                  have hw1 := wrap_nat r (by omega)
                  obtain ⟨M, hM⟩ : ∃ M, M = ndiff L r := ⟨_, rfl⟩
                  rw [← hM] at hand hlt2 HRu2 HRe2 HIn2
                  have he0 : (0 : Int) ≤ (e : Int) := by omega
                  have he64 : (e : Int) < 64 := by omega
                  have hneg : ¬ (e : Int) < 0 := by omega
                  clear hr hM hEar hmax HRu HRe HCu HGo
                  go_wp2_with fail
                  go_roundw
                  case rel => exact ⟨M, X, _, _, _, rfl, HEz.out, HRu2.out, HRe2.out, HIn2.out⟩
                  case measure => simp [intOf]; omega
#print axioms restR_any
end Go.Proofs.Ytfplmdieeabgpaa
