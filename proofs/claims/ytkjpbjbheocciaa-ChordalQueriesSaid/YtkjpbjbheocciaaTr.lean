/- The reference's FromQuery has the contract of FromQuery. -/
import Derived.Test.YtkjpbjbheocciaaTq
import Derived.Test.YtkjpbjbheocciaaRq
namespace Go.Proofs.Ytkjpbjbheocciaa
open Go.RowKit
theorem vl_get {S : Nat} : ∀ {k v : Nat}, v < k → S.testBit v = true → (vl S v).length < (vl S k).length ∧ nb (vl S k) (vl S v).length = v
  | 0, v, h, _ => absurd h (Nat.not_lt_zero v)
  | k + 1, v, h, hb => by
    by_cases e : v = k
    · subst e
      rw [vl_yes hb]
      refine ⟨by simp, ?_⟩
      rw [nb_get (by simp)]; simp
    · obtain ⟨h1, h2⟩ := vl_get (k := k) (by omega) hb
      cases c : S.testBit k with
      | false => rw [vl_no c]; exact ⟨h1, h2⟩
      | true =>
        rw [vl_yes c]
        refine ⟨by simp; omega, ?_⟩
        unfold nb at *
        rw [List.getD_eq_getElem?_getD, List.getElem?_append_left h1, ← List.getD_eq_getElem?_getD]; exact h2
theorem vl_place {S : Nat} : ∀ {k r : Nat}, r < (vl S k).length → (vl S (nb (vl S k) r)).length = r
  | 0, r, h => by simp [vl] at h
  | k + 1, r, h => by
    cases c : S.testBit k with
    | false => rw [vl_no c] at h ⊢; exact vl_place h
    | true =>
      rw [vl_yes c] at h ⊢
      by_cases e : r < (vl S k).length
      · have : nb (vl S k ++ [k]) r = nb (vl S k) r := by
          unfold nb; rw [List.getD_eq_getElem?_getD, List.getElem?_append_left e, ← List.getD_eq_getElem?_getD]
        rw [this]; exact vl_place e
      · have er : r = (vl S k).length := by simp at h; omega
        subst er
        have : nb (vl S k ++ [k]) (vl S k).length = k := by rw [nb_get (by simp)]; simp
        rw [this]
theorem vl_is {S v r : Nat} (hv : v < 8) (hb : S.testBit v = true) (hr : r < (vl S 8).length) : r = (vl S v).length ↔ nb (vl S 8) r = v := by
  constructor
  · rintro rfl; exact (vl_get hv hb).2
  · intro h; rw [← h]; exact (vl_place hr).symm
theorem vl_lt8 {S r : Nat} (hr : r < (vl S 8).length) : nb (vl S 8) r < 8 := by
  rw [nb_get hr]; exact (mem_vl.1 (List.getElem_mem hr)).1
/-- an atom's variables occur -/
theorem vsB_sub {bd : List HAt} {k v : Nat} : ∀ {n : Nat}, k < n → (vsA (aA bd k)).testBit v = true → (vsB bd n).testBit v = true
  | 0, h, _ => absurd h (Nat.not_lt_zero k)
  | n + 1, h, hb => by
    rw [vsB, Nat.testBit_or, Bool.or_eq_true]
    by_cases e : k = n
    · subst e; exact .inr hb
    · exact .inl (vsB_sub (by omega) hb)
/-- the places of the variables, of the first k -/
def atA (S k : Nat) : Array Value := ((List.range 8).map fun i => Value.int .i64 (if i < k then ((vl S i).length : Int) else 0)).toArray
theorem atA_zero (S : Nat) : atA S 0 = #[.int .i64 0, .int .i64 0, .int .i64 0, .int .i64 0, .int .i64 0, .int .i64 0, .int .i64 0, .int .i64 0] := by
  simp [atA, List.range, List.range.loop]
theorem atA_at {S k i : Nat} (hi : i < 8) (hk : i < k) : (atA S k)[i]? = some (.int .i64 ((vl S i).length : Nat)) := by
  simp [atA, hi, hk]
theorem atA_get {S k i : Nat} (hi : i < 8) : (atA S k)[i]? = some (.int .i64 (if i < k then ((vl S i).length : Int) else 0)) := by
  simp [atA, hi]
theorem atA_any {S k i : Nat} (hi : i < 8) : ∃ c, (atA S k)[i]? = some (.int .i64 c) := ⟨_, atA_get hi⟩
theorem NRow.lt {w : World} {g n : Nat} {G : List Nat} (h : NRow w g n G) : g < w.heap.size := by
  rcases h.2 with ⟨q, _⟩ | ⟨g', cap, cur, q, _, hh, _⟩
  · cases q
  · injection q with q _ _
    injection q with q
    injection q with q
    subst q
    exact (Array.getElem?_eq_some_iff.1 hh).1
theorem atA_set {S k : Nat} (_ : k < 8) : (atA S k).setIfInBounds k (.int .i64 ((vl S k).length : Nat)) = atA S (k + 1) := by
  refine Array.ext (by simp [atA]) fun i h1 h2 => ?_
  have hi : i < 8 := by simpa [atA] using h2
  have h3 : i < (atA S k).size := by simp [atA]; omega
  rw [Array.getElem_setIfInBounds]
  rotate_left
  · exact h3
  by_cases e : k = i
  · subst e; simp [atA]
  · simp only [atA, e, if_false]
    simp
    by_cases c : i < k
    · rw [if_pos c, if_pos (by omega)]
    · rw [if_neg c, if_neg (by omega)]
/-- what the walk of the reference's FromQuery keeps -/
structure Fsr (w wr : World) (ab tb g n S : Nat) (r : Int) (u : Value) (G : List Nat) : Prop where
  b : Below w.heap.size w wr
  ha : wr.heap[ab]? = some (.cells (atA S 8) 108 (0, 0))
  ht : wr.heap[tb]? = some (.cells #[.int .i64 r, u] 75 (0, 0))
  row : NRow wr g n G
theorem blk_keep4 {w w' : World} {b : Nat} {o : Obj} (h : w.heap[b]? = some o) (hb : Below w.heap.size w w') : w'.heap[b]? = some o := (hb.block b (Array.getElem?_eq_some_iff.1 h).1).trans h
theorem Fsr.keep {w wr w' : World} {ab tb g n S : Nat} {r : Int} {u : Value} {G : List Nat} (h : Fsr w wr ab tb g n S r u G) (hb : Below wr.heap.size wr w') : Fsr w w' ab tb g n S r u G :=
  ⟨Below.tr h.b hb, blk_keep4 h.ha hb, blk_keep4 h.ht hb, owns_keep h.row hb⟩
theorem Fsr.put {w wr : World} {ab tb g n S : Nat} {r : Int} {u : Value} {G : List Nat} (h : Fsr w wr ab tb g n S r u G) (h1 : ab ≠ g) (h2 : tb ≠ g) (h3 : w.heap.size ≤ g) (i x : Nat) : Fsr w (wr.setCell ⟨g, i, none⟩ (.int .i64 x)).drew ab tb g n S r u (G.set i x) :=
  ⟨(h.b.setCell h3 _).drew, (heap_setCell_other wr ⟨g, i, none⟩ ab _ h1).trans h.ha, (heap_setCell_other wr ⟨g, i, none⟩ tb _ h2).trans h.ht, World.ownsRow.drew (h.row.put i x)⟩
theorem aCell4 {w : World} {b : Nat} {cs : Array Value} {t : TypeId} {fr : Nat × Nat} (h : w.heap[b]? = some (.cells cs t fr)) (j : Nat) {v : Value} (hv : cs[j]? = some v) : w.cell? ⟨b, j, none⟩ = some v := by rw [cell_of_row w b j cs t fr h]; exact hv
theorem bit_eq (V n : Nat) (h : V < 256) (B : Bool) (hB : V.testBit n = B) (P : Nat) (hP : (2 : Int) ^ n = (P : Int)) : bits .and .i64 ((V : Int) / (P : Int)) 1 = ((if B = true then 1 else 0 : Nat) : Int) := by
  rw [← hP, qshr_bit V n (by omega), hB]
/-! the graph under way, in the order of the reference's loops -/
theorem pt_yes {bd : List HAt} {S k v x : Nat} {G : List Nat} (hk : k < bd.length) (hv : v < 8) (hx : x < 8) (hS : ∀ u, (vsA (aA bd k)).testBit u = true → S.testBit u = true)
    (h : Pt (qs bd) (vl S 8) k (fun r m => nb (vl S 8) r < v ∨ nb (vl S 8) r = v ∧ nb (vl S 8) m < x) G) (hne : v ≠ x) (b1 : (vsA (aA bd k)).testBit v = true) (b2 : (vsA (aA bd k)).testBit x = true) :
    Pt (qs bd) (vl S 8) k (fun r m => nb (vl S 8) r < v ∨ nb (vl S 8) r = v ∧ nb (vl S 8) m < x + 1) (G.set (vl S v).length (nb G (vl S v).length ||| 2 ^ (vl S x).length)) := by
  obtain ⟨v1, v2⟩ := vl_get (k := 8) hv (hS v b1)
  obtain ⟨x1, x2⟩ := vl_get (k := 8) hx (hS x b2)
  refine h.put ⟨fun e => hne ?_, v1, x1, by rw [nb_qs hk, v2]; exact b1, by rw [nb_qs hk, x2]; exact b2⟩ fun r m hb => ?_
  · rw [← v2, ← x2, e]
  · rw [vl_is hv (hS v b1) hb.2.1, vl_is hx (hS x b2) hb.2.2.1]
    omega
theorem pt_no {bd : List HAt} {S k v x : Nat} {G : List Nat} (hk : k < bd.length)
    (h : Pt (qs bd) (vl S 8) k (fun r m => nb (vl S 8) r < v ∨ nb (vl S 8) r = v ∧ nb (vl S 8) m < x) G) (hno : ¬ (v ≠ x ∧ (vsA (aA bd k)).testBit v = true ∧ (vsA (aA bd k)).testBit x = true)) :
    Pt (qs bd) (vl S 8) k (fun r m => nb (vl S 8) r < v ∨ nb (vl S 8) r = v ∧ nb (vl S 8) m < x + 1) G := by
  refine h.skip fun r m hb => ?_
  have : ¬ (nb (vl S 8) r = v ∧ nb (vl S 8) m = x) := fun e => hno ⟨fun q => hb.1 (by
    rw [← vl_place hb.2.1, ← vl_place hb.2.2.1, e.1, e.2, q]), by
    have := hb.2.2.2.1
    rw [nb_qs hk, e.1] at this; exact this, by
    have := hb.2.2.2.2
    rw [nb_qs hk, e.2] at this; exact this⟩
  omega
theorem pt_row {bd : List HAt} {S k v : Nat} {G : List Nat} (h : Pt (qs bd) (vl S 8) k (fun r m => nb (vl S 8) r < v ∨ nb (vl S 8) r = v ∧ nb (vl S 8) m < 8) G) : Pt (qs bd) (vl S 8) k (fun r _ => nb (vl S 8) r < v + 1) G := by
  refine h.skip fun r m hb => ?_
  have := vl_lt8 hb.2.2.1
  omega
theorem pt_begin {bd : List HAt} {S k v : Nat} {G : List Nat} (h : Pt (qs bd) (vl S 8) k (fun r _ => nb (vl S 8) r < v) G) : Pt (qs bd) (vl S 8) k (fun r m => nb (vl S 8) r < v ∨ nb (vl S 8) r = v ∧ nb (vl S 8) m < 0) G :=
  h.skip fun r m _ => by omega
theorem pt_begin0 {bd : List HAt} {S k : Nat} {G : List Nat} (h : Pt (qs bd) (vl S 8) k (fun _ _ => False) G) : Pt (qs bd) (vl S 8) k (fun r _ => nb (vl S 8) r < 0) G :=
  h.skip fun _ _ _ => ⟨fun h => absurd h (Nat.not_lt_zero _), fun h => h.elim⟩
theorem pt_atom {bd : List HAt} {S k : Nat} {G : List Nat} (h : Pt (qs bd) (vl S 8) k (fun r _ => nb (vl S 8) r < 8) G) : Pt (qs bd) (vl S 8) (k + 1) (fun _ _ => False) G :=
  h.next (fun _ _ hb => vl_lt8 hb.2.1) (fun _ _ h => h)
set_option maxRecDepth 100000 in
set_option maxHeartbeats 16000000 in
theorem fromQR_any (q : HQ) (v : Value) (w : World) (hq : Qr w v q) :
    Calls Try.prog 57 #[v] w fun e w' => ∃ (x : Value) (c : Int), e = .returned (.tuple #[x, .int .i64 c]) ∧ FqR q w.heap.size w' x c ∧ Below w.heap.size w w' := by
  obtain ⟨h0, b0, rfl, hh, hb⟩ := hq
  have HAl := Lib.hid (fun h7 w' (hw : Below w.heap.size w w') => allR_any q.2 h7 h0 b0 w' (hb.keep hw))
  obtain ⟨a2, b2, off2, cap2, rfl, hle2, ha2, hc2⟩ := Ints.get hh
  obtain ⟨a, b, off, cap, vs, rfl, hle, ha, hcap, hc⟩ := Atoms.get hb
  obtain ⟨w1, hw1⟩ : ∃ w1, w1 = w.alloc (.cells #[.slice a2 q.1.length cap2, .slice a q.2.length cap] 59) := ⟨_, rfl⟩
  have hb1 : Below w.heap.size w w1 := by rw [hw1]; exact below_alloc _ _
  have HV := Lib.hid (fun B hB => validQR_any q (.agg #[.slice a2 q.1.length cap2, .slice a q.2.length cap]) w1 ⟨_, _, rfl, hh.keep hb1, hb.keep hb1⟩ B hB)
  have hrow : w1.heap[w.heap.size]? = some (.cells #[.slice a2 q.1.length cap2, .slice a q.2.length cap] 59 (0, 0)) := by rw [hw1]; exact heap_alloc_new w _
  have HQ := Lib.hid hrow
  have g0 := aCell4 hrow 0 rfl
  have g1 := aCell4 hrow 1 rfl
  have Hb1 := Lib.hid hb1
  have Hw1 := Lib.hid hw1
  have Hc := Lib.hid hc
  have Hix := Lib.hid (run_ix (P := Try.prog) (t := 57) (a := a) (len := q.2.length) (cap := cap) (b := b) (off := off) (s := 2) Try.underlying57 (by intro w; kernel_rfl) ha)
  obtain ⟨ob, hob⟩ : ∃ ob, ob = w.heap.size := ⟨_, rfl⟩
  rw [← hob] at g0 g1 HQ
  have Hob := Lib.hid hob
  clear hh hb hb1 hw1 hc ha ha2 hc2 hcap hob hrow
  obtain ⟨hd, bd⟩ := q
  simp only at *
  by_cases hn : QrV (hd, bd)
  · have HV1 := Lib.hid (HV.out true (decide_eq_true hn))
    have HA := Lib.hid (show ∀ k, k < bd.length → ∀ t, t ∈ aA bd k → t ≤ 7 from fun k hk t ht => ((hn.2.1 k hk).2.2 t ht).2)
    have HAll := Lib.hid (HAl.out HA.out)
    have h5 : bd.length ≤ 5 := hn.1.2.1
    have Hn := Lib.hid hn
    have hS : vsQ bd < 256 := vsB_lt bd _
    have HSub := Lib.hid (show ∀ k, k < bd.length → ∀ v, (vsA (aA bd k)).testBit v = true → (vsQ bd).testBit v = true from fun k hk v hv => vsB_sub hk hv)
    obtain ⟨S, hSn⟩ : ∃ S, S = vsQ bd := ⟨_, rfl⟩
    rw [← hSn] at HAll hS HSub
    have HSn := Lib.hid hSn
    clear hn HV HAl hSn
    go_enter Try.func57, Try.ntmps57
    go_upto_region 1 with fail
    rw [← Hw1.out, ← Hob.out]
    clear Hw1
    by_cases hz : S = 0
    · subst hz
      go_wp2_with fail
      refine HV1.out.mono ?_
      rintro e w2 ⟨rfl, hb2⟩
      have hrow2 := blk_keep4 HQ.out hb2
      have g0' := aCell4 hrow2 0 rfl
      have g1' := aCell4 hrow2 1 rfl
      have Hb2 := Lib.hid (Below.tr Hb1.out hb2)
      have HA2 := Lib.hid (HAll.out w2 Hb2.out)
      clear hb2 g0 g1 hrow2
      go_wp2_with fail
      refine HA2.out.mono ?_
      rintro e w3 ⟨rfl, hb3⟩
      have Hb3 := Lib.hid (Below.tr Hb2.out hb3)
      have R := Lib.hid (show FqR (hd, bd) w.heap.size w3 (.slice none 0 0) 2 from .inl ⟨rfl, rfl, fun h => h.2 HSn.out.symm⟩)
      clear hb3 g0' g1'
      go_wp2_with fail
      go_ret2
      exact ⟨_, _, rfl, R.out, Hb3.out⟩
    · have hz1 : ((S : Int) == 0) = false := by rw [beq_eq_false_iff_ne]; omega
      have Hnz := Lib.hid hz
      clear hz
      go_wp2_with fail
      refine HV1.out.mono ?_
      rintro e w2 ⟨rfl, hb2⟩
      have hrow2 := blk_keep4 HQ.out hb2
      have g0' := aCell4 hrow2 0 rfl
      have g1' := aCell4 hrow2 1 rfl
      have Hb2 := Lib.hid (Below.tr Hb1.out hb2)
      have HA2 := Lib.hid (HAll.out w2 Hb2.out)
      have HQ2 := Lib.hid hrow2
      clear hb2 g0 g1 hrow2
      go_wp2_with fail
      refine HA2.out.mono ?_
      rintro e w3 ⟨rfl, hb3⟩
      have Hb3 := Lib.hid (Below.tr Hb2.out hb3)
      have HQ3 := Lib.hid (blk_keep4 HQ2.out hb3)
      obtain ⟨w4, hw4⟩ : ∃ w4, w4 = w3.alloc (.cells (atA S 0) 108) := ⟨_, rfl⟩
      have hb4 : Below w3.heap.size w3 w4 := by rw [hw4]; exact below_alloc _ _
      have HQ4 := Lib.hid (blk_keep4 HQ3.out hb4)
      have Hb4 := Lib.hid (Below.tr Hb3.out hb4)
      have Ha4 := Lib.hid (show w4.heap[w3.heap.size]? = some (.cells (atA S 0) 108 (0, 0)) from by rw [hw4]; exact heap_alloc_new w3 _)
      have Hoa := Lib.hid (show ob < w3.heap.size from (Array.getElem?_eq_some_iff.1 HQ3.out).1)
      have Hwa := Lib.hid (show w.heap.size ≤ w3.heap.size from Hb3.out.size)
      rw [atA_zero] at hw4
      have Hw4 := Lib.hid hw4
      clear hb3 g0' g1' hb4 hw4
      go_upto_region 4 with fail
      rw [← Hw4.out]
      clear Hw4
      obtain ⟨ab, hab⟩ : ∃ ab, ab = w3.heap.size := ⟨_, rfl⟩
      rw [← hab] at Ha4 Hoa Hwa ⊢
      have Hab := Lib.hid (show ab < w4.heap.size from (Array.getElem?_eq_some_iff.1 Ha4.out).1)
      clear hab Hb1 Hb2 Hb3 HQ HQ2 HQ3 HV1 HA2
      go_wp2_with fail
      go_loopw [5, 20] (fun vn vi wr => ∃ k : Nat, vn = .int .i64 (vl S k).length ∧ vi = .int .i64 k ∧ k ≤ 8 ∧ Below w.heap.size w wr ∧ wr.heap[ob]? = some (.cells #[.slice a2 hd.length cap2, .slice a bd.length cap] 59 (0, 0)) ∧ wr.heap[ab]? = some (.cells (atA S k) 108 (0, 0))) (fun _ vi _ => 8 - (intOf vi).toNat)
      case atStart => exact ⟨0, rfl, rfl, by omega, Hb4.out, HQ4.out, Ha4.out⟩
      case round =>
        clear Hb4 HQ4 Ha4
        obtain ⟨k, rfl, rfl, hk, hb, hqr, har⟩ := hrel
        have Hb := Lib.hid hb
        have HQr := Lib.hid hqr
        have Har := Lib.hid har
        clear hb hqr har
        by_cases hlt : k < 8
        · have hk8 : (k : Int) < 8 := by omega
          have hk0 : (0 : Int) ≤ (k : Int) := by omega
          have hk64 : (k : Int) < 64 := by omega
          obtain ⟨c0, hc0⟩ := atA_any (S := S) (k := k) hlt
          have hck := aCell4 Har.out k hc0
          have hfz := frozen_of_row wr ab k _ _ Har.out
          have Hset := Lib.hid (atA_set (S := S) hlt)
          have hln := vl_len S k
          obtain ⟨P, hP, p1, p2, p3⟩ := qpow_name k (by omega)
          have HB5 := Lib.hid (show Below w.heap.size w (wr.setCell ⟨ab, k, none⟩ (.int .i64 (vl S k).length)) from Hb.out.setCell Hwa.out _)
          have HQ5 := Lib.hid ((heap_setCell_other wr ⟨ab, k, none⟩ ob (.int .i64 (vl S k).length) (by have := Hoa.out; show ob ≠ ab; omega)).trans HQr.out)
          have HA5 := Lib.hid ((heap_setCell_same wr ab k _ _ (.int .i64 (vl S k).length) Har.out).trans (by rw [Hset.out]))
          have HYes := Lib.hid (fun h : S.testBit k = true => show (vl S (k + 1)).length = (vl S k).length + 1 from by rw [vl_yes h]; simp)
          have HNo := Lib.hid (fun h : S.testBit k = false => show (vl S (k + 1)).length = (vl S k).length from by rw [vl_no h])
          obtain ⟨L, hL⟩ : ∃ L, L = (vl S k).length := ⟨_, rfl⟩
          rw [← hL] at HB5 HQ5 HA5 HYes HNo hln ⊢
          clear hc0 hP hL
          go_upto_region 9 with fail
          obtain ⟨w5, hw5⟩ : ∃ w5, w5 = wr.setCell ⟨ab, k, none⟩ (.int .i64 L) := ⟨_, rfl⟩
          rw [← hw5] at HB5 HQ5 HA5 ⊢
          clear hw5 hck hfz
          have g0 := aCell4 HQ5.out 0 rfl
          have g1 := aCell4 HQ5.out 1 rfl
          have HAk := Lib.hid (HAll.out w5 HB5.out)
          cases B : S.testBit k with
          | true =>
            have t1 := bit_eq S k hS true B P p1
            rw [if_pos rfl] at t1
            have R := Lib.hid (HYes.out B)
            clear B
            go_wp2_with fail
            refine HAk.out.mono ?_
            rintro e w6 ⟨rfl, hb6⟩
            have Hb6 := Lib.hid (Below.tr HB5.out hb6)
            have HQ6 := Lib.hid (blk_keep4 HQ5.out hb6)
            have HA6 := Lib.hid (blk_keep4 HA5.out hb6)
            clear hb6 g0 g1
            go_wp2_with fail
            go_roundw
            case rel => exact ⟨k + 1, by rw [R.out]; go_num, by go_num, by omega, Hb6.out, HQ6.out, HA6.out⟩
            case measure => simp [intOf]; omega
          | false =>
            have t1 := bit_eq S k hS false B P p1
            rw [if_neg (by simp)] at t1
            have R := Lib.hid (HNo.out B)
            clear B
            go_wp2_with fail
            refine HAk.out.mono ?_
            rintro e w6 ⟨rfl, hb6⟩
            have Hb6 := Lib.hid (Below.tr HB5.out hb6)
            have HQ6 := Lib.hid (blk_keep4 HQ5.out hb6)
            have HA6 := Lib.hid (blk_keep4 HA5.out hb6)
            clear hb6 g0 g1
            go_wp2_with fail
            go_roundw
            case rel => exact ⟨k + 1, by rw [R.out], by go_num, by omega, Hb6.out, HQ6.out, HA6.out⟩
            case measure => simp [intOf]; omega
        · obtain rfl : k = 8 := by omega
          have hvl := vl_len S 8
          have g1 := aCell4 HQr.out 1 rfl
          obtain ⟨n, hnn⟩ : ∃ n, n = (vl S 8).length := ⟨_, rfl⟩
          have Hnn := Lib.hid hnn
          rw [← hnn] at hvl ⊢
          clear hnn
          obtain ⟨i0, hi, hz⟩ : ∃ i0, Try.prog.info? 3 = some i0 ∧ (i0.zero, i0.size, i0.bytes) = (some (.int .i64 0), 1, 8) := by
            have := infoInt
            cases h : Try.prog.info? 3 with
            | none => rw [h] at this; cases this
            | some i0 => rw [h] at this; exact ⟨i0, rfl, by simpa using this⟩
          simp only [Prod.mk.injEq] at hz
          have Hi := Lib.hid hi
          have Hz0 := Lib.hid hz.1
          have Hz1 := Lib.hid hz.2.1
          have Hby := Lib.hid (show i0.bytes * n ≤ 281474976710656 by rw [hz.2.2]; omega)
          clear hi hz
          go_wp2_with (refine wpList_make_full _ rfl (.tmp 34) (.tmp 34) 23 rfl wr.heap.size 3 i0 (.int .i64 0) 1 Try.underlying23 Hi.out Hz0.out Hz1.out .i64 .i64 _ _ n rfl rfl rfl rfl Hby.out (by unfold maxLen; omega) (Nat.le_refl _) ?_; intro w6 hown hgr; have hb6 : Below wr.heap.size wr w6 := (⟨hgr.os, hgr.tape, hgr.output, hgr.size, fun k hk => hgr.block k hk (by simp)⟩); have g1' := Below.keep hb6 g1)
          have HR := Lib.hid (nRow_made hown)
          have Hb6 := Lib.hid (Below.tr Hb.out hb6)
          have Ha6 := Lib.hid (blk_keep4 Har.out hb6)
          have HP := Lib.hid (show Pt (qs bd) (vl S 8) 0 (fun _ _ => False) (List.replicate n 0) from by
            rw [Hnn.out]; exact Pt.start (qs bd) (vl S 8) (D := fun _ _ => False) (fun _ _ h => h))
          have Hag := Lib.hid (show ab < wr.heap.size from (Array.getElem?_eq_some_iff.1 Har.out).1)
          have Hwg := Lib.hid (show w.heap.size ≤ wr.heap.size from Hb.out.size)
          have Hixg := Lib.hid (run_ix (P := Try.prog) (t := 23) (a := some ⟨wr.heap.size, 0, none⟩) (len := n) (cap := n) (b := wr.heap.size) (off := 0) (s := 1) Try.underlying23 (by intro w; kernel_rfl) (fun _ => rfl))
          simp only [Nat.mul_one, Nat.zero_add] at Hixg
          clear hown hgr g1
          have g1 := g1'
          clear g1'
          go_wp2_with fail
          clear g1 hb6
          obtain ⟨g, hg⟩ : ∃ g, g = wr.heap.size := ⟨_, rfl⟩
          rw [← hg] at HR Hag Hwg Hixg ⊢
          clear hg Hb HQr Har Hi Hz0 Hz1 Hby
          go_loopw [39] (fun vk wx => ∃ (k : Nat) (G : List Nat), vk = .int .i64 k ∧ k ≤ bd.length ∧ Below w.heap.size w wx ∧ wx.heap[ab]? = some (.cells (atA S 8) 108 (0, 0)) ∧ NRow wx g n G ∧ Pt (qs bd) (vl S 8) k (fun _ _ => False) G) (fun vk _ => bd.length - (intOf vk).toNat)
          case atStart => exact ⟨0, _, rfl, Nat.zero_le _, Hb6.out, Ha6.out, HR.out, HP.out⟩
          case round =>
            clear Hb6 Ha6 HR HP
            obtain ⟨k, G, rfl, hk, hb, har, hrw, hp⟩ := hrel
            have Hb := Lib.hid hb
            have Har := Lib.hid har
            have HR := Lib.hid hrw
            have HP := Lib.hid hp
            clear hb har hrw hp
            by_cases hlt : k < bd.length
            · have hc1 := Below.keep Hb.out (Hc.out k hlt).1
              have hc2 := Below.keep Hb.out (Hc.out k hlt).2.1
              have hi := (Hc.out k hlt).2.2
              have hixk := Hix.out k
              obtain ⟨ua, uc, hu⟩ := ints_slice hi
              rw [hu] at hc2 hi
              clear hu
              have HVr := Lib.hid (fun wx (hw : Below w.heap.size w wx) => varsR_any (aR bd k) (aA bd k) (HA.out k hlt) (.slice ua (aA bd k).length uc) wx (hi.keep hw))
              have HYes := Lib.hid (fun v x G hv hx h hne b1 b2 => pt_yes (v := v) (x := x) (G := G) hlt hv hx (HSub.out k hlt) h hne b1 b2)
              have HNo := Lib.hid (fun v x G h hno => pt_no (S := S) (v := v) (x := x) (G := G) hlt h hno)
              have HSk := Lib.hid (HSub.out k hlt)
              have hV := vsA_lt (aA bd k)
              have hml := hi.2.1
              have hcp := Ints.cap hi
              obtain ⟨rr, hr⟩ : ∃ t, t = aR bd k := ⟨_, rfl⟩
              obtain ⟨A, hA⟩ : ∃ t, t = aA bd k := ⟨_, rfl⟩
              rw [← hr] at hc1 HVr
              rw [← hA] at hc2 HVr HYes HNo HSk hV hml hcp
              obtain ⟨V, hVn⟩ : ∃ V, V = vsA A := ⟨_, rfl⟩
              rw [← hVn] at HVr HYes HNo HSk hV
              obtain ⟨w7, hw7⟩ : ∃ w7, w7 = wr.alloc (.cells #[.int .i64 rr, .slice ua A.length uc] 75) := ⟨_, rfl⟩
              have hb7 : Below wr.heap.size wr w7 := by rw [hw7]; exact below_alloc _ _
              have HF := Lib.hid (show Fsr w w7 ab wr.heap.size g n S rr (.slice ua A.length uc) G from ⟨Below.tr Hb.out hb7, blk_keep4 Har.out hb7, by rw [hw7]; exact heap_alloc_new wr _, owns_keep HR.out hb7⟩)
              have HP0 := Lib.hid (pt_begin0 HP.out)
              obtain ⟨tb, htb⟩ : ∃ tb, tb = wr.heap.size := ⟨_, rfl⟩
              rw [← htb] at HF
              have htb' := htb.symm
              have Htg := Lib.hid (show tb ≠ g from by have := HR.out.lt; omega)
              have Htb := Lib.hid htb'
              have Hw7 := Lib.hid hw7
              clear hr hA hVn hi hb7 hw7 Hb Har HR HP htb htb'
              go_upto_region 15 with fail
              rw [← Hw7.out, Htb.out]
              clear Hw7 hc1 hc2 hixk
              go_wp2_with fail
              go_loopw [43] (fun vv wx => ∃ (v : Nat) (G : List Nat), vv = .int .i64 v ∧ v ≤ 8 ∧ Fsr w wx ab tb g n S rr (.slice ua A.length uc) G ∧ Pt (qs bd) (vl S 8) k (fun r _ => nb (vl S 8) r < v) G) (fun vv _ => 8 - (intOf vv).toNat)
              case atStart => exact ⟨0, G, rfl, by omega, HF.out, HP0.out⟩
              case round =>
                clear HF HP0 G
                obtain ⟨v, G, rfl, hv, hf, hp⟩ := hrel
                have HF := Lib.hid hf
                have HP := Lib.hid hp
                clear hf hp
                by_cases hlv : v < 8
                · have hv8 : (v : Int) < 8 := by omega
                  have HP0 := Lib.hid (pt_begin HP.out)
                  clear HP
                  go_wp2_with fail
                  go_loopw [46] (fun vx wx => ∃ (x : Nat) (G : List Nat), vx = .int .i64 x ∧ x ≤ 8 ∧ Fsr w wx ab tb g n S rr (.slice ua A.length uc) G ∧ Pt (qs bd) (vl S 8) k (fun r m => nb (vl S 8) r < v ∨ nb (vl S 8) r = v ∧ nb (vl S 8) m < x) G) (fun vx _ => 8 - (intOf vx).toNat)
                  case atStart => exact ⟨0, G, rfl, by omega, HF.out, HP0.out⟩
                  case round =>
                    clear HF HP0 G
                    obtain ⟨x, G, rfl, hx, hf, hp⟩ := hrel
                    have HF := Lib.hid hf
                    have HP := Lib.hid hp
                    clear hf hp
                    by_cases hlx : x < 8
                    · have hx8 : (x : Int) < 8 := by omega
                      have Hno := Lib.hid (HNo.out v x G HP.out)
                      by_cases e1 : v = x
                      · have q1 : ((v : Int) != (x : Int)) = false := by rw [bne_eq_false_iff_eq]; omega
                        have R := Lib.hid (Hno.out fun h => h.1 e1)
                        clear e1 Hno
                        go_wp2_with fail
                        go_roundw
                        case rel => exact ⟨x + 1, G, by go_num, by omega, HF.out, R.out⟩
                        case measure => simp [intOf]; omega
                      · have q1 : ((v : Int) != (x : Int)) = true := by rw [bne_iff_ne]; omega
                        have g0 := aCell4 HF.out.ht 0 rfl
                        have g1 := aCell4 HF.out.ht 1 rfl
                        have H1 := Lib.hid (HVr.out wr HF.out.b)
                        obtain ⟨P, hP, p1, p2, p3⟩ := qpow_name v (by omega)
                        obtain ⟨P', hP', p1', p2', p3'⟩ := qpow_name x (by omega)
                        clear hP hP'
                        have hv0 : (0 : Int) ≤ (v : Int) := by omega
                        have hv64 : (v : Int) < 64 := by omega
                        have hx0 : (0 : Int) ≤ (x : Int) := by omega
                        have hx64 : (x : Int) < 64 := by omega
                        cases B1 : V.testBit v with
                        | false =>
                          have t1 := bit_eq V v hV false B1 P p1
                          rw [if_neg (by simp)] at t1
                          have R := Lib.hid (Hno.out fun h => by have := h.2.1; rw [B1] at this; cases this)
                          clear B1 Hno
                          go_wp2_with fail
                          refine H1.out.mono ?_
                          rintro e w5 ⟨rfl, hb5⟩
                          have HF5 := Lib.hid (HF.out.keep hb5)
                          clear hb5 g0 g1
                          go_wp2_with fail
                          go_roundw
                          case rel => exact ⟨x + 1, G, by go_num, by omega, HF5.out, R.out⟩
                          case measure => simp [intOf]; omega
                        | true =>
                          have t1 := bit_eq V v hV true B1 P p1
                          rw [if_pos rfl] at t1
                          cases B2 : V.testBit x with
                          | false =>
                            have t2 := bit_eq V x hV false B2 P' p1'
                            rw [if_neg (by simp)] at t2
                            have R := Lib.hid (Hno.out fun h => by have := h.2.2; rw [B2] at this; cases this)
                            clear B1 B2 Hno
                            go_wp2_with fail
                            refine H1.out.mono ?_
                            rintro e w5 ⟨rfl, hb5⟩
                            have HF5 := Lib.hid (HF.out.keep hb5)
                            have g0' := aCell4 HF5.out.ht 0 rfl
                            have g1' := aCell4 HF5.out.ht 1 rfl
                            have H2 := Lib.hid (HVr.out w5 HF5.out.b)
                            clear hb5 g0 g1
                            go_wp2_with fail
                            refine H2.out.mono ?_
                            rintro e w6 ⟨rfl, hb6⟩
                            have HF6 := Lib.hid (HF5.out.keep hb6)
                            clear hb6 g0' g1'
                            go_wp2_with fail
                            go_roundw
                            case rel => exact ⟨x + 1, G, by go_num, by omega, HF6.out, R.out⟩
                            case measure => simp [intOf]; omega
                          | true =>
                            have t2 := bit_eq V x hV true B2 P' p1'
                            rw [if_pos rfl] at t2
                            have R := Lib.hid (HYes.out v x G hlv hlx HP.out e1 B1 B2)
                            have hav := (vl_get (k := 8) hlv (HSk.out v B1)).1
                            have hax := (vl_get (k := 8) hlx (HSk.out x B2)).1
                            rw [← Hnn.out] at hav hax
                            have hgl := HP.out.len.trans Hnn.out.symm
                            have hgz := HP.out.lt (vl_len S 8) (vl S v).length
                            have ha1 := atA_at (S := S) hlv hlv
                            have ha2 := atA_at (S := S) hlx hlx
                            obtain ⟨av, hav'⟩ : ∃ t, t = (vl S v).length := ⟨_, rfl⟩
                            obtain ⟨ax, hax'⟩ : ∃ t, t = (vl S x).length := ⟨_, rfl⟩
                            rw [← hav'] at R hav hgz ha1
                            rw [← hax'] at R hax ha2
                            obtain ⟨z, hzn⟩ : ∃ z, z = nb G av := ⟨_, rfl⟩
                            rw [← hzn] at R hgz
                            have hp2 : 2 ^ ax < 256 := Nat.lt_of_lt_of_eq (Nat.pow_lt_pow_right (a := 2) (by decide) (show ax < 8 by omega)) (by decide)
                            have hsh := one_shl ax
                            have hor := bits_or_nat z (2 ^ ax) (by omega) (by omega)
                            obtain ⟨p, hpn⟩ : ∃ p, p = 2 ^ ax := ⟨_, rfl⟩
                            rw [← hpn] at R hsh hp2 hor
                            have hw := wrap_nat p (by omega)
                            have hax0 : (0 : Int) ≤ (ax : Int) := by omega
                            have hax64 : (ax : Int) < 64 := by omega
                            have Hav := Lib.hid hav
                            have Hzn := Lib.hid hzn
                            have Hgl := Lib.hid hgl
                            have Ha1 := Lib.hid ha1
                            have Ha2 := Lib.hid ha2
                            clear hpn hzn hgl B1 B2 Hno hav' hax' ha1 ha2
                            go_wp2_with fail
                            refine H1.out.mono ?_
                            rintro e w5 ⟨rfl, hb5⟩
                            have HF5 := Lib.hid (HF.out.keep hb5)
                            have g0' := aCell4 HF5.out.ht 0 rfl
                            have g1' := aCell4 HF5.out.ht 1 rfl
                            have H2 := Lib.hid (HVr.out w5 HF5.out.b)
                            clear hb5 g0 g1
                            go_wp2_with fail
                            refine H2.out.mono ?_
                            rintro e w6 ⟨rfl, hb6⟩
                            have HF6 := Lib.hid (HF5.out.keep hb6)
                            clear hb6 g0' g1'
                            have HFn := Lib.hid (HF6.out.put (by have := Hag.out; omega) Htg.out Hwg.out av (z ||| p))
                            have hca := aCell4 HF6.out.ha v Ha1.out
                            have hcx := aCell4 HF6.out.ha x Ha2.out
                            have hcz := HF6.out.row.at Hgl.out hav
                            rw [← Hzn.out] at hcz
                            have hfz := World.ownsRow.frozenAt HF6.out.row av
                            have hixg := Hixg.out av
                            clear t1 HF HF5 HF6 H1 H2 HP
                            go_wp2_with fail
                            go_region
                            all_goals
                              go_wp2_with fail
                              go_roundw
                              case rel => exact ⟨x + 1, _, by go_num, by omega, HFn.out, R.out⟩
                              case measure => simp [intOf]; omega
                    · obtain rfl : x = 8 := by omega
                      have R := Lib.hid (pt_row HP.out)
                      go_wp2_with fail
                      go_roundw
                      case rel => exact ⟨v + 1, G, by go_num, by omega, HF.out, R.out⟩
                      case measure => simp [intOf]; omega
                · obtain rfl : v = 8 := by omega
                  have R := Lib.hid (pt_atom HP.out)
                  go_wp2_with fail
                  go_roundw
                  case rel => exact ⟨k + 1, G, by go_num, by omega, HF.out.b, HF.out.ha, HF.out.row, R.out⟩
                  case measure => simp [intOf]; omega
            · obtain rfl : k = bd.length := by omega
              have R := Lib.hid (show FqR (hd, bd) w.heap.size wr (.slice (some ⟨g, 0, none⟩) n n) 0 from .inr ⟨rfl, ⟨Hn.out, fun h => Hnz.out (HSn.out.trans h)⟩, G, HR.out.own (HP.out.len.trans Hnn.out.symm) Hwg.out, by
                have := HP.out
                rw [HSn.out] at this
                rw [qs_len]; exact this⟩)
              go_wp2_with fail
              go_ret2
              exact ⟨_, _, rfl, R.out, Hb.out⟩
  · have HV1 := Lib.hid (HV.out false (decide_eq_false hn))
    have Hn := Lib.hid hn
    clear hn HV HAl
    go_enter Try.func57, Try.ntmps57
    go_upto_region 1 with fail
    rw [← Hw1.out, ← Hob.out]
    clear Hw1
    go_wp2_with fail
    refine HV1.out.mono ?_
    rintro e w2 ⟨rfl, hb2⟩
    have Hb2 := Lib.hid (Below.tr Hb1.out hb2)
    have R := Lib.hid (show FqR (hd, bd) w.heap.size w2 (.slice none 0 0) 2 from .inl ⟨rfl, rfl, fun h => Hn.out h.1⟩)
    clear hb2
    go_wp2_with fail
    go_ret2
    exact ⟨_, _, rfl, R.out, Hb2.out⟩
#print axioms fromQR_any
end Go.Proofs.Ytkjpbjbheocciaa
