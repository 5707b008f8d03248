/- Contract of the laws' part. -/
import Derived.Test.YtfplmdieeabgpaaCoa
import Derived.Test.YtfplmdieeabgpaaExv
import Derived.Test.YtfplmdieeabgpaaLbx
namespace Go.Proofs.Ytfplmdieeabgpaa
open Go.RowKit
/-- what the walk of part keeps -/
structure Pa (qt at' : TypeId) (B bo : Nat) (w w4 wr : World) (h0 b0 hx bv : Value) (body : List HAt) : Prop where
  z : B = w.heap.size
  zo : bo = w4.heap.size
  z2 : B + 2 ≤ bo
  b4 : Below w.heap.size w w4
  c : Below w4.heap.size w4 wr
  q4 : w4.heap[B]? = some (.cells #[h0, b0] qt (0, 0))
  r4 : w4.heap[B + 1]? = some (.cells #[.slice none 0 0, .slice none 0 0] qt (0, 0))
  p : wr.heap[bo]? = some (.cells #[hx, bv] qt (0, 0))
  s : SubA at' w (bo + 1) wr bv body
theorem Pa.b {qt at' : TypeId} {B bo : Nat} {w w4 wr : World} {h0 b0 hx bv : Value} {body : List HAt} (h : Pa qt at' B bo w w4 wr h0 b0 hx bv body) : Below w.heap.size w wr := Below.tr h.b4 h.c
theorem Pa.q {qt at' : TypeId} {B bo : Nat} {w w4 wr : World} {h0 b0 hx bv : Value} {body : List HAt} (h : Pa qt at' B bo w w4 wr h0 b0 hx bv body) : wr.heap[B]? = some (.cells #[h0, b0] qt (0, 0)) := blk_keep2 h.q4 h.c
theorem Pa.r {qt at' : TypeId} {B bo : Nat} {w w4 wr : World} {h0 b0 hx bv : Value} {body : List HAt} (h : Pa qt at' B bo w w4 wr h0 b0 hx bv body) : wr.heap[B + 1]? = some (.cells #[.slice none 0 0, .slice none 0 0] qt (0, 0)) := blk_keep2 h.r4 h.c
theorem Pa.keep {qt at' : TypeId} {B bo : Nat} {w w4 wr w' : World} {h0 b0 hx bv : Value} {body : List HAt} (h : Pa qt at' B bo w w4 wr h0 b0 hx bv body) (hb : Below wr.heap.size wr w') : Pa qt at' B bo w w4 w' h0 b0 hx bv body :=
  ⟨h.z, h.zo, h.z2, h.b4, Below.tr h.c hb, h.q4, h.r4, blk_keep2 h.p hb, h.s.keep hb⟩
theorem Pa.put {qt at' : TypeId} {B bo : Nat} {w w4 wr w' : World} {h0 b0 hx bv bv' : Value} {body body' : List HAt} (h : Pa qt at' B bo w w4 wr h0 b0 hx bv body) (hb : Below (bo + 1) wr w') (k : SubA at' w (bo + 1) w' bv' body') : Pa qt at' B bo w w4 (w'.setCell ⟨bo, 1, none⟩ bv') h0 b0 hx bv' body' := by
  have hz := h.zo
  have hp' := (hb.block _ (by omega)).trans h.p
  refine ⟨h.z, hz, h.z2, h.b4, (h.c.trans (hb.mono (by omega))).setCell (by simp; omega) _, h.q4, h.r4, ?_, k.cell (by omega) _⟩
  rw [heap_setCell_same w' _ 1 _ _ bv' hp']; rfl
/-- a row of numbers lies in no box of a query -/
theorem ints_cell2 {w : World} {v x y : Value} {l : List Int} {g : Nat} {t : TypeId} {fr : Nat × Nat} (h : Ints w v l) (hb : w.heap[g]? = some (.cells #[.slice none 0 0, .slice none 0 0] t fr)) : Ints ((w.setCell ⟨g, 0, none⟩ x).setCell ⟨g, 1, none⟩ y) v l := by
  obtain ⟨h1, h2, a, b, off, cap, h3, h4, h5⟩ := h
  refine ⟨h1, h2, a, b, off, cap, h3, h4, fun j hj => ?_⟩
  have hc := h5 j hj
  have hne : b ≠ g := fun e => by
    subst e
    rw [cell_of_row w _ (off + j) _ _ _ hb] at hc
    have hl : (List.map (Value.int .i64) l)[j] = Value.int .i64 (l[j]'(by simpa using hj)) := by simp
    rw [hl] at hc
    match hk : off + j with
    | 0 => rw [hk] at hc; simp at hc
    | 1 => rw [hk] at hc; simp at hc
    | k + 2 => rw [hk] at hc; simp at hc
  rw [← hc]
  unfold World.cell?
  rw [heap_setCell_other _ ⟨g, 1, none⟩ b _ hne, heap_setCell_other _ ⟨g, 0, none⟩ b _ hne]
set_option maxRecDepth 100000 in
set_option maxHeartbeats 16000000 in
theorem partL_any {q : HQ} (h5 : q.2.length ≤ 1000) (hh9 : q.1.length ≤ 1000) (L : List Nat) (hL : ∀ i, i ∈ L → i < q.2.length) (hl : L.length ≤ 1000) (v u : Value) (w : World) (hq : Qr w v q) (hu : Ints w u (cz L)) :
    Calls Try.prog 52 #[v, u] w fun e w' => ∃ pa pn pk qa qn qk, e = .returned (.tuple #[.agg #[.slice pa pn pk, .slice qa qn qk], .bool true]) ∧ Qr w' (.agg #[.slice pa pn pk, .slice qa qn qk]) (q.1, partA q.2 L) ∧ Below w.heap.size w w' := by
  obtain ⟨hd, bd⟩ := q
  obtain ⟨h0, b0, rfl, hh, hb⟩ := hq
  obtain ⟨a, b, off, cap, vs, rfl, hle, hia, _, hcl⟩ := Atoms.get hb
  obtain ⟨n, hn2⟩ : ∃ x, x = bd.length := ⟨_, rfl⟩
  have Hh := Lib.hid hh
  obtain ⟨ha, hc, rfl⟩ := ints_slice hh
  have Hn := Lib.hid hn2
  obtain ⟨xa, xb, xoff, xc, rfl, xle, xia, xcl⟩ := Ints.get hu
  simp only at hb hia hcl hle h5 hh hh9 hL ⊢
  rw [cz_len] at xia xle ⊢
  obtain ⟨m, hm⟩ : ∃ x, x = L.length := ⟨_, rfl⟩
  have Hm := Lib.hid hm
  rw [← hn2] at hia hcl hle h5 hL ⊢
  have Hxc := Lib.hid (show ∀ i, i < m → w.cell? ⟨xb, xoff + i, none⟩ = some (.int .i64 (L.getD i 0 : Nat)) from fun i hi => by
    rw [xcl i (by rw [cz_len]; omega), ← cz_get, List.getD_eq_getElem?_getD, List.getElem?_eq_getElem (by rw [cz_len]; omega)]; rfl)
  rw [← hm] at xia xle hl ⊢
  have HLm := Lib.hid (show ∀ i, i < m → L.getD i 0 < n from fun i hi => hL _ (by rw [List.getD_eq_getElem?_getD, List.getElem?_eq_getElem (by omega : i < L.length)]; exact List.getElem_mem _))
  have HTk := Lib.hid (show ∀ i, i < m → L.take (i + 1) = L.take i ++ [L.getD i 0] from fun i hi => by rw [List.take_succ_eq_append_getElem (by omega : i < L.length), List.getD_eq_getElem?_getD, List.getElem?_eq_getElem (by omega : i < L.length)]; rfl)
  obtain ⟨hn, hhn⟩ : ∃ x, x = hd.length := ⟨_, rfl⟩
  simp only at Hh
  rw [← hhn] at Hh hh9 ⊢
  have Hhn := Lib.hid hhn
  have Hix := Lib.hid (run_ix (P := Try.prog) (t := 31) (a := a) (len := n) (cap := cap) (b := b) (off := off) (s := 2) Try.underlying31 (by intro w; kernel_rfl) hia)
  have Hixx := Lib.hid (run_ix (P := Try.prog) (t := 22) (a := xa) (len := m) (cap := xc) (b := xb) (off := xoff) (s := 1) Try.underlying22 (by intro w; kernel_rfl) xia)
  simp only [Nat.mul_one] at Hixx
  have Hc := Lib.hid hcl
  obtain ⟨w1, hw1⟩ : ∃ x, x = w.alloc (.cells #[.slice ha hn hc, .slice a n cap] 33) := ⟨_, rfl⟩
  obtain ⟨w2, hw2⟩ : ∃ x, x = w1.alloc (.cells #[.slice none 0 0, .slice none 0 0] 33) := ⟨_, rfl⟩
  have k1 : Below w.heap.size w w1 := by rw [hw1]; exact below_alloc _ _
  have k2 : Below w1.heap.size w1 w2 := by rw [hw2]; exact below_alloc _ _
  obtain ⟨B, hB⟩ : ∃ x, x = w.heap.size := ⟨_, rfl⟩
  have z1 : w1.heap.size = B + 1 := by rw [hB, hw1]; simp
  have z2 : w2.heap.size = B + 2 := by rw [show B + 2 = w1.heap.size + 1 by omega, hw2]; simp
  have g1 : w1.heap[B]? = some (.cells #[.slice ha hn hc, .slice a n cap] 33 (0, 0)) := by rw [hB, hw1]; exact heap_alloc_new _ _
  have g2 : w2.heap[B + 1]? = some (.cells #[.slice none 0 0, .slice none 0 0] 33 (0, 0)) := by rw [← z1, hw2]; exact heap_alloc_new _ _
  have HG := Lib.hid (And.intro (blk_keep2 g1 k2) g2)
  have Hz2 := Lib.hid z2
  have HW2 := Lib.hid (Below.tr k1 k2)
  have Hw1 := Lib.hid hw1
  have Hw2 := Lib.hid hw2
  have HBe := Lib.hid hB
  clear hw1 hw2 hB k1 k2 z1 z2 g1 g2 hh hb hia hcl hn2 hhn hu xia xcl hm hL
  go_enter Try.func52, Try.ntmps52
  go_upto_region 1 with fail
  rw [← Hw1.out, ← Hw2.out, ← HBe.out]
  clear Hw1 Hw2
  have g0 := aCell HG.out.1 0 rfl
  go_wp2_with fail
  refine (cloneI_any hd _ w2 (by rw [← Hhn.out]; omega) (Hh.out.keep HW2.out)).mono ?_
  rintro e w4 ⟨v4, rfl, ho, hb⟩
  obtain ⟨ca, cn, ck, rfl⟩ := own_slice ho
  have HHx := Lib.hid ho.ints
  have HW4 := Lib.hid (Below.tr HW2.out hb)
  have HG4 := Lib.hid (And.intro (blk_keep2 HG.out.1 hb) (blk_keep2 HG.out.2 hb))
  have Hz4 := Lib.hid (show B + 2 ≤ w4.heap.size from by rw [← Hz2.out]; exact hb.size)
  clear ho hb g0
  obtain ⟨w5, hw5⟩ : ∃ x, x = w4.alloc (.cells #[.slice ca cn ck, .slice none 0 0] 33) := ⟨_, rfl⟩
  have k5 : Below w4.heap.size w4 w5 := by rw [hw5]; exact below_alloc _ _
  obtain ⟨bo, hbo⟩ : ∃ x, x = w4.heap.size := ⟨_, rfl⟩
  have HI := Lib.hid (show Pa 33 88 B bo w w4 w5 (.slice ha hn hc) (.slice a n cap) (.slice ca cn ck) (.slice none 0 0) [] from ⟨HBe.out, hbo, by rw [hbo]; exact Hz4.out, HW4.out, k5, HG4.out.1, HG4.out.2, by rw [hbo, hw5]; exact heap_alloc_new _ _, subA_nil _ _ _ _⟩)
  have Hw5 := Lib.hid hw5
  have Hbo := Lib.hid hbo
  clear hw5 k5 hbo
  go_upto_region 2 with fail
  rw [← Hw5.out, ← Hbo.out]
  clear Hw5
  go_wp2_with fail
  go_loopw [15] (fun vi wr => ∃ (k : Nat) (ba : Option Addr) (bn bk : Nat), vi = .int .i64 k ∧ k ≤ m ∧ Pa 33 88 B bo w w4 wr (.slice ha hn hc) (.slice a n cap) (.slice ca cn ck) (.slice ba bn bk) (partA bd (L.take k))) (fun vi _ => m - (intOf vi).toNat)
  case atStart => exact ⟨0, none, 0, 0, rfl, Nat.zero_le _, HI.out⟩
  case round =>
    generalize wr = wx at *
    clear HI
    obtain ⟨k, ba, bn, bk, rfl, hk, hi⟩ := hrel
    have HI := Lib.hid hi
    clear hi
    by_cases hlt : k < m
    · have hcx := Below.keep HI.out.b (Hxc.out k hlt)
      have hixx := Hixx.out k
      have hin := HLm.out k hlt
      have HTk := Lib.hid (HTk.out k hlt)
      obtain ⟨i, hie⟩ : ∃ i, i = L.getD k 0 := ⟨_, rfl⟩
      rw [← hie] at hcx hin HTk
      clear hie
      have hc1 := Below.keep HI.out.b (Hc.out i hin).1
      have hc2 := Below.keep HI.out.b (Hc.out i hin).2.1
      have Hi := Lib.hid (Hc.out i hin).2.2
      have Hixi := Lib.hid (Hix.out i)
      have HPa := Lib.hid (partA_snoc bd (L.take k) i)
      obtain ⟨ua, uc, hua⟩ := ints_slice Hi.out
      rw [hua] at hc2 Hi
      obtain ⟨r, hr⟩ : ∃ t, t = aR bd i := ⟨_, rfl⟩
      obtain ⟨A, hA⟩ : ∃ t, t = aA bd i := ⟨_, rfl⟩
      have HC1e := Lib.hid (show Value.int .i64 (aR bd i) = .int .i64 r from by rw [hr])
      have HC2e := Lib.hid (show vs.getD i (.bool false) = .slice ua A.length uc from by rw [hA]; exact hua)
      rw [← hr] at hc1 HPa
      rw [← hA] at hc2 Hi HPa
      clear hr hA hua
      obtain ⟨un, hun⟩ : ∃ x, x = A.length := ⟨_, rfl⟩
      rw [← hun] at hc2 Hi HC2e
      have g1 := aCell HI.out.q 1 rfl
      have i0 : ¬ (i : Int) < 0 := by omega
      have i1 : ¬ (i : Int) ≥ (n : Int) := by omega
      have HC12 := Lib.hid (And.intro hc1 hc2)
      clear hun hc1 hc2
      go_upto_region 7 with fail
      clear g1 hcx hixx i0 i1
      try simp only [Act.put]
      have HS0 := Lib.hid (show wx.drew.heap[B]? = some (.cells #[.slice ha hn hc, .slice a n cap] 33 (0, 0)) ∧ wx.drew.cell? ⟨b, off + i * 2, none⟩ = some (.int .i64 r) ∧ wx.drew.cell? ⟨b, off + i * 2 + 1, none⟩ = some (.slice ua un uc) from ⟨HI.out.q, HC12.out.1, HC12.out.2⟩)
      have HP0 := Lib.hid (HI.out.keep (Below.refl _ _).drew)
      refine wp_region_held (S := fun w' => w'.heap[B]? = some (.cells #[.slice ha hn hc, .slice a n cap] 33 (0, 0)) ∧ w'.cell? ⟨b, off + i * 2, none⟩ = some (.int .i64 r) ∧ w'.cell? ⟨b, off + i * 2 + 1, none⟩ = some (.slice ua un uc)) wideK ?_
      change wpAnyH _ _ _ _ _ _ _ _ (World.drew _)
      generalize wx.drew = wd0 at *
      refine wpAnyH_take (i := 0) (v := ?_) rfl (by kernel_rfl) (by kernel_rfl) (by kernel_rfl) (fun _ _ _ h => h) (Or.inl ⟨by rfl, ?_⟩) HS0.out ?_
      rotate_left
      focus (intro w hS; clear hS; first | (go_simp; done) | (go_simp; with_reducible rfl))
      simp only [Act.put, List.getElem_toArray, List.getElem_cons_zero, List.setIfInBounds_toArray, List.set_cons_zero, List.set_cons_succ]
      refine wpAnyH_take (i := 2) (v := ?_) rfl (by kernel_rfl) (by kernel_rfl) (by kernel_rfl) (fun _ _ _ h => h) (Or.inl ⟨by rfl, ?_⟩) HS0.out ?_
      rotate_left
      focus (intro w hS; clear hS; first | (go_simp; done) | (go_simp; with_reducible rfl))
      simp only [Act.put, List.getElem_toArray, List.getElem_cons_zero, List.getElem_cons_succ, List.setIfInBounds_toArray, List.set_cons_zero, List.set_cons_succ]
      refine wpAnyH_take (i := 3) (v := ?_) rfl (by kernel_rfl) (by kernel_rfl) (by kernel_rfl) (fun _ _ _ h => h) (Or.inl ⟨by rfl, ?_⟩) HS0.out ?_
      rotate_left
      focus (intro w hS; have s0 := aCell hS.1 1 rfl; clear hS; first | (go_simp; done) | (go_simp; with_reducible rfl))
      simp only [Act.put, List.getElem_toArray, List.getElem_cons_zero, List.getElem_cons_succ, List.setIfInBounds_toArray, List.set_cons_zero, List.set_cons_succ]
      refine wpAnyH_take (i := 4) (v := ?_) rfl (by kernel_rfl) (by kernel_rfl) (by kernel_rfl) (fun _ _ _ h => h) (Or.inl ⟨by rfl, ?_⟩) HS0.out ?_
      rotate_left
      focus (intro w hS; clear hS; first | (go_simp; done) | (go_simp; with_reducible rfl))
      simp only [Act.put, List.getElem_toArray, List.getElem_cons_zero, List.getElem_cons_succ, List.setIfInBounds_toArray, List.set_cons_zero, List.set_cons_succ]
      refine wpAnyH_take (i := 5) (v := ?_) rfl (by kernel_rfl) (by kernel_rfl) (by kernel_rfl) (fun _ _ _ h => h) (Or.inl ⟨by rfl, ?_⟩) HS0.out ?_
      rotate_left
      focus (intro w hS; have s0 := Hixi.out; clear hS; first | (go_simp; done) | (go_simp; with_reducible rfl))
      simp only [Act.put, List.getElem_toArray, List.getElem_cons_zero, List.getElem_cons_succ, List.setIfInBounds_toArray, List.set_cons_zero, List.set_cons_succ]
      refine wpAnyH_take (i := 6) (v := ?_) rfl (by kernel_rfl) (by kernel_rfl) (by kernel_rfl) (fun _ _ _ h => h) (Or.inl ⟨by rfl, ?_⟩) HS0.out ?_
      rotate_left
      focus (intro w hS; have s0 := hS.2.1; have s1 := hS.2.2; clear hS; first | (go_simp; done) | (go_simp; with_reducible rfl))
      simp only [Act.put, List.getElem_toArray, List.getElem_cons_zero, List.getElem_cons_succ, List.setIfInBounds_toArray, List.set_cons_zero, List.set_cons_succ]
      refine wpAnyH_ready (rs := [1, 7]) (by kernel_rfl) (by simp) ?_
      refine RdyH.cons rfl (fun K2 hK => ?_) ?_
      · have c1 := aCell HP0.out.p 1 rfl
        go_simp
        refine hK _ _ HS0.out ?_
        clear hK K2 c1
        refine wpAnyH_ready (rs := [7]) (by kernel_rfl) (by simp) ?_
        refine RdyH.cons rfl (fun K2 hK => ?_) RdyH.nil
        obtain ⟨wd1, hwd1⟩ : ∃ y, y = wd0.alloc (.cells #[.int .i64 r, .slice ua un uc] 88) := ⟨_, rfl⟩
        have hb : Below wd0.heap.size wd0 wd1 := by rw [hwd1]; exact below_alloc _ _
        obtain ⟨bl, hbl⟩ : ∃ y, y = wd0.heap.size := ⟨_, rfl⟩
        have HL := Lib.hid (show wd1.heap[bl]? = some (.cells #[.int .i64 r, .slice ua un uc] 88 (0, 0)) from by rw [hwd1, hbl]; exact heap_alloc_new _ _)
        have HS1 := Lib.hid (And.intro (blk_keep2 HS0.out.1 hb) (And.intro (Below.keep hb HS0.out.2.1) (Below.keep hb HS0.out.2.2)))
        have HP1 := Lib.hid (HP0.out.keep hb)
        have Hwd1 := Lib.hid hwd1
        have Hbl := Lib.hid hbl
        clear hb hwd1 hbl
        go_simp
        rw [← Hwd1.out, ← Hbl.out]
        refine hK _ _ HS1.out ?_
        clear hK K2
        refine wpAnyH_ready (rs := [8]) (by kernel_rfl) (by simp) ?_
        refine RdyH.cons rfl (fun K2 hK => ?_) RdyH.nil
        obtain ⟨vs1, e1, e2, e3⟩ := HP1.out.s
        refine step_append_own rfl (.tmp 30) (.tmp 36) 31 rfl elemAtoms rfl e2 [.int .i64 r, .slice ua un uc] rfl rfl ?c1 ?c2 ?c3 ?c4 ?_
        case c1 => exact fun k y hk => aCell HL.out k (by simpa using hk)
        case c2 => intro u hu; simp at hu; rcases hu with rfl | rfl <;> rfl
        case c3 => rw [partA_len, List.length_take]; omega
        case c4 => have := (Array.getElem?_eq_some_iff.1 HP1.out.p).1; omega
        intro v9 wd2 h91 hb
        obtain ⟨qa, qn, qk, rfl⟩ := row_sliceI h91
        have hz := HP1.out.zo
        have hz2 := HP1.out.z2
        have hp' := (hb.block bo (by omega)).trans HP1.out.p
        have Hgk := Lib.hid (aCell hp' 1 rfl)
        have Hgf := Lib.hid (frozen_of_row wd2 _ 1 _ _ hp')
        have HN := Lib.hid (HP1.out.put (body' := partA bd (L.take k) ++ [(r, A)]) hb (SubA.snoc e1 e3 Hi.out h91))
        have HS2 := Lib.hid (show wd2.heap[B]? = some (.cells #[.slice ha hn hc, .slice a n cap] 33 (0, 0)) ∧ wd2.cell? ⟨b, off + i * 2, none⟩ = some (.int .i64 r) ∧ wd2.cell? ⟨b, off + i * 2 + 1, none⟩ = some (.slice ua un uc) from
          ⟨(hb.block B (by omega)).trans HS1.out.1, by have h := Below.keep (HP1.out.b.trans (hb.mono (by have := HP1.out.b4.size; omega))) ((Hc.out i hin).1); rw [HC1e.out] at h; exact h, by have h := Below.keep (HP1.out.b.trans (hb.mono (by have := HP1.out.b4.size; omega))) ((Hc.out i hin).2.1); rw [HC2e.out] at h; exact h⟩)
        clear h91 hb hp' hz hz2
        refine hK _ _ HS2.out ?_
        clear hK K2
        refine wpAnyH_take (i := 9) (v := ?_) rfl (by kernel_rfl) (by kernel_rfl) (by kernel_rfl) (fun _ _ _ h => h) (Or.inl ⟨by rfl, ?_⟩) HS2.out ?_
        rotate_left
        focus (intro w hS; clear hS; first | (go_simp; done) | (go_simp; with_reducible rfl))
        simp only [Act.put, List.getElem_toArray, List.getElem_cons_zero, List.getElem_cons_succ, List.setIfInBounds_toArray, List.set_cons_zero, List.set_cons_succ]
        refine wpAnyH_ready (rs := [10]) (by kernel_rfl) (by simp) ?_
        refine RdyH.cons rfl (fun K2 hK => ?_) RdyH.nil
        have gk := Hgk.out
        have gf := Hgf.out
        go_simp
        have HN2 := Lib.hid (show Pa 33 88 B bo w w4 (wd2.setCell ⟨bo, 1, none⟩ (.slice qa qn qk)) (.slice ha hn hc) (.slice a n cap) (.slice ca cn ck) (.slice qa qn qk) (partA bd (L.take (k + 1))) from by rw [HTk.out, HPa.out]; exact HN.out)
        refine hK _ _ ⟨HN2.out.q, by have h := Below.keep HN2.out.b ((Hc.out i hin).1); rw [HC1e.out] at h; exact h, by have h := Below.keep HN2.out.b ((Hc.out i hin).2.1); rw [HC2e.out] at h; exact h⟩ ?_
        clear hK K2
        refine wpAnyH_done (by kernel_rfl) ?_ _
        go_wp2_with fail
        go_roundw
        case rel => exact ⟨k + 1, _, _, _, by go_num, by omega, HN2.out⟩
        case measure => simp [intOf]; omega
      · refine RdyH.cons rfl (fun K2 hK => ?_) RdyH.nil
        obtain ⟨wd1, hwd1⟩ : ∃ y, y = wd0.alloc (.cells #[.int .i64 r, .slice ua un uc] 88) := ⟨_, rfl⟩
        have hb : Below wd0.heap.size wd0 wd1 := by rw [hwd1]; exact below_alloc _ _
        obtain ⟨bl, hbl⟩ : ∃ y, y = wd0.heap.size := ⟨_, rfl⟩
        have HL := Lib.hid (show wd1.heap[bl]? = some (.cells #[.int .i64 r, .slice ua un uc] 88 (0, 0)) from by rw [hwd1, hbl]; exact heap_alloc_new _ _)
        have HS1 := Lib.hid (And.intro (blk_keep2 HS0.out.1 hb) (And.intro (Below.keep hb HS0.out.2.1) (Below.keep hb HS0.out.2.2)))
        have HP1 := Lib.hid (HP0.out.keep hb)
        have Hwd1 := Lib.hid hwd1
        have Hbl := Lib.hid hbl
        clear hb hwd1 hbl
        go_simp
        rw [← Hwd1.out, ← Hbl.out]
        refine hK _ _ HS1.out ?_
        clear hK K2
        refine wpAnyH_ready (rs := [1]) (by kernel_rfl) (by simp) ?_
        refine RdyH.cons rfl (fun K2 hK => ?_) RdyH.nil
        have c1 := aCell HP1.out.p 1 rfl
        go_simp
        refine hK _ _ HS1.out ?_
        clear hK K2 c1
        refine wpAnyH_ready (rs := [8]) (by kernel_rfl) (by simp) ?_
        refine RdyH.cons rfl (fun K2 hK => ?_) RdyH.nil
        obtain ⟨vs1, e1, e2, e3⟩ := HP1.out.s
        refine step_append_own rfl (.tmp 30) (.tmp 36) 31 rfl elemAtoms rfl e2 [.int .i64 r, .slice ua un uc] rfl rfl ?c1 ?c2 ?c3 ?c4 ?_
        case c1 => exact fun k y hk => aCell HL.out k (by simpa using hk)
        case c2 => intro u hu; simp at hu; rcases hu with rfl | rfl <;> rfl
        case c3 => rw [partA_len, List.length_take]; omega
        case c4 => have := (Array.getElem?_eq_some_iff.1 HP1.out.p).1; omega
        intro v9 wd2 h91 hb
        obtain ⟨qa, qn, qk, rfl⟩ := row_sliceI h91
        have hz := HP1.out.zo
        have hz2 := HP1.out.z2
        have hp' := (hb.block bo (by omega)).trans HP1.out.p
        have Hgk := Lib.hid (aCell hp' 1 rfl)
        have Hgf := Lib.hid (frozen_of_row wd2 _ 1 _ _ hp')
        have HN := Lib.hid (HP1.out.put (body' := partA bd (L.take k) ++ [(r, A)]) hb (SubA.snoc e1 e3 Hi.out h91))
        have HS2 := Lib.hid (show wd2.heap[B]? = some (.cells #[.slice ha hn hc, .slice a n cap] 33 (0, 0)) ∧ wd2.cell? ⟨b, off + i * 2, none⟩ = some (.int .i64 r) ∧ wd2.cell? ⟨b, off + i * 2 + 1, none⟩ = some (.slice ua un uc) from
          ⟨(hb.block B (by omega)).trans HS1.out.1, by have h := Below.keep (HP1.out.b.trans (hb.mono (by have := HP1.out.b4.size; omega))) ((Hc.out i hin).1); rw [HC1e.out] at h; exact h, by have h := Below.keep (HP1.out.b.trans (hb.mono (by have := HP1.out.b4.size; omega))) ((Hc.out i hin).2.1); rw [HC2e.out] at h; exact h⟩)
        clear h91 hb hp' hz hz2
        refine hK _ _ HS2.out ?_
        clear hK K2
        refine wpAnyH_take (i := 9) (v := ?_) rfl (by kernel_rfl) (by kernel_rfl) (by kernel_rfl) (fun _ _ _ h => h) (Or.inl ⟨by rfl, ?_⟩) HS2.out ?_
        rotate_left
        focus (intro w hS; clear hS; first | (go_simp; done) | (go_simp; with_reducible rfl))
        simp only [Act.put, List.getElem_toArray, List.getElem_cons_zero, List.getElem_cons_succ, List.setIfInBounds_toArray, List.set_cons_zero, List.set_cons_succ]
        refine wpAnyH_ready (rs := [10]) (by kernel_rfl) (by simp) ?_
        refine RdyH.cons rfl (fun K2 hK => ?_) RdyH.nil
        have gk := Hgk.out
        have gf := Hgf.out
        go_simp
        have HN2 := Lib.hid (show Pa 33 88 B bo w w4 (wd2.setCell ⟨bo, 1, none⟩ (.slice qa qn qk)) (.slice ha hn hc) (.slice a n cap) (.slice ca cn ck) (.slice qa qn qk) (partA bd (L.take (k + 1))) from by rw [HTk.out, HPa.out]; exact HN.out)
        refine hK _ _ ⟨HN2.out.q, by have h := Below.keep HN2.out.b ((Hc.out i hin).1); rw [HC1e.out] at h; exact h, by have h := Below.keep HN2.out.b ((Hc.out i hin).2.1); rw [HC2e.out] at h; exact h⟩ ?_
        clear hK K2
        refine wpAnyH_done (by kernel_rfl) ?_ _
        go_wp2_with fail
        go_roundw
        case rel => exact ⟨k + 1, _, _, _, by go_num, by omega, HN2.out⟩
        case measure => simp [intOf]; omega
    · obtain rfl : m = k := by omega
      have c0 := aCell HI.out.p 0 rfl
      have c1 := aCell HI.out.p 1 rfl
      have r0 := aCell HI.out.r 0 rfl
      have r1 := aCell HI.out.r 1 rfl
      have f0 := frozen_of_row wx _ 0 _ _ HI.out.r
      have f1 := frozen_of_row wx _ 1 _ _ HI.out.r
      obtain ⟨w6, hw6⟩ : ∃ x, x = (wx.setCell ⟨B + 1, 0, none⟩ (.slice ca cn ck)).setCell ⟨B + 1, 1, none⟩ (.slice ba bn bk) := ⟨_, rfl⟩
      have HG := Lib.hid (show w6.heap[B + 1]? = some (.cells #[.slice ca cn ck, .slice ba bn bk] 33 (0, 0)) from by
        rw [hw6, heap_setCell_same _ _ 1 _ _ _ (heap_setCell_same wx _ 0 _ _ _ HI.out.r)]; rfl)
      have hz := HI.out.z
      have hz2 := HI.out.z2
      have hzo := HI.out.zo
      have hbd : Below w.heap.size w w6 := by rw [hw6]; exact (HI.out.b.setCell (by simp; omega) _).setCell (by simp; omega) _
      have HA := Lib.hid (show Atoms w6 (.slice ba bn bk) (partA bd L) from by
        have hs := HI.out.s
        rw [Hm.out, List.take_length] at hs
        refine SubA.atoms (B := bo + 1) (e := 88) (w0 := w) ?_ hbd
        rw [hw6]
        exact (hs.cell (by omega) _).cell (by omega) _)
      have HHd := Lib.hid (show Ints w6 (.slice ca cn ck) hd from by
        have h := (HHx.out.keep HI.out.c)
        rw [hw6]
        exact ints_cell2 h HI.out.r)
      have HB := Lib.hid hbd
      have Hw6 := Lib.hid hw6
      clear hw6 hz hz2 hzo hbd HI
      go_wp2_with fail
      rw [← Hw6.out]
      exact bodyPost_ret (results_cell_tmp Try.results52 _ _ (B + 1) 33 _ (0, 0) _ rfl HG.out Try.underlying33 rfl (by kernel_rfl)) rfl ⟨_, _, _, _, _, _, rfl, ⟨_, _, rfl, HHd.out, HA.out⟩, HB.out⟩
#print axioms partL_any
end Go.Proofs.Ytfplmdieeabgpaa
