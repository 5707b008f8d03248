/- Contract of conflictsOf. -/
import Derived.Test.YtpehbffkplmfjaaCon
namespace Go.Proofs.Ytpehbffkplmfjaa
open Go.RowKit

/-- operations i and j, with j before i, of committed transactions, are in conflict -/
def EdOn (h : List NOp) (i j : Nat) : Prop := (lv h h.length (7 + tT h i) ≠ 40 ∧ lv h h.length (7 + tT h j) ≠ 40) ∧ Cf (tT h j) (tK h j) (tI h j) (tT h i) (tK h i) (tI h i)
instance (h : List NOp) (i j : Nat) : Decidable (EdOn h i j) := inferInstanceAs (Decidable (_ ∧ _))
def edIn (h : List NOp) (i : Nat) (f : Nat → Nat) : Nat → Nat → Nat
  | 0 => f
  | j + 1 => fun x => if EdOn h i j ∧ x = tT h j then edIn h i f j x ||| 2 ^ tT h i else edIn h i f j x
/-- the edges that the first n operations make -/
def ed (h : List NOp) : Nat → Nat → Nat
  | 0 => fun _ => 0
  | i + 1 => edIn h i (ed h i) i
theorem edIn_lt {h : List NOp} (hh : VH h) {i : Nat} (hi : i < h.length) {f : Nat → Nat} (hf : ∀ x, f x < 128) : ∀ j x, edIn h i f j x < 128
  | 0, x => hf x
  | j + 1, x => by
    have ih := edIn_lt hh hi hf j x
    simp only [edIn]
    split
    · exact or_lt (k := 7) ih (Nat.pow_lt_pow_right (by decide) (show tT h i < 7 by have := hh.t6 i hi; omega))
    · exact ih
theorem ed_lt {h : List NOp} (hh : VH h) : ∀ i, i ≤ h.length → ∀ x, ed h i x < 128
  | 0, _, x => by simp [ed]
  | i + 1, hi, x => by
    rw [ed]
    exact edIn_lt hh (by omega) (ed_lt hh i (by omega)) i x
theorem edIn_yes {h : List NOp} {i j : Nat} {f : Nat → Nat} (e : EdOn h i j) : edIn h i f (j + 1) = fun x => if x = tT h j then edIn h i f j (tT h j) ||| 2 ^ tT h i else edIn h i f j x := by
  funext x
  simp only [edIn]
  by_cases e2 : x = tT h j
  · rw [if_pos ⟨e, e2⟩, if_pos e2, e2]
  · rw [if_neg (fun q => e2 q.2), if_neg e2]
theorem edIn_no {h : List NOp} {i j : Nat} {f : Nat → Nat} (e : ¬ EdOn h i j) : edIn h i f (j + 1) = edIn h i f j := by
  funext x
  simp only [edIn]
  rw [if_neg (fun q => e q.1)]
theorem EdB.congr {w : World} {b : Nat} {f g : Nat → Nat} (h : EdB w b f) (e : f = g) : EdB w b g := e ▸ h
theorem grown_below2 {w0 w w' : World} {b : Nat} (hb : Below w0.heap.size w0 w) (hg : w.grownBy w' (some b)) (h : w0.heap.size ≤ b) : Below w0.heap.size w0 w' :=
  ⟨hg.os.trans hb.os, hg.tape.trans hb.tape, hg.output.trans hb.output, Nat.le_trans hb.size hg.size, fun k hk => (hg.block k (Nat.lt_of_lt_of_le hk hb.size) (by simp; omega)).trans (hb.block k hk)⟩
theorem Blk.grown {w w' : World} {b b2 : Nat} {t : TypeId} {n : Nat} {f : Nat → Value} (h : Blk w b t n f) (hg : w.grownBy w' (some b2)) (hne : b ≠ b2) : Blk w' b t n f := (hg.block b h.lt (by simp; omega)).trans h
theorem grown_cell {w w' : World} {b b2 j : Nat} {v : Value} (h : w.cell? ⟨b, j, none⟩ = some v) (hg : w.grownBy w' (some b2)) (hne : b ≠ b2) : w'.cell? ⟨b, j, none⟩ = some v :=
  (World.cell?_of_block (hg.block b (cell_lt h) (by simp; omega))).trans h
set_option maxRecDepth 100000 in
set_option maxHeartbeats 8000000 in
theorem conflictsOf_any {h : List NOp} (hh : VH h) (v : Value) (w : World) (hv : Ops w v (castO h)) :
    Calls Try.prog 53 #[v, .agg (livA h)] w fun e w' => e = .returned (.pointer (some ⟨w.heap.size + 1, 0, none⟩)) ∧ EdB w' (w.heap.size + 1) (ed h h.length) ∧ Below w.heap.size w w' := by
  obtain ⟨a, b, off, cap, rfl, hle, ha, hcap, hc⟩ := Ops.nat hv
  have hix := run_ix (P := Try.prog) (t := 29) (a := a) (len := h.length) (cap := cap) (b := b) (off := off) (s := 3) Try.underlying29 (by intro w; kernel_rfl) ha
  have hixj := fun n (hn : n ≤ h.length) => run_ix (P := Try.prog) (t := 29) (a := a) (len := n) (cap := cap) (b := b) (off := off) (s := 3) Try.underlying29 (by intro w; kernel_rfl) (fun h => ha (by omega))
  have hsub := fun k (hk : k ≤ h.length) w => Ops.sub (P := Try.prog) (a := a) (k := k) Try.underlying29 (by intro w; kernel_rfl) hcap hk w
  have h40 := hh.le
  have Hc := Lib.hid hc
  have Hix := Lib.hid hix
  have Hixj := Lib.hid hixj
  have Hsub := Lib.hid hsub
  have HH := Lib.hid hh
  clear ha hv hc hix hcap hh hle hixj hsub
  have HB := Lib.hid (blk_new w 70 21 (lvF h h.length))
  have hla : livA h = row 21 (lvF h h.length) := rfl
  rw [hla]
  clear hla
  generalize hL : row 21 (lvF h h.length) = L at *
  clear hL
  go_enter Try.func53, Try.ntmps53
  go_wp2_with fail
  have hE0 : EdB ((w.alloc (.cells L 70)).alloc (.cells #[.int .i64 0, .int .i64 0, .int .i64 0, .int .i64 0, .int .i64 0, .int .i64 0, .int .i64 0] 120)) (w.heap.size + 1) (ed h 0) := by
    have := blk_new (w.alloc (.cells L 70)) 120 7 (fun _ => .int .i64 0)
    rw [show (w.alloc (.cells L 70)).heap.size = w.heap.size + 1 by simp] at this; exact this
  have hV0 := Blk.keep HB.out (below_alloc _ (.cells #[.int .i64 0, .int .i64 0, .int .i64 0, .int .i64 0, .int .i64 0, .int .i64 0, .int .i64 0] 120))
  have hb0 : Below w.heap.size w ((w.alloc (.cells L 70)).alloc (.cells #[.int .i64 0, .int .i64 0, .int .i64 0, .int .i64 0, .int .i64 0, .int .i64 0, .int .i64 0] 120)) := ((Below.refl _ _).alloc (Nat.le_refl _) _).alloc (by simp) _
  generalize ((w.alloc (.cells L 70)).alloc (.cells #[.int .i64 0, .int .i64 0, .int .i64 0, .int .i64 0, .int .i64 0, .int .i64 0, .int .i64 0] 120)) = w1 at *
  have HE0 := Lib.hid hE0
  have HV0 := Lib.hid hV0
  have Hb0 := Lib.hid hb0
  clear hE0 hV0 hb0 HB
  go_loopw [14] (fun i wr => ∃ k : Nat, i = .int .i64 k ∧ k ≤ h.length ∧ Below w.heap.size w wr ∧ Blk wr w.heap.size 70 21 (lvF h h.length) ∧ EdB wr (w.heap.size + 1) (ed h k)) (fun i _ => h.length - (intOf i).toNat)
  case atStart => exact ⟨0, rfl, Nat.zero_le _, Hb0.out, HV0.out, HE0.out⟩
  case round =>
    clear Hb0 HE0 HV0
    obtain ⟨k, rfl, hk, hb, hV, hE⟩ := hrel
    have Hb := Lib.hid hb
    have HV := Lib.hid hV
    have HE := Lib.hid hE
    clear hb hV hE
    by_cases hlt : k < h.length
    · have hc1 := Below.keep Hb.out (Hc.out k hlt).1
      have hc2 := Below.keep Hb.out (Hc.out k hlt).2.1
      have hc3 := Below.keep Hb.out (Hc.out k hlt).2.2
      have hixk := Hix.out k
      have hsk := Hsub.out k hk
      have ht6 := HH.out.t6 k hlt
      have HtT := Lib.hid (show tT h k < 7 by omega)
      have HtK := Lib.hid (HH.out.k3 k hlt)
      obtain ⟨t, ht⟩ : ∃ t, t = tT h k := ⟨_, rfl⟩
      obtain ⟨q, hq⟩ : ∃ q, q = tK h k := ⟨_, rfl⟩
      obtain ⟨x, hx⟩ : ∃ x, x = tI h k := ⟨_, rfl⟩
      rw [← ht] at hc1 ht6
      rw [← hq] at hc2
      rw [← hx] at hc3
      have He := Lib.hid (And.intro ht (And.intro hq hx))
      obtain ⟨ht1, ht2⟩ := ht6
      clear ht hq hx
      have Hb1 := Lib.hid (show Below w.heap.size w (wr.alloc (.cells #[.int .i64 t, .int .i64 q, .int .i64 x] 58)) from Below.tr Hb.out (below_alloc _ _))
      have HV1 := Lib.hid (HV.out.keep (below_alloc wr (.cells #[.int .i64 t, .int .i64 q, .int .i64 x] 58)))
      have HE1 := Lib.hid (show EdB (wr.alloc (.cells #[.int .i64 t, .int .i64 q, .int .i64 x] 58)) (w.heap.size + 1) (edIn h k (ed h k) 0) from HE.out.keep (below_alloc wr (.cells #[.int .i64 t, .int .i64 q, .int .i64 x] 58)))
      have HC1 := Lib.hid (And.intro (cell_new wr #[.int .i64 t, .int .i64 q, .int .i64 x] 58 0) (And.intro (cell_new wr #[.int .i64 t, .int .i64 q, .int .i64 x] 58 1) (cell_new wr #[.int .i64 t, .int .i64 q, .int .i64 x] 58 2)))
      have Hsz := Lib.hid (show w.heap.size + 1 < wr.heap.size from HE.out.lt)
      clear HV HE
      go_wp2_with fail
      generalize hob : wr.heap.size = ob at *
      clear hc1 hc2 hc3 hixk hob hsk Hb
      generalize wr.alloc (.cells #[.int .i64 t, .int .i64 q, .int .i64 x] 58) = w2 at *
      go_loopw [23] (fun i wx => ∃ j : Nat, i = .int .i64 j ∧ j ≤ k ∧ Below w.heap.size w wx ∧ Blk wx w.heap.size 70 21 (lvF h h.length) ∧ EdB wx (w.heap.size + 1) (edIn h k (ed h k) j) ∧ wx.cell? ⟨ob, 0, none⟩ = some (.int .i64 t) ∧ wx.cell? ⟨ob, 1, none⟩ = some (.int .i64 q) ∧ wx.cell? ⟨ob, 2, none⟩ = some (.int .i64 x)) (fun i _ => k - (intOf i).toNat)
      case atStart => exact ⟨0, rfl, Nat.zero_le _, Hb1.out, HV1.out, HE1.out, HC1.out.1, HC1.out.2.1, HC1.out.2.2⟩
      case round =>
        clear Hb1 HE1 HV1 HC1
        obtain ⟨j, rfl, hj, hb, hV, hE, hc0, hc1, hc2⟩ := hrel
        have Hb := Lib.hid hb
        have HV := Lib.hid hV
        have HE := Lib.hid hE
        have HCo := Lib.hid (And.intro hc0 (And.intro hc1 hc2))
        clear hb hV hE hc0 hc1 hc2
        by_cases hjk : j < k
        · have hjl : j < h.length := by omega
          have hd1 := Below.keep Hb.out (Hc.out j hjl).1
          have hd2 := Below.keep Hb.out (Hc.out j hjl).2.1
          have hd3 := Below.keep Hb.out (Hc.out j hjl).2.2
          have hixk := Hixj.out k hk j
          have hs6 := HH.out.t6 j hjl
          have HsK := Lib.hid (HH.out.k3 j hjl)
          have Hyes := Lib.hid (fun e : EdOn h k j => edIn_yes (f := ed h k) e)
          have Hno := Lib.hid (fun e : ¬ EdOn h k j => edIn_no (f := ed h k) e)
          have Hlt := Lib.hid (edIn_lt HH.out hlt (ed_lt HH.out k hk) j (tT h j))
          have Hdf := Lib.hid (show EdOn h k j ↔ (lv h h.length (7 + t) ≠ 40 ∧ lv h h.length (7 + tT h j) ≠ 40) ∧ Cf (tT h j) (tK h j) (tI h j) t q x by unfold EdOn; rw [← He.out.1, ← He.out.2.1, ← He.out.2.2])
          obtain ⟨s, hs⟩ : ∃ s, s = tT h j := ⟨_, rfl⟩
          obtain ⟨r, hr⟩ : ∃ r, r = tK h j := ⟨_, rfl⟩
          obtain ⟨y, hy⟩ : ∃ y, y = tI h j := ⟨_, rfl⟩
          rw [← hs] at hd1 hs6 Hyes Hdf Hlt
          rw [← hr] at hd2 Hdf HsK
          rw [← hy] at hd3 Hdf
          obtain ⟨hs1, hs2⟩ := hs6
          clear hs hr hy
          have e0 := cell_new wr #[.int .i64 s, .int .i64 r, .int .i64 y] 58 0
          have e1 := cell_new wr #[.int .i64 s, .int .i64 r, .int .i64 y] 58 1
          have e2 := cell_new wr #[.int .i64 s, .int .i64 r, .int .i64 y] 58 2
          have Hxl := Lib.hid (cell_lt HCo.out.1)
          have Hb3 := Lib.hid (show Below w.heap.size w (wr.alloc (.cells #[.int .i64 s, .int .i64 r, .int .i64 y] 58)) from Below.tr Hb.out (below_alloc _ _))
          have HV3 := Lib.hid (HV.out.keep (below_alloc wr (.cells #[.int .i64 s, .int .i64 r, .int .i64 y] 58)))
          have HE3 := Lib.hid (show EdB (wr.alloc (.cells #[.int .i64 s, .int .i64 r, .int .i64 y] 58)) (w.heap.size + 1) (edIn h k (ed h k) j) from HE.out.keep (below_alloc wr (.cells #[.int .i64 s, .int .i64 r, .int .i64 y] 58)))
          have HC3 := Lib.hid (And.intro (Below.keep (below_alloc wr (.cells #[.int .i64 s, .int .i64 r, .int .i64 y] 58)) HCo.out.1) (And.intro (Below.keep (below_alloc wr (.cells #[.int .i64 s, .int .i64 r, .int .i64 y] 58)) HCo.out.2.1) (Below.keep (below_alloc wr (.cells #[.int .i64 s, .int .i64 r, .int .i64 y] 58)) HCo.out.2.2)))
          have HD3 := Lib.hid (And.intro e0 (And.intro e1 e2))
          clear HV HE HCo e0 e1 e2
          go_upto_region 8 with fail
          clear hd1 hd2 hd3 hixk
          generalize hp : wr.heap.size = p at *
          clear hp Hb
          generalize wr.alloc (.cells #[.int .i64 s, .int .i64 r, .int .i64 y] 58) = w3 at *
          rw [← He.out.1] at Hyes
          have c0 := HC3.out.1
          have c1 := HC3.out.2.1
          have c2 := HC3.out.2.2
          have d0 : w3.cell? ⟨p, 0, none⟩ = some (.int .i64 s) := HD3.out.1
          have d1 : w3.cell? ⟨p, 1, none⟩ = some (.int .i64 r) := HD3.out.2.1
          have d2 : w3.cell? ⟨p, 2, none⟩ = some (.int .i64 y) := HD3.out.2.2
          have v1 := HV3.out.at (show 7 + t < 21 by omega)
          have v2 := HV3.out.at (show 7 + s < 21 by omega)
          unfold lvF at v1 v2
          have Hcc := Lib.hid (And.intro c0 (And.intro c1 (And.intro c2 (And.intro d0 (And.intro d1 d2)))))
          obtain ⟨ci, hci⟩ : ∃ ci, ci = lv h h.length (7 + t) := ⟨_, rfl⟩
          obtain ⟨cj, hcj⟩ : ∃ cj, cj = lv h h.length (7 + s) := ⟨_, rfl⟩
          rw [← hci] at v1 Hdf
          rw [← hcj] at v2 Hdf
          have hti : (t : Int) < 7 := by omega
          have ht0 : (0 : Int) ≤ (t : Int) := by omega
          have hsi : (s : Int) < 7 := by omega
          have hs0 : (0 : Int) ≤ (s : Int) := by omega
          clear hci hcj HC3 HD3
          by_cases f1 : ci = 40
          · have q1 : ((ci : Int) != 40) = false := by rw [bne_eq_false_iff_eq]; omega
            have R := Lib.hid (Hno.out fun e => (Hdf.out.1 e).1.1 f1)
            clear f1
            go_wp2_with fail
            go_roundw
            case rel => exact ⟨j + 1, by go_num, by omega, Hb3.out, HV3.out, HE3.out.congr R.out.symm, Hcc.out.1, Hcc.out.2.1, Hcc.out.2.2.1⟩
            case measure => simp [intOf]; omega
          · have q1 : ((ci : Int) != 40) = true := by rw [bne_iff_ne]; omega
            by_cases f2 : cj = 40
            · have q2 : ((cj : Int) != 40) = false := by rw [bne_eq_false_iff_eq]; omega
              have R := Lib.hid (Hno.out fun e => (Hdf.out.1 e).1.2 f2)
              clear f1 f2
              go_wp2_with fail
              go_roundw
              case rel => exact ⟨j + 1, by go_num, by omega, Hb3.out, HV3.out, HE3.out.congr R.out.symm, Hcc.out.1, Hcc.out.2.1, Hcc.out.2.2.1⟩
              case measure => simp [intOf]; omega
            · have q2 : ((cj : Int) != 40) = true := by rw [bne_iff_ne]; omega
              by_cases f3 : Cf s r y t q x
              · have R := Lib.hid (Hyes.out (Hdf.out.2 ⟨⟨f1, f2⟩, f3⟩))
                have HC := Lib.hid (conflicts_b s r y t q x HsK.out (by rw [He.out.2.1]; exact HtK.out) true (decide_eq_true f3))
                clear f1 f2 f3
                go_wp2_with fail
                refine (HC.out _).mono ?_
                rintro e w4 ⟨rfl, hb4⟩
                have Hb4 := Lib.hid (Below.tr Hb3.out hb4)
                have HV4 := Lib.hid (HV3.out.keep hb4)
                have HE4 := Lib.hid (show EdB w4 (w.heap.size + 1) (edIn h k (ed h k) j) from HE3.out.keep hb4)
                clear c0 c1 c2 d0 d1 d2 v1 v2
                have c0 := Below.keep hb4 Hcc.out.1
                have d0 := Below.keep hb4 Hcc.out.2.2.2.1
                have Hcc := Lib.hid (And.intro c0 (And.intro (Below.keep hb4 Hcc.out.2.1) (Below.keep hb4 Hcc.out.2.2.1)))
                clear hb4
                go_wp2_with fail
                refine (add_any (by exact HE4.out) (show s < 7 by omega) (show t < 7 by omega) Hlt.out).mono ?_
                rintro e w5 ⟨rfl, hE5, hg5⟩
                have Hb5 := Lib.hid (grown_below2 (by exact Hb4.out) (by exact hg5) (by omega))
                have HV5 := Lib.hid (Blk.grown (by exact HV4.out) hg5 (by omega))
                have HE5 := Lib.hid hE5
                have hne : ob ≠ w.heap.size + 1 := by have := Hsz.out; omega
                have HC5 := Lib.hid (And.intro (grown_cell (by exact Hcc.out.1) hg5 hne) (And.intro (grown_cell (by exact Hcc.out.2.1) hg5 hne) (grown_cell (by exact Hcc.out.2.2) hg5 hne)))
                clear hE5 hg5
                go_wp2_with fail
                go_roundw
                case rel => exact ⟨j + 1, by go_num, by omega, Hb5.out, HV5.out, HE5.out.congr R.out.symm, HC5.out.1, HC5.out.2.1, HC5.out.2.2⟩
                case measure => simp [intOf]; omega
              · have R := Lib.hid (Hno.out fun e => f3 (Hdf.out.1 e).2)
                have HC := Lib.hid (conflicts_b s r y t q x HsK.out (by rw [He.out.2.1]; exact HtK.out) false (decide_eq_false f3))
                clear f1 f2 f3
                go_wp2_with fail
                refine (HC.out _).mono ?_
                rintro e w4 ⟨rfl, hb4⟩
                have Hb4 := Lib.hid (Below.tr Hb3.out hb4)
                have HV4 := Lib.hid (HV3.out.keep hb4)
                have HE4 := Lib.hid (show EdB w4 (w.heap.size + 1) (edIn h k (ed h k) j) from HE3.out.keep hb4)
                clear c0 c1 c2 d0 d1 d2 v1 v2
                have Hcc := Lib.hid (And.intro (Below.keep hb4 Hcc.out.1) (And.intro (Below.keep hb4 Hcc.out.2.1) (Below.keep hb4 Hcc.out.2.2.1)))
                clear hb4
                go_wp2_with fail
                go_roundw
                case rel => exact ⟨j + 1, by go_num, by omega, Hb4.out, HV4.out, HE4.out.congr R.out.symm, Hcc.out.1, Hcc.out.2.1, Hcc.out.2.2⟩
                case measure => simp [intOf]; omega
        · obtain rfl : j = k := by omega
          go_wp2_with fail
          go_roundw
          case rel => exact ⟨j + 1, by go_num, by omega, Hb.out, HV.out, HE.out⟩
          case measure => simp [intOf]; omega
    · obtain rfl : k = h.length := by omega
      go_wp2_with fail
      go_ret
      exact ⟨rfl, HE.out, Hb.out⟩
#print axioms conflictsOf_any
end Go.Proofs.Ytpehbffkplmfjaa
