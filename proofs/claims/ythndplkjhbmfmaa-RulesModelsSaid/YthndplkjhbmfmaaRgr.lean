/- Contract of ground: the program of rules and facts. -/
import Derived.Test.YthndplkjhbmfmaaRgm
import Derived.Test.YthndplkjhbmfmaaRjn
namespace Go.Proofs.Ythndplkjhbmfmaa
open Go.RowKit
theorem rR_at {l : List RRule} {i : Nat} (h : i < l.length) : l[i]? = some (rR l i) := by rw [List.getElem?_eq_getElem h, rR_get h]
/-- how many facts are known -/
def kN (w : World) (bp t : Nat) : Nat := match w.cell? ⟨bp, 297 + t, none⟩ with | some (.slice _ n _) => n | _ => 0
def k6 (w : World) (bp : Nat) : Nat := kN w bp 0 + kN w bp 1 + kN w bp 2 + kN w bp 3 + kN w bp 4 + kN w bp 5
theorem filt_sum : ∀ {Q : List Int} (_ : ∀ x, x ∈ Q → 0 ≤ x ∧ x < 294), (Q.filter fun x => decide (x / 49 = ((0 : Nat) : Int))).length + (Q.filter fun x => decide (x / 49 = ((1 : Nat) : Int))).length + (Q.filter fun x => decide (x / 49 = ((2 : Nat) : Int))).length + (Q.filter fun x => decide (x / 49 = ((3 : Nat) : Int))).length + (Q.filter fun x => decide (x / 49 = ((4 : Nat) : Int))).length + (Q.filter fun x => decide (x / 49 = ((5 : Nat) : Int))).length = Q.length
  | [], _ => rfl
  | x :: Q, h => by
    have ih := filt_sum (Q := Q) fun y hy => h y (List.mem_cons_of_mem _ hy)
    have hx := h x (by simp)
    have : x / 49 = 0 ∨ x / 49 = 1 ∨ x / 49 = 2 ∨ x / 49 = 3 ∨ x / 49 = 4 ∨ x / 49 = 5 := by omega
    rcases this with e | e | e | e | e | e <;> simp [e] at ih ⊢ <;> omega
theorem k6_eq {l : List RRule} {base bnd : Nat} {w : World} {bp : Nat} {rl : Value} {M : PMem} {S : PSt} {Q : List Int} (h : PG base bnd w bp rl M S) (g : GI l S Q) : k6 w bp = Q.length := by
  have hk : ∀ t, t < 6 → kN w bp t = (Q.filter fun x => decide (x / 49 = (t : Int))).length := fun t ht => by
    unfold kN
    rw [h.cellR (j := 297 + t) (.inr ⟨by omega, by omega⟩)]
    obtain ⟨a, c, e⟩ := (h.rows (297 + t) (.inr ⟨by omega, by omega⟩)).slice
    rw [e, ← g.kn t ht]
  unfold k6
  rw [hk 0 (by omega), hk 1 (by omega), hk 2 (by omega), hk 3 (by omega), hk 4 (by omega), hk 5 (by omega)]
  exact filt_sum fun x hx => by
    obtain ⟨f, hf, e⟩ := g.ok x (List.mem_append_left _ hx)
    rw [← e]; exact pcd_range hf
theorem gi_len {l : List RRule} {S : PSt} {Q : List Int} (g : GI l S Q) : Q.length + (S.R 303).length ≤ 294 := by
  have := len_le g.nod (m := (List.range 294).map fun (i : Nat) => (i : Int)) fun x hx => by
    obtain ⟨f, hf, e⟩ := g.ok x hx
    have := pcd_range hf
    exact List.mem_map.2 ⟨x.toNat, List.mem_range.2 (by omega), by omega⟩
  simpa using this
theorem oq_cap {base : Nat} {w : World} {a : Option Addr} {n c : Nat} {L : List Int} (h : OQ base w (.slice a n c) L) : n ≤ c := by
  rcases h with ⟨h, _⟩ | ⟨g, off, cap, cur, e, _, _, h4, _⟩
  · injection h with _ h2 h3; omega
  · injection e with _ e2 e3; omega
theorem owns_mono {w : World} {base base' size n : Nat} {e : TypeId} {v : Value} {xs : List Value} (h : w.ownsRow base e size v n xs) (hb : base' ≤ base) : w.ownsRow base' e size v n xs :=
  ⟨h.1, h.2.imp id fun ⟨g, cap, cur, e1, e2, e3⟩ => ⟨g, cap, cur, e1, Nat.le_trans hb e2, e3⟩⟩
theorem SubB.base0 {e : TypeId} {w0 w : World} {B : Nat} {v : Value} {l : List HAt} (h : SubB e w0 B w v l) : SubB e w0 0 w v l := by
  obtain ⟨vs, h1, h2, h3⟩ := h
  exact ⟨vs, h1, owns_mono h2 (Nat.zero_le _), h3⟩
theorem SubB.ge {e : TypeId} {w0 w : World} {B : Nat} {v : Value} {l : List HAt} (h : SubB e w0 B w v l) {k : Nat} (hk : v.ownBlock = some k) : B ≤ k := by
  obtain ⟨vs, h1, h2, h3⟩ := h
  exact (own_lt h2 hk).1
theorem SubB.len {e : TypeId} {w0 w : World} {B : Nat} {a : Option Addr} {n c : Nat} {l : List HAt} (h : SubB e w0 B w (.slice a n c) l) : n = l.length := by
  obtain ⟨vs, h1, h2, h3⟩ := h
  obtain ⟨_, _, _, _, _, _, hs, _⟩ := owns_rd h2
  injection hs
def M0 (mb : Nat) : PMem := ⟨.slice none 0 0, mb, fun _ => .slice none 0 0⟩
def S0 : PSt := ⟨[], fun _ => [], fun _ => False⟩
theorem pg_0 (w : World) (rl : Value) (n : Nat) (hn : n = w.heap.size + 1) : PG w.heap.size ((w.alloc (.map #[] 0)).alloc (.cells (pcs rl (M0 w.heap.size)) 195)).heap.size ((w.alloc (.map #[] 0)).alloc (.cells (pcs rl (M0 w.heap.size)) 195)) n rl (M0 w.heap.size) S0 := by
  have hs : (w.alloc (.map #[] 0)).heap.size = w.heap.size + 1 := by exact Array.size_push _
  subst hn
  have hb := heap_alloc_new (w.alloc (.map #[] 0)) (.cells (pcs rl (M0 w.heap.size)) 195)
  rw [hs] at hb
  refine ⟨hb, fun k hk => ?_, fun j _ => oq_nil _ _, fun j k _ _ _ g hg => (by cases hg), ⟨[], rfl, World.ownsRow_nil _ _ _ _, fun i h => (by cases h)⟩, Nat.le_refl _, 0, (kset_made w).keep (below_alloc _ _), by omega⟩
  rcases hk with rfl | rfl | hk | ⟨j, _, hk⟩
  · omega
  · exact Nat.le_refl _
  · cases hk
  · cases hk
theorem run_map3 (w : World) : (Instr.makeMap 130 none).run Try.prog w = .ok (.map (some w.heap.size)) (w.alloc (.map #[] 0)) := run_makeMap _ _
theorem zero_pcs (rl : Value) (mb : Nat) : (Try.zeroCells195.setIfInBounds 0 rl).setIfInBounds 296 (Value.map (some mb)) = pcs rl (M0 mb) := by kernel_rfl
theorem num_joins (q k : Nat) (h : q ≤ 294) (hk : k ≤ 2222640) : 10 + q * 2222640 + k ≤ 700000000 := by omega
set_option maxRecDepth 100000 in
set_option maxHeartbeats 16000000 in
theorem ground_any (l : List RRule) (fs : List RAt) (hv : ValR l fs) (rl u : Value) (w : World) (hrl : Rules w rl l) (hu : Atoms w u fs) :
    Calls Try.prog 73 #[rl, u] w fun e w' => ∃ bp M S, e = .returned (.pointer (some ⟨bp, 0, none⟩)) ∧ PG w.heap.size w'.heap.size w' bp rl M S ∧ Gd l fs S ∧ Below w.heap.size w w' := by
  have HR := Lib.hid hrl
  have HV := Lib.hid hv
  obtain ⟨a, b, off, cap, rfl, hle, hia, _, hcs⟩ := Rules.get hrl
  obtain ⟨a2, b2, off2, cap2, vs2, rfl, hle2, hia2, _, hcs2⟩ := Atoms.get hu
  obtain ⟨n, hn⟩ : ∃ x, x = l.length := ⟨_, rfl⟩
  obtain ⟨m, hm⟩ : ∃ x, x = fs.length := ⟨_, rfl⟩
  have Hn := Lib.hid hn
  have Hm := Lib.hid hm
  rw [← hn] at hle hia hcs HR ⊢
  rw [← hm] at hle2 hia2 hcs2 ⊢
  have Hix := Lib.hid (run_ix (P := Try.prog) (t := 27) (a := a) (len := n) (cap := cap) (b := b) (off := off) (s := 3) Try.underlying27 (by intro w; kernel_rfl) hia)
  have Hix2 := Lib.hid (run_ix (P := Try.prog) (t := 39) (a := a2) (len := m) (cap := cap2) (b := b2) (off := off2) (s := 2) Try.underlying39 (by intro w; kernel_rfl) hia2)
  have Hc := Lib.hid hcs
  have Hc2 := Lib.hid hcs2
  have hm20 : m ≤ 20 := by rw [hm]; exact hv.f20
  have hn10 : n ≤ 10 := by rw [hn]; exact hv.l10
  obtain ⟨base, hbase⟩ : ∃ x, x = w.heap.size := ⟨_, rfl⟩
  have Hbase := Lib.hid hbase
  obtain ⟨bp, hbp⟩ : ∃ x, x = w.heap.size + 1 := ⟨_, rfl⟩
  obtain ⟨w1, hw1⟩ : ∃ x, x = (w.alloc (.map #[] 0)).alloc (.cells (pcs (.slice a n cap) (M0 w.heap.size)) 195) := ⟨_, rfl⟩
  have HP0 := Lib.hid (show PG base w1.heap.size w1 bp (.slice a n cap) (M0 base) S0 from by rw [hw1, hbase]; exact pg_0 w _ bp hbp)
  have HB0 := Lib.hid (show Below base w w1 from by rw [hw1, hbase]; exact (below_alloc w _).trans ((below_alloc (w.alloc (.map #[] 0)) _).mono (by rw [show (w.alloc (.map #[] 0)).heap.size = w.heap.size + 1 from Array.size_push _]; omega)))
  have Hw1 := Lib.hid hw1
  have Hbp := Lib.hid hbp
  clear hv hrl hu hia hia2 hcs hcs2 hn hm hbase hw1 hbp
  rw [← Hbase.out]
  have hmk := fun w => run_map3 w
  go_enter Try.func73, Try.ntmps73
  go_upto_region 2 with fail
  rw [zero_pcs, ← Hw1.out, ← Hbp.out]
  clear Hw1 hmk
  go_wp2_with fail
  go_loopw [22] (fun vi wr => ∃ (k : Nat) (bnd : Nat) (M : PMem) (S : PSt), vi = .int .i64 k ∧ k ≤ m ∧ PG base bnd wr bp (.slice a n cap) M S ∧ Below base w wr ∧ GI l S [] ∧ S.I = [] ∧ RL S k ∧ ∀ f, f ∈ fs.take k → S.rch (pcd f)) (fun vi _ => m - (intOf vi).toNat)
  case atStart => exact ⟨0, _, M0 base, S0, rfl, Nat.zero_le _, HP0.out, HB0.out, gi_0 l, rfl, fun j => Nat.zero_le _, fun f hf => by rw [List.take_zero] at hf; cases hf⟩
  case round =>
    generalize wr = wx at *
    clear HP0 HB0
    obtain ⟨k, bnd, M, S, rfl, hk, hP, hB, hG, hI, hL, hF⟩ := hrel
    have HP := Lib.hid hP
    have HB := Lib.hid hB
    have HG := Lib.hid hG
    have HI := Lib.hid hI
    have HL := Lib.hid hL
    have HF := Lib.hid hF
    clear hP hB hG hI hL hF
    by_cases hlt : k < m
    · obtain ⟨q0, q1, q2⟩ := Hc2.out k hlt
      have hW : Below w.heap.size w wx := Hbase.out ▸ HB.out
      have q0 := Below.keep hW q0
      have q1 := Below.keep hW q1
      have q2 := Ints.keep q2 hW
      have hixk := Hix2.out k
      have hlt2 : k < fs.length := by rw [← Hm.out]; exact hlt
      have HTk := Lib.hid (show fs.take (k + 1) = fs.take k ++ [fs.getD k (0, [])] from take_get hlt2)
      have HMf := Lib.hid (show fs.getD k (0, []) ∈ fs from getA_mem hlt2)
      unfold aR at q0
      unfold aA at q2
      obtain ⟨⟨r, A⟩, hf⟩ : ∃ x, x = fs.getD k (0, []) := ⟨_, rfl⟩
      rw [← hf] at q0 q2 HTk HMf
      simp only at q0 q2
      have HFc := Lib.hid (show FcR (r, A) from HV.out.fcs _ HMf.out)
      obtain ⟨xa, xc, hxs⟩ := ints_slice q2
      rw [hxs] at q1 q2
      obtain ⟨xn, hxn⟩ : ∃ x, x = A.length := ⟨_, rfl⟩
      rw [← hxn] at q1 q2
      obtain ⟨w3, hw3⟩ : ∃ x, x = wx.alloc (.cells #[.int .i64 r, .slice xa xn xc] 50) := ⟨_, rfl⟩
      have hb3 : Below wx.heap.size wx w3 := by rw [hw3]; exact below_alloc _ _
      obtain ⟨bx, hbx⟩ : ∃ x, x = wx.heap.size := ⟨_, rfl⟩
      have HX := Lib.hid (show w3.heap[bx]? = some (.cells #[.int .i64 r, .slice xa xn xc] 50 (0, 0)) from by rw [hw3, hbx]; exact heap_alloc_new _ _)
      have HC := Lib.hid (code_any (r, A) HFc.out (.slice xa xn xc) w3 (q2.keep hb3))
      have HP3 := Lib.hid (HP.out.keep hb3)
      have HB3 := Lib.hid (HB.out.trans (hb3.mono (by have := HB.out.size; have := Hbase.out; omega)))
      have HQ := Lib.hid (show (S.R 303).length ≤ 9000000000 from by have := gi_len HG.out; omega)
      have Hw3 := Lib.hid hw3
      have Hbx := Lib.hid hbx
      clear hf hxs hxn hw3 hb3 hbx hlt2 q2 hW
      go_upto_region 5 with fail
      rw [← Hw3.out, ← Hbx.out]
      clear Hw3 q0 q1 hixk
      have g0 := aCell HX.out 0 rfl
      have g1 := aCell HX.out 1 rfl
      go_wp2_with fail
      refine HC.out.mono ?_
      clear HC
      rintro e w4 ⟨rfl, hb4⟩
      have HP4 := Lib.hid (HP3.out.keep hb4)
      have HB4 := Lib.hid (HB3.out.trans (hb4.mono (by have := HB3.out.size; have := Hbase.out; omega)))
      have HC := Lib.hid (reach_any HP4.out (by have := HB4.out.size; have := Hbase.out; omega) (pcd (r, A)) (kok_pcd HFc.out) HQ.out)
      clear hb4 HP3 HB3 g0 g1
      go_wp2_with fail
      refine HC.out.mono ?_
      rintro e w5 ⟨rfl, M5, h51, h52, h53⟩
      have H5 := Lib.hid h51
      have HB5 := Lib.hid (show Below base w w5 from HB4.out.trans (h52.below (by have := HB4.out.size; have := Hbase.out; omega) HP4.out.ge))
      have HG5 := Lib.hid (HG.out.reach HFc.out)
      have HL5 := Lib.hid (HL.out.reach (pcd (r, A)))
      have HF5 := Lib.hid (show ∀ f, f ∈ fs.take (k + 1) → (reachS S (pcd (r, A))).rch (pcd f) from fun f hf => by
        rw [HTk.out] at hf
        rcases List.mem_append.1 hf with hf | hf
        · exact .inl (HF.out f hf)
        · rw [List.mem_singleton] at hf
          subst hf
          exact .inr rfl)
      clear h51 h52 h53 HC HP4 HB4
      go_wp2_with fail
      go_roundw
      case rel => exact ⟨k + 1, bnd, M5, _, by go_num, by omega, H5.out, HB5.out, HG5.out, HI.out, HL5.out, HF5.out⟩
      case measure => simp [intOf]; omega
    · obtain rfl : m = k := by omega
      have HG2 := Lib.hid (show G2 l fs S [] 0 from ⟨HG.out, fun i hi => (by rw [HI.out] at hi; cases hi), fun j => (by have := HL.out j; omega), (by rw [HI.out]; exact Nat.le_refl _), fun f hf => HF.out f (by rw [Hm.out, List.take_length]; exact hf)⟩)
      clear HG HI HL HF
      go_wp2_with fail
      go_loopw [33] (fun vi wr => ∃ (k bnd : Nat) (M : PMem) (S : PSt), vi = .int .i64 k ∧ k ≤ n ∧ PG base bnd wr bp (.slice a n cap) M S ∧ Below base w wr ∧ G2 l fs S [] k ∧ Zer l S k) (fun vi _ => n - (intOf vi).toNat)
      case atStart => exact ⟨0, bnd, M, S, rfl, Nat.zero_le _, HP.out, HB.out, HG2.out, fun k' r h => by omega⟩
      case round =>
        clear HP HB HG2
        clear S M bnd
        generalize wr = wy at *
        obtain ⟨i, bnd, M, S, rfl, hi, hP, hB, hG, hZ⟩ := hrel
        have HP := Lib.hid hP
        have HB := Lib.hid hB
        have HG := Lib.hid hG
        have HZ := Lib.hid hZ
        clear hP hB hG hZ
        by_cases hlt : i < n
        · obtain ⟨ua, uc, va, vc, hc0, hc1, hc2, hui, hvi⟩ := Hc.out i hlt
          have hW : Below w.heap.size w wy := Hbase.out ▸ HB.out
          have hc0 := Below.keep hW hc0
          have hc1 := Below.keep hW hc1
          have hc2 := Below.keep hW hc2
          have hixk := Hix.out i
          have hlt2 : i < l.length := by rw [← Hn.out]; exact hlt
          have HMr := Lib.hid (show rR l i ∈ l from by rw [rR_get hlt2]; exact List.getElem_mem hlt2)
          have HAt := Lib.hid (rR_at hlt2)
          have Hlt2 := Lib.hid hlt2
          obtain ⟨⟨⟨hr, A⟩, bd⟩, hrr⟩ : ∃ x, x = rR l i := ⟨_, rfl⟩
          have Hrr := Lib.hid hrr
          rw [← hrr] at hc0 hc1 hc2 hui hvi HMr HAt
          simp only at hc0 hc1 hc2 hui hvi
          obtain ⟨un, hun⟩ : ∃ x, x = A.length := ⟨_, rfl⟩
          obtain ⟨vn, hvn⟩ : ∃ x, x = bd.length := ⟨_, rfl⟩
          rw [← hun] at hc1 hui
          rw [← hvn] at hc2 hvi
          obtain ⟨w3, hw3⟩ : ∃ x, x = wy.alloc (.cells #[.int .i64 hr, .slice ua un uc, .slice va vn vc] 98) := ⟨_, rfl⟩
          have hb3 : Below wy.heap.size wy w3 := by rw [hw3]; exact below_alloc _ _
          obtain ⟨bx, hbx⟩ : ∃ x, x = wy.heap.size := ⟨_, rfl⟩
          have HX := Lib.hid (show w3.heap[bx]? = some (.cells #[.int .i64 hr, .slice ua un uc, .slice va vn vc] 98 (0, 0)) from by rw [hw3, hbx]; exact heap_alloc_new _ _)
          have HP3 := Lib.hid (HP.out.keep hb3)
          have HB3 := Lib.hid (HB.out.trans (hb3.mono (by have := HB.out.size; have := Hbase.out; omega)))
          have HC := Lib.hid (needs_any0 ((hr, A), bd) (HV.out.b3 _ HMr.out) (.slice ua un uc) (.slice va vn vc) w w3 (Hbase.out ▸ HB3.out) hui hvi)
          have Hw3 := Lib.hid hw3
          have Hbx := Lib.hid hbx
          clear hrr hun hvn hui hvi hw3 hb3 hbx hlt2 hW
          go_upto_region 10 with fail
          rw [← Hw3.out, ← Hbx.out]
          clear Hw3 hc0 hc1 hc2 hixk
          have g0 := aCell HX.out 0 rfl
          have g1 := aCell HX.out 1 rfl
          have g2 := aCell HX.out 2 rfl
          go_wp2_with fail
          refine HC.out.mono ?_
          clear HC
          rintro e w4 ⟨na, nn, nc, rfl, hsb, hb4⟩
          have Hnn := Lib.hid (show nn = (needL ((hr, A), bd)).length from hsb.len)
          have HP4 := Lib.hid (HP3.out.keep hb4)
          have HB4 := Lib.hid (HB3.out.trans (hb4.mono (by have := HB3.out.size; have := Hbase.out; omega)))
          clear hb4 HP3 HB3 hsb g0 g1 g2
          by_cases hnn : nn = 0
          · subst hnn
            have HE := Lib.hid (show needL ((hr, A), bd) = [] from List.eq_nil_of_length_eq_zero Hnn.out.symm)
            have hrr := HV.out.ats _ HMr.out
            have HN := Lib.hid (num_zero hrr (HV.out.safe _ HMr.out) HE.out)
            have HC := Lib.hid (show Calls Try.prog 121 #[.pointer (some ⟨bp, 0, none⟩), .int .i64 (i : Int), .agg #[.int .i64 0, .int .i64 0, .int .i64 0, .int .i64 0, .int .i64 0, .int .i64 0, .int .i64 0, .int .i64 0]] w4 _ from
              add_any HP4.out l HV.out.ats HV.out.b3 Hbase.out HB4.out HR.out i Hlt2.out zero8 rfl (by rw [← Hrr.out]; exact HN.out) (by
                have h1 := HG.out.room (n := 0) (by omega) (by simp) (by omega)
                exact h1.short))
            clear hrr
            go_wp2_with fail
            refine HC.out.mono ?_
            clear HC
            rintro e w5 ⟨rfl, M5, h51, h52, h53⟩
            rw [← Hrr.out] at h51
            have H5 := Lib.hid h51
            have HB5 := Lib.hid (show Below base w w5 from HB4.out.trans (h52.below (by have := HB4.out.size; have := Hbase.out; omega) HP4.out.ge))
            have HG5 := Lib.hid (show G2 l fs (addS S i ((hr, A), bd) zero8) [] (i + 1) from HG.out.adds HV.out.ats HAt.out (HV.out.b3 _ HMr.out) (ms := [zero8]) (fun m hm => by rw [List.mem_singleton] at hm; subst hm; exact HN.out) (x := 1) (by simp))
            have HZ5 := Lib.hid (show Zer l (addS S i ((hr, A), bd) zero8) (i + 1) from fun k' r h1 h2 h3 => by
              rw [addS_I]
              by_cases e : k' = i
              · subst e
                rw [HAt.out] at h2
                injection h2 with h2
                subst h2
                exact List.mem_append_right _ (by simp)
              · exact List.mem_append_left _ (HZ.out k' r (by omega) h2 h3))
            clear h51 h52 h53 HP4 HB4
            go_wp2_with fail
            go_roundw
            case rel => exact ⟨i + 1, _, M5, _, by go_num, by omega, H5.out, HB5.out, HG5.out, HZ5.out⟩
            case measure => simp [intOf]; omega
          · have hne : ((nn : Int) == 0) = false := by simp; omega
            have HZ5 := Lib.hid (show Zer l S (i + 1) from fun k' r h1 h2 h3 => by
              by_cases e : k' = i
              · subst e
                rw [HAt.out] at h2
                injection h2 with h2
                subst h2
                rw [h3] at Hnn
                exact absurd Hnn.out hnn
              · exact HZ.out k' r (by omega) h2 h3)
            have HG5 := Lib.hid (HG.out.up (Nat.le_succ i))
            go_wp2_with fail
            go_roundw
            case rel => exact ⟨i + 1, bnd, M, S, by go_num, by omega, HP4.out, HB4.out, HG5.out, HZ5.out⟩
            case measure => simp [intOf]; omega
        · obtain rfl : n = i := by omega
          have HG2 := Lib.hid (show G2 l fs S [] (10 + ([] : List Int).length * 2222640) from HG.out.up (by simp; omega))
          have HFu := Lib.hid (show Full l S [] from Full.start HV.out.ats HV.out.safe fun k r h1 h2 => HZ.out k r (by rw [Hn.out]; exact (List.getElem?_eq_some_iff.1 h1).1) h1 h2)
          clear HG HZ
          go_wp2_with fail
          go_loopw [10] (fun _ wr => ∃ (bnd : Nat) (M : PMem) (S : PSt) (Q : List Int), PG base bnd wr bp (.slice a n cap) M S ∧ Below base w wr ∧ G2 l fs S Q (10 + Q.length * 2222640) ∧ Full l S Q) (fun _ wr => 294 - k6 wr bp)
          case atStart => exact ⟨bnd, M, S, [], HP.out, HB.out, HG2.out, HFu.out⟩
          case round =>
            clear HP HB HG2 HFu
            clear S M bnd
            generalize wr = wz at *
            obtain ⟨bnd, M, S, Q, hP, hB, hG, hF⟩ := hrel
            have HP := Lib.hid hP
            have HB := Lib.hid hB
            have HG := Lib.hid hG
            have HFu := Lib.hid hF
            have HK6 := Lib.hid (k6_eq hP hG.gi)
            clear hP hB hG hF
            have hq := HP.out.rows 303 row303
            obtain ⟨qa, qc, hqv⟩ := hq.slice
            rw [hqv] at hq
            have g303 := HP.out.cellR row303
            rw [hqv] at g303
            have Hqv := Lib.hid hqv
            have Hgl := Lib.hid (gi_len HG.out.gi)
            cases hqs : S.R 303 with
            | nil =>
              rw [hqs] at g303
              simp only [List.length_nil] at g303
              have HGd := Lib.hid (gd_of HG.out.gi hqs HG.out.clo HFu.out HG.out.giv (by have := HG.out.le; have := Hgl.out; omega))
              have HPe := Lib.hid (show PG base wz.heap.size wz bp (.slice a n cap) M S from HP.out.up HP.out.bl (Nat.le_refl _))
              clear hq hqv hqs
              go_wp2_with fail
              go_ret
              exact ⟨bp, M, S, rfl, HPe.out, HGd.out, HB.out⟩
            | cons c q =>
              have HKc := Lib.hid (show KOk c from by
                obtain ⟨f, hf, e⟩ := HG.out.gi.ok c (by rw [hqs]; simp)
                rw [← e]; exact kok_pcd hf)
              have HGp := Lib.hid (HG.out.pop hqs)
              have HQl := Lib.hid (show Q.length < 294 from by have := Hgl.out; rw [hqs, List.length_cons] at this; omega)
              rw [hqs] at g303 hq Hqv
              obtain ⟨g, off3, hqa, _, hcell, htl, htl1⟩ := hq.tail
              subst hqa
              obtain ⟨qn, hqn⟩ : ∃ x, x = (c :: q).length := ⟨_, rfl⟩
              have hqn0 : 0 < qn := by rw [hqn]; simp
              rw [← hqn] at g303 Hqv htl
              have hixq := run_ix (P := Try.prog) (t := 23) (a := some ⟨g, off3, none⟩) (len := qn) (cap := qc) (b := g) (off := off3) (s := 1) Try.underlying23 (by intro w; kernel_rfl) (fun _ => rfl)
              have hix0 : ∀ w, _ := fun w => hixq 0 w hqn0
              have Htl := Lib.hid htl
              have Htl1 := Lib.hid htl1
              have Hqn := Lib.hid hqn
              have hqc : qn ≤ qc := by
                have := HP.out.rows 303 row303
                rw [Hqv.out] at this
                exact oq_cap this
              have hqn2 : qn ≤ 294 := by have := Hgl.out; rw [hqs, ← hqn] at this; omega
              clear hqs hq hqv htl htl1 hqn hixq
              go_upto_region 15 with fail
              have hfr := HP.out.frozen 303
              go_cut [] (fun wc => ∃ v', wc = wz.setCell ⟨bp, 303, none⟩ v' ∧ OQ base wz v' q ∧ v'.ownBlock = some g)
              case first =>
                have hq1 : (1 : Int) ≤ (qn : Int) := by omega
                by_cases hc1 : qc = 1
                · obtain ⟨e1, e2⟩ := Htl1.out hc1
                  have He2 := Lib.hid e2
                  clear e1 e2
                  subst hc1
                  obtain rfl : qn = 1 := by omega
                  go_wp2_with fail
                  go_meet
                  exact ⟨_, rfl, He2.out, rfl⟩
                · go_wp2_with fail
                  go_meet
                  exact ⟨_, rfl, Htl.out, rfl⟩
              case rest =>
                generalize wc = wb at *
                obtain ⟨v', hwc, ho, hv9⟩ := hcut
                have hpt := HP.out.put row303 (w' := wz) ⟨rfl, rfl, rfl, Nat.le_refl _, fun _ _ _ => rfl⟩ ho (.inl (by rw [Hqv.out, hv9]; rfl))
                rw [← hwc] at hpt
                have HPt := Lib.hid hpt
                clear hpt ho hv9 hwc g303 hcell hix0 hfr Htl Htl1
                have HC := Lib.hid (relOf_any c HKc.out wb)
                obtain ⟨tn, htn⟩ : ∃ tn : Nat, c / 49 = (tn : Int) := ⟨(c / 49).toNat, by have := HKc.out; unfold KOk at this; omega⟩
                have htn6 : (tn : Int) < 6 := by have := HKc.out; unfold KOk at this; omega
                have htn7 : tn < 6 := by omega
                rw [htn] at HC
                have Htn := Lib.hid htn
                clear htn
                go_wp2_with fail
                refine HC.out.mono ?_
                clear HC
                rintro e ws ⟨rfl, hws⟩
                obtain rfl : wb = ws := hws.symm
                go_upto_region 17 with fail
                go_cut [] (fun wc => ∃ M2, PG base bnd wc bp (.slice a n cap) M2 (popS S c q) ∧ Mv wb wc (Lv bp { M with v := upd M.v 303 v' }) (Lv bp M2))
                case first =>
                  have HP0 := Lib.hid (HPt.out.1.keep ((Below.refl wb.heap.size wb).drew))
                  have HM0 := Lib.hid (show Mv wb wb.drew (Lv bp { M with v := upd M.v 303 v' }) (Lv bp { M with v := upd M.v 303 v' }) from Mv.of_below (Below.refl _ _).drew)
                  have Hrow := Lib.hid (show rowJ (297 + tn) from .inr ⟨by omega, by omega⟩)
                  have HS0 := Lib.hid (show True from trivial)
                  obtain ⟨ya, yn, yc, hy⟩ := oq_form (HPt.out.1.rows _ Hrow.out)
                  have Hy := Lib.hid hy
                  have HLk := Lib.hid (show (upd S.R 303 q (297 + tn)).length ≤ 10000000000 from by
                    rw [upd_other _ _ (by omega)]
                    have h1 := HG.out.rl (297 + tn)
                    have h2 := HG.out.le
                    have h3 := HQl.out
                    omega)
                  clear hy
                  refine wp_region_held (S := fun _ => True) wideK ?_
                  change wpAnyH _ _ _ _ _ _ _ _ (World.drew _)
                  generalize wb.drew = wd0 at *
                  refine wpAnyH_take (i := 0) (v := ?_) rfl (by kernel_rfl) (by kernel_rfl) (by kernel_rfl) (fun _ _ _ h => h) (Or.inl ⟨by rfl, ?_⟩) HS0.out ?_
                  rotate_left
                  focus (intro w hS; clear hS; first | (go_simp; done) | (go_simp; with_reducible rfl))
                  simp only [Act.put, List.getElem_toArray, List.getElem_cons_zero, List.setIfInBounds_toArray, List.set_cons_zero, List.set_cons_succ]
                  refine wpAnyH_take (i := 1) (v := ?_) rfl (by kernel_rfl) (by kernel_rfl) (by kernel_rfl) (fun _ _ _ h => h) (Or.inl ⟨by rfl, ?_⟩) HS0.out ?_
                  rotate_left
                  focus (intro w hS; clear hS; first | (go_simp; done) | (go_simp; with_reducible rfl))
                  simp only [Act.put, List.getElem_toArray, List.getElem_cons_zero, List.getElem_cons_succ, List.setIfInBounds_toArray, List.set_cons_zero, List.set_cons_succ]
                  refine wpAnyH_take (i := 2) (v := ?_) rfl (by kernel_rfl) (by kernel_rfl) (by kernel_rfl) (fun _ _ _ h => h) (Or.inl ⟨by rfl, ?_⟩) HS0.out ?_
                  rotate_left
                  focus (intro w hS; clear hS; first | (go_simp; done) | (go_simp; with_reducible rfl))
                  simp only [Act.put, List.getElem_toArray, List.getElem_cons_zero, List.getElem_cons_succ, List.setIfInBounds_toArray, List.set_cons_zero, List.set_cons_succ]
                  refine wpAnyH_take (i := 3) (v := ?_) rfl (by kernel_rfl) (by kernel_rfl) (by kernel_rfl) (fun _ _ _ h => h) (Or.inl ⟨by rfl, ?_⟩) HS0.out ?_
                  rotate_left
                  focus (intro w hS; clear hS; first | (go_simp; done) | (go_simp; with_reducible rfl))
                  simp only [Act.put, List.getElem_toArray, List.getElem_cons_zero, List.getElem_cons_succ, List.setIfInBounds_toArray, List.set_cons_zero, List.set_cons_succ]
                  refine wpAnyH_take (i := 4) (v := ?_) rfl (by kernel_rfl) (by kernel_rfl) (by kernel_rfl) (fun _ _ _ h => h) (Or.inl ⟨by rfl, ?_⟩) HS0.out ?_
                  rotate_left
                  focus (intro w hS; clear hS; first | (go_simp; done) | (go_simp; with_reducible rfl))
                  simp only [Act.put, List.getElem_toArray, List.getElem_cons_zero, List.getElem_cons_succ, List.setIfInBounds_toArray, List.set_cons_zero, List.set_cons_succ]
                  refine wpAnyH_take (i := 5) (v := ?_) rfl (by kernel_rfl) (by kernel_rfl) (by kernel_rfl) (fun _ _ _ h => h) (Or.inl ⟨by rfl, ?_⟩) HS0.out ?_
                  rotate_left
                  focus (intro w hS; clear hS; first | (go_simp; done) | (go_simp; with_reducible rfl))
                  simp only [Act.put, List.getElem_toArray, List.getElem_cons_zero, List.getElem_cons_succ, List.setIfInBounds_toArray, List.set_cons_zero, List.set_cons_succ]
                  refine wpAnyH_take (i := 6) (v := ?_) rfl (by kernel_rfl) (by kernel_rfl) (by kernel_rfl) (fun _ _ _ h => h) (Or.inl ⟨by rfl, ?_⟩) HS0.out ?_
                  rotate_left
                  focus (intro w hS; clear hS; first | (go_simp; done) | (go_simp; with_reducible rfl))
                  simp only [Act.put, List.getElem_toArray, List.getElem_cons_zero, List.getElem_cons_succ, List.setIfInBounds_toArray, List.set_cons_zero, List.set_cons_succ]
                  refine wpAnyH_take (i := 8) (v := ?_) rfl (by kernel_rfl) (by kernel_rfl) (by kernel_rfl) (fun _ _ _ h => h) (Or.inl ⟨by rfl, ?_⟩) HS0.out ?_
                  rotate_left
                  focus (intro w hS; clear hS; first | (go_simp; done) | (go_simp; with_reducible rfl))
                  simp only [Act.put, List.getElem_toArray, List.getElem_cons_zero, List.getElem_cons_succ, List.setIfInBounds_toArray, List.set_cons_zero, List.set_cons_succ]
                  refine wpAnyH_take (i := 11) (v := ?_) rfl (by kernel_rfl) (by kernel_rfl) (by kernel_rfl) (fun _ _ _ h => h) (Or.inl ⟨by rfl, ?_⟩) HS0.out ?_
                  rotate_left
                  focus (intro w hS; clear hS; first | (go_simp; done) | (go_simp; with_reducible rfl))
                  simp only [Act.put, List.getElem_toArray, List.getElem_cons_zero, List.getElem_cons_succ, List.setIfInBounds_toArray, List.set_cons_zero, List.set_cons_succ]
                  refine wpAnyH_take (i := 12) (v := ?_) rfl (by kernel_rfl) (by kernel_rfl) (by kernel_rfl) (fun _ _ _ h => h) (Or.inl ⟨by rfl, ?_⟩) HS0.out ?_
                  rotate_left
                  focus (intro w hS; clear hS; first | (go_simp; done) | (go_simp; with_reducible rfl))
                  simp only [Act.put, List.getElem_toArray, List.getElem_cons_zero, List.getElem_cons_succ, List.setIfInBounds_toArray, List.set_cons_zero, List.set_cons_succ]
                  refine wpAnyH_ready (rs := [7, 9]) (by kernel_rfl) (by simp) ?_
                  refine RdyH.cons rfl (fun K2 hK => ?_) ?_
                  · have gu := HP0.out.cellR Hrow.out
                    rw [Hy.out] at gu
                    go_simp
                    refine hK _ _ trivial ?_
                    clear hK K2 gu
                    refine wpAnyH_ready (rs := [9]) (by kernel_rfl) (by simp) ?_
                    refine RdyH.cons rfl (fun K2 hK => ?_) RdyH.nil
                    obtain ⟨wd1, hwd⟩ : ∃ x, x = wd0.alloc (.cells #[.int .i64 c] 3) := ⟨_, rfl⟩
                    have hb : Below wd0.heap.size wd0 wd1 := by rw [hwd]; exact below_alloc _ _
                    obtain ⟨bm, hbm⟩ : ∃ x, x = wd0.heap.size := ⟨_, rfl⟩
                    have HK1 := Lib.hid (show wd1.heap[bm]? = some (.cells #[.int .i64 c] 3 (0, 0)) from by rw [hwd, hbm]; exact heap_alloc_new _ _)
                    have HP1 := Lib.hid (HP0.out.keep hb)
                    have HM1 := Lib.hid (HM0.out.trans (Mv.of_below hb))
                    go_simp
                    rw [← hwd, ← hbm]
                    clear hwd hbm hb
                    refine hK _ _ trivial ?_
                    clear hK K2
                    refine wpAnyH_ready (rs := [10]) (by kernel_rfl) (by simp) ?_
                    refine RdyH.cons rfl (fun K2 hK => ?_) RdyH.nil
                    have hq := HP1.out.rows _ Hrow.out
                    rw [Hy.out] at hq
                    have hbs : base ≤ wd1.heap.size := Nat.le_trans (HP1.out.ge bp (.inl rfl)) (Nat.le_of_lt HP1.out.bpLt)
                    refine step_app_q rfl (.tmp 76) (.tmp 78) rfl rfl hq HLk.out hbs rfl (aCell HK1.out 0 rfl) ?_
                    intro v9 wd2 h1 h2 h3
                    obtain ⟨za, zn, zc, rfl⟩ := oq_form h1
                    have hbk := (h2.block bp HP1.out.bpLt (fun e => (HP1.out.kinds Hrow.out (by rw [Hy.out]; exact e.symm)).1 rfl)).trans HP1.out.blk
                    have x1 := cell_of_row wd2 bp (297 + tn) _ _ _ hbk
                    rw [pcs_at _ _ (by omega)] at x1
                    have x2 := frozen_of_row wd2 bp (297 + tn) _ _ hbk
                    have X1 := Lib.hid x1
                    have X2 := Lib.hid x2
                    rw [← Hy.out] at h2 h3
                    have hp9 := HP1.out.put Hrow.out h2 h1 h3
                    have HP2 := Lib.hid hp9.1
                    have HM2 := Lib.hid (HM1.out.trans hp9.2)
                    clear hp9 hbk x1 x2 h1 h2 h3 hq hbs
                    refine hK _ _ trivial ?_
                    clear hK K2
                    refine wpAnyH_take (i := 13) (v := ?_) rfl (by kernel_rfl) (by kernel_rfl) (by kernel_rfl) (fun _ _ _ h => h) (Or.inl ⟨by rfl, ?_⟩) HS0.out ?_
                    rotate_left
                    focus (intro w hS; clear hS; first | (go_simp; done) | (go_simp; with_reducible rfl))
                    simp only [Act.put, List.getElem_toArray, List.getElem_cons_zero, List.getElem_cons_succ, List.setIfInBounds_toArray, List.set_cons_zero, List.set_cons_succ]
                    refine wpAnyH_ready (rs := [14]) (by kernel_rfl) (by simp) ?_
                    refine RdyH.cons rfl (fun K2 hK => ?_) RdyH.nil
                    have x1 := X1.out
                    have x2 := X2.out
                    go_simp
                    refine hK _ _ trivial ?_
                    clear hK K2 x1 x2
                    refine wpAnyH_done (by kernel_rfl) ?_ _
                    go_wp2_with fail
                    go_meet
                    refine ⟨_, ?_, HM2.out⟩
                    have e1 : popS S c q = ⟨S.I, upd (upd S.R 303 q) (297 + tn) (upd S.R 303 q (297 + tn) ++ [c]), S.rch⟩ := by
                      unfold popS
                      rw [Htn.out, Int.toNat_natCast, upd_other (j := 303) _ _ (show 297 + tn ≠ 303 by omega)]
                    rw [e1]
                    exact HP2.out
                  · refine RdyH.cons rfl (fun K2 hK => ?_) RdyH.nil
                    obtain ⟨wd1, hwd⟩ : ∃ x, x = wd0.alloc (.cells #[.int .i64 c] 3) := ⟨_, rfl⟩
                    have hb : Below wd0.heap.size wd0 wd1 := by rw [hwd]; exact below_alloc _ _
                    obtain ⟨bm, hbm⟩ : ∃ x, x = wd0.heap.size := ⟨_, rfl⟩
                    have HK1 := Lib.hid (show wd1.heap[bm]? = some (.cells #[.int .i64 c] 3 (0, 0)) from by rw [hwd, hbm]; exact heap_alloc_new _ _)
                    have HP1 := Lib.hid (HP0.out.keep hb)
                    have HM1 := Lib.hid (HM0.out.trans (Mv.of_below hb))
                    go_simp
                    rw [← hwd, ← hbm]
                    clear hwd hbm hb
                    refine hK _ _ trivial ?_
                    clear hK K2
                    refine wpAnyH_ready (rs := [7]) (by kernel_rfl) (by simp) ?_
                    refine RdyH.cons rfl (fun K2 hK => ?_) RdyH.nil
                    have gu := HP1.out.cellR Hrow.out
                    rw [Hy.out] at gu
                    go_simp
                    refine hK _ _ trivial ?_
                    clear hK K2 gu
                    refine wpAnyH_ready (rs := [10]) (by kernel_rfl) (by simp) ?_
                    refine RdyH.cons rfl (fun K2 hK => ?_) RdyH.nil
                    have hq := HP1.out.rows _ Hrow.out
                    rw [Hy.out] at hq
                    have hbs : base ≤ wd1.heap.size := Nat.le_trans (HP1.out.ge bp (.inl rfl)) (Nat.le_of_lt HP1.out.bpLt)
                    refine step_app_q rfl (.tmp 76) (.tmp 78) rfl rfl hq HLk.out hbs rfl (aCell HK1.out 0 rfl) ?_
                    intro v9 wd2 h1 h2 h3
                    obtain ⟨za, zn, zc, rfl⟩ := oq_form h1
                    have hbk := (h2.block bp HP1.out.bpLt (fun e => (HP1.out.kinds Hrow.out (by rw [Hy.out]; exact e.symm)).1 rfl)).trans HP1.out.blk
                    have x1 := cell_of_row wd2 bp (297 + tn) _ _ _ hbk
                    rw [pcs_at _ _ (by omega)] at x1
                    have x2 := frozen_of_row wd2 bp (297 + tn) _ _ hbk
                    have X1 := Lib.hid x1
                    have X2 := Lib.hid x2
                    rw [← Hy.out] at h2 h3
                    have hp9 := HP1.out.put Hrow.out h2 h1 h3
                    have HP2 := Lib.hid hp9.1
                    have HM2 := Lib.hid (HM1.out.trans hp9.2)
                    clear hp9 hbk x1 x2 h1 h2 h3 hq hbs
                    refine hK _ _ trivial ?_
                    clear hK K2
                    refine wpAnyH_take (i := 13) (v := ?_) rfl (by kernel_rfl) (by kernel_rfl) (by kernel_rfl) (fun _ _ _ h => h) (Or.inl ⟨by rfl, ?_⟩) HS0.out ?_
                    rotate_left
                    focus (intro w hS; clear hS; first | (go_simp; done) | (go_simp; with_reducible rfl))
                    simp only [Act.put, List.getElem_toArray, List.getElem_cons_zero, List.getElem_cons_succ, List.setIfInBounds_toArray, List.set_cons_zero, List.set_cons_succ]
                    refine wpAnyH_ready (rs := [14]) (by kernel_rfl) (by simp) ?_
                    refine RdyH.cons rfl (fun K2 hK => ?_) RdyH.nil
                    have x1 := X1.out
                    have x2 := X2.out
                    go_simp
                    refine hK _ _ trivial ?_
                    clear hK K2 x1 x2
                    refine wpAnyH_done (by kernel_rfl) ?_ _
                    go_wp2_with fail
                    go_meet
                    refine ⟨_, ?_, HM2.out⟩
                    have e1 : popS S c q = ⟨S.I, upd (upd S.R 303 q) (297 + tn) (upd S.R 303 q (297 + tn) ++ [c]), S.rch⟩ := by
                      unfold popS
                      rw [Htn.out, Int.toNat_natCast, upd_other (j := 303) _ _ (show 297 + tn ≠ 303 by omega)]
                    rw [e1]
                    exact HP2.out
                case rest =>
                  obtain ⟨M2, h21, h22⟩ := hcut
                  have HP5 := Lib.hid h21
                  have HB5 := Lib.hid (show Below base w wc from HB.out.trans ((HPt.out.2.trans h22).below (by have := HB.out.size; have := Hbase.out; omega) HP.out.ge))
                  have HF5 := Lib.hid (show Full l (popS S c q) Q from HFu.out)
                  have HQn := Lib.hid (show (Q ++ [c]).length ≤ 294 from by rw [List.length_append]; have := HQl.out; simp; omega)
                  clear h21 h22 HPt HP HB HG HFu htn6 htn7 Htn Hqv
                  generalize hSp : popS S c q = Sp at *
                  clear hSp
                  go_wp2_with fail
                  go_loopw [85] (fun vi wr => ∃ (k bnd : Nat) (M : PMem) (S : PSt), vi = .int .i64 k ∧ k ≤ n ∧ PG base bnd wr bp (.slice a n cap) M S ∧ Below base w wr ∧ G2 l fs S (Q ++ [c]) (10 + Q.length * 2222640 + k * 222264) ∧ Full l S Q ∧ JAll l S (knK (Q ++ [c])) c k) (fun vi _ => n - (intOf vi).toNat)
                  case atStart => exact ⟨0, _, M2, Sp, rfl, Nat.zero_le _, HP5.out, HB5.out, HGp.out.up (by omega), HF5.out, fun k' r h => by omega⟩
                  case round =>
                    clear HP5 HB5 HGp HF5
                    generalize wr = wy at *
                    obtain ⟨i, bnd, M, S, rfl, hi, hP, hB, hG, hF, hJ⟩ := hrel
                    have HP := Lib.hid hP
                    have HB := Lib.hid hB
                    have HG := Lib.hid hG
                    have HFu := Lib.hid hF
                    have HJ := Lib.hid hJ
                    clear hP hB hG hF hJ
                    by_cases hlt : i < n
                    · obtain ⟨ua, uc, va, vc, hc0, hc1, hc2, hui, hvi⟩ := Hc.out i hlt
                      have hW : Below w.heap.size w wy := Hbase.out ▸ HB.out
                      have hc0 := Below.keep hW hc0
                      have hc1 := Below.keep hW hc1
                      have hc2 := Below.keep hW hc2
                      have hixk := Hix.out i
                      have hlt2 : i < l.length := by rw [← Hn.out]; exact hlt
                      have HMr := Lib.hid (show rR l i ∈ l from by rw [rR_get hlt2]; exact List.getElem_mem hlt2)
                      have HAt := Lib.hid (rR_at hlt2)
                      have Hlt2 := Lib.hid hlt2
                      obtain ⟨⟨⟨hr, A⟩, bd⟩, hrr⟩ : ∃ x, x = rR l i := ⟨_, rfl⟩
                      have Hrr := Lib.hid hrr
                      rw [← hrr] at hc0 hc1 hc2 hui hvi HMr HAt
                      simp only at hc0 hc1 hc2 hui hvi
                      obtain ⟨un, hun⟩ : ∃ x, x = A.length := ⟨_, rfl⟩
                      obtain ⟨vn, hvn⟩ : ∃ x, x = bd.length := ⟨_, rfl⟩
                      rw [← hun] at hc1 hui
                      rw [← hvn] at hc2 hvi
                      obtain ⟨w3, hw3⟩ : ∃ x, x = wy.alloc (.cells #[.int .i64 hr, .slice ua un uc, .slice va vn vc] 98) := ⟨_, rfl⟩
                      have hb3 : Below wy.heap.size wy w3 := by rw [hw3]; exact below_alloc _ _
                      obtain ⟨bx, hbx⟩ : ∃ x, x = wy.heap.size := ⟨_, rfl⟩
                      have HX := Lib.hid (show w3.heap[bx]? = some (.cells #[.int .i64 hr, .slice ua un uc, .slice va vn vc] 98 (0, 0)) from by rw [hw3, hbx]; exact heap_alloc_new _ _)
                      have HP3 := Lib.hid (HP.out.keep hb3)
                      have HB3 := Lib.hid (HB.out.trans (hb3.mono (by have := HB.out.size; have := Hbase.out; omega)))
                      have HC := Lib.hid (needs_any0 ((hr, A), bd) (HV.out.b3 _ HMr.out) (.slice ua un uc) (.slice va vn vc) w w3 (Hbase.out ▸ HB3.out) hui hvi)
                      have Hw3 := Lib.hid hw3
                      have Hbx := Lib.hid hbx
                      clear hrr hun hvn hui hvi hw3 hb3 hbx hlt2 hW
                      go_upto_region 21 with fail
                      rw [← Hw3.out, ← Hbx.out]
                      clear Hw3 hc0 hc1 hc2 hixk
                      have g0 := aCell HX.out 0 rfl
                      have g1 := aCell HX.out 1 rfl
                      have g2 := aCell HX.out 2 rfl
                      go_wp2_with fail
                      refine HC.out.mono ?_
                      clear HC
                      rintro e w4 ⟨na, nn, nc, rfl, hsb, hb4⟩
                      have HP4 := Lib.hid (HP3.out.keep hb4)
                      have HB4 := Lib.hid (HB3.out.trans (hb4.mono (by have := HB3.out.size; have := Hbase.out; omega)))
                      have HLj := Lib.hid (show LitsJ w w4 (Lv bp M) (.slice na nn nc) (needL ((hr, A), bd)) from ⟨hsb.base0, fun k hk e => by
                        have h1 := (hsb.ge hk)
                        have h2 := HP3.out.lvLt e
                        omega⟩)
                      have Hnn := Lib.hid (show nn = (needL ((hr, A), bd)).length from hsb.len)
                      clear hb4 HP3 HB3 hsb g0 g1 g2
                      clear HP HB
                      go_wp2_with fail
                      go_loopw [94] (fun vi wr => ∃ (p bnd : Nat) (M : PMem) (S : PSt), vi = .int .i64 p ∧ p ≤ nn ∧ PG base bnd wr bp (.slice a n cap) M S ∧ Below base w wr ∧ LitsJ w wr (Lv bp M) (.slice na nn nc) (needL ((hr, A), bd)) ∧ G2 l fs S (Q ++ [c]) (10 + Q.length * 2222640 + i * 222264 + p * 74088) ∧ Full l S Q ∧ JAll l S (knK (Q ++ [c])) c i ∧ ∀ p', p' < p → JDone S (knK (Q ++ [c])) c i ((hr, A), bd) p') (fun vi _ => nn - (intOf vi).toNat)
                      case atStart => exact ⟨0, bnd, M, S, rfl, Nat.zero_le _, HP4.out, HB4.out, HLj.out, HG.out.up (by omega), HFu.out, HJ.out, fun p' h => by omega⟩
                      case round =>
                        clear HP4 HB4 HLj HG HFu HJ
                        clear S M bnd
                        generalize wr = wv at *
                        obtain ⟨p, bnd, M, S, rfl, hp, hP, hB, hL, hG, hF, hJ, hD⟩ := hrel
                        have HP := Lib.hid hP
                        have HB := Lib.hid hB
                        have HL := Lib.hid hL
                        have HG := Lib.hid hG
                        have HFu := Lib.hid hF
                        have HJ := Lib.hid hJ
                        have HD := Lib.hid hD
                        clear hP hB hL hG hF hJ hD
                        have hn3 : nn ≤ 3 := by rw [Hnn.out]; exact Nat.le_trans (needL_len _) (HV.out.b3 _ HMr.out)
                        by_cases hlp : p < nn
                        · have hj74 := join_74088 HG.out.gi p c (HV.out.b3 _ HMr.out)
                          have HNu := Lib.hid (show ∀ x, x ∈ joinM (knK (Q ++ [c])) p c (needL ((hr, A), bd)) 0 zero8 → Num6 ((hr, A), bd) x from fun x hx => joinM_num (knK_v HG.out.gi) (HV.out.ats _ HMr.out) (HV.out.safe _ HMr.out) hx)
                          have hrm := HG.out.room (n := (joinM (knK (Q ++ [c])) p c (needL ((hr, A), bd)) 0 zero8).length) (by have := HQl.out; omega) HQn.out hj74
                          have HC := Lib.hid (show Calls Try.prog 123 #[.pointer (some ⟨bp, 0, none⟩), .int .i64 (i : Int), .slice na nn nc, .int .i64 (p : Int), .int .i64 c, .int .i64 0, .agg #[.int .i64 0, .int .i64 0, .int .i64 0, .int .i64 0, .int .i64 0, .int .i64 0, .int .i64 0, .int .i64 0]] wv (fun e w' => PgE base w'.heap.size wv w' bp (.slice a n cap) M (addsS S i ((hr, A), bd) (joinM (knK (Q ++ [c])) p c (needL ((hr, A), bd)) 0 zero8)) e) from by
                            have h := join_any l HV.out.ats HV.out.b3 (.slice a n cap) HR.out i Hlt2.out bp (needL ((hr, A), bd)) (fun x hx => by obtain ⟨y, hy, _, e⟩ := mem_needL.1 hx; rw [← e]; exact (HV.out.ats _ HMr.out).2 y hy) (.slice na nn nc) (knK (Q ++ [c])) (knK_v HG.out.gi) p c base Hbase.out
                              (needL ((hr, A), bd)).length 0 (Nat.zero_add _) zero8 rfl (by rw [← Hrr.out]; exact HNu.out) bnd wv M S HP.out HB.out HL.out HG.out.gi.kn hrm
                            rw [← Hrr.out] at h
                            exact h)
                          have hj74 := Lib.hid hj74
                          clear hrm
                          go_wp2_with fail
                          refine HC.out.mono ?_
                          clear HC
                          rintro e w5 ⟨rfl, M5, h51, h52, h53⟩
                          have H5 := Lib.hid h51
                          have HB5 := Lib.hid (show Below base w w5 from HB.out.trans (h52.below (by have := HB.out.size; have := Hbase.out; omega) HP.out.ge))
                          have HL5 := Lib.hid (HL.out.move h52)
                          have HG5 := Lib.hid (show G2 l fs _ (Q ++ [c]) (10 + Q.length * 2222640 + i * 222264 + (p + 1) * 74088) from (HG.out.adds HV.out.ats HAt.out (HV.out.b3 _ HMr.out) HNu.out hj74.out).up (by omega))
                          have HF5 := Lib.hid (HFu.out.more i ((hr, A), bd) (joinM (knK (Q ++ [c])) p c (needL ((hr, A), bd)) 0 zero8))
                          have HJ5 := Lib.hid (HJ.out.more i ((hr, A), bd) (joinM (knK (Q ++ [c])) p c (needL ((hr, A), bd)) 0 zero8))
                          have HD5 := Lib.hid (show ∀ p', p' < p + 1 → JDone (addsS S i ((hr, A), bd) (joinM (knK (Q ++ [c])) p c (needL ((hr, A), bd)) 0 zero8)) (knK (Q ++ [c])) c i ((hr, A), bd) p' from fun p' h => by
                            by_cases e : p' = p
                            · subst e; exact jdone_new S (knK (Q ++ [c])) c i p' ((hr, A), bd)
                            · exact (HD.out p' (by omega)).more _ _ _)
                          clear h51 h52 h53 HP HB HL HG HFu HJ HD hj74 HNu
                          go_wp2_with fail
                          go_roundw
                          case rel => exact ⟨p + 1, _, M5, _, by go_num, by omega, H5.out, HB5.out, HL5.out, HG5.out, HF5.out, HJ5.out, HD5.out⟩
                          case measure => simp [intOf]; omega
                        · obtain rfl : nn = p := by omega
                          have HJ9 := Lib.hid (HJ.out.next HAt.out fun p' hp' => HD.out p' (by rw [Hnn.out]; exact hp'))
                          have HG9 := Lib.hid (show G2 l fs S (Q ++ [c]) (10 + Q.length * 2222640 + (i + 1) * 222264) from HG.out.up (by omega))
                          clear HG HJ HD
                          go_wp2_with fail
                          go_roundw
                          case rel => exact ⟨i + 1, bnd, M, S, by go_num, by omega, HP.out, HB.out, HG9.out, HFu.out, HJ9.out⟩
                          case measure => simp [intOf]; omega
                    · obtain rfl : n = i := by omega
                      have HFn := Lib.hid (show Full l S (Q ++ [c]) from HFu.out.step HV.out.ats HV.out.safe (K := knK (Q ++ [c])) (fun t _ => rfl) fun k r h1 => HJ.out k r (by rw [Hn.out]; exact (List.getElem?_eq_some_iff.1 h1).1) h1)
                      have HG3 := Lib.hid (show G2 l fs S (Q ++ [c]) (10 + (Q ++ [c]).length * 2222640) from HG.out.up (by rw [List.length_append, List.length_singleton]; omega))
                      have HK9 := Lib.hid (k6_eq HP.out HG3.out.gi)
                      clear HG HJ HFu
                      go_wp2_with fail
                      go_roundw
                      case rel => exact ⟨bnd, M, S, Q ++ [c], HP.out, HB.out, HG3.out, HFn.out⟩
                      case measure =>
                        rw [HK9.out, HK6.out, List.length_append, List.length_singleton]
                        have := HQl.out
                        omega
#print axioms ground_any
end Go.Proofs.Ythndplkjhbmfmaa
