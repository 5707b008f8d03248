/- The stable sort whole. -/
import Derived.Test.YtbnlkmblkokooaaSte
namespace Go.Proofs.Ytbnlkmblkokooaa
open Go.RowKit
open Go.Sort (PermIn SortedIn swp Ins SWO permIn_trans permIn_mono permIn_all permIn_refl swp_get swp_size swp_permIn)
theorem sym_all : ∀ k, SymOk k
  | 0 => fun _ _ _ _ _ _ _ _ _ _ _ _ _ _ _ _ _ _ _ _ _ h => absurd h (Nat.not_lt_zero _)
  | k + 1 => fun s g blk off cap a m b d w hR hg hgb hcell hb hl hr hst hel ham hmb hk => by
    by_cases e1 : m = a + 1
    · exact sym_left s g blk off cap a m b d w hR hg hgb hcell hb hl hr hst hel e1 hmb
    · by_cases e2 : b = m + 1
      · exact sym_right s g blk off cap a m b d w hR hg hgb hcell hb hl hr hst hel e2 (by omega)
      · exact sym_mid k (sym_all k) s g blk off cap a m b d w hR hg hgb hcell hb hl hr hst hel (by omega) (by omega) (by omega)
#print axioms sym_all
theorem inB_id {a b : Nat} {d : Array Int} (h : ∀ t, a ≤ t → t < b → d[t]! = (t : Int)) : InB a b d := fun t h1 h2 => by rw [h t h1 h2]; omega
/-- the first loop's state -/
def St1 (K : Int → Int) (w : World) (blk off N : Nat) (d : Array Int) (j : Nat) (wr : World) : Prop := ∃ dk, Rn w blk off dk wr ∧ PermIn 0 N d dk ∧ dk.size = N ∧ Blks K 20 0 (j * 20) dk ∧ ∀ t, j * 20 ≤ t → t < N → dk[t]! = (t : Int)
def St2 (K : Int → Int) (w : World) (blk off N : Nat) (d : Array Int) (bs : Nat) (wr : World) : Prop := ∃ dk, Rn w blk off dk wr ∧ PermIn 0 N d dk ∧ dk.size = N ∧ Blks K bs 0 N dk
def St3 (K : Int → Int) (w : World) (blk off N : Nat) (d : Array Int) (bs A : Nat) (wr : World) : Prop := ∃ dk, Rn w blk off dk wr ∧ PermIn 0 N d dk ∧ dk.size = N ∧ Blks K (bs * 2) 0 A dk ∧ Blks K bs A N dk
/-- an insertion sort of the next block -/
theorem st1_ins {s : ByteArray} {g blk off cap N j e : Nat} {d : Array Int} {w wr : World} (hR : RowN w blk off d) (hN : N = d.size) (hg : g < w.heap.size) (hgb : g ≠ blk) (hcell : w.cell? ⟨g, 0, none⟩ = some (.string s)) (hNs : N ≤ s.size) (h : St1 (keyS s) w blk off N d j wr) (he1 : j * 20 ≤ e) (he2 : e ≤ j * 20 + 20) (he3 : e ≤ N) :
    Calls Try.prog 128 #[.slice (some ⟨blk, off, none⟩) N cap, .int .i64 ((j * 20 : Nat) : Int), .int .i64 e, .func (.func 83) #[] #[.pointer (some ⟨g, 0, none⟩)]] wr fun x w' => x = .returned (.tuple #[]) ∧ ∃ dk, Rn w blk off dk w' ∧ PermIn 0 N d dk ∧ dk.size = N ∧ Blks (keyS s) 20 0 e dk ∧ ∀ t, e ≤ t → t < N → dk[t]! = (t : Int) := by
  obtain ⟨dk, h1, h2, h3, h4, h5⟩ := h
  have hc := insertion_n s (.func (.func 83) #[] #[.pointer (some ⟨g, 0, none⟩)]) blk off cap (j * 20) e dk wr (Rn.row hR h1 (by rw [h3, hN])) ⟨g, rfl, by
      have : wr.cell? ⟨g, 0, none⟩ = some (.string s) := by rw [h1.other hg hgb]; exact hcell
      exact cell_lt this, by rw [h1.other hg hgb]; exact hcell⟩ (fun g' x y e => by
      injection e with _ _ e
      have e := congrArg (fun a : Array Value => a[0]?) e
      simp at e
      rw [← e]; exact hgb) he1 (by rw [h3]; exact he3) (by omega) (fun t g1 g2 => h5 t g1 (by omega))
  rw [h3] at hc
  refine hc.mono ?_
  rintro x w' ⟨rfl, d', k1, k2⟩
  refine ⟨rfl, d', Rn.trans hR h1 k1 k2.1.1, permIn_trans _ _ _ _ _ h2 (permIn_mono _ _ _ _ _ _ (Nat.zero_le _) he3 (by rw [h3]; exact Nat.le_refl _) k2.1), by rw [k2.1.1]; exact h3, ?_, fun t g1 g2 => by rw [k2.1.2.1 t (Or.inr g1)]; exact h5 t (by omega) g2⟩
  by_cases hlt : j * 20 < e
  · refine blks_snoc (j := j) (by omega) rfl hlt he2 (blks_keep h4 k2.1 (Or.inl (Nat.le_refl _))) ⟨inB_perm (inB_id fun t g1 g2 => h5 t g1 (by omega)) k2.1 (by rw [h3]; exact he3) (Nat.le_refl _) (Nat.le_refl _), k2.2⟩
  · have : e = j * 20 := by omega
    subst this
    exact blks_keep h4 k2.1 (Or.inl (Nat.le_refl _))
#print axioms st1_ins
/-- a merge of two blocks, the second one perhaps shorter -/
theorem st3_mrg {s : ByteArray} {g blk off cap N bs j A e : Nat} {d : Array Int} {w wr : World} (hR : RowN w blk off d) (hN : N = d.size) (hg : g < w.heap.size) (hgb : g ≠ blk) (hcell : w.cell? ⟨g, 0, none⟩ = some (.string s)) (hNs : N ≤ s.size) (hN1 : N < 1000000) (hbs : 0 < bs) (hA : A = j * (bs * 2)) (h : St3 (keyS s) w blk off N d bs A wr) (he1 : A + bs < e) (he2 : e = min (A + bs * 2) N) :
    Calls Try.prog 138 #[.slice (some ⟨blk, off, none⟩) N cap, .int .i64 A, .int .i64 ((A + bs : Nat) : Int), .int .i64 e, .func (.func 83) #[] #[.pointer (some ⟨g, 0, none⟩)]] wr fun x w' => x = .returned (.tuple #[]) ∧ St3 (keyS s) w blk off N d bs e w' := by
  obtain ⟨dk, h1, h2, h3, h4, h5⟩ := h
  have g0 := h5 0 (by omega)
  have g1 := h5 1 (by omega)
  rw [Nat.zero_mul, Nat.add_zero, Nat.min_eq_left (by omega)] at g0
  rw [Nat.one_mul, show min (A + bs + bs) N = e by omega] at g1
  have hc := sym_all (e - A + 1) s g blk off cap A (A + bs) e dk wr (Rn.row hR h1 (by rw [h3, hN])) (by
      have : wr.cell? ⟨g, 0, none⟩ = some (.string s) := by rw [h1.other hg hgb]; exact hcell
      exact cell_lt this) hgb (by rw [h1.other hg hgb]; exact hcell) (by rw [h3]; omega) g0.2 g1.2 (stb_of g0.1 g1.1 (by omega)) (fun t k1 k2 => by
      have := inB_join g0.1 g1.1 (by omega) (by omega) t k1 k2
      omega) (by omega) he1 (by omega)
  rw [h3] at hc
  refine hc.mono ?_
  rintro x w' ⟨rfl, d', k1, k2⟩
  have hgood : Good (keyS s) A e d' := ⟨inB_perm (inB_join g0.1 g1.1 (by omega) (by omega)) k2.1 (by rw [h3]; omega) (Nat.le_refl _) (Nat.le_refl _), k2.2⟩
  refine ⟨rfl, d', Rn.trans hR h1 k1 k2.1.1, permIn_trans _ _ _ _ _ h2 (permIn_mono _ _ _ _ _ _ (Nat.zero_le _) (by omega) (by rw [h3]; exact Nat.le_refl _) k2.1), by rw [k2.1.1]; exact h3, blks_snoc (j := j) (by omega) hA (by omega) (by omega) (blks_keep h4 k2.1 (Or.inl (Nat.le_refl _))) hgood, ?_⟩
  by_cases hlt : A + bs * 2 ≤ N
  · have ht := blks_tail h5 2
    have e2 : A + 2 * bs = e := by omega
    rw [e2] at ht
    exact blks_keep ht k2.1 (Or.inr (Nat.le_refl _))
  · have : e = N := by omega
    subst this
    exact blks_zero _ _ _ _
#print axioms st3_mrg
set_option maxHeartbeats 4000000 in
set_option maxRecDepth 100000 in
theorem stable_n (s : ByteArray) (g blk off cap : Nat) (d : Array Int) (w : World) (hR : RowN w blk off d) (hg : g < w.heap.size) (hgb : g ≠ blk) (hcell : w.cell? ⟨g, 0, none⟩ = some (.string s)) (hNs : d.size ≤ s.size) (h0 : 0 < d.size) (hid : ∀ t, t < d.size → d[t]! = (t : Int)) :
    Calls Try.prog 115 #[.slice (some ⟨blk, off, none⟩) d.size cap, .int .i64 d.size, .func (.func 83) #[] #[.pointer (some ⟨g, 0, none⟩)]] w (StPost (keyS s) w blk off 0 d.size d) := by
  obtain ⟨N, hN⟩ : ∃ N, N = d.size := ⟨_, rfl⟩
  have hN1 : N < 1000000 := by rw [hN]; exact hR.2.2
  unfold StPost
  rw [← hN] at h0 hNs hid ⊢
  have HIns := Lib.hid (fun (j e : Nat) (wr : World) (h : St1 (keyS s) w blk off N d j wr) (a1 : j * 20 ≤ e) (a2 : e ≤ j * 20 + 20) (a3 : e ≤ N) => st1_ins (cap := cap) hR hN hg hgb hcell hNs h a1 a2 a3)
  have HMrg := Lib.hid (fun (bs j A e : Nat) (wr : World) (b0 : 0 < bs) (bA : A = j * (bs * 2)) (h : St3 (keyS s) w blk off N d bs A wr) (a1 : A + bs < e) (a2 : e = min (A + bs * 2) N) => st3_mrg (cap := cap) hR hN hg hgb hcell hNs hN1 b0 bA h a1 a2)
  have HSt := Lib.hid (show St1 (keyS s) w blk off N d 0 w from ⟨d, Rn.start hR, permIn_refl _ _ _, hN.symm, fun k hk => by omega, fun t _ ht => hid t ht⟩)
  clear hR hg hgb hcell hNs hid hN
  go_enter Try.func115, Try.ntmps115
  go_wp2_with fail
  go_loopw [7, 8] (fun va vb wr => ∃ j A : Nat, A = j * 20 ∧ va = .int .i64 A ∧ vb = .int .i64 ((A : Int) + 20) ∧ A ≤ N ∧ St1 (keyS s) w blk off N d j wr) (fun va _ _ => N - (intOf va).toNat)
  case atStart => exact ⟨0, 0, rfl, rfl, rfl, Nat.zero_le _, HSt.out⟩
  case round =>
    obtain ⟨j, A, hA, rfl, rfl, hAN, hst⟩ := hrel
    have HS := Lib.hid hst
    have HA := Lib.hid hA
    clear hst
    by_cases hlt : A + 20 ≤ N
    · obtain ⟨e, he⟩ : ∃ e, e = A + 20 := ⟨_, rfl⟩
      have HI := HIns.out j e wr HS.out (by omega) (by omega) (by omega)
      rw [← hA] at HI
      have hez : (A : Int) + 20 = (e : Int) := by omega
      have hwe : IntKind.i64.wrap ((e : Int) + 20) = (e : Int) + 20 := IntWalk.i64_in _ ⟨by omega, by omega⟩
      have heN : (e : Int) ≤ (N : Int) := by omega
      have HI2 := Lib.hid HI
      have HE := Lib.hid he
      rw [hez]
      clear hA HI he hez
      go_wp2_with fail
      refine HI2.out.mono ?_
      rintro x w' ⟨rfl, hs⟩
      have HS2 := Lib.hid (show St1 (keyS s) w blk off N d (j + 1) w' from by
        obtain ⟨dk, k1, k2, k3, k4, k5⟩ := hs
        have e1 : (j + 1) * 20 = e := by have := HA.out; have := HE.out; omega
        refine ⟨dk, k1, k2, k3, ?_, ?_⟩
        · rw [e1]; exact k4
        · rw [e1]; exact k5)
      clear hs
      go_wp2_with fail
      go_roundw
      case rel => exact ⟨j + 1, e, by have := HA.out; have := HE.out; omega, rfl, rfl, by omega, HS2.out⟩
      case measure => have := HE.out; simp [intOf] <;> omega
    · have HI := HIns.out j N wr HS.out (by omega) (by omega) (Nat.le_refl _)
      rw [← hA] at HI
      have hez : ¬ ((A : Int) + 20 ≤ (N : Int)) := by omega
      have HI2 := Lib.hid HI
      clear hA HI
      go_wp2_with fail
      refine HI2.out.mono ?_
      rintro x w' ⟨rfl, hs⟩
      have HS2 := Lib.hid (show St2 (keyS s) w blk off N d 20 w' from by
        obtain ⟨dk, k1, k2, k3, k4, k5⟩ := hs
        exact ⟨dk, k1, k2, k3, k4⟩)
      clear hs HI2 HS HA HIns HSt hez hlt
      go_wp2_with fail
      go_loopw [6] (fun vb wr => ∃ bs : Nat, vb = .int .i64 bs ∧ 0 < bs ∧ bs ≤ 2000000 ∧ St2 (keyS s) w blk off N d bs wr) (fun vb _ => N - (intOf vb).toNat)
      case atStart => exact ⟨20, rfl, by omega, by omega, HS2.out⟩
      case round =>
        obtain ⟨bs, rfl, hb0, hb1, hst⟩ := hrel
        have HS := Lib.hid hst
        clear hst HS2
        by_cases hlb : bs < N
        · have hw2 : IntKind.i64.wrap (2 * (bs : Int)) = ((bs * 2 : Nat) : Int) := by rw [IntWalk.i64_in _ ⟨by omega, by omega⟩]; omega
          have hw2' : IntKind.i64.wrap ((bs : Int) * 2) = ((bs * 2 : Nat) : Int) := by rw [IntWalk.i64_in _ ⟨by omega, by omega⟩]; omega
          have hz2 : 2 * (bs : Int) = ((bs * 2 : Nat) : Int) := by omega
          have hz2' : (bs : Int) * 2 = ((bs * 2 : Nat) : Int) := by omega
          obtain ⟨B2, hB2⟩ : ∃ B2, B2 = bs * 2 := ⟨_, rfl⟩
          rw [← hB2] at hw2 hw2' hz2 hz2'
          have HB2 := Lib.hid hB2
          have HS3 := Lib.hid (show St3 (keyS s) w blk off N d bs 0 wr from by
            obtain ⟨dk, k1, k2, k3, k4⟩ := HS.out
            exact ⟨dk, k1, k2, k3, blks_zero _ _ _ _, k4⟩)
          have hlbz : (bs : Int) < (N : Int) := by omega
          have hB2b : B2 ≤ 2000000 := by omega
          have hB20 : bs < B2 := by omega
          clear hB2 HS
          go_wp2_with fail
          go_loopw [7, 8] (fun va vb wr => ∃ j A : Nat, A = j * (bs * 2) ∧ va = .int .i64 A ∧ vb = .int .i64 ((A + B2 : Nat) : Int) ∧ A ≤ N ∧ St3 (keyS s) w blk off N d bs A wr) (fun va _ _ => N - (intOf va).toNat)
          case atStart => exact ⟨0, 0, by omega, rfl, by go_num, Nat.zero_le _, HS3.out⟩
          case round =>
            obtain ⟨j, A, hA, rfl, rfl, hAN, hst⟩ := hrel
            have HS := Lib.hid hst
            have HA := Lib.hid hA
            obtain ⟨m, hm⟩ : ∃ m, m = A + bs := ⟨_, rfl⟩
            obtain ⟨e, he⟩ : ∃ e, e = A + B2 := ⟨_, rfl⟩
            have hwm : IntKind.i64.wrap ((A : Int) + (bs : Int)) = (m : Int) := by rw [IntWalk.i64_in _ ⟨by omega, by omega⟩]; omega
            have hzm : (A : Int) + (bs : Int) = (m : Int) := by omega
            have hwe : IntKind.i64.wrap ((e : Int) + (B2 : Int)) = (e : Int) + (B2 : Int) := IntWalk.i64_in _ ⟨by omega, by omega⟩
            rw [← he]
            have HM := Lib.hid hm
            have HE := Lib.hid he
            by_cases hlt : e ≤ N
            · have HI := HMrg.out bs j A e wr hb0 hA HS.out (by have := HB2.out; omega) (by have := HB2.out; omega)
              rw [← hm] at HI
              have HI2 := Lib.hid HI
              have hez : (e : Int) ≤ (N : Int) := by omega
              clear hst hA hm he HI
              go_wp2_with fail
              refine HI2.out.mono ?_
              rintro x w' ⟨rfl, hs⟩
              have HS2 := Lib.hid hs
              clear hs
              go_wp2_with fail
              go_roundw
              case rel => exact ⟨j + 1, e, by have := HA.out; have := HE.out; have := HB2.out; rw [Nat.succ_mul]; omega, rfl, by go_num, by omega, HS2.out⟩
              case measure => have := HE.out; simp [intOf] <;> omega
            · have hez : ¬ ((e : Int) ≤ (N : Int)) := by omega
              have HNext := Lib.hid (show ∀ w', St3 (keyS s) w blk off N d bs N w' → St2 (keyS s) w blk off N d B2 w' from fun w' ⟨dk, k1, k2, k3, k4, k5⟩ => ⟨dk, k1, k2, k3, by rw [HB2.out]; exact k4⟩)
              by_cases hmN : m < N
              · have HI := HMrg.out bs j A N wr hb0 hA HS.out (by omega) (by have := HB2.out; omega)
                rw [← hm] at HI
                have HI2 := Lib.hid HI
                have hmz : (m : Int) < (N : Int) := by omega
                clear hst hA hm he HI
                go_wp2_with fail
                refine HI2.out.mono ?_
                rintro x w' ⟨rfl, hs⟩
                have HS2 := Lib.hid hs
                clear hs
                go_wp2_with fail
                go_roundw
                case rel => exact ⟨B2, rfl, by omega, hB2b, HNext.out _ HS2.out⟩
                case measure => simp [intOf] <;> omega
              · have HS2 := Lib.hid (show St3 (keyS s) w blk off N d bs N wr from by
                  obtain ⟨dk, k1, k2, k3, k4, k5⟩ := HS.out
                  refine ⟨dk, k1, k2, k3, ?_, blks_zero _ _ _ _⟩
                  by_cases hAe : A = N
                  · rw [← hAe]; exact k4
                  · have g0 := k5 0 (by omega)
                    rw [Nat.zero_mul, Nat.add_zero, Nat.min_eq_right (by omega)] at g0
                    exact blks_snoc (j := j) (by omega) hA (by omega) (by have := HB2.out; omega) k4 g0)
                have hmz : ¬ ((m : Int) < (N : Int)) := by omega
                clear hst hA hm he
                go_wp2_with fail
                go_roundw
                case rel => exact ⟨B2, rfl, by omega, hB2b, HNext.out _ HS2.out⟩
                case measure => simp [intOf] <;> omega
        · have hlbz : ¬ ((bs : Int) < (N : Int)) := by omega
          go_wp2_with fail
          first | go_end0 | ((try simp only [Exit.inBlock, Exit.then]); refine bodyPost_ret (results_none rfl _ _ _) rfl ?_)
          obtain ⟨dk, k1, k2, k3, k4⟩ := HS.out
          exact ⟨rfl, dk, k1, k2, (blks_one k4 (by omega) h0).2⟩
#print axioms stable_n
end Go.Proofs.Ytbnlkmblkokooaa
