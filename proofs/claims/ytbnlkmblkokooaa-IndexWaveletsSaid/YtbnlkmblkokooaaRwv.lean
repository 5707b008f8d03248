/- The contract of the reference's Wavelet. -/
import Derived.Test.YtbnlkmblkokooaaRwm
namespace Go.Proofs.Ytbnlkmblkokooaa
open Go.RowKit
/-- what the reference's Wavelet does -/
def WvPost (S : ByteArray) (w : World) (e : Ending) (w' : World) : Prop := e = .returned (strV (wav (lets (bs S)) (bs S))) ∧ Below w.heap.size w w'
set_option maxRecDepth 100000 in
set_option maxHeartbeats 8000000 in
theorem wavRstep (S : ByteArray) (hs : S.size ≤ 201) (ha : ∀ x ∈ bs S, x.toNat < 128) (w : World)
    (IH : Hid (∀ T : ByteArray, (lets (bs T)).length < (lets (bs S)).length → T.size ≤ 201 → (∀ x ∈ bs T, x.toNat < 128) → ∀ w, Calls Try.prog 32 #[.string T] w (WvPost T w))) :
    Calls Try.prog 32 #[.string S] w (WvPost S w) := by
  obtain ⟨n, hn⟩ : ∃ n, n = S.size := ⟨_, rfl⟩
  obtain ⟨l, hl⟩ : ∃ l : List UInt8, l = bs S := ⟨_, rfl⟩
  have hn1 : n ≤ 201 := by omega
  have hSn : (S.size : Int) = (n : Int) := by omega
  have HLN := Lib.hid (show l.length = n by rw [hl, hn]; exact bs_len S)
  have HGet := Lib.hid (show ∀ i (hi : i < l.length) (hs : i < S.size), S[i] = l[i] from fun i hi hs => by subst hl; exact bs_get hs)
  unfold WvPost at IH
  unfold WvPost
  rw [← hl] at ha IH ⊢
  have HN := Lib.hid hn
  have HA := Lib.hid ha
  have HS := Lib.hid hs
  clear hn ha hs hl
  go_enter Try.func32, Try.ntmps32
  go_wp2_with fail
  have hb0 := hb_new w
  obtain ⟨g, hg⟩ : ∃ g, g = w.heap.size := ⟨_, rfl⟩
  obtain ⟨w1, hw1⟩ : ∃ w1, w1 = w.alloc (.cells Try.zeroCells68 68) := ⟨_, rfl⟩
  rw [← hw1, ← hg] at hb0
  rw [← hw1, ← hg]
  have HBk := Lib.hid (show HBlk w1 g (fun d => (l.take 0).contains (UInt8.ofNat d)) from by simpa using hb0)
  have HB1 := Lib.hid (show Below g w w1 from by rw [hw1, hg]; exact below_alloc _ _)
  have HG := Lib.hid hg
  clear hb0 hw1 hg
  go_loopw [14] (fun vi wr => ∃ i : Nat, vi = .int .i64 i ∧ i ≤ n ∧ Below g w wr ∧ HBlk wr g (fun d => (l.take i).contains (UInt8.ofNat d))) (fun vi _ => n - (intOf vi).toNat)
  case atStart => exact ⟨0, rfl, Nat.zero_le _, HB1.out, HBk.out⟩
  case round =>
    obtain ⟨i, rfl, hi, hbe, hbk⟩ := hrel
    have HBe := Lib.hid hbe
    by_cases hlt : i < n
    · have hil : i < l.length := by rw [HLN.out]; exact hlt
      have hsi : i < S.size := by rw [← HN.out]; exact hlt
      obtain ⟨c, hc⟩ : ∃ c, c = S[i] := ⟨_, rfl⟩
      have hcb : c = l[i] := by rw [hc]; exact HGet.out i hil hsi
      have hc7 : c.toNat < 128 := HA.out c (by rw [hcb]; exact List.getElem_mem _)
      have hand := and_127 c hc7
      have hcell := hbk.cell hc7
      have hfz := hbk.frozen c.toNat
      have hst := hbk.set (f' := fun d => (l.take (i + 1)).contains (UInt8.ofNat d)) hc7 (fun e he hne => by
        rw [List.take_succ_eq_append_getElem hil, ← hcb, Bool.eq_iff_iff]
        simp only [List.contains_iff_mem, List.mem_append, List.mem_singleton]
        constructor
        · rintro (h | h)
          · exact h
          · exfalso; apply hne; rw [← h, UInt8.toNat_ofNat']; omega
        · exact .inl)
      rw [show (l.take (i + 1)).contains (UInt8.ofNat c.toNat) = true from by
        rw [List.take_succ_eq_append_getElem hil, ← hcb]; simp] at hst
      have HSt := Lib.hid hst
      have hcz : (c.toNat : Int) < 128 := by omega
      rw [hc] at hand hcell hfz hc7 hcz HSt
      clear hst hbe hbk hcb hc
      go_wp2_with fail
      go_roundw
      case rel => exact ⟨i + 1, by go_num, by omega, HBe.out.setCell (Nat.le_refl _) _, HSt.out⟩
      case measure => simp [intOf] <;> omega
    · obtain rfl : n = i := by omega
      have hbk2 : HBlk wr g (fun d => l.contains (UInt8.ofNat d)) := by
        rw [List.take_of_length_le (by rw [HLN.out]; exact Nat.le_refl _)] at hbk
        exact hbk
      have HBk2 := Lib.hid hbk2
      clear hbk hbe hbk2 HBk
      obtain ⟨wa, hwa⟩ : ∃ wa : World, wa = wr := ⟨_, rfl⟩
      subst hwa
      go_wp2_with fail
      go_loopw [5, 23] (fun vb vi wr => ∃ d : Nat, vi = .int .i64 d ∧ d ≤ 128 ∧ Below g w wr ∧ HBlk wr g (fun d => l.contains (UInt8.ofNat d)) ∧ OwnByts g wr vb (letsTo l d)) (fun _ vi _ => 128 - (intOf vi).toNat)
      case atStart => exact ⟨0, rfl, by omega, HBe.out, HBk2.out, ownByts_nil _ _⟩
      case round =>
        obtain ⟨d, rfl, hd, hbe, hbk, hob⟩ := hrel
        have HBe2 := Lib.hid hbe
        have HBk3 := Lib.hid hbk
        have HOb := Lib.hid hob
        by_cases hlt : d < 128
        · have hdz : (d : Int) < 128 := by omega
          have hcell := hbk.cell hlt
          have hsu := letsTo_succ l d
          have hle := letsTo_len l d
          have Hle := Lib.hid hle
          clear hle
          cases hf : l.contains (UInt8.ofNat d) with
          | true =>
            rw [hf] at hcell
            rw [hf, if_pos rfl] at hsu
            have HSu := Lib.hid hsu
            have hwc : IntKind.u8.wrap (d : Int) = (d : Int) := (by decide +kernel : ∀ n : Fin 128, IntKind.u8.wrap ((n.val : Nat) : Int) = ((n.val : Nat) : Int)) ⟨d, hlt⟩
            clear hbe hbk hob hsu hf
            go_wp2_with (at_builtin; refine append_place rfl (.tmp 29) (.tmp 32) 53 rfl elemBytes rfl (World.ownsRow.alloc HOb.out _) rfl (y := .int .u8 (d : Nat)) ?c1 rfl ?c2 ?c3 ?_)
            case c1 => rw [cell_new]; rfl
            case c2 => have := Hle.out; omega
            case c3 => have := HBk3.out.lt; simp; omega
            intro v7 w7 hown7 hb7 hgr7 _
            have HB7 := Lib.hid (show Below g w w7 from (HBe2.out.alloc (Nat.le_of_lt HBk3.out.lt) _).trans hb7)
            have HK7 := Lib.hid (HBlk.grown (HBk3.out.keep (below_alloc _ _)) hgr7 (HBk3.out.not_row HOb.out (by decide)))
            have HO7 := Lib.hid (show OwnByts g w7 v7 (letsTo l (d + 1)) from by
              rw [HSu.out]
              refine OwnByts.snoc ?_
              have e : (UInt8.ofNat d).toNat = d := by rw [UInt8.toNat_ofNat']; omega
              rw [e]; exact hown7)
            clear hown7 hb7 hgr7
            go_wp2_with fail
            go_roundw
            case rel => exact ⟨d + 1, by go_num, by omega, HB7.out, HK7.out, HO7.out⟩
            case measure => simp [intOf] <;> omega
          | false =>
            rw [hf] at hcell
            rw [hf] at hsu
            have HO7 := Lib.hid (show OwnByts g wr u5 (letsTo l (d + 1)) from by rw [hsu]; simpa using HOb.out)
            clear hbe hbk hob hsu hf
            go_wp2_with fail
            go_roundw
            case rel => exact ⟨d + 1, by go_num, by omega, HBe2.out, HBk3.out, HO7.out⟩
            case measure => simp [intOf] <;> omega
        · obtain rfl : d = 128 := by omega
          rw [letsTo_all HA.out] at hob
          obtain ⟨aL, bL, offL, capL, rfl, haL, hbL, hcL, hixL⟩ := byts_ix hob.byts
          obtain ⟨L, hL⟩ : ∃ L, L = lets l := ⟨_, rfl⟩
          rw [← hL] at hob haL hbL hcL hixL ⊢
          have hcap : L.length ≤ capL := (Rd.cap (hob.byts)).1
          obtain ⟨k, hk⟩ : ∃ k, k = L.length := ⟨_, rfl⟩
          have hk1 : k ≤ 1000 := by rw [hk, hL]; exact lets_le _
          rw [← hk] at hixL hcap ⊢
          have HL := Lib.hid hL
          by_cases h2 : 2 ≤ k
          · have hh := half_lt h2
            obtain ⟨q, hq⟩ : ∃ q, q = half k := ⟨_, rfl⟩
            rw [← hq] at hh
            have hqt : ((k : Int) + 1).tdiv 2 = (q : Int) := by rw [Int.tdiv_eq_ediv_of_nonneg (by omega)]; unfold half at hq; omega
            have hwk : IntKind.i64.wrap ((k : Int) + 1) = (k : Int) + 1 := IntWalk.i64_in _ ⟨by omega, by omega⟩
            have hwq : IntKind.i64.wrap (q : Int) = (q : Int) := IntWalk.i64_in _ ⟨by omega, by omega⟩
            have hspl : spl L = L[q]'(by omega) := by simp [spl, ← hk, ← hq, List.getD, List.getElem?_eq_getElem (show q < L.length by omega)]
            obtain ⟨D, hD⟩ : ∃ D, D = spl L := ⟨_, rfl⟩
            have hcq := hcL q (by omega)
            rw [← hspl, ← hD] at hcq
            have hixq := fun w => hixL q w (by omega)
            have HD := Lib.hid hD
            have HK := Lib.hid hk
            have HQ := Lib.hid hq
            have Hcq := Lib.hid hcq
            have HOL := Lib.hid hob
            obtain ⟨wo, hwo⟩ : ∃ wo : World, wo = wr := ⟨_, rfl⟩
            subst hwo
            have hk2 : ¬ ((k : Int) < 2) := by omega
            have hq1 : q < k := hh.2
            have HGo := Lib.hid HBk3.out.lt
            clear hbe hbk hob haL hbL hcL hixL hcq hq hh hL hk hspl hD h2 HBk2 HBk3 HBe hd
            go_wp2_with fail
            go_loopw [8, 9, 10, 41] (fun vt vl vh vi wr => ∃ i : Nat, vi = .int .i64 i ∧ i ≤ n ∧ Below wo.heap.size wo wr ∧ Three wo.heap.size wr vt vl vh (bitsOf D (l.take i)) (loS D (l.take i)) (hiS D (l.take i))) (fun _ _ _ vi _ => n - (intOf vi).toNat)
            case atStart => exact ⟨0, rfl, Nat.zero_le _, Below.refl _ _, ⟨by simpa [bitsOf] using ownByts_nil _ _, by simpa [loS] using ownByts_nil _ _, by simpa [hiS] using ownByts_nil _ _, fun q h => by simp [Value.ownBlock] at h, fun q h => by simp [Value.ownBlock] at h, fun q h => by simp [Value.ownBlock] at h⟩⟩
            case round =>
              obtain ⟨i, rfl, hi, hbe, h3⟩ := hrel
              have HBe := Lib.hid hbe
              have H3 := Lib.hid h3
              clear hbe h3
              by_cases hlt : i < n
              · have hil : i < l.length := by rw [HLN.out]; exact hlt
                have hsi : i < S.size := by rw [← HN.out]; exact hlt
                obtain ⟨c, hc⟩ : ∃ c, c = S[i] := ⟨_, rfl⟩
                have hcb : c = l[i] := by rw [hc]; exact HGet.out i hil hsi
                have HC := Lib.hid hcb
                have hcq := Below.keep HBe.out Hcq.out
                have Hla := Lib.hid (show (bitsOf D (l.take i)).length ≤ 1000000 by rw [bitsOf_len, List.length_take]; omega)
                have Hll := Lib.hid (show (loS D (l.take i)).length ≤ 1000000 by have := loS_lenle D (l.take i); rw [List.length_take] at this; omega)
                have Hlh := Lib.hid (show (hiS D (l.take i)).length ≤ 1000000 by have := hiS_lenle D (l.take i); rw [List.length_take] at this; omega)
                cases hh : high D c with
                | true =>
                  have hle : D.toNat ≤ c.toNat := by unfold high at hh; exact UInt8.le_iff_toNat_le.1 (of_decide_eq_true hh)
                  have HL0 := Lib.hid (show bitsOf D (l.take (i + 1)) = bitsOf D (l.take i) ++ [49] by rw [bits_succ hil, ← HC.out, hh]; rfl)
                  have HL1 := Lib.hid (show hiS D (l.take (i + 1)) = hiS D (l.take i) ++ [c] by rw [hiS_succ hil, ← HC.out, hh]; rfl)
                  have HL2 := Lib.hid (show loS D (l.take (i + 1)) = loS D (l.take i) by rw [loS_succ hil, ← HC.out, hh]; simp)
                  rw [hc] at hle
                  have HCc := Lib.hid hc
                  clear hh hcb hc
                  go_wp2_with fail
                  go_quiet (fail)
                  have HT := Lib.hid ((H3.out.drewN nq).turn)
                  have Hlb := Lib.hid Hlh.out
                  have HBs := Lib.hid (show wo.heap.size ≤ (wr.drewN nq).heap.size from HBe.out.size)
                  have HBq := Lib.hid (show Below wo.heap.size wo (wr.drewN nq) from bdrewN HBe.out nq)
                  generalize wr.drewN nq = w5 at *
                  clear hcq hixq
                  go_wp2_with fail
                  go_region_law (first | (refine step_three (by rfl) (.tmp 54) (.tmp 55) 53 (by rfl) elemBytes (by rfl) (h3 := (by first | exact h8.swap | exact Three.alloc h8.swap _)) (by rfl) (y := 49) (by first | (rw [cell_new]; rfl) | exact cell_grown hg8 (by first | (rw [cell_new]; rfl) | go_simp) (own_old HT.out.ob (by simp)) | go_simp) Hla.out (by have := HBs.out; have := hb8.size; simp at *; omega) ?_; intro v9 w9 h9 hb9 hg9) | (refine step_three (by rfl) (.tmp 57) (.tmp 61) 53 (by rfl) elemBytes (by rfl) (h3 := (by first | exact h7.swap | exact Three.alloc h7.swap _)) (by rfl) (y := S[i]) (by first | (rw [cell_new]; rfl) | exact cell_grown hg7 (by first | (rw [cell_new]; rfl) | go_simp) (own_old HT.out.oa (by simp)) | go_simp) Hlb.out (by have := HBs.out; have := hb7.size; simp at *; omega) ?_; intro v9 w9 h9 hb9 hg9) | (refine step_three (by rfl) (.tmp 54) (.tmp 55) 53 (by rfl) elemBytes (by rfl) (h3 := (by first | exact HT.out | exact HT.out.drew | exact Three.alloc HT.out _ | exact Three.alloc HT.out.drew _ | exact Three.alloc (Three.alloc HT.out _) _ | exact Three.alloc (Three.alloc HT.out.drew _) _)) (by rfl) (y := 49) (by first | (rw [cell_new]; rfl) | go_simp) Hla.out (by have := HBs.out; simp; omega) ?_; intro v7 w7 h7 hb7 hg7) | (refine step_three (by rfl) (.tmp 57) (.tmp 61) 53 (by rfl) elemBytes (by rfl) (h3 := (by first | exact HT.out.swap | exact HT.out.swap.drew | exact Three.alloc HT.out.swap _ | exact Three.alloc HT.out.swap.drew _ | exact Three.alloc (Three.alloc HT.out.swap _) _ | exact Three.alloc (Three.alloc HT.out.swap.drew _) _)) (by rfl) (y := S[i]) (by first | (rw [cell_new]; rfl) | go_simp) Hlb.out (by have := HBs.out; simp; omega) ?_; intro v8 w8 h8 hb8 hg8))
                  all_goals (
                    have HB9 := Lib.hid (show Below wo.heap.size wo w9 from Below.trans (by repeat (first | exact HBq.out | refine Below.trans ?_ hb7 | refine Below.trans ?_ hb8 | refine Below.alloc ?_ (by have := HBs.out; (try have := hb7.size); (try have := hb8.size); simp at *; omega) _ | refine Below.drew ?_)) hb9)
                    have h9' := h9
                    rw [HCc.out.symm] at h9'
                    rw [← HL0.out, ← HL1.out, ← HL2.out] at h9'
                    have H9 := Lib.hid h9'
                    clear h9 h9' hb9 hg9
                    (try clear hb7 hg7 h7)
                    (try clear hb8 hg8 h8)
                    go_wp2_with fail
                    go_roundw
                    case rel => exact ⟨i + 1, by go_num, by omega, HB9.out, by first | exact H9.out.turn | exact H9.out.swap.turn⟩
                    case measure => simp [intOf] <;> omega)
                | false =>
                  have hle : ¬ D.toNat ≤ c.toNat := by unfold high at hh; exact fun h => of_decide_eq_false hh (UInt8.le_iff_toNat_le.2 h)
                  have HL0 := Lib.hid (show bitsOf D (l.take (i + 1)) = bitsOf D (l.take i) ++ [48] by rw [bits_succ hil, ← HC.out, hh]; rfl)
                  have HL1 := Lib.hid (show loS D (l.take (i + 1)) = loS D (l.take i) ++ [c] by rw [loS_succ hil, ← HC.out, hh]; rfl)
                  have HL2 := Lib.hid (show hiS D (l.take (i + 1)) = hiS D (l.take i) by rw [hiS_succ hil, ← HC.out, hh]; simp)
                  rw [hc] at hle
                  have HCc := Lib.hid hc
                  clear hh hcb hc
                  go_wp2_with fail
                  go_quiet (fail)
                  have HT := Lib.hid (H3.out.drewN nq)
                  have Hlb := Lib.hid Hll.out
                  have HBs := Lib.hid (show wo.heap.size ≤ (wr.drewN nq).heap.size from HBe.out.size)
                  have HBq := Lib.hid (show Below wo.heap.size wo (wr.drewN nq) from bdrewN HBe.out nq)
                  generalize wr.drewN nq = w5 at *
                  clear hcq hixq
                  go_wp2_with fail
                  go_region_law (first | (refine step_three (by rfl) (.tmp 63) (.tmp 64) 53 (by rfl) elemBytes (by rfl) (h3 := (by first | exact h8.swap | exact Three.alloc h8.swap _)) (by rfl) (y := 48) (by first | (rw [cell_new]; rfl) | exact cell_grown hg8 (by first | (rw [cell_new]; rfl) | go_simp) (own_old HT.out.ob (by simp)) | go_simp) Hla.out (by have := HBs.out; have := hb8.size; simp at *; omega) ?_; intro v9 w9 h9 hb9 hg9) | (refine step_three (by rfl) (.tmp 66) (.tmp 70) 53 (by rfl) elemBytes (by rfl) (h3 := (by first | exact h7.swap | exact Three.alloc h7.swap _)) (by rfl) (y := S[i]) (by first | (rw [cell_new]; rfl) | exact cell_grown hg7 (by first | (rw [cell_new]; rfl) | go_simp) (own_old HT.out.oa (by simp)) | go_simp) Hlb.out (by have := HBs.out; have := hb7.size; simp at *; omega) ?_; intro v9 w9 h9 hb9 hg9) | (refine step_three (by rfl) (.tmp 63) (.tmp 64) 53 (by rfl) elemBytes (by rfl) (h3 := (by first | exact HT.out | exact HT.out.drew | exact Three.alloc HT.out _ | exact Three.alloc HT.out.drew _ | exact Three.alloc (Three.alloc HT.out _) _ | exact Three.alloc (Three.alloc HT.out.drew _) _)) (by rfl) (y := 48) (by first | (rw [cell_new]; rfl) | go_simp) Hla.out (by have := HBs.out; simp; omega) ?_; intro v7 w7 h7 hb7 hg7) | (refine step_three (by rfl) (.tmp 66) (.tmp 70) 53 (by rfl) elemBytes (by rfl) (h3 := (by first | exact HT.out.swap | exact HT.out.swap.drew | exact Three.alloc HT.out.swap _ | exact Three.alloc HT.out.swap.drew _ | exact Three.alloc (Three.alloc HT.out.swap _) _ | exact Three.alloc (Three.alloc HT.out.swap.drew _) _)) (by rfl) (y := S[i]) (by first | (rw [cell_new]; rfl) | go_simp) Hlb.out (by have := HBs.out; simp; omega) ?_; intro v8 w8 h8 hb8 hg8))
                  all_goals (
                    have HB9 := Lib.hid (show Below wo.heap.size wo w9 from Below.trans (by repeat (first | exact HBq.out | refine Below.trans ?_ hb7 | refine Below.trans ?_ hb8 | refine Below.alloc ?_ (by have := HBs.out; (try have := hb7.size); (try have := hb8.size); simp at *; omega) _ | refine Below.drew ?_)) hb9)
                    have h9' := h9
                    rw [HCc.out.symm] at h9'
                    rw [← HL0.out, ← HL1.out, ← HL2.out] at h9'
                    have H9 := Lib.hid h9'
                    clear h9 h9' hb9 hg9
                    (try clear hb7 hg7 h7)
                    (try clear hb8 hg8 h8)
                    go_wp2_with fail
                    go_roundw
                    case rel => exact ⟨i + 1, by go_num, by omega, HB9.out, by first | exact H9.out | exact H9.out.swap⟩
                    case measure => simp [intOf] <;> omega)
              · obtain rfl : n = i := by omega
                have htk : l.take n = l := List.take_of_length_le (by rw [HLN.out]; exact Nat.le_refl _)
                have h3 := H3.out
                rw [htk] at h3
                have hc1 := fun q => conv_str (h3.drewN q).oa.byts
                have hc2 := fun q => conv_str (h3.drewN q).ob.byts
                have hc3 := fun q => conv_str (h3.drewN q).oc.byts
                have hc1' := conv_str h3.oa.byts
                have hc2' := conv_str h3.ob.byts
                have hc3' := conv_str h3.oc.byts
                have hc1'' := conv_str h3.drew.oa.byts
                have hc2'' := conv_str h3.drew.ob.byts
                have hc3'' := conv_str h3.drew.oc.byts
                have hlk : 2 ≤ (lets l).length := by rw [← HL.out, ← HK.out]; have := hk2; omega
                have hD : D = spl (lets l) := by rw [HD.out, HL.out]
                have hlo := lets_lo hlk
                have hhi := lets_hi hlk
                have hhl := half_lt hlk
                have hw := wav_node (L := lets l) (S := l) hlk
                rw [← hD] at hlo hhi hw
                obtain ⟨TA, hTA, hTAb⟩ : ∃ T : ByteArray, strV (bitsOf D l) = .string T ∧ bs T = bitsOf D l := ⟨⟨(bitsOf D l).toArray⟩, rfl, rfl⟩
                obtain ⟨TB, hTB, hTBb⟩ : ∃ T : ByteArray, strV (loS D l) = .string T ∧ bs T = loS D l := ⟨⟨(loS D l).toArray⟩, rfl, rfl⟩
                obtain ⟨TC, hTC, hTCb⟩ : ∃ T : ByteArray, strV (hiS D l) = .string T ∧ bs T = hiS D l := ⟨⟨(hiS D l).toArray⟩, rfl, rfl⟩
                rw [hTA] at hc1 hc1' hc1''
                rw [hTB] at hc2 hc2' hc2''
                rw [hTC] at hc3 hc3' hc3''
                have hIB := IH.out TB (by rw [hTBb, hlo, List.length_take]; omega) (by rw [← bs_len, hTBb]; have := loS_lenle D l; have := HLN.out; omega) (by rw [hTBb]; exact lo_lt HA.out)
                have hIC := IH.out TC (by rw [hTCb, hhi, List.length_drop]; omega) (by rw [← bs_len, hTCb]; have := hiS_lenle D l; have := HLN.out; omega) (by rw [hTCb]; exact hi_lt HA.out)
                obtain ⟨RW, hRW⟩ : ∃ RW : ByteArray → ByteArray, ∀ T, bs (RW T) = wav (lets (bs T)) (bs T) ∧ strV (wav (lets (bs T)) (bs T)) = .string (RW T) := ⟨fun T => ⟨(wav (lets (bs T)) (bs T)).toArray⟩, fun T => ⟨rfl, rfl⟩⟩
                rw [(hRW TB).2] at hIB
                rw [(hRW TC).2] at hIC
                have hRBb : bs (RW TB) = wav ((lets l).take (half (lets l).length)) (loS D l) := by rw [(hRW TB).1, hTBb, hlo]
                have hRCb : bs (RW TC) = wav ((lets l).drop (half (lets l).length)) (hiS D l) := by rw [(hRW TC).1, hTCb, hhi]
                have hfin : strV (wav (lets l) l) = .string (TA ++ RW TB ++ RW TC) := by rw [str_bs, bs_app, bs_app, hTAb, hRBb, hRCb, hw]
                have hTAs : TA.size ≤ 1000 := by rw [← bs_len, hTAb, bitsOf_len]; have := HLN.out; omega
                have hlk2 : (lets l).length ≤ 2 ^ 10 := by have := lets_le l; omega
                have hRBs : (RW TB).size ≤ 10000 := by
                  have h1 := wav_len 10 ((lets l).take (half (lets l).length)) (loS D l) (by rw [List.length_take]; omega)
                  have h2 := loS_lenle D l
                  have h3 := HLN.out
                  rw [← bs_len, hRBb]; omega
                have hRCs : (RW TC).size ≤ 10000 := by
                  have h1 := wav_len 10 ((lets l).drop (half (lets l).length)) (hiS D l) (by rw [List.length_drop]; omega)
                  have h2 := hiS_lenle D l
                  have h3 := HLN.out
                  rw [← bs_len, hRCb]; omega
                have hg1 : ¬ (9223372036854775807 < TA.size + (RW TB).size) := by omega
                have hg2 : ¬ (9223372036854775807 < TA.size + (RW TB).size + (RW TC).size) := by omega
                have hkp0 : Kp3 w wo.heap.size u8 u9 u10 (bitsOf D l) (loS D l) (hiS D l) wr := ⟨(HBe2.out.mono (Nat.le_of_eq HG.out.symm)).trans (HBe.out.mono (Nat.le_trans (Nat.le_of_eq HG.out.symm) (Nat.le_of_lt HGo.out))), h3⟩
                obtain ⟨KP, hKP⟩ : ∃ KP : World → Prop, KP = Kp3 w wo.heap.size u8 u9 u10 (bitsOf D l) (loS D l) (hiS D l) := ⟨_, rfl⟩
                have HI := Lib.hid (show ∀ T w5, KP w5 → (T = TB ∨ T = TC) → Calls Try.prog 32 #[.string T] w5 fun e w6 => e = .returned (.string (RW T)) ∧ KP w6 ∧ (convert 53 9 u8).run Try.prog w6 = .ok (.string TA) w6 ∧ (convert 53 9 u9).run Try.prog w6 = .ok (.string TB) w6 ∧ (convert 53 9 u10).run Try.prog w6 = .ok (.string TC) w6 from fun T w5 h5 hT => by
                  have hc : Calls Try.prog 32 #[.string T] w5 fun e w6 => e = .returned (.string (RW T)) ∧ Below w5.heap.size w5 w6 := by
                    rcases hT with e | e
                    · rw [e]; exact hIB w5
                    · rw [e]; exact hIC w5
                  refine hc.mono fun e w6 ⟨he, hb6⟩ => ?_
                  rw [hKP] at h5 ⊢
                  have h6 := h5.keep hb6
                  have e1 := conv_str h6.three.oa.byts
                  have e2 := conv_str h6.three.ob.byts
                  have e3 := conv_str h6.three.oc.byts
                  rw [hTA] at e1
                  rw [hTB] at e2
                  rw [hTC] at e3
                  exact ⟨he, h6, e1, e2, e3⟩)
                have hkp : KP wr := by rw [hKP]; exact hkp0
                have hkpd : KP wr.drew := by rw [hKP]; exact hkp0.drew
                have HKd := Lib.hid (show ∀ w', KP w' → Below w.heap.size w w' from fun w' h => by rw [hKP] at h; exact h.below)
                have HFin := Lib.hid hfin
                clear hKP hkp0 h3 hlk hD hlo hhi hhl hw hIB hIC hfin hTA hTB hTC hTAb hTBb hTCb hRBb hRCb htk hRW hlk2 hTAs hRBs hRCs H3
                have hc1 := hc1'
                have hc2 := hc2'
                have hc3 := hc3'
                clear hc1' hc2' hc3'
                go_wp2_with fail
                go_region_held3 (fun w' => KP w' ∧ (convert 53 9 u8).run Try.prog w' = .ok (.string TA) w' ∧ (convert 53 9 u9).run Try.prog w' = .ok (.string TB) w' ∧ (convert 53 9 u10).run Try.prog w' = .ok (.string TC) w')
                  (first | exact ⟨hk6, hc61, hc62, hc63⟩ | exact ⟨hkpd, hc1'', hc2'', hc3''⟩ | exact ⟨hkp, hc1, hc2, hc3⟩)
                  (first
                    | (go_at_call 32; refine (HI.out _ _ (by first | exact hk6 | exact hkpd | exact hkp) (by first | exact Or.inl rfl | exact Or.inr rfl)).mono ?_; rintro e w6 ⟨rfl, hk6, hc61, hc62, hc63⟩))
                all_goals (
                  go_wp2_with fail
                  go_ret
                  exact ⟨by rw [HFin.out]; rfl, HKd.out _ hk6⟩)
          · have hL2 := Lib.hid (show wav L l = [] from wav_small (by omega))
            have hk2 : (k : Int) < 2 := by omega
            clear hbe hbk hob haL hbL hcL hixL hL hk
            go_wp2_with fail
            go_ret
            refine ⟨by rw [← HL.out, hL2.out]; rfl, HBe2.out.mono (Nat.le_of_eq HG.out.symm)⟩
#print axioms wavRstep
theorem wavR_any0 : ∀ (m : Nat) (S : ByteArray), (lets (bs S)).length < m → S.size ≤ 201 → (∀ x ∈ bs S, x.toNat < 128) → ∀ w, Calls Try.prog 32 #[.string S] w (WvPost S w)
  | 0, _, h, _, _, _ => absurd h (Nat.not_lt_zero _)
  | m + 1, S, h, hs, ha, w => wavRstep S hs ha w (Lib.hid fun T hT hs' ha' w' => wavR_any0 m T (by omega) hs' ha' w')
theorem wavR_any (S : ByteArray) (hs : S.size ≤ 201) (ha : ∀ x ∈ bs S, x.toNat < 128) (w : World) : Calls Try.prog 32 #[.string S] w (WvPost S w) := wavR_any0 _ S (Nat.lt_succ_self _) hs ha w
#print axioms wavR_any
end Go.Proofs.Ytbnlkmblkokooaa
