/- Contract of matches. -/
import Derived.Test.YtfplmdieeabgpaaMap
import Derived.Test.YtfplmdieeabgpaaFrz
namespace Go.Proofs.Ytfplmdieeabgpaa
open Go.RowKit
/-- what matches returns -/
def MatE (facts body : List HAt) (w : World) (e : Ending) (w' : World) : Prop :=
  (Big facts body ∧ e = .returned (.tuple #[.map none, .bool false])) ∨ (¬ Big facts body ∧ ∃ b n, e = .returned (.tuple #[.map (some b), .bool true]) ∧ w.heap.size ≤ b ∧ MSetN w' b n (MaP facts body))
theorem run_map91 (w : World) : (Instr.makeMap 91 none).run Try.prog w = .ok (.map (some w.heap.size)) (w.alloc (.map #[] 0)) := run_makeMap _ _ 
theorem build95 (w : World) : (Instr.build 95 #[]).run Try.prog w = .ok (.agg (vrow (List.replicate 8 0))) w := by kernel_rfl
theorem extend_none {v : List Int} (hv8 : v.length = 8) {r : Int} {A : List Int} (hA : ∀ i, i < A.length → -9 ≤ A.getD i 0 ∧ A.getD i 0 ≤ 7) {u : Value} {r2 : Int} {F : List Int} {u2 : Value} {w : World} (hu : Ints w u A) (hu2 : Ints w u2 F) (h : extA v (r, A) (r2, F) = none) :
    Calls Try.prog 129 #[.agg (vrow v), .agg #[.int .i64 r, u], .agg #[.int .i64 r2, u2]] w fun e w' => ∃ x : List Int, e = .returned (.tuple #[.agg (vrow x), .bool false]) ∧ x.length = 8 ∧ Below w.heap.size w w' :=
  (extend_any v hv8 r A hA u r2 F u2 w hu hu2).mono fun e w' ⟨x, B, he, hr, hb⟩ => by
    obtain ⟨h8, ⟨_, h2⟩ | ⟨rfl, _⟩⟩ := hr
    · rw [h] at h2; cases h2
    · exact ⟨x, he, h8, hb⟩
theorem extend_some {v y : List Int} (hv8 : v.length = 8) {r : Int} {A : List Int} (hA : ∀ i, i < A.length → -9 ≤ A.getD i 0 ∧ A.getD i 0 ≤ 7) {u : Value} {r2 : Int} {F : List Int} {u2 : Value} {w : World} (hu : Ints w u A) (hu2 : Ints w u2 F) (h : extA v (r, A) (r2, F) = some y) :
    Calls Try.prog 129 #[.agg (vrow v), .agg #[.int .i64 r, u], .agg #[.int .i64 r2, u2]] w fun e w' => e = .returned (.tuple #[.agg (vrow y), .bool true]) ∧ y.length = 8 ∧ Below w.heap.size w w' :=
  (extend_any v hv8 r A hA u r2 F u2 w hu hu2).mono fun e w' ⟨x, B, he, hr, hb⟩ => by
    obtain ⟨h8, ⟨rfl, h2⟩ | ⟨_, h2⟩⟩ := hr
    · rw [h] at h2; injection h2 with h2; subst h2; exact ⟨he, h8, hb⟩
    · rw [h] at h2; cases h2
theorem infoV8 : (Try.prog.info? 95).map (·.size) = some 8 := by kernel_rfl
theorem sizeVr {x : List Int} (hx : x.length = 8) : (Try.prog.info? 95).map (·.size) = some (vrow x).size := by rw [vrow_size, hx]; exact infoV8
abbrev Z8 : Array Value := #[.int .i64 0, .int .i64 0, .int .i64 0, .int .i64 0, .int .i64 0, .int .i64 0, .int .i64 0, .int .i64 0]
set_option maxRecDepth 100000 in
set_option maxHeartbeats 16000000 in
theorem matches_any (facts body : List HAt) (ok : OkB facts body) (hbl : body.length ≤ 1000) (hfl : facts.length ≤ 1000) (hA : ∀ k, k < body.length → ∀ i, i < (aA body k).length → -9 ≤ (aA body k).getD i 0 ∧ (aA body k).getD i 0 ≤ 7)
    (u u2 : Value) (w : World) (hu : Atoms w u body) (hu2 : Atoms w u2 facts) :
    Calls Try.prog 104 #[u, u2] w fun e w' => MatE facts body w e w' ∧ Below w.heap.size w w' := by
  obtain ⟨a, b, off, cap, vs, rfl, hle, ha, hcap, hc⟩ := Atoms.get hu
  obtain ⟨a2, b2, off2, cap2, vs2, rfl, hle2, ha2, hcap2, hc2⟩ := Atoms.get hu2
  have Hix := Lib.hid (run_ix (P := Try.prog) (t := 31) (a := a) (len := body.length) (cap := cap) (b := b) (off := off) (s := 2) Try.underlying31 (by intro w; kernel_rfl) ha)
  have Hix2 := Lib.hid (run_ix (P := Try.prog) (t := 26) (a := a2) (len := facts.length) (cap := cap2) (b := b2) (off := off2) (s := 2) Try.underlying26 (by intro w; kernel_rfl) ha2)
  have Hc := Lib.hid hc
  have Hc2 := Lib.hid hc2
  have HA := Lib.hid hA
  have Hok := Lib.hid ok
  have hmm := run_map91
  have hbb := build95
  obtain ⟨w1, hw1⟩ : ∃ w1, w1 = w.alloc (.map #[] 0) := ⟨_, rfl⟩
  have HM := Lib.hid (show MSetN w1 w.heap.size 0 (fun _ => False) from by rw [hw1]; exact mset_made w)
  have Hb1 := Lib.hid (show Below w.heap.size w w1 from by rw [hw1]; exact below_alloc _ _)
  have Hw1 := Lib.hid hw1
  have V0 : Vok (List.replicate 8 0) := ⟨by simp, fun x hx => by rw [List.eq_of_mem_replicate hx]; omega⟩
  clear hu hu2 ha ha2 hcap hcap2 hc hc2 hA ok hw1
  go_enter Try.func104, Try.ntmps104
  go_wp2_with (first | (refine wpList_ins_match rfl _ rfl _ _ _ rfl rfl rfl rfl (by rw [← Hw1.out]; exact HM.out) V0 (by omega) ?_; intro w2 n2 hm2 hn2 hg2))
  have Hm2 := Lib.hid (show MSetN w2 w.heap.size n2 (MaP facts (body.take 0)) from hm2.congr fun x => by rw [List.take_zero, maP_nil]; exact ⟨fun h => h.elim False.elim id, .inr⟩)
  have Hb2 := Lib.hid (show Below w.heap.size w w2 from by rw [← Hw1.out] at hg2; exact Hb1.out.grown hg2 Hb1.out.size (fun j hj => by cases hj; exact Nat.le_refl _))
  have Hn2 := Lib.hid (show n2 ≤ 20000 by omega)
  clear hm2 hn2 hg2 HM Hb1 Hw1 V0
  go_loopw [6, 20] (fun vf vi wr => ∃ k bf n : Nat, vf = .map (some bf) ∧ vi = .int .i64 k ∧ k ≤ body.length ∧ w.heap.size ≤ bf ∧ MSetN wr bf n (MaP facts (body.take k)) ∧ n ≤ 20000 ∧ Below w.heap.size w wr ∧ ∀ j, 0 < j → j ≤ k → ¬ BigAt facts body j) (fun _ vi _ => body.length - (intOf vi).toNat)
  case atStart => exact ⟨0, w.heap.size, n2, rfl, rfl, Nat.zero_le _, Nat.le_refl _, Hm2.out, Hn2.out, Hb2.out, fun j h1 h2 => by omega⟩
  case round =>
    clear Hm2 Hn2 Hb2
    obtain ⟨k, bf, n, rfl, rfl, hk, hbf, hm, hn, hb, hno⟩ := hrel
    have Hbf := Lib.hid hbf
    have Hm := Lib.hid hm
    have Hn := Lib.hid hn
    have Hb := Lib.hid hb
    have Hno := Lib.hid hno
    clear hbf hm hn hb hno
    by_cases hlt : k < body.length
    · have hc1 := Below.keep Hb.out (Hc.out k hlt).1
      have hc2 := Below.keep Hb.out (Hc.out k hlt).2.1
      have hixk := Hix.out k
      have Hi := Lib.hid (Hc.out k hlt).2.2
      obtain ⟨ua, uc, hu⟩ := ints_slice Hi.out
      rw [hu] at hc2 Hi
      clear hu
      have HAk := Lib.hid (HA.out k hlt)
      obtain ⟨r, hr⟩ : ∃ t, t = aR body k := ⟨_, rfl⟩
      obtain ⟨A, hA⟩ : ∃ t, t = aA body k := ⟨_, rfl⟩
      have HrA := Lib.hid (show (r, A) = body.getD k (0, []) from by rw [hr, hA]; rfl)
      rw [← hr] at hc1
      rw [← hA] at hc2 Hi HAk
      clear hr hA
      obtain ⟨wa, hwa⟩ : ∃ wa, wa = wr.alloc (.cells #[.int .i64 r, .slice ua A.length uc] 88) := ⟨_, rfl⟩
      obtain ⟨wb, hwb⟩ : ∃ wb, wb = wa.alloc (.map #[] 0) := ⟨_, rfl⟩
      obtain ⟨ba, hba⟩ : ∃ x, x = wr.heap.size := ⟨_, rfl⟩
      obtain ⟨bn, hbn⟩ : ∃ x, x = wa.heap.size := ⟨_, rfl⟩
      obtain ⟨rr, hrr⟩ : ∃ x, x = wb.heap.size := ⟨_, rfl⟩
      have Hs := Lib.hid (show bf < ba ∧ ba < bn ∧ bn < rr from ⟨by rw [hba]; exact Hm.out.lt, by rw [hba, hbn, hwa]; simp, by rw [hbn, hrr, hwb]; simp⟩)
      have Hba := Lib.hid (show wb.heap[ba]? = some (.cells #[.int .i64 r, .slice ua A.length uc] 88 (0, 0)) from by
        have := heap_alloc_new wr (.cells #[.int .i64 r, .slice ua A.length uc] 88)
        rw [← hwa, ← hba] at this
        rw [hwb]
        exact blk_keep this (below_alloc _ _))
      have Hbn := Lib.hid (show MSetN wb bn 0 (Came facts body k (MaP facts (body.take k))) from by
        have := mset_made wa
        rw [← hwb, ← hbn] at this
        exact this.congr fun x => (came_none x).symm)
      have Hbb := Lib.hid (show Below wr.heap.size wr wb from by rw [hwb, hwa]; exact Below.tr (below_alloc _ _) (below_alloc _ _))
      have Hmb := Lib.hid (Hm.out.keep Hbb.out)
      have Hb := Lib.hid (Below.tr Hb.out Hbb.out)
      have Hwa := Lib.hid hwa
      have Hwb := Lib.hid hwb
      have Hbae := Lib.hid hba
      have Hbne := Lib.hid hbn
      have Hrre := Lib.hid hrr
      clear hwa hwb hba hbn hrr Hm
      go_upto_region 5 with fail
      rw [← Hwa.out]
      go_upto_region 6 with fail
      rw [← Hwb.out, ← Hbae.out, ← Hbne.out]
      clear Hwa Hwb Hbae Hbne hc1 hc2 hixk
      go_wp2_with (first | (at_range; refine wpList_range_match rfl _ rfl _ rfl rfl Hmb.out ?_; intro w0 hr0 hg0 hs0))
      rw [← Hrre.out] at hr0 ⊢
      have hb0 : Below wb.heap.size wb w0 := ⟨hg0.os, hg0.tape, hg0.output, hg0.size, fun k hk => hg0.block k hk (by simp)⟩
      have Hr0 := Lib.hid hr0
      have Ha0 := Lib.hid (blk_keep Hba.out hb0)
      have Hn0 := Lib.hid (Hbn.out.keep hb0)
      have Hb0 := Lib.hid (Below.tr Hb.out hb0)
      clear hb0 hr0 hg0 hs0 Hba Hbn Hb Hmb Hbb Hrre
      go_frame
      go_loopw [10] (fun _ wx => ∃ (q : List Int → Prop) (cnt m : Nat), MIt wx bf rr (MaP facts (body.take k)) q cnt ∧ MSetN wx bn m (Came facts body k q) ∧ m ≤ 20000 ∧ wx.heap[ba]? = some (.cells #[.int .i64 r, .slice ua A.length uc] 88 (0, 0)) ∧ Below w.heap.size w wx) (fun _ wx => wx.rangeLeft bf rr)
      case atStart => exact ⟨_, _, _, Hr0.out, Hn0.out, by omega, Ha0.out, Hb0.out⟩
      case round =>
        clear Hr0 Ha0 Hn0 Hb0
        obtain ⟨q, cnt, m, hr0, hn0, hm0, ha0, hb0⟩ := hrel
        have Hr := Lib.hid hr0
        have Hn := Lib.hid hn0
        have Hm := Lib.hid hm0
        have Ha := Lib.hid ha0
        have Hb := Lib.hid hb0
        clear hr0 hn0 hm0 ha0 hb0
        go_wp2_with (first | (at_next; refine wpList_next_match rfl _ rfl _ rfl rfl Hr.out ?_ ?_))
        · intro hq
          have HN := Lib.hid (Hn.out.congr (came_all Hok.out hlt hq))
          have Hno1 := Lib.hid (show ∀ j, 0 < j → j ≤ k + 1 → ¬ BigAt facts body j from fun j h1 h2 => by
            by_cases c : j = k + 1
            · subst c
              rintro ⟨L, l1, l2, l3⟩
              obtain ⟨M, m1, m2, m3⟩ := HN.out.count
              have := len_le l1 (m := M) fun x hx => (m3 x).2 (l2 x hx)
              have := Hm.out
              omega
            · exact Hno.out j h1 (by omega))
          have Hbn := Lib.hid (show w.heap.size ≤ bn from by have := Hbf.out; have := Hs.out; omega)
          clear hq
          go_wp2_with fail
          go_roundw
          case rel => exact ⟨k + 1, bn, m, rfl, by go_num, by omega, Hbn.out, HN.out, Hm.out, Hb.out, Hno1.out⟩
          case measure => simp [intOf]; omega
        · intro v c w3 cnt3 hqv hvk hr3 hlt3 hg3 hs3 hen
          have hb3 : Below w.heap.size w w3 := Hb.out.grown hg3 Hb.out.size (fun j hj => by cases hj; have := Hbf.out; have := Hs.out; omega)
          have HMv := Lib.hid (show MaP facts (body.take k) v from by obtain ⟨D, left, _, _, _, _, h6⟩ := Hr.out; exact h6 v hqv)
          have Hn3 := Lib.hid (Hn.out.kept hg3 (by have := Hs.out; intro h; injection h with h; omega))
          have Ha3 := Lib.hid ((hg3.block ba (Array.getElem?_eq_some_iff.1 Ha.out).1 (by have := Hs.out; intro h; injection h with h; omega)).trans Ha.out)
          have hz8 := heap_alloc_new w3 (.cells Z8 95)
          have h8 := hvk.1
          have HSv := Lib.hid (sizeVr h8)
          have Hzs := Lib.hid (show Z8.size = (vrow v).size by rw [vrow_size, h8]; rfl)
          have H1v := Lib.hid (vrow_one v)
          obtain ⟨X, hX⟩ : ∃ X, X = vrow v := ⟨_, rfl⟩
          have HX := Lib.hid hX
          rw [← hX] at HSv Hzs H1v hen
          obtain ⟨wv, hwv⟩ : ∃ wv, wv = (w3.alloc (.cells Z8 95)).setRow w3.heap.size X := ⟨_, rfl⟩
          obtain ⟨bv, hbv⟩ : ∃ x, x = w3.heap.size := ⟨_, rfl⟩
          have Hv := Lib.hid (show wv.heap[bv]? = some (.cells X 95 (0, 0)) from by rw [hwv, hbv]; exact setRow_heap _ _ _ X _ _ hz8)
          have hbb : Below w3.heap.size w3 wv := by rw [hwv]; exact below_setRow (below_alloc _ _) (Nat.le_refl _) _
          have Hsv := Lib.hid (show rr < bv from by rw [hbv]; exact hr3.lt.1)
          have Hrv := Lib.hid (hr3.keep hbb)
          have Hnv := Lib.hid (Hn3.out.keep hbb)
          have Hav := Lib.hid (blk_keep Ha3.out hbb)
          have Hbv := Lib.hid (Below.tr hb3 hbb)
          have Hz8 := Lib.hid hz8
          have Hwv := Lib.hid hwv
          have Hbve := Lib.hid hbv
          clear hbb hz8 hwv hX hbv hg3 hs3 hb3 hr3 Hn3 Ha3 hvk hqv
          go_upto_region 9 with (first | (refine wpList_store_row rfl 95 (.tmp 10) (.tmp 30) rfl w3.heap.size X rfl rfl 95 _ Hz8.out HSv.out Hzs.out H1v.out ?_))
          go_frame
          rw [← Hwv.out, ← Hbve.out]
          clear Hwv Hbve Hz8 hen
          go_wp2_with fail
          go_loopw [33] (fun vj wy => ∃ j m2 : Nat, vj = .int .i64 j ∧ j ≤ facts.length ∧ MIt wy bf rr (MaP facts (body.take k)) (fun x => q x ∧ x ≠ v) cnt3 ∧ MSetN wy bn m2 (CameV facts body k q v j) ∧ m2 ≤ 20000 + j ∧ wy.heap[ba]? = some (.cells #[.int .i64 r, .slice ua A.length uc] 88 (0, 0)) ∧ wy.heap[bv]? = some (.cells X 95 (0, 0)) ∧ Below w.heap.size w wy) (fun vj _ => facts.length - (intOf vj).toNat)
          case atStart => exact ⟨0, m, rfl, Nat.zero_le _, Hrv.out, Hnv.out.congr (fun x => camev_none.symm), by have := Hm.out; omega, Hav.out, Hv.out, Hbv.out⟩
          case round =>
            clear Hrv Hnv Hav Hv Hbv
            obtain ⟨j, m2, rfl, hj, hr, hn, hm, ha, hv, hb⟩ := hrel
            have HR := Lib.hid hr
            have HN := Lib.hid hn
            have HM2 := Lib.hid hm
            have HA4 := Lib.hid ha
            have HV := Lib.hid hv
            have HB := Lib.hid hb
            clear hr hn hm ha hv hb
            by_cases hjl : j < facts.length
            · have hc1 := Below.keep HB.out (Hc2.out j hjl).1
              have hc2 := Below.keep HB.out (Hc2.out j hjl).2.1
              have hixj := Hix2.out j
              have Hif := Lib.hid (Hc2.out j hjl).2.2
              obtain ⟨fa, fc, hu⟩ := ints_slice Hif.out
              rw [hu] at hc2 Hif
              clear hu
              obtain ⟨r2, hr2⟩ : ∃ t, t = aR facts j := ⟨_, rfl⟩
              obtain ⟨F, hF⟩ : ∃ t, t = aA facts j := ⟨_, rfl⟩
              have HrF := Lib.hid (show (r2, F) = facts.getD j (0, []) from by rw [hr2, hF]; rfl)
              rw [← hr2] at hc1
              rw [← hF] at hc2 Hif
              clear hr2 hF
              obtain ⟨wf, hwf⟩ : ∃ wf, wf = wr.alloc (.cells #[.int .i64 r2, .slice fa F.length fc] 77) := ⟨_, rfl⟩
              have hbf : Below wr.heap.size wr wf := by rw [hwf]; exact below_alloc _ _
              have f0 : wf.cell? ⟨wr.heap.size, 0, none⟩ = some (.int .i64 r2) := by rw [hwf]; exact cell_new wr _ _ 0
              have f1 : wf.cell? ⟨wr.heap.size, 1, none⟩ = some (.slice fa F.length fc) := by rw [hwf]; exact cell_new wr _ _ 1
              have HA5 := Lib.hid (blk_keep HA4.out hbf)
              have HV5 := Lib.hid (blk_keep HV.out hbf)
              have g0 := eCell HA5.out 0 rfl
              have g1 := eCell HA5.out 1 rfl
              have HB5 := Lib.hid (Below.tr HB.out hbf)
              have HR5 := Lib.hid (HR.out.keep hbf)
              have HN5 := Lib.hid (HN.out.keep hbf)
              have Hwf := Lib.hid hwf
              have hia := Hi.out.keep HB5.out
              have hif := Hif.out.keep HB5.out
              have Hv8 := Lib.hid h8
              clear hwf hbf HR HN HB HA4 HV
              go_upto_region 12 with fail
              rw [← Hwf.out]
              clear Hwf hc1 hc2 hixj
              cases hx : extA v (r, A) (r2, F) with
              | none =>
                have HE := Lib.hid (extend_none Hv8.out HAk.out hia hif hx)
                rw [← HX.out] at HE
                rw [HrA.out, HrF.out] at hx
                have Hx := Lib.hid (camev_no (q := q) hx)
                clear hx hia hif
                go_wp2_with (first | (refine wpList_load_row rfl 95 (.tmp 10) rfl bv rfl 95 X (0, 0) _ HV5.out undV rfl HSv.out ?_))
                refine HE.out.mono ?_
                rintro e w6 ⟨y, rfl, hy8, hb6⟩
                have h6 := heap_alloc_new w6 (.cells Z8 95)
                have HSy := Lib.hid (sizeVr hy8)
                have Hzy := Lib.hid (show Z8.size = (vrow y).size by rw [vrow_size, hy8]; rfl)
                have H1y := Lib.hid (vrow_one y)
                obtain ⟨Y, hY⟩ : ∃ Y, Y = vrow y := ⟨_, rfl⟩
                have HY := Lib.hid hY
                rw [← hY] at HSy Hzy H1y ⊢
                obtain ⟨w7, hw7⟩ : ∃ w7, w7 = (w6.alloc (.cells Z8 95)).setRow w6.heap.size Y := ⟨_, rfl⟩
                have HV7 := Lib.hid (show w7.heap[w6.heap.size]? = some (.cells Y 95 (0, 0)) from by rw [hw7]; exact setRow_heap _ _ _ Y _ _ h6)
                have hb7 : Below w6.heap.size w6 w7 := by rw [hw7]; exact below_setRow (below_alloc _ _) (Nat.le_refl _) _
                have hb67 := Below.tr hb6 hb7
                have HR7 := Lib.hid (HR5.out.keep hb67)
                have HN7 := Lib.hid (HN5.out.keep hb67)
                have HA7 := Lib.hid (blk_keep HA5.out hb67)
                have HB7 := Lib.hid (Below.tr HB5.out hb67)
                have HVv := Lib.hid (blk_keep HV5.out hb67)
                have H6 := Lib.hid h6
                have Hw7 := Lib.hid hw7
                clear h6 hw7 hb6 hb7 hb67 hY hy8 HR5 HN5 HA5 HB5 HV5 f0 f1 g0 g1 HE
                go_upto_region 13 with (first | (refine wpList_store_row rfl 95 (.tmp 13) (.tmp 42) rfl w6.heap.size Y rfl rfl 95 _ H6.out HSy.out Hzy.out H1y.out ?_))
                try go_frame
                rw [← Hw7.out]
                clear Hw7 H6
                go_wp2_with fail
                go_roundw
                case rel => exact ⟨j + 1, m2, by go_num, by omega, HR7.out, HN7.out.congr Hx.out, by have := HM2.out; omega, HA7.out, HVv.out, HB7.out⟩
                case measure => simp [intOf]; omega
              | some y =>
                have HE := Lib.hid (extend_some Hv8.out HAk.out hia hif hx)
                rw [← HX.out] at HE
                rw [HrA.out, HrF.out] at hx
                have Hx := Lib.hid (camev_yes (q := q) hx)
                have Hvy := Lib.hid (show Vok y from vok_of_maP (Hok.out.take (k + 1)) ((maP_take Hok.out hlt y).2 ⟨v, _, HMv.out, by rw [getA_at hjl]; exact List.getElem_mem _, hx⟩))
                clear hx hia hif
                go_wp2_with (first | (refine wpList_load_row rfl 95 (.tmp 10) rfl bv rfl 95 X (0, 0) _ HV5.out undV rfl HSv.out ?_))
                refine HE.out.mono ?_
                rintro e w6 ⟨rfl, hy8, hb6⟩
                have h6 := heap_alloc_new w6 (.cells Z8 95)
                have HSy := Lib.hid (sizeVr hy8)
                have Hzy := Lib.hid (show Z8.size = (vrow y).size by rw [vrow_size, hy8]; rfl)
                have H1y := Lib.hid (vrow_one y)
                obtain ⟨Y, hY⟩ : ∃ Y, Y = vrow y := ⟨_, rfl⟩
                have HY := Lib.hid hY
                rw [← hY] at HSy Hzy H1y ⊢
                obtain ⟨w7, hw7⟩ : ∃ w7, w7 = (w6.alloc (.cells Z8 95)).setRow w6.heap.size Y := ⟨_, rfl⟩
                have HV7 := Lib.hid (show w7.heap[w6.heap.size]? = some (.cells Y 95 (0, 0)) from by rw [hw7]; exact setRow_heap _ _ _ Y _ _ h6)
                have hb7 : Below w6.heap.size w6 w7 := by rw [hw7]; exact below_setRow (below_alloc _ _) (Nat.le_refl _) _
                have hb67 := Below.tr hb6 hb7
                have HR7 := Lib.hid (HR5.out.keep hb67)
                have HN7 := Lib.hid (HN5.out.keep hb67)
                have HA7 := Lib.hid (blk_keep HA5.out hb67)
                have HB7 := Lib.hid (Below.tr HB5.out hb67)
                have HVv := Lib.hid (blk_keep HV5.out hb67)
                have H6 := Lib.hid h6
                have Hw7 := Lib.hid hw7
                clear h6 hw7 hb6 hb7 hb67 hY hy8 HR5 HN5 HA5 HB5 HV5 f0 f1 g0 g1 HE
                go_upto_region 13 with (first | (refine wpList_store_row rfl 95 (.tmp 13) (.tmp 42) rfl w6.heap.size Y rfl rfl 95 _ H6.out HSy.out Hzy.out H1y.out ?_))
                try go_frame
                rw [← Hw7.out]
                clear Hw7 H6
                go_wp2_with (first | (refine wpList_load_row rfl 95 (.tmp 13) rfl w6.heap.size rfl 95 Y (0, 0) _ HV7.out undV rfl HSy.out ?_) | (refine wpList_put_match rfl _ rfl (.tmp 45) (.tmp 46) _ rfl rfl (by rw [← HY.out]; rfl) rfl HN7.out Hvy.out (by have := HM2.out; omega) ?_; intro w8 m8 hn8 hm8 hg8))
                have hs := Hs.out
                have hsv := Hsv.out
                have hne : ∀ {i : Nat}, i ≠ bn → some i ≠ some bn := fun h e => h (Option.some.inj e)
                have HR8 := Lib.hid (HR7.out.kept hg8 (hne (by omega)) (hne (by omega)))
                have HA8 := Lib.hid ((hg8.block ba (Array.getElem?_eq_some_iff.1 HA7.out).1 (hne (by omega))).trans HA7.out)
                have HV8 := Lib.hid ((hg8.block bv (Array.getElem?_eq_some_iff.1 HVv.out).1 (hne (by omega))).trans HVv.out)
                have HB8 := Lib.hid (HB7.out.grown hg8 HB7.out.size (fun i hi => by cases hi; have := Hbf.out; omega))
                have HN8 := Lib.hid (hn8.congr Hx.out)
                have HM8 := Lib.hid (show m8 ≤ 20000 + (j + 1) by have := HM2.out; omega)
                clear hs hsv hne hn8 hm8 hg8
                go_roundw
                case rel => exact ⟨j + 1, m8, by go_num, by omega, HR8.out, HN8.out, HM8.out, HA8.out, HV8.out, HB8.out⟩
                case measure => simp [intOf]; omega
            · obtain rfl : j = facts.length := by omega
              have HNe := Lib.hid (HN.out.congr (camev_all HMv.out))
              by_cases hbig : (m2 : Int) > 20000
              · have R := Lib.hid (show Big facts body from by
                  obtain ⟨L, l1, l2, l3⟩ := HNe.out.count
                  exact ⟨k + 1, by omega, by omega, L, l1, fun x hx => came_maP Hok.out hlt ((l3 x).1 hx), by omega⟩)
                go_wp2_with (first | (refine wpList_len_match rfl _ rfl _ rfl rfl HN.out ?_))
                go_ret2
                exact ⟨.inl ⟨R.out, rfl⟩, HB.out⟩
              · have Hm2 := Lib.hid (show m2 ≤ 20000 by omega)
                go_wp2_with (first | (refine wpList_len_match rfl _ rfl _ rfl rfl HN.out ?_))
                go_roundw
                case rel => exact ⟨_, cnt3, m2, HR.out, HNe.out, Hm2.out, HA4.out, HB.out⟩
                case measure => rw [HR.out.left_eq, Hr.out.left_eq]; exact hlt3
    · obtain rfl : k = body.length := by omega
      have R := Lib.hid (show ¬ Big facts body from fun ⟨j, h1, h2, h3⟩ => Hno.out j h1 h2 h3)
      have HM := Lib.hid (show MSetN wr bf n (MaP facts body) from by have := Hm.out; rw [List.take_length] at this; exact this)
      go_wp2_with fail
      go_ret2
      exact ⟨.inr ⟨R.out, bf, n, rfl, Hbf.out, HM.out⟩, Hb.out⟩
#print axioms matches_any
end Go.Proofs.Ytfplmdieeabgpaa
