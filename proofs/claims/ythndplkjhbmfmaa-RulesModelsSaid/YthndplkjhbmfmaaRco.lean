/- Contract of (*program).consequences, as (*cubeb/rules.program).model$1 calls it. -/
import Derived.Test.YthndplkjhbmfmaaRcp
namespace Go.Proofs.Ythndplkjhbmfmaa
open Go.RowKit
set_option maxRecDepth 100000 in
set_option maxHeartbeats 16000000 in
theorem conM_any {base bnd : Nat} {w : World} {bp : Nat} {rl : Value} {M : PMem} {S : PSt} (hP : PG base bnd w bp rl M S) (hIV : InsV S.I) (hcnt : ∀ c, KOk c → ∀ i (h : i < S.I.length), (S.R (2 + c.toNat)).count (i : Int) = S.I[i].need.count c) (hmem : ∀ c, KOk c → ∀ x, x ∈ S.R (2 + c.toNat) → ∃ i : Nat, x = i ∧ i < S.I.length) (hle : S.I.length ≤ 1000000000)
    (mv mk ng nk : Nat) (G K : Int → Prop) (hg : KSet w mv ng G) (hk : KSet w mk nk K) (c1 c2 c3 : Nat) (cnt : Nat → Bool)
    (hcn : ∀ k (h : k < S.I.length) (w' : World), Below w.heap.size w w' → Calls Try.prog 124 #[.int .i64 (S.I[k].rule : Int), .pointer (some ⟨c1, 0, none⟩), .pointer (some ⟨c2, 0, none⟩), .pointer (some ⟨c3, 0, none⟩)] w' fun e w2 => e = .returned (.bool (cnt S.I[k].rule)) ∧ ∃ q, w2 = w'.drewN q) :
    Calls Try.prog 105 #[.pointer (some ⟨bp, 0, none⟩), .map (some mv), .map (some mk), .func (.func 124) #[] #[.pointer (some ⟨c1, 0, none⟩), .pointer (some ⟨c2, 0, none⟩), .pointer (some ⟨c3, 0, none⟩)]] w fun e w' => ∃ m nm, e = .returned (.map (some m)) ∧ KSet w' m nm (ConsI S.I cnt G K) ∧ w.heap.size ≤ m ∧ Below w.heap.size w w' := by
  obtain ⟨ia, ib, ioff, ic, hvi, hia, hins⟩ := hP.ins.get
  obtain ⟨N, hN⟩ : ∃ x, x = S.I.length := ⟨_, rfl⟩
  have HN := Lib.hid hN
  have Hix := Lib.hid (run_ix (P := Try.prog) (t := 191) (a := ia) (len := N) (cap := ic) (b := ib) (off := ioff) (s := 4) Try.underlying191 (by intro w; kernel_rfl) (by rw [hN]; exact hia))
  have HP := Lib.hid hP
  have HIV := Lib.hid hIV
  have Hcnt := Lib.hid hcnt
  have Hmem := Lib.hid hmem
  have Hvi := Lib.hid (show M.vi = .slice ia N ic from by rw [hN]; exact hvi)
  have Hins := Lib.hid hins
  have HK := Lib.hid hk
  have Hcn := Lib.hid hcn
  have hN9 : N ≤ 1000000000 := by rw [hN]; exact hle
  have HN9 := Lib.hid hN9
  have hmvl := hg.lt
  obtain ⟨i0, hi, hz, hzz, hby⟩ := info_parts infoInt
  have Hi := Lib.hid hi
  have Hz := Lib.hid hz
  have Hzz := Lib.hid hzz
  have Hby := Lib.hid (show i0.bytes * N ≤ 281474976710656 from by rw [hby]; omega)
  clear hi hz hzz hby
  obtain ⟨B, hB⟩ : ∃ x, x = w.heap.size := ⟨_, rfl⟩
  obtain ⟨bg, hbg⟩ : ∃ x, x = w.heap.size + 1 := ⟨_, rfl⟩
  obtain ⟨bq, hbq⟩ : ∃ x, x = w.heap.size + 1 + 1 := ⟨_, rfl⟩
  obtain ⟨wa, hwa⟩ : ∃ x, x = w.alloc (.map #[] 0) := ⟨_, rfl⟩
  obtain ⟨wb, hwb⟩ : ∃ x, x = wa.alloc (.cells #[.map (some w.heap.size)] 130) := ⟨_, rfl⟩
  obtain ⟨w1, hw1⟩ : ∃ x, x = wb.alloc (.cells #[.slice none 0 0] 23) := ⟨_, rfl⟩
  have hba : Below w.heap.size w wa := by rw [hwa]; exact below_alloc _ _
  have hbb : Below wa.heap.size wa wb := by rw [hwb]; exact below_alloc _ _
  have hbc : Below wb.heap.size wb w1 := by rw [hw1]; exact below_alloc _ _
  have hsa : wa.heap.size = w.heap.size + 1 := by rw [hwa]; exact Array.size_push _
  have hsb : wb.heap.size = w.heap.size + 1 + 1 := by rw [hwb]; exact (Array.size_push _).trans (by rw [hsa])
  have HB1 := Lib.hid (show Below B w w1 from by rw [hB]; exact Below.tr (Below.tr hba hbb) hbc)
  have HX1 := Lib.hid (show BX B w1 bg bq B (.slice none 0 0) (fun _ => False) [] from by
    refine ⟨?_, ?_, ⟨0, ?_⟩, oq_nil _ _, fun k hk => ?_⟩
    · rw [hbc.block bg (by omega), hwb, hbg, ← hsa, hB]; exact heap_alloc_new _ _
    · rw [hw1, hbq, ← hsb]; exact heap_alloc_new _ _
    · have h0 := kset_made w
      rw [← hwa, ← hB] at h0
      exact (h0.keep hbb).keep hbc
    · rcases hk with e | e | e | e
      · omega
      · omega
      · omega
      · cases e)
  have HG1 := Lib.hid ((hg.keep hba).keep hbb |>.keep hbc)
  have Hwa := Lib.hid hwa
  have Hwb := Lib.hid hwb
  have Hw1 := Lib.hid hw1
  have HBe := Lib.hid hB
  have Hbg := Lib.hid hbg
  have Hbq := Lib.hid hbq
  have HmvB := Lib.hid (show mv < B from by rw [hB]; exact hmvl)
  have hmk := fun w => run_map3 w
  clear hP hIV hcnt hmem hvi hia hins hN hg hk hcn hle hwa hwb hw1 hB hbg hbq hba hbb hbc hsa hsb hmvl hN9
  go_enter Try.func105, Try.ntmps105
  go_upto_region 4 with fail
  rw [← Hwa.out, ← Hwb.out, ← Hw1.out, ← Hbq.out, ← Hbg.out, ← HBe.out]
  clear hmk Hwa Hwb Hw1
  obtain ⟨rr, hrr⟩ : ∃ x, x = w1.heap.size := ⟨_, rfl⟩
  have Hrr := Lib.hid hrr
  have HRge := Lib.hid (show B ≤ rr from by have := HB1.out.size; have := HBe.out; omega)
  clear hrr
  go_wp2_with (first | (at_range; refine wpList_range_set rfl _ rfl _ rfl rfl HG1.out ?_; intro w2 hr2 hg2 hs2))
  rw [← Hrr.out] at hr2 ⊢
  have hb2 : Below w1.heap.size w1 w2 := ⟨hg2.os, hg2.tape, hg2.output, hg2.size, fun k hk => hg2.block k hk (by simp)⟩
  have HR2 := Lib.hid hr2
  have HX2 := Lib.hid (HX1.out.keep hb2)
  have HB2 := Lib.hid (show Below B w w2 from HB1.out.trans (hb2.mono (by have := HB1.out.size; have := HBe.out; omega)))
  clear hr2 hg2 hs2 hb2 HX1 HB1 HG1
  go_frame
  go_loopw [12] (fun _ wr => ∃ (q : Int → Prop) (ct : Nat) (qv : Value) (got : Int → Prop) (Qu : List Int), KIt wr mv rr G q ct ∧ BX B wr bg bq B qv got Qu ∧ Below B w wr ∧ CQ S.I cnt G K got [] Qu ∧ ∀ x, G x → ¬ q x → got x) (fun _ wr => wr.rangeLeft mv rr)
  case atStart => exact ⟨_, _, _, _, _, HR2.out, HX2.out, HB2.out, ⟨fun x => by simp, List.nodup_nil, fun x hx => hx.elim⟩, fun x h1 h2 => absurd h1 h2⟩
  case round =>
    clear HR2 HX2 HB2
    generalize wr = wx at *
    obtain ⟨q, ct, qv, got, Qu, hr, hx, hb, hq, hd⟩ := hrel
    have HR := Lib.hid hr
    have HX := Lib.hid hx
    have HB := Lib.hid hb
    have HQ := Lib.hid hq
    have HD := Lib.hid hd
    clear hr hx hb hq hd
    have HLe := Lib.hid HR.out.left_eq
    go_wp2_with (first | (at_next; refine wpList_next_set rfl _ rfl _ rfl rfl HR.out ?_ ?_))
    · intro hq
      have HGot := Lib.hid (show ∀ x, G x → got x from fun x hx => HD.out x hx (hq x))
      clear hq HR HD
      have HPx := Lib.hid (HP.out.keep (show Below w.heap.size w wx from HBe.out ▸ HB.out))
      have g1 := HPx.out.cell (j := 1) (by omega)
      rw [if_neg (by omega), if_pos rfl, Hvi.out] at g1
      go_wp2_with (first | (refine wpList_make_full _ rfl (.tmp 34) (.tmp 34) 23 rfl B 3 i0 (.int .i64 0) 1 Try.underlying23 Hi.out Hz.out Hzz.out .i64 .i64 _ _ N rfl rfl rfl rfl Hby.out (by unfold maxLen; have := HN9.out; omega) (by have := HB.out.size; have := HBe.out; omega) ?_; intro w4 hown hgr; clear g1; have g1 := (HPx.out.keep (⟨hgr.os, hgr.tape, hgr.output, hgr.size, fun k hk => hgr.block k hk (by simp)⟩ : Below wx.heap.size wx w4)).cell (j := 1) (by omega); rw [if_neg (by omega), if_pos rfl, Hvi.out] at g1))
      obtain ⟨gm, hgm⟩ : ∃ x, x = wx.heap.size := ⟨_, rfl⟩
      rw [← hgm] at hown ⊢
      have hb4 : Below wx.heap.size wx w4 := ⟨hgr.os, hgr.tape, hgr.output, hgr.size, fun k hk => hgr.block k hk (by simp)⟩
      have HW4 := Lib.hid (show CW B w w4 bg bq B gm N got Qu (List.replicate N 0) from by
        refine ⟨⟨qv, HX.out.keep hb4, fun e => by have := HX.out.lt e; omega⟩, HB.out.trans (hb4.mono (by have := HB.out.size; have := HBe.out; omega)), ?_, by simp⟩
        have e : (madeCells (Value.int .i64 0).cells (N * 1)).toList = (List.replicate N (0 : Int)).map (Value.int .i64) := by
          rw [Nat.mul_one]
          show (madeCells #[Value.int .i64 0] N).toList = _
          rw [toList_madeCells_one, List.map_replicate]
        rw [e] at hown
        unfold OwnInts
        rw [List.length_replicate]; exact hown)
      have HixM := Lib.hid (run_ix (P := Try.prog) (t := 23) (a := some ⟨gm, 0, none⟩) (len := N) (cap := N) (b := gm) (off := 0) (s := 1) Try.underlying23 (by intro w; kernel_rfl) (fun _ => rfl))
      simp only [Nat.mul_one, Nat.zero_add] at HixM
      clear hown hgr hb4 hgm g1 HX HB HPx
      go_loopw [41] (fun vi wr => ∃ (k : Nat) (got : Int → Prop) (Qu ms : List Int), vi = .int .i64 k ∧ k ≤ N ∧ CW B w wr bg bq B gm N got Qu ms ∧ CQ S.I cnt G K got [] Qu ∧ CS S.I cnt K got k ms ∧ ∀ x, G x → got x) (fun vi _ => N - (intOf vi).toNat)
      case atStart => exact ⟨0, got, Qu, _, rfl, Nat.zero_le _, HW4.out, HQ.out, by rw [HN.out]; exact cs_0 _ _ _ _, HGot.out⟩
      case round =>
        clear HW4 HQ HGot
        clear got Qu
        generalize wr = wy at *
        obtain ⟨k, got, Qu, ms, rfl, hk, hw, hq, hs, hd⟩ := hrel
        have HW := Lib.hid hw
        have HQ := Lib.hid hq
        have HS := Lib.hid hs
        have HD := Lib.hid hd
        clear hw hq hs hd
        have hN9 := HN9.out
        have HPy := Lib.hid (HP.out.keep (show Below w.heap.size w wy from HBe.out ▸ HW.out.bel))
        by_cases hlt : k < N
        · have hlt2 : k < S.I.length := by rw [← HN.out]; exact hlt
          obtain ⟨na, nc, aa, ac, e0, e1, e2, e3, hin, hia⟩ := Hins.out k hlt2
          have hW : Below w.heap.size w wy := HBe.out ▸ HW.out.bel
          have hc0 := Below.keep hW e0
          have hc1 := Below.keep hW e1
          have hc2 := Below.keep hW e2
          have hc3 := Below.keep hW e3
          clear e0 e1 e2 e3
          have hixk := Hix.out k
          have hixm := HixM.out k
          have HCn := Lib.hid (fun w' hb => Hcn.out k hlt2 w' hb)
          have HKi := Lib.hid (HIV.out _ (List.getElem_mem hlt2))
          have HSn := Lib.hid (fun x hx hg => HS.out.next (x := x) hlt2 hx hg)
          have HMi := Lib.hid (List.getElem_mem hlt2)
          obtain ⟨p, hp⟩ : ∃ p, p = S.I[k] := ⟨_, rfl⟩
          have Hpk := Lib.hid hp.symm
          rw [← hp] at hc0 hc1 hc2 hc3 hin hia HCn HKi HSn HMi
          obtain ⟨nl, hnl⟩ : ∃ x, x = p.need.length := ⟨_, rfl⟩
          obtain ⟨al, hal⟩ : ∃ x, x = p.avoid.length := ⟨_, rfl⟩
          have Hnl := Lib.hid hnl
          rw [← hnl] at hc2 hin
          rw [← hal] at hc3 hia
          obtain ⟨w3, hw3⟩ : ∃ x, x = wy.alloc (.cells #[.int .i64 p.rule, .int .i64 p.head, .slice na nl nc, .slice aa al ac] 207) := ⟨_, rfl⟩
          have hb3 : Below wy.heap.size wy w3 := by rw [hw3]; exact below_alloc _ _
          obtain ⟨bx, hbx⟩ : ∃ x, x = wy.heap.size := ⟨_, rfl⟩
          have hX3 : w3.heap[bx]? = some (.cells #[.int .i64 p.rule, .int .i64 p.head, .slice na nl nc, .slice aa al ac] 207 (0, 0)) := by rw [hw3, hbx]; exact heap_alloc_new _ _
          have HX3 := Lib.hid hX3
          have HW3 := Lib.hid (HW.out.keep hb3 (by have := HW.out.bel.size; have := HBe.out; omega))
          have Hgx := Lib.hid (show gm ≠ bx from by have := (own_lt HW.out.row rfl : B ≤ gm ∧ gm < wy.heap.size); omega)
          have Hia := Lib.hid hia
          have Hw3 := Lib.hid hw3
          have Hbx := Lib.hid hbx
          clear hp hnl hal hw3 hb3 hbx hX3 hin hia hW
          go_upto_region 12 with fail
          rw [← Hw3.out, ← Hbx.out]
          clear Hw3 hc0 hc1 hc2 hc3 hixk
          have g0 := aCell HX3.out 0 rfl
          have g1 := aCell HX3.out 1 rfl
          have g2 := aCell HX3.out 2 rfl
          have g3 := aCell HX3.out 3 rfl
          obtain ⟨hm1, hm2⟩ := HW3.out.cell hlt
          go_upto_region 13 with fail
          have HW4 := Lib.hid (HW3.out.set k (nl : Int))
          have HX4 := Lib.hid ((heap_setCell_other w3 ⟨gm, k, none⟩ bx (.int .i64 (nl : Int)) Hgx.out.symm).trans HX3.out)
          clear g0 g1 g2 g3 hm1 hm2 HW3 HX3
          generalize w3.setCell ⟨gm, k, none⟩ (.int .i64 (nl : Int)) = w4 at *
          have g0 := aCell HX4.out 0 rfl
          have g1 := aCell HX4.out 1 rfl
          have g2 := aCell HX4.out 2 rfl
          have g3 := aCell HX4.out 3 rfl
          have HC := Lib.hid (HCn.out w4 (HBe.out ▸ HW4.out.bel))
          go_cut [61] (fun vb wc => ∃ bb : Bool, vb = .bool bb ∧ (bb = true ↔ ¬ Live cnt K p) ∧ Below w4.heap.size w4 wc)
          case first =>
            cases hcc : cnt p.rule with
            | false =>
              rw [hcc] at HC
              have HNl := Lib.hid (show ¬ Live cnt K p from fun h => by have := h.1; rw [hcc] at this; cases this)
              clear hcc
              go_wp2_with fail
              refine HC.out.mono ?_
              rintro e w5 ⟨rfl, m, hm⟩
              have Hm := Lib.hid hm
              clear hm
              go_wp2_with fail
              go_meet
              exact ⟨true, rfl, ⟨fun _ => HNl.out, fun _ => rfl⟩, by rw [Hm.out]; exact bdrewN2 (Below.refl _ _) m⟩
            | true =>
              rw [hcc] at HC
              have Hcc := Lib.hid hcc
              clear hcc
              go_wp2_with fail
              refine HC.out.mono ?_
              rintro e w5 ⟨rfl, m, hm⟩
              have hb5 : Below w4.heap.size w4 w5 := by rw [hm]; exact bdrewN2 (Below.refl _ _) m
              have HX5 := Lib.hid (blk_keep2 HX4.out hb5)
              have hW5 : Below w.heap.size w w5 := (show Below w.heap.size w w4 from HBe.out ▸ HW4.out.bel).trans (hb5.mono (by have := HW4.out.bel.size; omega))
              have HKw := Lib.hid (HK.out.keep hW5)
              have HIw := Lib.hid (Hia.out.keep hW5)
              have Hb5 := Lib.hid hb5
              clear hm hb5 hW5 g0 g1 g2 g3
              have g0 := aCell HX5.out 0 rfl
              have g1 := aCell HX5.out 1 rfl
              have g2 := aCell HX5.out 2 rfl
              have g3 := aCell HX5.out 3 rfl
              by_cases hh : ∃ x, x ∈ p.avoid ∧ K x
              · have HC := Lib.hid (hind_any p HKi.out.2.2.1 K mk nk (.slice na nl nc) (.slice aa al ac) w5 HKw.out HIw.out true ⟨fun _ => hh, fun _ => rfl⟩)
                have HNl := Lib.hid (show ¬ Live cnt K p from fun h => by obtain ⟨x, h1, h2⟩ := hh; exact h.2 x h1 h2)
                clear hh
                go_wp2_with fail
                refine HC.out.mono ?_
                rintro e w6 ⟨rfl, hb6⟩
                have Hb6 := Lib.hid (Below.tr Hb5.out hb6)
                clear hb6
                go_wp2_with fail
                go_meet
                exact ⟨true, rfl, ⟨fun _ => HNl.out, fun _ => rfl⟩, Hb6.out⟩
              · have HC := Lib.hid (hind_any p HKi.out.2.2.1 K mk nk (.slice na nl nc) (.slice aa al ac) w5 HKw.out HIw.out false ⟨fun h => (by cases h), fun h => absurd h hh⟩)
                have HNl := Lib.hid (show Live cnt K p from ⟨Hcc.out, fun x h1 h2 => hh ⟨x, h1, h2⟩⟩)
                clear hh
                go_wp2_with fail
                refine HC.out.mono ?_
                rintro e w6 ⟨rfl, hb6⟩
                have Hb6 := Lib.hid (Below.tr Hb5.out hb6)
                clear hb6
                go_wp2_with fail
                go_meet
                exact ⟨false, rfl, ⟨fun h => (by cases h), fun h => absurd HNl.out h⟩, Hb6.out⟩
          case rest =>
            generalize wc = wz at *
            obtain ⟨bb, rfl, hbl, hb5⟩ := hcut
            have HW5 := Lib.hid (HW4.out.keep hb5 (by have := HW4.out.bel.size; have := HBe.out; omega))
            have HX5 := Lib.hid (blk_keep2 HX4.out hb5)
            clear hb5 HW4 HX4 HC HCn g0 g1 g2 g3
            obtain ⟨hm1, hm2⟩ := HW5.out.cell hlt
            have Hl := Lib.hid (show k < ms.length from by rw [HW.out.len]; exact hlt)
            cases bb with
            | true =>
              have HNl := Lib.hid (show ¬ Live cnt K p from hbl.1 rfl)
              have HS6 := Lib.hid (HSn.out (-1) (bas_dead HNl.out).symm (fun h => by omega))
              have HW6 := Lib.hid (show CW B w (wz.setCell ⟨gm, k, none⟩ (.int .i64 (-1))) bg bq B gm N got Qu (ms.set k (-1)) from by
                have := HW5.out.set k (-1)
                rwa [List.set_set] at this)
              clear hbl HS HSn HW5
              go_upto_region 15 with fail
              clear hm1 hm2
              generalize wz.setCell ⟨gm, k, none⟩ (.int .i64 (-1)) = w6 at *
              obtain ⟨hm1, hm2⟩ := HW6.out.cell hlt
              rw [getD_setI Hl.out, if_pos rfl] at hm1
              go_wp2_with fail
              go_roundw
              case rel => exact ⟨k + 1, got, Qu, _, by go_num, by omega, HW6.out, HQ.out, HS6.out, HD.out⟩
              case measure => simp [intOf]; omega
            | false =>
              have HLv := Lib.hid (show Live cnt K p from Classical.byContradiction fun h => by have := hbl.2 h; cases this)
              clear hbl
              rw [getD_setI Hl.out, if_pos rfl] at hm1
              by_cases hnz : nl = 0
              · subst hnz
                obtain ⟨⟨qv, hx, hnb⟩, hbel, hrow, hlen⟩ := HW5.out
                have HXb := Lib.hid hx
                have Hnb := Lib.hid hnb
                have Hrow := Lib.hid hrow
                have Hlen := Lib.hid hlen
                have Hbel := Lib.hid hbel
                clear hx hnb hbel hrow hlen
                have HL := Lib.hid (cq_len HQ.out HXb.out.vok)
                have HC := Lib.hid (get_any HXb.out (by have := Hbel.out.size; have := HBe.out; omega) p.head HKi.out.1 (by have := HL.out; omega))
                have g1 := aCell HX5.out 1 rfl
                have HQ6 := Lib.hid (HQ.out.getn (c := p.head) (cq_step HQ.out HMi.out HLv.out fun x hx => by rw [List.eq_nil_of_length_eq_zero Hnl.out.symm] at hx; cases hx))
                have HS6 := Lib.hid ((HS.out.more (got' := fun x => got x ∨ x = p.head) fun x => .inl))
                have HS7 := Lib.hid (fun (h : S.I[k]'(by rw [← HN.out]; exact hlt) = p) => HS6.out.next (x := 0) (by rw [← HN.out]; exact hlt) (by rw [h, bas_live HLv.out, ← Hnl.out]; rfl) (fun _ => .inr (by rw [h])))
                have HD6 := Lib.hid (show ∀ x, G x → got x ∨ x = p.head from fun x hx => .inl (HD.out x hx))
                clear HSn HS HW5
                go_wp2_with fail
                refine HC.out.mono ?_
                clear HC
                rintro e w6 ⟨rfl, qv6, h61, h62⟩
                have HW6 := Lib.hid (cw_get HXb.out Hnb.out Hbel.out (by have := Hbel.out.size; have := HBe.out; omega) Hrow.out Hlen.out h61 h62)
                clear h61 h62 g1 hm1 hm2
                go_wp2_with fail
                go_roundw
                case rel => exact ⟨k + 1, _, _, _, by go_num, by omega, HW6.out, HQ6.out, HS7.out Hpk.out, HD6.out⟩
                case measure => simp [intOf]; omega
              · have hnz2 : ((nl : Int) == 0) = false := by simp; omega
                have HS6 := Lib.hid (HSn.out (nl : Int) (by rw [bas_live HLv.out, Hnl.out]) (fun h => by omega))
                clear HS HSn
                go_wp2_with fail
                go_roundw
                case rel => exact ⟨k + 1, got, Qu, _, by go_num, by omega, HW5.out, HQ.out, HS6.out, HD.out⟩
                case measure => simp [intOf]; omega
        · obtain rfl : N = k := by omega
          have HM := Lib.hid (show CM S.I cnt K got [] (fun _ => 0) ms from by have h := HS.out; rw [HN.out] at h; exact h.cm)
          clear HS HPy
          go_wp2_with fail
          go_loopw [16] (fun _ wr => ∃ (got : Int → Prop) (Qu P ms : List Int), CW B w wr bg bq B gm N got Qu ms ∧ CQ S.I cnt G K got P Qu ∧ CM S.I cnt K got P (fun _ => 0) ms ∧ ∀ x, G x → got x) (fun _ wr => cqm wr bq B)
          case atStart => exact ⟨got, Qu, [], ms, HW.out, HQ.out, HM.out, HD.out⟩
          case round =>
            clear HW HQ HM HD
            clear got Qu ms
            generalize wr = wz at *
            obtain ⟨got, Qu, P, ms, hw, hq, hm, hd⟩ := hrel
            have HQ := Lib.hid hq
            have HM := Lib.hid hm
            have HD := Lib.hid hd
            obtain ⟨⟨qv, hx, hnb⟩, hbel, hrow, hlen⟩ := hw
            have HX := Lib.hid hx
            have Hnb := Lib.hid hnb
            have Hrow := Lib.hid hrow
            have Hlen := Lib.hid hlen
            have Hbel := Lib.hid hbel
            have HMe := Lib.hid (cqm_eq hx hq)
            clear hq hm hd hx hnb hbel hrow hlen
            have HL := Lib.hid (cq_len HQ.out HX.out.vok)
            have hBz : B ≤ wz.heap.size := by have := Hbel.out.size; have := HBe.out; omega
            have HBz := Lib.hid hBz
            have ho := HX.out.o
            obtain ⟨qa, qc, hqv⟩ := ho.slice
            have Hqv := Lib.hid hqv
            have gq := aCell HX.out.q 0 rfl
            rw [hqv] at gq ho
            cases Qu with
            | nil =>
              simp only [List.length_nil] at gq
              have gg := aCell HX.out.g 0 rfl
              have HE := Lib.hid (show ∃ n, KSet wz B n (ConsI S.I cnt G K) from by
                obtain ⟨n, hs⟩ := HX.out.s
                exact ⟨n, hs.congr fun v => cq_end HQ.out HM.out HD.out v⟩)
              clear ho hqv
              go_wp2_with fail
              go_ret
              obtain ⟨nm, he⟩ := HE.out
              exact ⟨B, nm, rfl, he, by have := HBe.out; omega, HBe.out ▸ Hbel.out⟩
            | cons c qu =>
              have HKc := Lib.hid (HX.out.vok c ((HQ.out.iff c).2 (by simp)))
              have HcP := Lib.hid (show c ∉ P from fun h => by
                have := List.nodup_append.1 HQ.out.nod
                exact this.2.2 c h c (by simp) rfl)
              obtain ⟨g, off3, hqa, _, hcell, htl, htl1⟩ := ho.tail
              subst hqa
              obtain ⟨qn, hqn⟩ : ∃ x, x = (c :: qu).length := ⟨_, rfl⟩
              have hqn0 : 0 < qn := by rw [hqn]; simp
              rw [← hqn] at gq Hqv htl ho
              have hixq := run_ix (P := Try.prog) (t := 23) (a := some ⟨g, off3, none⟩) (len := qn) (cap := qc) (b := g) (off := off3) (s := 1) Try.underlying23 (by intro w; kernel_rfl) (fun _ => rfl)
              have hix0 : ∀ w, _ := fun w => hixq 0 w hqn0
              have Htl := Lib.hid htl
              have Htl1 := Lib.hid htl1
              have hqc : qn ≤ qc := oq_cap ho
              have hqn2 : qn ≤ 294 := by have := HL.out; rw [← hqn] at this; omega
              have hfr := frozen_of_row wz bq 0 _ _ HX.out.q
              clear hqv htl htl1 hqn hixq ho
              go_upto_region 20 with fail
              go_cut [] (fun wc => ∃ v', wc = wz.setCell ⟨bq, 0, none⟩ v' ∧ OQ B wz v' qu ∧ v'.ownBlock = some g)
              case first =>
                have hq1 : (1 : Int) ≤ (qn : Int) := by omega
                by_cases hc1 : qc = 1
                · obtain ⟨e1, e2⟩ := Htl1.out hc1
                  have He2 := Lib.hid e2
                  clear e1 e2
                  subst hc1
                  obtain rfl : qn = 1 := by omega
                  go_wp2_with fail
                  go_meet
                  exact ⟨_, rfl, He2.out, rfl⟩
                · go_wp2_with fail
                  go_meet
                  exact ⟨_, rfl, Htl.out, rfl⟩
              case rest =>
                generalize wc = wb at *
                obtain ⟨v', hwc, ho, hv9⟩ := hcut
                obtain ⟨hx5, hm5⟩ := HX.out.setq ho (by rw [Hqv.out, hv9]; rfl)
                rw [← hwc] at hx5 hm5
                have HW5 := Lib.hid (cw_get HX.out Hnb.out Hbel.out hBz Hrow.out Hlen.out hx5 hm5)
                have HQ5 := Lib.hid (HQ.out.pop)
                clear hx5 hm5 ho hv9 hwc gq hcell hix0 hfr Htl Htl1 Hqv HX Hnb Hrow Hlen Hbel HQ
                have hW5 : Below w.heap.size w wb := HBe.out ▸ HW5.out.bel
                obtain ⟨cn, hcn⟩ : ∃ cn : Nat, c = (cn : Int) := ⟨c.toNat, by have := HKc.out.1; omega⟩
                have hc29 : cn < 294 := by have := HKc.out.2; omega
                subst hcn
                have hc30 : (cn : Int) < 294 := by omega
                have HPz := Lib.hid (HP.out.keep hW5)
                have Hrw := Lib.hid (show rowJ (2 + cn) from .inl ⟨by omega, by omega⟩)
                have gu := HPz.out.cellR Hrw.out
                have hu := (HPz.out.rows _ Hrw.out).ints
                obtain ⟨U, hU⟩ : ∃ U, U = S.R (2 + cn) := ⟨_, rfl⟩
                have HUc := Lib.hid (show ∀ i (h : i < S.I.length), U.count (i : Int) = S.I[i].need.count (cn : Int) from fun i h => by rw [hU]; have := Hcnt.out _ HKc.out i h; rwa [Int.toNat_natCast] at this)
                have HUm := Lib.hid (show ∀ x, x ∈ U → ∃ i : Nat, x = i ∧ i < S.I.length from fun x h => by rw [hU] at h; exact Hmem.out _ HKc.out x (by rw [Int.toNat_natCast]; exact h))
                rw [← hU] at hu
                obtain ⟨ya, yb, yoff, yc, hyv, hyl, hya, hyc⟩ := Ints.get (HP.out.rows _ Hrw.out |>.ints)
                rw [← hU] at hyv hyl hya
                have Hyc := Lib.hid (show ∀ j, j < U.length → w.cell? ⟨yb, yoff + j, none⟩ = some (.int .i64 (U.getD j 0)) from fun j hj => by
                  rw [hU] at hj ⊢
                  rw [hyc j hj, List.getD_eq_getElem?_getD, List.getElem?_eq_getElem hj]; rfl)
                rw [hyv] at gu
                obtain ⟨un, hun⟩ : ∃ x, x = U.length := ⟨_, rfl⟩
                have Hun := Lib.hid hun
                rw [← hun] at gu hyl hya Hyc
                have hixu := run_ix (P := Try.prog) (t := 23) (a := ya) (len := un) (cap := yc) (b := yb) (off := yoff) (s := 1) Try.underlying23 (by intro w; kernel_rfl) hya
                simp only [Nat.mul_one] at hixu
                have Hixu := Lib.hid hixu
                clear hu hU hyv hyc hya hun hixu hW5
                go_wp2_with fail
                clear gu
                go_loopw [90] (fun vi wr => ∃ (j : Nat) (got : Int → Prop) (Qu ms : List Int), vi = .int .i64 j ∧ j ≤ un ∧ CW B w wr bg bq B gm N got Qu ms ∧ CQ S.I cnt G K got (P ++ [(cn : Int)]) Qu ∧ CM S.I cnt K got P (fun i => (U.take j).count (i : Int)) ms ∧ ∀ x, G x → got x) (fun vi _ => un - (intOf vi).toNat)
                case atStart => exact ⟨0, got, qu, ms, rfl, Nat.zero_le _, HW5.out, HQ5.out, HM.out.cong fun i => by simp, HD.out⟩
                case round =>
                  clear HW5 HQ5 HM HD
                  clear got ms
                  generalize wr = wv at *
                  obtain ⟨j, got, Qu, ms, rfl, hj, hw, hq, hm, hd⟩ := hrel
                  have HW := Lib.hid hw
                  have HQ := Lib.hid hq
                  have HM := Lib.hid hm
                  have HD := Lib.hid hd
                  clear hw hq hm hd
                  by_cases hlt : j < un
                  · have hW : Below w.heap.size w wv := HBe.out ▸ HW.out.bel
                    have hcu := Below.keep hW (Hyc.out j hlt)
                    have hixj := Hixu.out j
                    have hltU : j < U.length := by rw [← Hun.out]; exact hlt
                    obtain ⟨iN, hiN, hiI⟩ := HUm.out (U.getD j 0) (by rw [List.getD_eq_getElem?_getD, List.getElem?_eq_getElem hltU]; exact List.getElem_mem hltU)
                    rw [hiN] at hcu
                    have hiN2 : iN < N := by rw [HN.out]; exact hiI
                    have hixi := Hix.out iN
                    have hixm := HixM.out iN
                    obtain ⟨hm1, hm2⟩ := HW.out.cell hiN2
                    have HKi := Lib.hid (HIV.out _ (List.getElem_mem hiI))
                    obtain ⟨na, nc, aa, ac, _, e1, _, _, _, _⟩ := Hins.out iN hiI
                    have HB1 := Lib.hid (fun k => bump_take hltU hiN k)
                    have Hcu := Lib.hid (show (U.take j).count (iN : Int) + 1 ≤ S.I[iN].need.count (cn : Int) from by
                      have h1 := HB1.out iN
                      have h2 := count_take_le U (j + 1) (iN : Int)
                      rw [HUc.out iN hiI] at h2
                      unfold bump at h1
                      rw [if_pos rfl] at h1
                      have h3 : (U.take (j + 1)).count (iN : Int) = (U.take j).count (iN : Int) + 1 := h1
                      omega)
                    have hsm := HM.out.small hiI HKi.out.2.2.2 (by have := Hcu.out; have h1 := List.count_le_length (a := (cn : Int)) (l := S.I[iN].need); have := HKi.out.2.2.2; omega)
                    have HCz := Lib.hid (fun h0 => HM.out.zero hiI h0 HcP.out Hcu.out)
                    have HCd := Lib.hid (fun (got' : Int → Prop) (hg : ∀ x, got x → got' x) (h : ms.getD iN 0 - 1 = 0 → got' S.I[iN].head) => ((HM.out.more hg).dec hiI h).cong HB1.out)
                    have HSt := Lib.hid (fun h0 => cq_step HQ.out (List.getElem_mem hiI) (HCz.out h0).1 (HCz.out h0).2)
                    have HP1 := Lib.hid (show ∀ w', Below w.heap.size w w' → w'.cell? ⟨bp, 1, none⟩ = some (.slice ia N ic) from fun w' hb => by
                      have g := (HP.out.keep (w' := w') hb).cell (j := 1) (by omega)
                      rw [if_neg (by omega), if_pos rfl, Hvi.out] at g
                      exact g)
                    obtain ⟨p, hp⟩ : ∃ p, p = S.I[iN] := ⟨_, rfl⟩
                    rw [← hp] at e1 HKi HCd HSt
                    have He1 := Lib.hid e1
                    obtain ⟨mi, hmi⟩ : ∃ x, x = ms.getD iN 0 := ⟨_, rfl⟩
                    have Hmi := Lib.hid hmi
                    rw [← hmi] at hm1 hsm HCd HSt
                    have HW4 := Lib.hid (HW.out.set iN (mi - 1))
                    clear e1 hp hmi hW HCz HB1 Hcu hiN
                    go_upto_region 25 with fail
                    clear hm1 hm2
                    generalize wv.setCell ⟨gm, iN, none⟩ (.int .i64 (mi - 1)) = w4 at *
                    obtain ⟨hm1, hm2⟩ := HW4.out.cell hiN2
                    rw [getD_setI (show iN < ms.length by rw [HW.out.len]; exact hiN2), if_pos rfl] at hm1
                    have hW4 : Below w.heap.size w w4 := HBe.out ▸ HW4.out.bel
                    by_cases h0 : mi - 1 = 0
                    · obtain rfl : mi = 1 := by omega
                      obtain ⟨⟨qv, hx, hnb⟩, hbel, hrow, hlen⟩ := HW4.out
                      have HXb := Lib.hid hx
                      have Hnb := Lib.hid hnb
                      have Hrow := Lib.hid hrow
                      have Hlen := Lib.hid hlen
                      have Hbel := Lib.hid hbel
                      have g1 := HP1.out w4 hW4
                      have ge := Below.keep hW4 He1.out
                      have HL2 := Lib.hid (cq_len HQ.out HXb.out.vok)
                      have HC := Lib.hid (get_any HXb.out (by have := Hbel.out.size; have := HBe.out; omega) p.head HKi.out.1 (by have := HL2.out; omega))
                      have HQ6 := Lib.hid (HQ.out.getn (HSt.out rfl))
                      have HM6 := Lib.hid (HCd.out (fun x => got x ∨ x = p.head) (fun x => .inl) fun _ => .inr rfl)
                      have HD6 := Lib.hid (show ∀ x, G x → got x ∨ x = p.head from fun x hx => .inl (HD.out x hx))
                      clear hx hnb hbel hrow hlen hW4 HP1
                      go_wp2_with fail
                      refine HC.out.mono ?_
                      clear HC
                      rintro e w6 ⟨rfl, qv6, h61, h62⟩
                      have HW6 := Lib.hid (cw_get HXb.out Hnb.out Hbel.out (by have := Hbel.out.size; have := HBe.out; omega) Hrow.out Hlen.out h61 h62)
                      clear h61 h62 g1 ge hm1 hm2
                      go_wp2_with fail
                      go_roundw
                      case rel => exact ⟨j + 1, _, _, _, by go_num, by omega, HW6.out, HQ6.out, HM6.out, HD6.out⟩
                      case measure => simp [intOf]; omega
                    · have h02 : (mi - 1 == 0) = false := by simp; omega
                      have HM6 := Lib.hid (HCd.out got (fun x h => h) fun h => absurd h h0)
                      clear hW4 HP1
                      go_wp2_with fail
                      go_roundw
                      case rel => exact ⟨j + 1, _, _, _, by go_num, by omega, HW4.out, HQ.out, HM6.out, HD.out⟩
                      case measure => simp [intOf]; omega
                  · obtain rfl : un = j := by omega
                    have HM9 := Lib.hid (HM.out.next HcP.out fun i hi => by
                      show (U.take un).count (i : Int) = _
                      rw [Hun.out, List.take_length]; exact HUc.out i hi)
                    have HMz := Lib.hid (show cqm wv bq B < cqm wz bq B from by
                      obtain ⟨⟨qv, hx, _⟩, _⟩ := HW.out
                      rw [cqm_eq hx HQ.out, HMe.out, List.length_append, List.length_singleton]
                      have := HL.out
                      rw [List.length_cons] at this
                      omega)
                    clear HM
                    go_wp2_with fail
                    go_roundw
                    case rel => exact ⟨got, Qu, _, ms, HW.out, HQ.out, HM9.out, HD.out⟩
                    case measure => exact HMz.out

    · intro v c w3 ct3 hqv hvk hr3 hlt3 hg3 hs3 hen
      have HGv := Lib.hid (show G v from by obtain ⟨D, left, _, _, _, _, h6, _⟩ := HR.out; exact h6 v hqv)
      have hni : ¬ Bd bg bq B qv rr := HX.out.iter HR.out
      have HX3 := Lib.hid (HX.out.other hg3 hni)
      have HB3 := Lib.hid (show Below B w w3 from HB.out.trans ⟨hg3.os, hg3.tape, hg3.output, hg3.size, fun k hk => hg3.block k (by have := HB.out.size; have := HBe.out; omega) (by
        intro e
        injection e with e
        have := Hrr.out
        have := HX.out.ge B (.inr (.inr (.inl rfl)))
        have h9 := HRge.out
        omega)⟩)
      have HR3 := Lib.hid hr3
      have HL := Lib.hid (cq_len HQ.out HX.out.vok)
      have HC := Lib.hid (get_any HX3.out (by have := HB3.out.size; have := HBe.out; omega) v hvk (by have := HL.out; omega))
      have Hlt3 := Lib.hid hlt3
      have HD3 := Lib.hid (show ∀ x, G x → ¬ (q x ∧ x ≠ v) → got x ∨ x = v from fun x h1 h2 => by
        by_cases e : x = v
        · exact .inr e
        · exact .inl (HD.out x h1 fun h => h2 ⟨h, e⟩))
      have HQ3 := Lib.hid (HQ.out.getn (c := v) (.given HGv.out))
      clear hqv hvk hr3 hlt3 hg3 hs3 hni HX HQ HD HR
      go_wp2_with fail
      refine HC.out.mono ?_
      clear HC hen
      rintro e w5 ⟨rfl, qv5, h51, h52⟩
      have HX5 := Lib.hid h51
      have HB5 := Lib.hid (show Below B w w5 from HB3.out.trans (h52.below (by have := HB3.out.size; have := HBe.out; omega) HX3.out.ge))
      have HR5 := Lib.hid (HR3.out.blks (h52.blk mv HR3.out.lt.2.1 fun e => by have := HX3.out.ge mv e; have := HmvB.out; omega) (h52.blk rr HR3.out.lt.1 (HX3.out.iter HR3.out)))
      clear h51 h52 HX3 HB3 HR3
      go_wp2_with fail
      go_roundw
      case rel => exact ⟨_, ct3, qv5, _, _, HR5.out, HX5.out, HB5.out, HQ3.out, HD3.out⟩
      case measure => rw [HR5.out.left_eq, HLe.out]; exact Hlt3.out
#print axioms conM_any
end Go.Proofs.Ythndplkjhbmfmaa
