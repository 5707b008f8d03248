/- Contracts of label and Back: the walks. -/
import Derived.Test.YtbnlkmblkokooaaBkl
import Derived.Deep.RegionHeld3
namespace Go.Proofs.Ytbnlkmblkokooaa
open Go.RowKit
set_option maxRecDepth 100000 in
set_option maxHeartbeats 8000000 in
theorem label_any (s : ByteArray) (hT : Txt (bs s)) (w : World) :
    Calls Try.prog 59 #[.string s] w (LblPost (bs s) w) := by
  obtain ⟨l, hl⟩ : ∃ l : List UInt8, l = bs s := ⟨_, rfl⟩
  obtain ⟨n, hn⟩ : ∃ n, n = s.size := ⟨_, rfl⟩
  have hs : s.size ≤ 201 := by have := hT.1; rwa [bs_len] at this
  have HCnt := Lib.hid (fun w => Try.strings_Count_one s 10 w)
  have hcd : Lib.countByte s.data.toList 10 = l.count 10 := by rw [hl]; rfl
  rw [hcd] at HCnt
  have HLN := Lib.hid (show l.length = n by rw [hl, hn]; exact bs_len s)
  have HGet := Lib.hid (show ∀ i (hi : i < l.length) (hs : i < s.size), s[i] = l[i] from fun i hi hs => by subst hl; exact bs_get hs)
  have HSrt := Lib.hid (fun (g bO base cap : Nat) (w : World) h1 h0 h3 h4 h5 => stab_own s g bO base cap n w h1 hn h0 (by omega) h3 h4 h5)
  unfold SsPost at HSrt
  unfold LblPost
  rw [← hl] at hT HSrt ⊢
  have HT := Lib.hid hT
  have HSt := Lib.hid (show Value.string s = strV l from by rw [str_bs, hl])
  have HSl := Lib.hid (show ∀ Y : ByteArray, (Y.toList == s.toList) = decide (bs Y = l) from fun Y => by
    rw [bs_toList, bs_toList, hl, Bool.eq_iff_iff, beq_iff_eq, decide_eq_true_iff])
  have hn1 : n ≤ 201 := by omega
  have hsn : (s.size : Int) = (n : Int) := by omega
  have HN := Lib.hid hn
  clear hT hl hs hcd hn
  go_enter Try.func59, Try.ntmps59
  by_cases hc : l.count 10 = 1
  · have hcz : ((l.count 10 : Nat) : Int) = 1 := by omega
    have hl0 : 0 < n := by
      rw [← HLN.out]
      refine Nat.pos_of_ne_zero fun e => ?_
      have : l = [] := List.eq_nil_of_length_eq_zero e
      rw [this] at hc; simp at hc
    obtain ⟨i0, hi0, hz0, hz1, hz2⟩ := infoInt'
    obtain ⟨i1, hi1, hy0, hy1, hy2⟩ := infoByt
    have Hi := Lib.hid hi0
    have Hz0 := Lib.hid hz0
    have Hz1 := Lib.hid hz1
    have Hby := Lib.hid (show i0.bytes * n ≤ 281474976710656 by rw [hz2]; omega)
    obtain ⟨m, hm⟩ : ∃ m, n = m + 1 := ⟨n - 1, by omega⟩
    have Hi1 := Lib.hid hi1
    have Hy0 := Lib.hid hy0
    have Hy1 := Lib.hid hy1
    have Hby1 := Lib.hid (show i1.bytes * m ≤ 281474976710656 by rw [hy2]; omega)
    have Hm := Lib.hid hm
    have hwm : IntKind.i64.wrap ((n : Int) - 1) = (m : Int) := by rw [IntWalk.i64_in _ ⟨by omega, by omega⟩]; omega
    have hzm : (n : Int) - 1 = (m : Int) := by omega
    have hm1 : m ≤ 200 := by omega
    clear hi0 hz0 hz1 hz2 hi1 hy0 hy1 hy2 hc hm
    go_wp2_with fail
    obtain ⟨g, hg⟩ : ∃ g, g = w.heap.size := ⟨_, rfl⟩
    obtain ⟨w1, hw1⟩ : ∃ w1, w1 = w.alloc (.cells #[.string s] 9) := ⟨_, rfl⟩
    have hc1 : w1.cell? ⟨g, 0, none⟩ = some (.string s) := by rw [hw1, hg, cell_new]; rfl
    have hB1 := below_alloc w (.cells #[.string s] 9)
    rw [← hw1] at hB1
    have hg1 : g < w1.heap.size := by rw [hw1, hg]; simp
    rw [← hw1, ← hg]
    have Hc1 := Lib.hid hc1
    have HB1 := Lib.hid hB1
    have Hg1 := Lib.hid hg1
    have Hg := Lib.hid hg
    clear hw1 hg hB1 hg1
    refine (HCnt.out _).mono ?_
    rintro e w' ⟨rfl, hw'⟩
    subst hw'
    rw [hcz]
    go_wp2_with (refine wpList_make_full _ rfl (.tmp 16) (.tmp 16) 23 rfl w'.heap.size 3 i0 (.int .i64 0) 1 Try.underlying23 Hi.out Hz0.out Hz1.out .i64 .i64 _ _ n rfl rfl rfl rfl Hby.out (by unfold maxLen; omega) (Nat.le_refl _) ?_; intro w3 hown hgr)
    have Hrow := Lib.hid (makeInts_fRow (fun i => (i : Int)) hown)
    have Hb3 := Lib.hid (show Below w'.heap.size w' w3 from ⟨hgr.os, hgr.tape, hgr.output, hgr.size, fun k hk => hgr.block k hk (by simp)⟩)
    obtain ⟨bO, hbO⟩ : ∃ bO, bO = w'.heap.size := ⟨_, rfl⟩
    rw [← hbO] at Hrow Hb3
    rw [← hbO]
    have HbO := Lib.hid hbO
    have hixO := run_ix (P := Try.prog) (t := 23) (a := some ⟨bO, 0, none⟩) (len := n) (cap := n) (b := bO) (off := 0) (s := 1) Try.underlying23 (by intro w; kernel_rfl) (fun _ => rfl)
    simp only [Nat.mul_one, Nat.zero_add] at hixO
    have HixO := Lib.hid hixO
    have Hwm := Lib.hid hwm
    have Hzm := Lib.hid hzm
    clear hown hgr hixO hbO hwm hzm
    go_wp2_with fail
    go_loopw [20] (fun vi wr => ∃ j : Nat, vi = .int .i64 j ∧ j ≤ n ∧ Below bO w' wr ∧ FRow (fun i => (i : Int)) wr bO bO n j) (fun vi _ => n - (intOf vi).toNat)
    case atStart => exact ⟨0, rfl, Nat.zero_le _, Hb3.out, Hrow.out⟩
    case round =>
      obtain ⟨j, rfl, hj, hbe, hrow⟩ := hrel
      have HBe := Lib.hid hbe
      have HRw := Lib.hid hrow
      clear hbe hrow
      by_cases hltj : j < n
      · have hixj := HixO.out j
        have hfz := World.ownsRow.frozenAt HRw.out j
        have hcell := World.ownsRow.cellAt HRw.out j (by omega)
        rw [List.getElem?_map, List.getElem?_eq_getElem (by rw [fRow_length]; exact hltj), Option.map_some] at hcell
        have hst := (World.ownsRow.stored HRw.out j (.int .i64 (j : Nat)))
        have HR := Lib.hid (show FRow (fun i => (i : Int)) (wr.setCell ⟨bO, j, none⟩ (.int .i64 (j : Nat))) bO bO n (j + 1) by unfold FRow; rw [← fRow_set, List.map_set]; exact hst.1)
        clear hst
        go_wp2_with fail
        go_roundw
        case rel => exact ⟨j + 1, by go_num, by omega, HBe.out.setCell (Nat.le_refl _) _, HR.out⟩
        case measure => simp [intOf]; omega
      · obtain rfl : n = j := by omega
        have hids := FRow.own HRw.out
        have hcr : wr.cell? ⟨g, 0, none⟩ = some (.string s) := by
          have hb : (⟨g, 0, none⟩ : Addr).block < bO := by rw [HbO.out]; exact Hg1.out
          rw [HBe.out.cell hb]; exact Hc1.out
        have hgbO : g ≠ bO := by have := HbO.out; have := Hg1.out; omega
        have hso := HSrt.out g bO bO n wr (by
          unfold OwnInts at hids
          simp only [List.length_map, List.length_range] at hids
          exact hids) hl0 (cell_lt hcr) hgbO hcr
        have HSo := Lib.hid hso
        have HBr := Lib.hid (show Below w.heap.size w wr from by
          have h2 := HB1.out
          exact h2.trans (HBe.out.mono (by rw [HbO.out]; exact h2.size)))
        have Hcr := Lib.hid hcr
        have HgbO := Lib.hid hgbO
        clear hids hcr hgbO hso HRw
        go_wp2_with fail
        refine HSo.out.mono ?_
        rintro e w2 ⟨rfl, L, hp, hpl, hcl, hgr⟩
        have hlen : L.length = n := by rw [hp.length_eq, List.length_range]
        have hc2 : w2.cell? ⟨g, 0, none⟩ = some (.string s) := by
          have := hgr.block g (cell_lt Hcr.out) (fun e => HgbO.out (by injection e))
          unfold World.cell? at *
          rw [this]
          have h := Hcr.out
          unfold World.cell? at h
          exact h
        have HB2 := Lib.hid (show Below w.heap.size w w2 from HBr.out.trans ⟨hgr.os, hgr.tape, hgr.output, hgr.size, fun k hk => hgr.block k (by have := HBr.out.size; omega) (fun e => by
          injection e with e
          have := HbO.out; have := HB1.out.size; omega)⟩)
        have Hp := Lib.hid hp
        have Hpl := Lib.hid hpl
        have Hcl := Lib.hid (show ∀ t, t < n → w2.cell? ⟨bO, t, none⟩ = some (.int .i64 (L.getD t 0 : Nat)) from fun t ht => by
          rw [hcl t (by omega), List.getD_eq_getElem?_getD, List.getElem?_eq_getElem (by omega)]; rfl)
        have HL := Lib.hid hlen
        have Hc2 := Lib.hid hc2
        clear hp hpl hcl hgr hlen HSo
        go_wp2_with (refine wpList_make_full _ rfl (.tmp 32) (.tmp 32) 23 rfl w2.heap.size 3 i0 (.int .i64 0) 1 Try.underlying23 Hi.out Hz0.out Hz1.out .i64 .i64 _ _ n rfl rfl rfl rfl Hby.out (by unfold maxLen; omega) (Nat.le_refl _) ?_; intro w3 hown hgr)
        have Hns := Lib.hid (ownNs_new hown)
        have Hb4 := Lib.hid (show Below w2.heap.size w2 w3 from ⟨hgr.os, hgr.tape, hgr.output, hgr.size, fun k hk => hgr.block k hk (by simp)⟩)
        obtain ⟨bN, hbN⟩ : ∃ bN, bN = w2.heap.size := ⟨_, rfl⟩
        rw [← hbN] at Hns Hb4
        rw [← hbN]
        have HbN := Lib.hid hbN
        have hixN := run_ix (P := Try.prog) (t := 23) (a := some ⟨bN, 0, none⟩) (len := n) (cap := n) (b := bN) (off := 0) (s := 1) Try.underlying23 (by intro w; kernel_rfl) (fun _ => rfl)
        simp only [Nat.mul_one, Nat.zero_add] at hixN
        have HixN := Lib.hid hixN
        clear hown hgr hixN hbN hc2
        go_wp2_with fail
        go_loopw [36] (fun vi wr => ∃ (k : Nat) (NX : List Nat), vi = .int .i64 k ∧ k ≤ n ∧ Below bN w2 wr ∧ OwnNs bN wr bN n NX ∧ ∀ p, p < k → NX.getD (L.getD p 0) 0 = p) (fun vi _ => n - (intOf vi).toNat)
        case atStart => exact ⟨0, _, rfl, Nat.zero_le _, Hb4.out, Hns.out, fun p h => by omega⟩
        case round =>
          obtain ⟨k, NX, rfl, hk, hbe, hns, hnx⟩ := hrel
          have HBe4 := Lib.hid hbe
          have HNs := Lib.hid hns
          have HNx := Lib.hid hnx
          clear hbe hns hnx
          by_cases hltk : k < n
          · obtain ⟨i, hi⟩ : ∃ i, i = L.getD k 0 := ⟨_, rfl⟩
            have hin : i < n := by
              rw [hi, List.getD_eq_getElem?_getD, List.getElem?_eq_getElem (by rw [HL.out]; exact hltk)]
              exact List.mem_range.1 (Hp.out.mem_iff.1 (List.getElem_mem _))
            have hck : wr.cell? ⟨bO, k, none⟩ = some (.int .i64 (i : Nat)) := by
              have h0 := Hcl.out k hltk
              have hb : (⟨bO, k, none⟩ : Addr).block < bN := by rw [HbN.out]; exact cell_lt h0
              rw [HBe4.out.cell hb, h0, hi]
            have hixk := HixO.out k
            have hixi := HixN.out i
            have hfz := World.ownsRow.frozenAt HNs.out.2 i
            have hcell := HNs.out.cell hin
            have HNs2 := Lib.hid (HNs.out.set i k)
            have HNx2 := Lib.hid (show ∀ p, p < k + 1 → (NX.set i k).getD (L.getD p 0) 0 = p from fun p hpk => by
              rw [List.getD_eq_getElem?_getD, List.getElem?_set]
              by_cases e : i = L.getD p 0
              · rw [if_pos e, if_pos (by rw [HNs.out.1]; exact hin)]
                have hnd : L.Nodup := Hp.out.nodup_iff.2 List.nodup_range
                rw [hi, List.getD_eq_getElem?_getD, List.getD_eq_getElem?_getD, List.getElem?_eq_getElem (by rw [HL.out]; exact hltk), List.getElem?_eq_getElem (by rw [HL.out]; omega)] at e
                have := (List.getElem_inj hnd).1 e
                simp only [Option.getD_some]; exact this
              · rw [if_neg e, ← List.getD_eq_getElem?_getD]
                by_cases e2 : p = k
                · exact absurd (by rw [hi, e2]) e
                · exact HNx.out p (by omega))
            clear hi
            go_wp2_with fail
            go_roundw
            case rel => exact ⟨k + 1, _, by go_num, by omega, HBe4.out.setCell (Nat.le_refl _) _, HNs2.out, HNx2.out⟩
            case measure => simp [intOf]; omega
          · obtain rfl : n = k := by omega
            have HNe := Lib.hid (show ∀ i, i < n → wr.cell? ⟨bN, i, none⟩ = some (.int .i64 (pl l i : Nat)) from fun i hi => by
              rw [HNs.out.cell hi]
              have hm : i ∈ L := Hp.out.mem_iff.2 (List.mem_range.2 hi)
              obtain ⟨p, hp, e⟩ := List.getElem_of_mem hm
              have h1 := HNx.out p (by rw [← HL.out]; exact hp)
              have h2 := Hpl.out p hp
              rw [List.getD_eq_getElem?_getD (l := L), List.getElem?_eq_getElem hp, Option.getD_some, e] at h1
              rw [e] at h2
              rw [h1, h2])
            have Hc4 := Lib.hid (show wr.cell? ⟨g, 0, none⟩ = some (.string s) from by
              have hb : (⟨g, 0, none⟩ : Addr).block < bN := by rw [HbN.out]; exact cell_lt Hc2.out
              rw [HBe4.out.cell hb]; exact Hc2.out)
            have HB4 := Lib.hid (show Below w.heap.size w wr from by
              have h2 := HB2.out
              exact h2.trans (HBe4.out.mono (by rw [HbN.out]; exact h2.size)))
            obtain ⟨w4, hw4⟩ : ∃ w4 : World, w4 = wr := ⟨_, rfl⟩
            subst hw4
            have hwm := Hwm.out
            have hzm := Hzm.out
            have hc4 := Hc4.out
            clear HNx HNs HBe4 Hcl Hns Hb4 Hrow Hb3 HBe HBr HSrt
            go_wp2_with (refine wpList_make_full _ rfl (.tmp 48) (.tmp 48) 53 rfl w4.heap.size 5 i1 (.int .u8 0) 1 Try.underlying53 Hi1.out Hy0.out Hy1.out .i64 .i64 _ _ m rfl rfl rfl rfl Hby1.out (by unfold maxLen; omega) (Nat.le_refl _) ?_; intro w5 hown hgr)
            have HOb := Lib.hid (ownB_new hown)
            have HB5 := Lib.hid (show Below w4.heap.size w4 w5 from ⟨hgr.os, hgr.tape, hgr.output, hgr.size, fun k hk => hgr.block k hk (by simp)⟩)
            obtain ⟨bT, hbT⟩ : ∃ bT, bT = w4.heap.size := ⟨_, rfl⟩
            rw [← hbT] at HOb HB5
            rw [← hbT]
            have HbT := Lib.hid hbT
            have hixT := run_ix (P := Try.prog) (t := 53) (a := some ⟨bT, 0, none⟩) (len := m) (cap := m) (b := bT) (off := 0) (s := 1) Try.underlying53 (by intro w; kernel_rfl) (fun _ => rfl)
            simp only [Nat.mul_one, Nat.zero_add] at hixT
            have HixT := Lib.hid hixT
            have hwm2 : IntKind.i64.wrap ((m : Int) - 1) = (m : Int) - 1 := IntWalk.i64_in _ ⟨by omega, by omega⟩
            clear hown hgr hixT hbT hwm hzm hc4
            go_wp2_with fail
            go_loopw [10, 11] (fun va vi wr => ∃ (at' j : Nat) (TL : Bs), va = .int .i64 at' ∧ vi = .int .i64 ((m : Int) - 1 - (j : Int)) ∧ j ≤ m ∧ Below bT w4 wr ∧ OwnByts bT wr (.slice (some ⟨bT, 0, none⟩) m m) TL ∧ BkSt l m at' j TL) (fun _ vi _ => (intOf vi + 1).toNat)
            case atStart => exact ⟨0, 0, _, rfl, by go_num, Nat.zero_le _, HB5.out, HOb.out, bkSt_start (by rw [HLN.out, Hm.out])⟩
            case round =>
              obtain ⟨at', j, TL, rfl, rfl, hj, hbe, hob, hst⟩ := hrel
              have HBe := Lib.hid hbe
              have HOb2 := Lib.hid hob
              have HSt2 := Lib.hid hst
              have hatl : at' < l.length := hst.at_lt
              have hatn : at' < n := by rw [← HLN.out]; exact hatl
              have hats : at' < s.size := by rw [← HN.out]; exact hatn
              have hcg : wr.cell? ⟨g, 0, none⟩ = some (.string s) := by
                have hb : (⟨g, 0, none⟩ : Addr).block < bT := by rw [HbT.out]; exact cell_lt Hc4.out
                rw [HBe.out.cell hb]; exact Hc4.out
              have Hcg := Lib.hid hcg
              clear hbe hob hst
              by_cases hltj : j < m
              · obtain ⟨i, hi⟩ : ∃ i, i = m - 1 - j := ⟨_, rfl⟩
                have hiz : (m : Int) - 1 - (j : Int) = (i : Int) := by omega
                have him : i < m := by omega
                have hii : (i : Int) ≥ 0 := by omega
                rw [hiz]
                have hget := HGet.out at' hatl hats
                by_cases h10 : l[at'] = 10
                · have h10n : s[at'].toNat = 10 := by rw [hget, h10]; rfl
                  have HNo := Lib.hid (HSt2.out.end' hltj h10)
                  clear hget h10 hi
                  go_wp2_with fail
                  go_ret2
                  exact ⟨HB4.out.trans (HBe.out.mono (by rw [HbT.out]; exact HB4.out.size)), Or.inr ⟨HNo.out, _, rfl⟩⟩
                · have h10n : s[at'].toNat ≠ 10 := by
                    rw [hget]
                    intro e; exact h10 (UInt8.toNat_inj.1 e)
                  have HSt3 := Lib.hid (HSt2.out.step HT.out (by rw [HLN.out, Hm.out]) hltj h10)
                  have hplz : ∃ p, p = pl l at' := ⟨_, rfl⟩
                  obtain ⟨p, hp⟩ := hplz
                  have hcp : wr.cell? ⟨bN, at', none⟩ = some (.int .i64 (p : Nat)) := by
                    have h0 := HNe.out at' hatn
                    have hb : (⟨bN, at', none⟩ : Addr).block < bT := by rw [HbT.out]; exact cell_lt h0
                    rw [HBe.out.cell hb, h0, hp]
                  have hbNT : bN ≠ bT := by
                    have h0 := HNe.out at' hatn
                    have h1 := cell_lt h0
                    have h2 := HbT.out
                    intro e
                    have h3 : bN < w4.heap.size := h1
                    omega
                  have hgT : g ≠ bT := by
                    have h1 : g < w4.heap.size := cell_lt Hc4.out
                    have h2 := HbT.out
                    omega
                  have hixi := HixT.out i
                  have hixp := HixN.out at'
                  have hown2 : wr.ownsRow bT 5 1 (.slice (some ⟨bT, 0, none⟩) m m) m (Lib.byteCells TL) := by
                    have h := HOb2.out
                    unfold OwnByts at h
                    rw [HSt2.out.len] at h
                    exact h
                  have hfz := World.ownsRow.frozenAt hown2 i
                  have hcell := World.ownsRow.cellAt hown2 i (by omega)
                  obtain ⟨x0, hx0⟩ : ∃ x0, wr.cell? ⟨bT, i, none⟩ = some x0 := ⟨_, hcell.trans (List.getElem?_eq_getElem (show i < (Lib.byteCells TL).length by rw [bcells_len, HSt2.out.len]; exact him))⟩
                  have hst := World.ownsRow.stored hown2 i (.int .u8 s[at'].toNat)
                  have HOb3 := Lib.hid (show OwnByts bT (wr.setCell ⟨bT, i, none⟩ (.int .u8 s[at'].toNat)) (.slice (some ⟨bT, 0, none⟩) m m) (TL.set (m - 1 - j) l[at']) from by
                    have h1 := hst.1
                    unfold OwnByts
                    rw [List.length_set, HSt2.out.len, ← hget, ← hi]
                    rw [show (Lib.byteCells TL).set i (Value.int IntKind.u8 s[at'].toNat) = Lib.byteCells (TL.set i s[at']) from by simp [Lib.byteCells, List.map_set]] at h1
                    exact h1)
                  have hcp2 : (wr.setCell ⟨bT, i, none⟩ (.int .u8 s[at'].toNat)).cell? ⟨bN, at', none⟩ = some (.int .i64 (p : Nat)) := by
                    have h0 : (wr.setCell ⟨bT, i, none⟩ (.int .u8 s[at'].toNat)).heap[bN]? = wr.heap[bN]? := Below.heap_setCell _ _ _ _ (by intro e; first | exact hbNT e | exact hbNT e.symm)
                    unfold World.cell? at hcp ⊢
                    rw [h0]; exact hcp
                  rw [← hp] at HSt3
                  have hw2 : IntKind.i64.wrap ((i : Int) - 1) = (m : Int) - 1 - ((j + 1 : Nat) : Int) := by rw [IntWalk.i64_in _ ⟨by omega, by omega⟩]; omega
                  clear hst hcell hp h10 hget hi hown2
                  go_wp2_with fail
                  go_roundw
                  case rel => exact ⟨p, j + 1, _, rfl, by first | rfl | (congr 1; omega), by omega, HBe.out.setCell (Nat.le_refl _) _, HOb3.out, HSt3.out⟩
                  case measure => simp [intOf] <;> omega
              · obtain rfl : m = j := by omega
                have hjz : ¬ ((m : Int) - 1 - (m : Int) ≥ 0) := by omega
                have hTL := HSt2.out.lab hm1
                have hby := HOb2.out.byts
                rw [HSt2.out.len.symm] at hby
                obtain ⟨X, hX, hXb⟩ : ∃ X : ByteArray, strV TL = .string X ∧ bs X = TL := ⟨⟨TL.toArray⟩, rfl, rfl⟩
                obtain ⟨Y, hY, hYb⟩ : ∃ Y : ByteArray, strV (tr TL) = .string Y ∧ bs Y = tr TL := ⟨⟨(tr TL).toArray⟩, rfl, rfl⟩
                have hXs : X.size ≤ 1000 := by rw [← bs_len, hXb, HSt2.out.len]; omega
                have htra := fun w => transform_any X hXs w
                rw [hXb, hY] at htra
                obtain ⟨KP, hKP⟩ : ∃ KP : World → Prop, KP = fun w' => Below wr.heap.size wr w' := ⟨_, rfl⟩
                have hconv : ∀ w', KP w' → (convert 53 9 (.slice (some ⟨bT, 0, none⟩) m m)).run Try.prog w' = .ok (.string X) w' := fun w' hk => by
                  rw [hKP] at hk
                  have h := conv_str (Byts.keep HOb2.out.byts hk)
                  rw [hX] at h
                  exact h
                have hcell : ∀ w', KP w' → w'.cell? ⟨g, 0, none⟩ = some (.string s) := fun w' hk => by
                  rw [hKP] at hk
                  exact Below.keep hk Hcg.out
                have HTr := Lib.hid (show ∀ w5, KP w5 → Calls Try.prog 57 #[.string X] w5 fun e w6 => e = .returned (.string Y) ∧ KP w6 ∧ (convert 53 9 (.slice (some ⟨bT, 0, none⟩) m m)).run Try.prog w6 = .ok (.string X) w6 ∧ w6.cell? ⟨g, 0, none⟩ = some (.string s) from fun w5 h5 => (htra w5).mono fun e w6 ⟨he, hb6⟩ => by
                  have h6 : KP w6 := by rw [hKP] at h5 ⊢; exact Below.tr h5 hb6
                  exact ⟨he, h6, hconv w6 h6, hcell w6 h6⟩)
                have hkp : KP wr := by rw [hKP]; exact Below.refl _ _
                have hkpd : KP wr.drew := by rw [hKP]; exact bdrewN (Below.refl _ _) 1
                have hcv1 := hconv _ hkp
                have hcv2 := hconv _ hkpd
                have hce1 := hcell _ hkp
                have hce2 := hcell _ hkpd
                have heq := HSl.out Y
                rw [hYb] at heq
                have HKd := Lib.hid (show ∀ w', KP w' → Below w.heap.size w w' from fun w' h => by
                  rw [hKP] at h
                  exact Below.tr (HB4.out.trans (HBe.out.mono (by rw [HbT.out]; exact HB4.out.size))) h)
                have HX := Lib.hid (show strV TL = .string X from hX)
                have HFin := Lib.hid (show ∀ b, decide (tr TL = l) = b → (∃ T, IsBk l T ∧ Ending.returned (.tuple #[.string X, .bool b]) = .returned (.tuple #[strV T, .bool true])) ∨ ((¬ ∃ T, IsBk l T) ∧ ∃ v, Ending.returned (.tuple #[.string X, .bool b]) = .returned (.tuple #[.string v, .bool false])) from fun b hb => by
                  cases b with
                  | true => exact .inl ⟨TL, ⟨hTL, of_decide_eq_true hb⟩, by rw [hX]⟩
                  | false => exact .inr ⟨fun ⟨T, hT⟩ => of_decide_eq_false hb (by rw [HSt2.out.eq (by rw [HLN.out, Hm.out]) hT]; exact hT.2), _, rfl⟩)
                obtain ⟨b, hb⟩ : ∃ b, b = decide (tr TL = l) := ⟨_, rfl⟩
                have hfin := HFin.out b hb.symm
                rw [← hb] at heq
                have HF := Lib.hid hfin
                clear hKP hTL hby hX hXb hY hYb hXs htra hconv hcell hb hfin hcg
                go_wp2_with fail
                go_region_held3 (fun w' => KP w' ∧ (convert 53 9 (.slice (some ⟨bT, 0, none⟩) m m)).run Try.prog w' = .ok (.string X) w' ∧ w'.cell? ⟨g, 0, none⟩ = some (.string s))
                  (first | exact ⟨hk6, hc61, hc62⟩ | exact ⟨hkpd, hcv2, hce2⟩ | exact ⟨hkp, hcv1, hce1⟩)
                  (first
                    | (go_at_call 57; refine (HTr.out _ (by first | exact hk6 | exact hkpd | exact hkp)).mono ?_; rintro e w6 ⟨rfl, hk6, hc61, hc62⟩))
                all_goals (
                  go_wp2_with fail
                  go_ret2
                  exact ⟨HKd.out _ hk6, HF.out⟩)
  · have hcz : ((l.count 10 : Nat) : Int) ≠ 1 := by omega
    have hcz2 : (((l.count 10 : Nat) : Int) != 1) = true := bne_iff_ne.2 hcz
    have HNo := Lib.hid (show ¬ ∃ T, IsBk l T from fun ⟨T, hT⟩ => hc hT.count)
    obtain ⟨C, hC⟩ : ∃ C, C = l.count 10 := ⟨_, rfl⟩
    rw [← hC] at HCnt hcz hcz2
    clear hc hC
    go_wp2_with fail
    have hB1 := below_alloc w (.cells #[.string s] 9)
    have HB1 := Lib.hid hB1
    clear hB1
    refine (HCnt.out _).mono ?_
    rintro e w' ⟨rfl, hw'⟩
    subst hw'
    go_wp2_with fail
    go_ret2
    exact ⟨HB1.out, Or.inr ⟨HNo.out, _, rfl⟩⟩
#print axioms label_any
/-- what Back returns -/
def BckPost (l : Bs) (w : World) (e : Ending) (w' : World) : Prop := Below w.heap.size w w' ∧ ((∃ T, IsBk l T ∧ e = .returned (.tuple #[strV T, .int .i64 0])) ∨ ((¬ ∃ T, IsBk l T) ∧ e = .returned (.tuple #[.string ⟨#[]⟩, .int .i64 4])))
theorem backE_bad {s : ByteArray} (hs : s.size ≤ 1000) (h : ¬ Txt (bs s)) (w : World) :
    Calls Try.prog 27 #[.string s] w fun e w' => e = .returned (.tuple #[.string ⟨#[]⟩, .int .i64 2]) ∧ ∃ q, w' = w.drewN q := by
  have H := Lib.hid (isText_b s hs false (decide_eq_false h))
  clear h hs
  go_enter Try.func27, Try.ntmps27
  go_wp2_with fail
  refine (H.out _).mono ?_
  rintro e w1 ⟨rfl, q, rfl⟩
  go_wp2_with fail
  go_ret2
  exact ⟨rfl, q, rfl⟩
theorem backE_any {s : ByteArray} (h : Txt (bs s)) (w : World) :
    Calls Try.prog 27 #[.string s] w (BckPost (bs s) w) := by
  have hs : s.size ≤ 201 := by have := h.1; rwa [bs_len] at this
  have H := Lib.hid (isText_b s (by omega) true (decide_eq_true h))
  have HL := Lib.hid (label_any s h)
  unfold LblPost at HL
  unfold BckPost
  clear h hs
  go_enter Try.func27, Try.ntmps27
  go_wp2_with fail
  refine (H.out _).mono ?_
  rintro e w1 ⟨rfl, q, hw1⟩
  have HB1 := Lib.hid (show Below w.heap.size w w1 from by rw [hw1]; exact bdrewN (Below.refl _ _) q)
  clear hw1
  go_wp2_with fail
  refine (HL.out _).mono ?_
  rintro e w2 ⟨hb2, h2⟩
  have HB2 := Lib.hid (Below.tr HB1.out hb2)
  clear hb2
  rcases h2 with ⟨T, hT, rfl⟩ | ⟨hno, v, rfl⟩
  · have HT := Lib.hid hT
    obtain ⟨X, hX⟩ : ∃ X : ByteArray, strV T = .string X := ⟨_, rfl⟩
    rw [hX]
    have HX := Lib.hid hX
    clear hT hX
    go_wp2_with fail
    go_ret2
    exact ⟨HB2.out, Or.inl ⟨T, HT.out, by rw [HX.out]; rfl⟩⟩
  · have HNo := Lib.hid hno
    clear hno
    go_wp2_with fail
    go_ret2
    exact ⟨HB2.out, Or.inr ⟨HNo.out, rfl⟩⟩
#print axioms backE_any
end Go.Proofs.Ytbnlkmblkokooaa
