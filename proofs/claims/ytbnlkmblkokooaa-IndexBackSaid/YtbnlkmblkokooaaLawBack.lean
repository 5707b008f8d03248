/- IndexBack: for every input the law returns true. -/
import Derived.Test.YtbnlkmblkokooaaBkw
import Derived.Test.YtbnlkmblkokooaaBkx
import Derived.Test.YtbnlkmblkokooaaFrame
import Derived.Test.YtbnlkmblkokooaaRows
import Derived.HandedShaped
namespace Go.Proofs.Ytbnlkmblkokooaa
open Go.RowKit
open Go.Sort (PermIn SortedIn)
theorem tr_txt {a : Bs} (ha : Lab a) : Txt (tr a) := ⟨by rw [tr_length]; have := ha.1; omega, fun c hm => by
  rcases List.mem_cons.1 ((tr_perm a).mem_iff.1 hm) with e | e
  · rw [e]; rfl
  · unfold mayB; rw [ha.2 c e]; rfl⟩
theorem tr_inj {a b : Bs} (ha : Lab a) (hb : Lab b) (h : tr a = tr b) : a = b := by
  have h1 : BkSt (tr a) a.length 0 0 (List.replicate a.length 0) := bkSt_start (tr_length a)
  have key : ∀ j, j ≤ a.length → ∃ at' TL, BkSt (tr a) a.length at' j TL := fun j => by
    induction j with
    | zero => intro _; exact ⟨_, _, h1⟩
    | succ j ih =>
      intro hj
      obtain ⟨at', TL, h3⟩ := ih (by omega)
      by_cases hc : (tr a)[at']'h3.at_lt = 10
      · exact absurd ⟨a, ha, rfl⟩ (h3.end' (by omega) hc)
      · exact ⟨_, _, h3.step (tr_txt ha) (tr_length a) (by omega) hc⟩
  obtain ⟨at', TL, h3⟩ := key a.length (Nat.le_refl _)
  have e1 := h3.eq (tr_length a) (⟨ha, rfl⟩ : IsBk (tr a) a)
  have e2 := h3.eq (tr_length a) (⟨hb, h.symm⟩ : IsBk (tr a) b)
  rw [← e1, e2]
#print axioms tr_inj
/-- what Back and then Transform do -/
def PBack (p : ByteArray) : Prop := (∃ X : ByteArray, (∀ w : World, Calls Try.prog 27 #[.string p] w fun e w' => e = .returned (.tuple #[.string X, .int .i64 0]) ∧ Below w.heap.size w w') ∧ ∀ w : World, Calls Try.prog 26 #[.string X] w fun e w' => e = .returned (.tuple #[.string p, .int .i64 0]) ∧ Below w.heap.size w w') ∨ ∃ c : Int, (c = 2 ∨ c = 4) ∧ ∀ w : World, Calls Try.prog 27 #[.string p] w fun e w' => e = .returned (.tuple #[.string ⟨#[]⟩, .int .i64 c]) ∧ Below w.heap.size w w'
theorem pback (p : ByteArray) (hp : p.size ≤ 1000) : PBack p := by
  by_cases h : Txt (bs p)
  · by_cases hT : ∃ T, IsBk (bs p) T
    · obtain ⟨T, hT⟩ := hT
      refine .inl ⟨⟨T.toArray⟩, fun w => (backE_any h w).mono ?_, fun w => ?_⟩
      · rintro e w' ⟨hb, ⟨T', hT', rfl⟩ | ⟨hno, _⟩⟩
        · rw [tr_inj hT'.1 hT.1 (hT'.2.trans hT.2.symm)]; exact ⟨rfl, hb⟩
        · exact absurd ⟨T, hT⟩ hno
      · have hbT : bs ⟨T.toArray⟩ = T := rfl
        have := transE_any (s := ⟨T.toArray⟩) (by rw [hbT]; exact hT.1) w
        rw [hbT, hT.2, ← str_bs] at this
        exact this
    · refine .inr ⟨4, .inr rfl, fun w => (backE_any h w).mono ?_⟩
      rintro e w' ⟨hb, ⟨T', hT', rfl⟩ | ⟨_, rfl⟩⟩
      · exact absurd ⟨T', hT'⟩ hT
      · exact ⟨rfl, hb⟩
  · refine .inr ⟨2, .inl rfl, fun w => (backE_bad hp h w).mono ?_⟩
    rintro e w' ⟨rfl, q, rfl⟩
    exact ⟨rfl, bdrewN (Below.refl _ _) q⟩
#print axioms pback
set_option maxRecDepth 100000 in
set_option maxHeartbeats 8000000 in
theorem back_no {t0 p0 s p : ByteArray} (HF : Hid (∀ w, Calls Try.prog 18 #[.string t0] w fun e w' => e = .returned (.string s) ∧ w = w')) (HF2 : Hid (∀ w, Calls Try.prog 18 #[.string p0] w fun e w' => e = .returned (.string p) ∧ w = w')) (hs : s.size ≤ 1000) (hp : p.size ≤ 1000) (h : ¬ Lab (bs s)) (w : World) :
    Calls Try.prog 11 #[.string t0, .string p0] w fun e w' => e = .returned (.bool true) ∧ Below w.heap.size w w' := by
  have HP := Lib.hid (pback p hp)
  unfold PBack at HP
  have HT := Lib.hid (transE_bad hs h)
  have HB0 := Lib.hid (Below.refl w.heap.size w)
  clear hs hp h
  go_enter Try.func11, Try.ntmps11
  go_wp2_with fail
  refine (HF.out _).mono ?_
  rintro e w' ⟨rfl, hw'⟩
  subst hw'
  go_wp2_with fail
  refine (HF2.out _).mono ?_
  rintro e w' ⟨rfl, hw'⟩
  subst hw'
  go_wp2_with fail
  refine (HT.out _).mono ?_
  rintro e w' ⟨rfl, hw'⟩
  subst hw'
  have hsv : strV [] = .string ⟨#[]⟩ := rfl
  rw [hsv]
  go_wp2_with fail
  rcases HP.out with ⟨X, hX, hTr⟩ | ⟨c, hc, hbk⟩
  · have HX := Lib.hid hX
    have HTr := Lib.hid hTr
    clear hX hTr
    refine (HX.out _).mono ?_
    rintro e wa ⟨rfl, hba⟩
    have HBa := Lib.hid (Below.tr HB0.out hba)
    clear hba
    go_wp2_with fail
    refine (HTr.out _).mono ?_
    rintro e wb ⟨rfl, hbb⟩
    have HBb := Lib.hid (Below.tr HBa.out hbb)
    clear hbb
    go_wp2_with fail
    refine (awake_any _).mono ?_
    rintro e wd ⟨rfl, hbd⟩
    have HBd := Lib.hid (Below.tr HBb.out hbd)
    clear hbd
    go_wp2_with fail
    go_ret
    exact ⟨rfl, HBd.out⟩
  · have Hbk := Lib.hid hbk
    clear hbk
    rcases hc with rfl | rfl
    · refine (Hbk.out _).mono ?_
      rintro e wa ⟨rfl, hba⟩
      have HBa := Lib.hid (Below.tr HB0.out hba)
      clear hba
      go_wp2_with fail
      refine (awake_any _).mono ?_
      rintro e wd ⟨rfl, hbd⟩
      have HBd := Lib.hid (Below.tr HBa.out hbd)
      clear hbd
      go_wp2_with fail
      go_ret
      exact ⟨rfl, HBd.out⟩
    · refine (Hbk.out _).mono ?_
      rintro e wa ⟨rfl, hba⟩
      have HBa := Lib.hid (Below.tr HB0.out hba)
      clear hba
      go_wp2_with fail
      refine (awake_any _).mono ?_
      rintro e wd ⟨rfl, hbd⟩
      have HBd := Lib.hid (Below.tr HBa.out hbd)
      clear hbd
      go_wp2_with fail
      go_ret
      exact ⟨rfl, HBd.out⟩
#print axioms back_no
set_option maxRecDepth 100000 in
set_option maxHeartbeats 8000000 in
theorem back_yes {t0 p0 s p : ByteArray} (HF : Hid (∀ w, Calls Try.prog 18 #[.string t0] w fun e w' => e = .returned (.string s) ∧ w = w')) (HF2 : Hid (∀ w, Calls Try.prog 18 #[.string p0] w fun e w' => e = .returned (.string p) ∧ w = w')) (hp : p.size ≤ 1000) (h : Lab (bs s)) (w : World) :
    Calls Try.prog 11 #[.string t0, .string p0] w fun e w' => e = .returned (.bool true) ∧ Below w.heap.size w w' := by
  have HP := Lib.hid (pback p hp)
  unfold PBack at HP
  have hs := lab_size h
  have HT := Lib.hid (transE_any h)
  obtain ⟨Y, hY, hYb⟩ : ∃ Y : ByteArray, strV (tr (bs s)) = .string Y ∧ bs Y = tr (bs s) := ⟨⟨(tr (bs s)).toArray⟩, rfl, rfl⟩
  rw [hY] at HT
  have hYs : Y.size = s.size + 1 := by rw [← bs_len, hYb, tr_length, bs_len]
  have hYT : Txt (bs Y) := by rw [hYb]; exact tr_txt h
  have HBk := Lib.hid (show ∀ w : World, Calls Try.prog 27 #[.string Y] w fun e w' => e = .returned (.tuple #[.string s, .int .i64 0]) ∧ Below w.heap.size w w' from fun w => (backE_any hYT w).mono (by
    rintro e w' ⟨hb, ⟨T', hT', rfl⟩ | ⟨hno, _⟩⟩
    · rw [str_bs, tr_inj hT'.1 h (hT'.2.trans hYb)]; exact ⟨rfl, hb⟩
    · exact absurd ⟨bs s, h, hYb.symm⟩ hno))
  have HPm := Lib.hid (show (bs Y).Perm (bs s ++ [10]) from by rw [hYb]; exact (tr_perm _).trans (List.perm_append_singleton _ _).symm)
  obtain ⟨n, hn⟩ : ∃ n, n = s.size := ⟨_, rfl⟩
  have HN := Lib.hid hn
  have HYs := Lib.hid hYs
  have hn1 : n ≤ 200 := by omega
  clear hp h hs hY hYb hYT hYs hn
  go_enter Try.func11, Try.ntmps11
  go_wp2_with fail
  refine (HF.out _).mono ?_
  rintro e w' ⟨rfl, hw'⟩
  subst hw'
  go_wp2_with fail
  refine (HF2.out _).mono ?_
  rintro e w' ⟨rfl, hw'⟩
  subst hw'
  go_wp2_with fail
  refine (HT.out _).mono ?_
  rintro e w1 ⟨rfl, hb1⟩
  have HB1 := Lib.hid hb1
  clear hb1
  go_wp2_with fail
  refine (HBk.out _).mono ?_
  rintro e w2 ⟨rfl, hb2⟩
  have HB2 := Lib.hid (Below.tr HB1.out hb2)
  clear hb2
  go_wp2_with fail
  rw [run_bytes_of_string w2 9 53 5 Y Try.underlying9 Try.underlying53 Try.underlying5]
  simp only [Result.andThen]
  rw [Oper.upon_value]
  have hcapX := grownCap_ge w2 Y.size 0 5
  obtain ⟨capX, hcX⟩ : ∃ cap, cap = grownCap w2 Y.size 0 5 := ⟨_, rfl⟩
  rw [← hcX] at hcapX ⊢
  have hbsz : ∀ (S : ByteArray) cap, S.size ≤ cap → (bytesRow S cap).size = cap := fun S cap h => by unfold bytesRow; simp; omega
  have hRX := new_row' Y capX w2.drew (by have := HYs.out; have := HN.out; omega) hcapX ((bytesRow Y capX).size, (bytesRow Y capX).size + 1) (by rw [hbsz _ _ hcapX]; exact Nat.le_refl _)
  have hBX := Below.tr HB2.out (Below.tr (bdrewN (Below.refl w2.heap.size w2) 1) (below_alloc w2.drew (.cells (bytesRow Y capX) 5 ((bytesRow Y capX).size, (bytesRow Y capX).size + 1))))
  obtain ⟨w3, hw3⟩ : ∃ w3, w3 = w2.drew.alloc (.cells (bytesRow Y capX) 5 ((bytesRow Y capX).size, (bytesRow Y capX).size + 1)) := ⟨_, rfl⟩
  have hsz3 : w3.heap.size = w2.heap.size + 1 := by rw [hw3]; simp
  rw [← hw3] at hRX hBX ⊢
  obtain ⟨bX, hbX⟩ : ∃ bX, bX = w2.heap.size := ⟨_, rfl⟩
  have hRX : RowAt w3 bX 0 (castB (bs Y)).toArray := by rw [hbX]; exact hRX
  rw [← hbX]
  have HRX := Lib.hid hRX
  have HB3 := Lib.hid hBX
  have HcX := Lib.hid hcapX
  have Hsz3 := Lib.hid (show w3.heap.size = bX + 1 by rw [hbX]; exact hsz3)
  have HbX := Lib.hid (show w.heap.size ≤ bX by rw [hbX]; exact HB2.out.size)
  clear hRX hBX hcapX hcX hw3 hsz3 hbX
  go_wp2_with fail
  rw [run_bytes_of_string w3 9 53 5 s Try.underlying9 Try.underlying53 Try.underlying5]
  simp only [Result.andThen]
  rw [Oper.upon_value]
  have hcapT := grownCap_ge w3 s.size 0 5
  obtain ⟨capT, hcT⟩ : ∃ cap, cap = grownCap w3 s.size 0 5 := ⟨_, rfl⟩
  rw [← hcT] at hcapT ⊢
  have hCa := new_came s capT w3.drew hcapT ((bytesRow s capT).size, (bytesRow s capT).size + 1) (by rw [hbsz _ _ hcapT]; exact Nat.le_refl _)
  have hRT := new_row' s capT w3.drew (by have := HN.out; omega) hcapT ((bytesRow s capT).size, (bytesRow s capT).size + 1) (by rw [hbsz _ _ hcapT]; exact Nat.le_refl _)
  have hb34 := Below.tr (bdrewN (Below.refl w3.heap.size w3) 1) (below_alloc w3.drew (.cells (bytesRow s capT) 5 ((bytesRow s capT).size, (bytesRow s capT).size + 1)))
  obtain ⟨w4, hw4⟩ : ∃ w4, w4 = w3.drew.alloc (.cells (bytesRow s capT) 5 ((bytesRow s capT).size, (bytesRow s capT).size + 1)) := ⟨_, rfl⟩
  have hsz4 : w4.heap.size = w3.heap.size + 1 := by rw [hw4]; simp
  rw [← hw4] at hCa hRT hb34 ⊢
  obtain ⟨bT, hbT⟩ : ∃ bT, bT = w3.heap.size := ⟨_, rfl⟩
  have hCa : Came w4 1 (some ⟨bT, 0, none⟩) bT 0 s.size capT (Lib.byteCells (bs s)) := by rw [hbT]; exact hCa
  have hRT : RowAt w4 bT 0 (castB (bs s)).toArray := by rw [hbT]; exact hRT
  rw [← hbT]
  have HB4 := Lib.hid (Below.tr HB3.out hb34)
  have HRX4 := Lib.hid (HRX.out.heap (hb34.block bX HRX.out.2.1) hb34.size)
  have hw5 := below_alloc w4 (.cells #[.int .u8 10] 5)
  have HCa5 := Lib.hid (show Came (w4.alloc (.cells #[.int .u8 10] 5)) 1 (some ⟨bT, 0, none⟩) bT 0 (bs s).length capT (Lib.byteCells (bs s)) from by
    rw [bs_len]
    have hbl : bT < w4.heap.size := by omega
    refine ⟨hCa.le, hCa.addr, fun h => by have := hw5.size; omega, hCa.oldsLen, fun j u hj => Below.keep hw5 (hCa.olds j u hj), fun j hj => ?_⟩
    have hh := hw5.block bT hbl
    have := hCa.spare j hj
    unfold World.cell? World.frozen? at *
    simp only [hh]
    exact this)
  have HFr5 := Lib.hid (show ∀ j, j < (bs s).length → (w4.alloc (.cells #[.int .u8 10] 5)).frozen? ⟨bT, j, none⟩ = false from fun j hj => by
    have hbl : bT < w4.heap.size := by omega
    have hh := hw5.block bT hbl
    have := (hRT.1 j (by simp [castB]; exact hj)).2
    rw [Nat.zero_add] at this
    unfold World.frozen? at *
    simp only [hh]
    exact this)
  have Hsz4 := Lib.hid (show w4.heap.size = bT + 1 by omega)
  have HXT := Lib.hid (show bX < bT by rw [hbT, Hsz3.out]; omega)
  have hsn : s.size = (bs s).length := (bs_len s).symm
  rw [hsn]
  have HYl := Lib.hid (show Y.size = (bs Y).length from (bs_len Y).symm)
  clear hCa hRT hb34 hcapT hcT hw4 hsz4 hbT hbsz hsn hw5
  go_wp2_with (at_builtin; refine append_ten rfl (.tmp 32) (.tmp 33) rfl (l := bs s) (b := bT) (cap := capT) rfl HCa5.out (by rw [bs_len]; have := HN.out; omega) (by have := Hsz4.out; simp; omega) HFr5.out rfl (by rw [cell_new]; rfl) ?_)
  intro v6 w6 hten
  obtain ⟨gY, cY, rfl, hcY, hRY, hgY, hkeep, ho1, ho2, ho3, hsz6⟩ := hten
  have h5s : (w4.alloc (.cells #[.int .u8 10] 5)).heap.size = bT + 2 := by have := Hsz4.out; simp; omega
  rw [h5s] at hgY hkeep hsz6
  have HB6 := Lib.hid (show Below w.heap.size w w6 from (Below.tr HB4.out (below_alloc w4 (.cells #[.int .u8 10] 5))).trans ⟨ho1, ho2, ho3, by rw [h5s]; exact hsz6, fun q hq => hkeep q (by have := HbX.out; have := HXT.out; omega) (by have := HbX.out; have := HXT.out; omega)⟩)
  have HRX6 := Lib.hid (show RowAt w6 bX 0 (castB (bs Y)).toArray from (HRX4.out.heap (w' := w6) (by
    rw [hkeep bX (by have := HXT.out; omega) (by have := HXT.out; omega)]
    exact (below_alloc w4 _).block bX HRX4.out.2.1) (by have := Hsz4.out; omega)))
  have HRY6 := Lib.hid hRY
  have HgY := Lib.hid (show gY ≠ bX by have := HXT.out; omega)
  have HgYb := Lib.hid (show bX < gY by have := HXT.out; omega)
  have HcY := Lib.hid hcY
  have hlX : (castB (bs Y)).toArray.size = (bs Y).length := by simp [castB]
  have hlY : (castB (bs s ++ [10])).toArray.size = (bs s).length + 1 := by simp [castB]
  have hSX := sort_row bX 0 capX (castB (bs Y)).toArray w6 HRX6.out
  rw [hlX, ← HYl.out] at hSX
  have HSX := Lib.hid hSX
  have HlX := Lib.hid (hlX.trans HYl.out.symm)
  have HlY := Lib.hid hlY
  clear hcY hRY hgY hkeep ho1 ho2 ho3 hsz6 h5s hlX hlY hSX
  go_wp2_with fail
  refine HSX.out.mono ?_
  rintro e w7 ⟨rfl, dX, hrX, hpX, hsX⟩
  have hRX7 := Rw.row HRX6.out hrX (by rw [hpX.1])
  have hRY7 := HRY6.out.heap (hrX.other HRY6.out.2.1 HgY.out) hrX.size
  have HB7 := Lib.hid (HB6.out.trans (hrX.below HbX.out (HB6.out.size)))
  have hSY := sort_row gY 0 cY (castB (bs s ++ [10])).toArray w7 hRY7
  rw [HlY.out] at hSY
  have HSY := Lib.hid hSY
  have HRX7 := Lib.hid hRX7
  have HRY7 := Lib.hid hRY7
  have HpX := Lib.hid hpX
  have HsX := Lib.hid hsX
  clear hrX hpX hsX hRX7 hRY7 hSY
  go_wp2_with fail
  refine HSY.out.mono ?_
  rintro e w8 ⟨rfl, dY, hrY, hpY, hsY⟩
  have hRY8 := Rw.row HRY7.out hrY (by rw [hpY.1])
  have hRX8 := HRX7.out.heap (hrY.other HRX7.out.2.1 (fun e => HgY.out e.symm)) hrY.size
  have HB8 := Lib.hid (HB7.out.trans (hrY.below (Nat.le_trans HbX.out (Nat.le_of_lt HgYb.out)) (HB7.out.size)))
  have hzX : dX.size = (bs Y).length := by rw [HpX.out.1, HlX.out, HYl.out]
  have hzY : dY.size = (bs s ++ [10]).length := by rw [hpY.1, HlY.out]; simp
  have hsame := srt_same HPm.out hzX hzY (by
    have h := HpX.out
    rw [show Y.size = dX.size by rw [hzX, HYl.out]] at h
    exact h) (by
    have h := hpY
    rw [show (bs s).length + 1 = dY.size by rw [hzY]; simp] at h
    exact h) (by
    have h := HsX.out
    rw [show Y.size = dX.size by rw [hzX, HYl.out]] at h
    exact h) (by
    have h := hsY
    rw [show (bs s).length + 1 = dY.size by rw [hzY]; simp] at h
    exact h)
  obtain ⟨hse, r, hr, hrl⟩ := hsame
  have hYl1 : Y.size = r.length := by rw [hrl, HYl.out]
  have hsl1 : (bs s).length + 1 = r.length := by rw [hrl, ← HYl.out, HYs.out, bs_len]
  have hbyX := row_at (cap := capX) hRX8 (by rw [hzX, hrl]) (by rw [← hYl1]; exact HcX.out) (by rw [← hYl1, HYs.out]; have := HN.out; omega) hr
  have hbyY := row_at (cap := cY) hRY8 (by rw [hzY, ← hsl1]; simp) (by rw [← hsl1]; exact HcY.out) (by rw [← hsl1, bs_len]; have := HN.out; omega) (hse.symm.trans hr)
  rw [← hYl1] at hbyX
  rw [← hsl1] at hbyY
  have HEq := Lib.hid (equalB_yes r _ _ w8 hbyX hbyY)
  clear hRY8 hRX8 hzX hzY hse hr hrl hYl1 hsl1 hbyX hbyY hpY hsY hrY
  go_wp2_with fail
  refine HEq.out.mono ?_
  rintro e w9 ⟨rfl, hb9⟩
  have HB9 := Lib.hid (Below.tr HB8.out hb9)
  clear hb9
  go_wp2_with fail
  rcases HP.out with ⟨X, hX, hTr⟩ | ⟨c, hc, hbk⟩
  · have HX := Lib.hid hX
    have HTr := Lib.hid hTr
    clear hX hTr
    refine (HX.out _).mono ?_
    rintro e wa ⟨rfl, hba⟩
    have HBa := Lib.hid (Below.tr HB9.out hba)
    clear hba
    go_wp2_with fail
    refine (HTr.out _).mono ?_
    rintro e wb ⟨rfl, hbb⟩
    have HBb := Lib.hid (Below.tr HBa.out hbb)
    clear hbb
    go_wp2_with fail
    refine (awake_any _).mono ?_
    rintro e wd ⟨rfl, hbd⟩
    have HBd := Lib.hid (Below.tr HBb.out hbd)
    clear hbd
    go_wp2_with fail
    go_ret
    exact ⟨rfl, HBd.out⟩
  · have Hbk := Lib.hid hbk
    clear hbk
    rcases hc with rfl | rfl
    · refine (Hbk.out _).mono ?_
      rintro e wa ⟨rfl, hba⟩
      have HBa := Lib.hid (Below.tr HB9.out hba)
      clear hba
      go_wp2_with fail
      refine (awake_any _).mono ?_
      rintro e wd ⟨rfl, hbd⟩
      have HBd := Lib.hid (Below.tr HBa.out hbd)
      clear hbd
      go_wp2_with fail
      go_ret
      exact ⟨rfl, HBd.out⟩
    · refine (Hbk.out _).mono ?_
      rintro e wa ⟨rfl, hba⟩
      have HBa := Lib.hid (Below.tr HB9.out hba)
      clear hba
      go_wp2_with fail
      refine (awake_any _).mono ?_
      rintro e wd ⟨rfl, hbd⟩
      have HBd := Lib.hid (Below.tr HBa.out hbd)
      clear hbd
      go_wp2_with fail
      go_ret
      exact ⟨rfl, HBd.out⟩
#print axioms back_yes
theorem backLaw_any (t0 : ByteArray) (ht : t0.size ≤ maxLen) (p0 : ByteArray) (hp : p0.size ≤ maxLen) (w : World) :
    Calls Try.prog 11 #[.string t0, .string p0] w fun e w' => e = .returned (.bool true) ∧ Below w.heap.size w w' := by
  have hs : (fewB t0).size ≤ 1000 := by have := fewB_size t0; omega
  have hs2 : (fewB p0).size ≤ 1000 := by have := fewB_size p0; omega
  by_cases h : Lab (bs (fewB t0))
  · exact back_yes (Lib.hid (few_any t0 ht)) (Lib.hid (few_any p0 hp)) hs2 h w
  · exact back_no (Lib.hid (few_any t0 ht)) (Lib.hid (few_any p0 hp)) hs hs2 h w

namespace indexBack
open Go.ChangeShapes Go.WideShapes Go.ChangeAt Go.ChangeMaps
set_option maxRecDepth 100000 in
theorem lifted (os : Os) (started : os.Started) (H : Type) (enc : TypeId × Value → H) :
    ReturnsInHanded {} Try.checked os 11 .any (Rows.indexBackSpec.pre6 enc Try.prog Try.f11 Rows.indexBackRow.domain false) (Rows.indexBackSpec.post enc Try.prog Try.f11 false true false false) := by
  refine returnsInHanded_of_change (C := Try.checked) Try.own started (by kernel_rfl) Try.func11
    (ChangeSpec.witness6 (enc := enc) (C := Try.checked) false ⟨#[], #[.string ⟨#[]⟩, .string ⟨#[]⟩], []⟩ 8 (by kernel_rfl) (by kernel_rfl) (by kernel_rfl) (by kernel_rfl)) ?_
  intro W base args ds gs before hval0 hW _ hshape
  have hval : ∀ (j : Nat) t v, Try.f11.params[j]? = some t → args[j]? = some v → Value.okWide Try.prog W .any base t v := hval0
  clear hval0
  obtain rfl : gs = [] := by obtain ⟨p, q, _, hV, _⟩ := hW; exact (trodVars_none hV).1
  have hW' := hW
  obtain ⟨p, q, hA0, hV, rfl, hfz, hnd⟩ := hW
  have hA : DataW.TrodAll enc Try.prog W 0 (fun _ => true) true Try.f11.params.toList args.toList ds p := hA0
  rw [Try.params11] at hA hval
  obtain ⟨v0, vs0, d0, ds0, p0, q0, hv0, hd0, hp0, h0, r0⟩ := trodAll_cons hA
  obtain ⟨v1, vs1, d1, ds1, p1, q1, hv1, hd1, hp1, h1, r1⟩ := trodAll_cons r0
  obtain ⟨hvn, hdn, hpn⟩ := trodAll_nil r1
  have ha : args = #[v0, v1] := by cases args; simp_all
  have hdd : ds = [d0, d1] := by simp_all
  rw [ha] at hval
  obtain ⟨a0, e0, -, -, ws0⟩ := open_string Try.underlying9 (hval 0 9 v0 rfl rfl) h0
  obtain ⟨a1, e1, -, -, ws1⟩ := open_string Try.underlying9 (hval 1 9 v1 rfl rfl) h1
  have hw : Calls Try.prog 11 args W (fun e W' => e = .returned (.bool true) ∧ Below W.heap.size W W') := by
    rw [ha, e0, e1]; exact backLaw_any a0 ws0 a1 ws1 W
  exact hw.mono fun e W' ⟨he, hb⟩ => ⟨_, he, law_post Try.laidOut hW' rfl rfl Try.underlying4 (by rw [hdd]; rfl)
    (by kernel_rfl) hb⟩

theorem holds : Rows.IndexBackSaid :=
  OpenClaim.holds_of_wide 11 Try.f11 rfl rfl rfl rfl rfl rfl rfl ⟨rfl, rfl, rfl, rfl, rfl⟩ rfl rfl rfl rfl rfl (by kernel_rfl) Try.func11 (by kernel_rfl)
    (of_decide_eq_true (by kernel_rfl)) (by unfold Func.isWrapper; first | (rw [if_pos (by decide +kernel)]; kernel_rfl) | (rw [if_neg (by decide +kernel)]; exact ⟨rfl, rfl⟩))
    (fun os started H enc _ => lifted os started H enc)
#print axioms holds
end indexBack
end Go.Proofs.Ytbnlkmblkokooaa
