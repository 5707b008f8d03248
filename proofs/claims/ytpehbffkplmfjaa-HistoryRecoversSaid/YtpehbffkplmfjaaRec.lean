/- Contract of Recovery. -/
import Derived.Test.YtpehbffkplmfjaaTow
import Derived.Test.YtpehbffkplmfjaaFrr
namespace Go.Proofs.Ytpehbffkplmfjaa
open Go.RowKit

theorem results_tmp4 {fn : Func} {t u v x : Tmp} (h : fn.results = #[.tmp t, .tmp u, .tmp v, .tmp x]) (tmps : Array Value) (P : Program) (w : World) :
    (results fn tmps).run P w = .ok (.tuple #[tmps.getD t undef, tmps.getD u undef, tmps.getD v undef, tmps.getD x undef]) w := by
  simp [results, h]
theorem lw_lt {h : List NOp} (hh : VH h) (i x : Nat) : ∀ m, m ≤ h.length → lw h i x m < 7
  | 0, _ => by simp [lw]
  | m + 1, hm => by
    rw [lw]
    split
    · have := hh.t6 m (by omega); omega
    · exact lw_lt hh i x m (by omega)
theorem frm_nat {h : List NOp} (hh : VH h) {i : Nat} (hi : i < h.length) (h0 : frm h i > 0) : ∃ f : Nat, frm h i = (f : Int) ∧ 1 ≤ f ∧ f < 7 := by
  unfold frm at *
  split at h0
  · rename_i e
    rw [if_pos e]
    have := lw_lt hh i (tI h i) i (by omega)
    exact ⟨_, rfl, by omega, this⟩
  · omega
/-- what spoils a history at operation i -/
def RecBad (h : List NOp) (i : Nat) : Prop := (frm h i > 0 ∧ frm h i ≠ (tT h i : Nat)) ∧ lv h h.length (7 + tT h i) ≠ 40 ∧ lv h h.length (7 + tT h i) < lv h h.length (7 + (frm h i).toNat)
def CarBad (h : List NOp) (i : Nat) : Prop := (frm h i > 0 ∧ frm h i ≠ (tT h i : Nat)) ∧ i < lv h h.length (7 + (frm h i).toNat)
instance (h : List NOp) (i : Nat) : Decidable (RecBad h i) := inferInstanceAs (Decidable (_ ∧ _ ∧ _))
instance (h : List NOp) (i : Nat) : Decidable (CarBad h i) := inferInstanceAs (Decidable (_ ∧ _))
def recB (h : List NOp) (k : Nat) : Bool := decide (∀ i, i < k → ¬ RecBad h i)
def carB (h : List NOp) (k : Nat) : Bool := decide (∀ i, i < k → ¬ CarBad h i)
def strB (h : List NOp) (k : Nat) : Bool := decide (∀ i, i < k → ¬ TowTo h i i)
theorem all_step {P : Nat → Prop} [DecidablePred P] (k : Nat) : (decide (∀ i, i < k + 1 → ¬ P i)) = (decide (∀ i, i < k → ¬ P i) && !decide (P k)) := by
  rw [Bool.eq_iff_iff, Bool.and_eq_true, decide_eq_true_iff, decide_eq_true_iff, Bool.not_eq_true', decide_eq_false_iff_not]
  constructor
  · exact fun hh => ⟨fun i hi => hh i (by omega), hh k (by omega)⟩
  · rintro ⟨h1, h2⟩ i hi
    by_cases e : i = k
    · rw [e]; exact h2
    · exact h1 i (by omega)
theorem recB_no {h : List NOp} {k : Nat} (e : ¬ RecBad h k) : recB h (k + 1) = recB h k := by unfold recB; rw [all_step, decide_eq_false e, Bool.not_false, Bool.and_true]
theorem recB_yes {h : List NOp} {k : Nat} (e : RecBad h k) : recB h (k + 1) = false := by unfold recB; rw [all_step, decide_eq_true e, Bool.not_true, Bool.and_false]
theorem carB_no {h : List NOp} {k : Nat} (e : ¬ CarBad h k) : carB h (k + 1) = carB h k := by unfold carB; rw [all_step, decide_eq_false e, Bool.not_false, Bool.and_true]
theorem carB_yes {h : List NOp} {k : Nat} (e : CarBad h k) : carB h (k + 1) = false := by unfold carB; rw [all_step, decide_eq_true e, Bool.not_true, Bool.and_false]
theorem strB_no {h : List NOp} {k : Nat} (e : decide (TowTo h k k) = false) : strB h (k + 1) = strB h k := by unfold strB; rw [all_step (P := fun i => TowTo h i i), e, Bool.not_false, Bool.and_true]
theorem strB_yes {h : List NOp} {k : Nat} (e : decide (TowTo h k k) = true) : strB h (k + 1) = false := by unfold strB; rw [all_step (P := fun i => TowTo h i i), e, Bool.not_true, Bool.and_false]
set_option maxRecDepth 100000 in
set_option maxHeartbeats 4000000 in
theorem recovery_bad {l : List HOp} (hn : ¬ ValidH l) (v : Value) (w : World) (hv : Ops w v l) :
    Calls Try.prog 30 #[v] w fun e w' => e = .returned (.tuple #[.bool false, .bool false, .bool false, .int .i64 2]) ∧ Below w.heap.size w w' := by
  have HV := Lib.hid (valid_any l v w hv)
  rw [decide_eq_false hn] at HV
  obtain ⟨a, c, rfl⟩ := ops_slice hv
  clear hv hn
  go_enter Try.func30, Try.ntmps30
  go_wp2_with fail
  refine HV.out.mono ?_
  rintro e w1 ⟨rfl, hb1⟩
  have Hb1 := Lib.hid hb1
  clear hb1
  go_wp2_with fail
  ((try simp only [Exit.inBlock, Exit.then]); refine bodyPost_ret (results_tmp4 rfl _ _ _) rfl ?_)
  exact ⟨rfl, Hb1.out⟩
set_option maxRecDepth 100000 in
set_option maxHeartbeats 16000000 in
theorem recovery_any {h : List NOp} (hh : VH h) (v : Value) (w : World) (hv : Ops w v (castO h)) :
    Calls Try.prog 30 #[v] w fun e w' => e = .returned (.tuple #[.bool (recB h h.length), .bool (carB h h.length), .bool (strB h h.length), .int .i64 0]) ∧ Below w.heap.size w w' := by
  have HV := Lib.hid (valid_any (castO h) v w hv)
  rw [decide_eq_true (valid_of hh)] at HV
  have HL := Lib.hid (fun w' (hb : Below w.heap.size w w') => livesOf_any hh v w' (Ops.keep hv hb))
  have HF := Lib.hid (fun w' (hb : Below w.heap.size w w') => from_any hh v w' (Ops.keep hv hb))
  have Hv := Lib.hid hv
  obtain ⟨a, b, off, cap, rfl, hle, ha, hcap, hc⟩ := Ops.nat hv
  have hix := run_ix (P := Try.prog) (t := 29) (a := a) (len := h.length) (cap := cap) (b := b) (off := off) (s := 3) Try.underlying29 (by intro w; kernel_rfl) ha
  have HT := Lib.hid (fun (i : Nat) (hi : i < h.length) w' (hb : Below w.heap.size w w') => tow_any hh hi (a := a) (c := cap) w' (Ops.keep Hv.out hb))
  have h40 := hh.le
  have Hc := Lib.hid hc
  have Hix := Lib.hid hix
  have HH := Lib.hid hh
  clear ha hv hc hix hcap hh hle
  go_enter Try.func30, Try.ntmps30
  go_wp2_with fail
  refine HV.out.mono ?_
  rintro e w1 ⟨rfl, hb1⟩
  have Hb1 := Lib.hid hb1
  have HL1 := Lib.hid (HL.out w1 hb1)
  clear hb1 HL HV
  go_wp2_with fail
  refine HL1.out.mono ?_
  rintro e w2 ⟨rfl, hb2⟩
  have Hb2 := Lib.hid (Below.tr Hb1.out hb2)
  clear hb2 HL1
  have hla : livA h = row 21 (lvF h h.length) := rfl
  rw [hla]
  have hLs : (Try.prog.info? 70).map (·.size) = some (row 21 (lvF h h.length)).size := by rw [row_size]; exact sizeLives
  have hL1 := row_one h h.length
  have hZ : #[Value.int .i64 0, .int .i64 0, .int .i64 0, .int .i64 0, .int .i64 0, .int .i64 0, .int .i64 0, .int .i64 0, .int .i64 0, .int .i64 0, .int .i64 0, .int .i64 0, .int .i64 0, .int .i64 0, .int .i64 0, .int .i64 0, .int .i64 0, .int .i64 0, .int .i64 0, .int .i64 0, .int .i64 0].size = (row 21 (lvF h h.length)).size := by rw [row_size]; rfl
  have HBk := Lib.hid (fun w : World => show Blk ((w.alloc (.cells #[.int .i64 0, .int .i64 0, .int .i64 0, .int .i64 0, .int .i64 0, .int .i64 0, .int .i64 0, .int .i64 0, .int .i64 0, .int .i64 0, .int .i64 0, .int .i64 0, .int .i64 0, .int .i64 0, .int .i64 0, .int .i64 0, .int .i64 0, .int .i64 0, .int .i64 0, .int .i64 0, .int .i64 0] 70)).setRow w.heap.size (row 21 (lvF h h.length))) w.heap.size 70 21 (lvF h h.length) from (blk_new w 70 21 fun _ => .int .i64 0).setRow _)
  have HLs := Lib.hid hLs
  have HL1 := Lib.hid hL1
  have HZ := Lib.hid hZ
  generalize hL : row 21 (lvF h h.length) = L at *
  have HLe := Lib.hid hL
  clear hL hLs hL1 hZ hla
  go_wp2_with (refine wpList_store_row rfl 70 (.tmp 6) (.tmp 14) rfl w2.heap.size L rfl rfl 70 _ (heap_alloc_new _ _) HLs.out HZ.out HL1.out ?_; have HB3 := Lib.hid (HBk.out w2); have Hb3 := Lib.hid (show Below w.heap.size w ((w2.alloc (.cells #[.int .i64 0, .int .i64 0, .int .i64 0, .int .i64 0, .int .i64 0, .int .i64 0, .int .i64 0, .int .i64 0, .int .i64 0, .int .i64 0, .int .i64 0, .int .i64 0, .int .i64 0, .int .i64 0, .int .i64 0, .int .i64 0, .int .i64 0, .int .i64 0, .int .i64 0, .int .i64 0, .int .i64 0] 70)).setRow w2.heap.size L) from below_setRow (Below.tr Hb2.out (below_alloc _ _)) Hb2.out.size _); generalize (w2.alloc (.cells #[.int .i64 0, .int .i64 0, .int .i64 0, .int .i64 0, .int .i64 0, .int .i64 0, .int .i64 0, .int .i64 0, .int .i64 0, .int .i64 0, .int .i64 0, .int .i64 0, .int .i64 0, .int .i64 0, .int .i64 0, .int .i64 0, .int .i64 0, .int .i64 0, .int .i64 0, .int .i64 0, .int .i64 0] 70)).setRow w2.heap.size L = w3 at *)
  clear HBk HLs HL1 HZ
  generalize w2.heap.size = pb at *
  rw [show livA h = L from HLe.out] at HT
  refine (HF.out _ Hb3.out).mono ?_
  rintro e w4 ⟨v4, rfl, hI, hb4⟩
  have Hb4 := Lib.hid (Below.tr Hb3.out hb4)
  have HB4 := Lib.hid (HB3.out.keep hb4)
  obtain ⟨a5, b5, off5, cap5, rfl, hle5, ha5, hc5⟩ := Ints.get hI
  rw [froms_length] at hle5 ha5 ⊢
  have hixl := run_ix (P := Try.prog) (t := 24) (a := a5) (len := h.length) (cap := cap5) (b := b5) (off := off5) (s := 1) Try.underlying24 (by intro w; kernel_rfl) ha5
  simp only [Nat.mul_one] at hixl
  have Hixl := Lib.hid hixl
  have Hcl := Lib.hid (show ∀ i, i < h.length → w4.cell? ⟨b5, off5 + i, none⟩ = some (.int .i64 (frm h i)) from fun i hi => by rw [hc5 i (by rw [froms_length]; exact hi)]; simp [froms])
  clear hb4 hI hle5 ha5 hc5 hixl HF HB3 Hb3 Hb2 Hb1
  go_wp2_with fail
  go_loopw [2, 3, 4, 18] (fun r1 r2 r3 i wr => ∃ k : Nat, i = .int .i64 k ∧ k ≤ h.length ∧ r1 = .bool (recB h k) ∧ r2 = .bool (carB h k) ∧ r3 = .bool (strB h k) ∧ Below w.heap.size w wr ∧ Below w4.heap.size w4 wr) (fun _ _ _ i _ => h.length - (intOf i).toNat)
  case atStart => exact ⟨0, rfl, Nat.zero_le _, by simp [recB], by simp [carB], by simp [strB], Hb4.out, Below.refl _ _⟩
  case round =>
    obtain ⟨k, rfl, hk, rfl, rfl, rfl, hb, hb4⟩ := hrel
    have Hb := Lib.hid hb
    have HBb := Lib.hid hb4
    clear hb hb4
    by_cases hlt : k < h.length
    · have hixk := Hix.out k
      have hixlk := Hixl.out k
      have hd := Below.keep Hb.out (Hc.out k hlt).1
      have hf := Below.keep HBb.out (Hcl.out k hlt)
      have ht6 := HH.out.t6 k hlt
      have HTk := Lib.hid (HT.out k hlt)
      have HB := Lib.hid (HB4.out.keep HBb.out)
      have Hfn := Lib.hid (fun h0 => frm_nat HH.out hlt h0)
      have Hrd := Lib.hid (show RecBad h k ↔ (frm h k > 0 ∧ frm h k ≠ (tT h k : Nat)) ∧ lv h h.length (7 + tT h k) ≠ 40 ∧ lv h h.length (7 + tT h k) < lv h h.length (7 + (frm h k).toNat) from Iff.rfl)
      have Hcd := Lib.hid (show CarBad h k ↔ (frm h k > 0 ∧ frm h k ≠ (tT h k : Nat)) ∧ k < lv h h.length (7 + (frm h k).toNat) from Iff.rfl)
      have Hry := Lib.hid (fun e => recB_yes (h := h) (k := k) e)
      have Hrn := Lib.hid (fun e => recB_no (h := h) (k := k) e)
      have Hcy := Lib.hid (fun e => carB_yes (h := h) (k := k) e)
      have Hcn := Lib.hid (fun e => carB_no (h := h) (k := k) e)
      have Hsy := Lib.hid (fun e => strB_yes (h := h) (k := k) e)
      have Hsn := Lib.hid (fun e => strB_no (h := h) (k := k) e)
      obtain ⟨F, hF⟩ : ∃ F, F = frm h k := ⟨_, rfl⟩
      rw [← hF] at hf Hfn Hrd Hcd
      obtain ⟨t, ht⟩ : ∃ t, t = tT h k := ⟨_, rfl⟩
      rw [← ht] at hd ht6 Hrd Hcd
      obtain ⟨R0, hR0⟩ : ∃ R0, R0 = recB h k := ⟨_, rfl⟩
      obtain ⟨C0, hC0⟩ : ∃ C0, C0 = carB h k := ⟨_, rfl⟩
      obtain ⟨S0, hS0⟩ : ∃ S0, S0 = strB h k := ⟨_, rfl⟩
      rw [← hR0] at Hrn ⊢
      rw [← hC0] at Hcn ⊢
      rw [← hS0] at Hsn ⊢
      obtain ⟨tw, htw⟩ : ∃ tw, tw = decide (TowTo h k k) := ⟨_, rfl⟩
      rw [← htw] at HTk Hsy Hsn
      obtain ⟨ht1, ht2⟩ := ht6
      clear hF ht hR0 hC0 hS0 htw
      by_cases f1 : F > 0
      · by_cases f2 : F = (t : Int)
        · have q2 : (F != (t : Int)) = false := by rw [bne_eq_false_iff_eq]; exact f2
          have RR := Lib.hid (Hrn.out fun e => (Hrd.out.1 e).1.2 f2)
          have RC := Lib.hid (Hcn.out fun e => (Hcd.out.1 e).1.2 f2)
          clear f2
          cases tw with
          | true =>
            have RS := Lib.hid (Hsy.out rfl)
            go_wp2_with (refine wpList_load_row rfl 70 (.tmp 6) rfl pb rfl 70 L (0, 0) _ (by rw [← HLe.out]; exact HB.out) Try.underlying70 rfl (by rw [← HLe.out, row_size]; exact sizeLives) ?_)
            refine (HTk.out _ (Hb.out)).mono ?_
            rintro e w5 ⟨rfl, hb5⟩
            have Hb5 := Lib.hid (Below.tr (Hb.out) hb5)
            have HBb5 := Lib.hid (Below.tr (HBb.out) hb5)
            clear hb5
            go_wp2_with fail
            go_roundw
            case rel => exact ⟨k + 1, by go_num, by omega, by rw [RR.out], by rw [RC.out], by rw [RS.out], Hb5.out, HBb5.out⟩
            case measure => simp [intOf]; omega
          | false =>
            have RS := Lib.hid (Hsn.out rfl)
            go_wp2_with (refine wpList_load_row rfl 70 (.tmp 6) rfl pb rfl 70 L (0, 0) _ (by rw [← HLe.out]; exact HB.out) Try.underlying70 rfl (by rw [← HLe.out, row_size]; exact sizeLives) ?_)
            refine (HTk.out _ (Hb.out)).mono ?_
            rintro e w5 ⟨rfl, hb5⟩
            have Hb5 := Lib.hid (Below.tr (Hb.out) hb5)
            have HBb5 := Lib.hid (Below.tr (HBb.out) hb5)
            clear hb5
            go_wp2_with fail
            go_roundw
            case rel => exact ⟨k + 1, by go_num, by omega, by rw [RR.out], by rw [RC.out], by rw [RS.out], Hb5.out, HBb5.out⟩
            case measure => simp [intOf]; omega
        · have q2 : (F != (t : Int)) = true := by rw [bne_iff_ne]; exact f2
          obtain ⟨f, hf0, hf1, hf7⟩ := Hfn.out f1
          subst hf0
          rw [Int.toNat_natCast] at Hrd Hcd
          have v1 := HB.out.at (show 7 + t < 21 by omega)
          have v2 := HB.out.at (show 7 + f < 21 by omega)
          unfold lvF at v1 v2
          obtain ⟨ct, hct⟩ : ∃ ct, ct = lv h h.length (7 + t) := ⟨_, rfl⟩
          obtain ⟨cf, hcf⟩ : ∃ cf, cf = lv h h.length (7 + f) := ⟨_, rfl⟩
          rw [← hct] at v1 Hrd
          rw [← hcf] at v2 Hrd Hcd
          have hti : (t : Int) < 7 := by omega
          have ht0 : (0 : Int) ≤ (t : Int) := by omega
          have hfi : (f : Int) < 7 := by omega
          have hf00 : (0 : Int) ≤ (f : Int) := by omega
          have Hne := Lib.hid (And.intro f1 f2)
          clear hct hcf f2
          by_cases f3 : ct = 40
          · have q3 : ((ct : Int) != 40) = false := by rw [bne_eq_false_iff_eq]; omega
            have RR := Lib.hid (Hrn.out fun e => (Hrd.out.1 e).2.1 f3)
            clear f3
            by_cases f5 : k < cf
            · have q5 : (cf : Int) > (k : Int) := by omega
              have RC := Lib.hid (Hcy.out (Hcd.out.2 ⟨Hne.out, f5⟩))
              clear f5
              cases tw with
              | true =>
                have RS := Lib.hid (Hsy.out rfl)
                go_wp2_with fail
                go_quiet (fail)
                go_wp2_with (refine wpList_load_row rfl 70 (.tmp 6) rfl pb rfl 70 L (0, 0) _ (by rw [← HLe.out]; exact HB.out) Try.underlying70 rfl (by rw [← HLe.out, row_size]; exact sizeLives) ?_)
                refine (HTk.out _ (bdrewN Hb.out _)).mono ?_
                rintro e w5 ⟨rfl, hb5⟩
                have Hb5 := Lib.hid (Below.tr (bdrewN Hb.out _) hb5)
                have HBb5 := Lib.hid (Below.tr (bdrewN HBb.out _) hb5)
                clear hb5
                go_wp2_with fail
                go_roundw
                case rel => exact ⟨k + 1, by go_num, by omega, by rw [RR.out], by rw [RC.out], by rw [RS.out], Hb5.out, HBb5.out⟩
                case measure => simp [intOf]; omega
              | false =>
                have RS := Lib.hid (Hsn.out rfl)
                go_wp2_with fail
                go_quiet (fail)
                go_wp2_with (refine wpList_load_row rfl 70 (.tmp 6) rfl pb rfl 70 L (0, 0) _ (by rw [← HLe.out]; exact HB.out) Try.underlying70 rfl (by rw [← HLe.out, row_size]; exact sizeLives) ?_)
                refine (HTk.out _ (bdrewN Hb.out _)).mono ?_
                rintro e w5 ⟨rfl, hb5⟩
                have Hb5 := Lib.hid (Below.tr (bdrewN Hb.out _) hb5)
                have HBb5 := Lib.hid (Below.tr (bdrewN HBb.out _) hb5)
                clear hb5
                go_wp2_with fail
                go_roundw
                case rel => exact ⟨k + 1, by go_num, by omega, by rw [RR.out], by rw [RC.out], by rw [RS.out], Hb5.out, HBb5.out⟩
                case measure => simp [intOf]; omega
            · have q5 : ¬ (cf : Int) > (k : Int) := by omega
              have RC := Lib.hid (Hcn.out fun e => f5 (Hcd.out.1 e).2)
              clear f5
              cases tw with
              | true =>
                have RS := Lib.hid (Hsy.out rfl)
                go_wp2_with fail
                go_quiet (fail)
                go_wp2_with (refine wpList_load_row rfl 70 (.tmp 6) rfl pb rfl 70 L (0, 0) _ (by rw [← HLe.out]; exact HB.out) Try.underlying70 rfl (by rw [← HLe.out, row_size]; exact sizeLives) ?_)
                refine (HTk.out _ (bdrewN Hb.out _)).mono ?_
                rintro e w5 ⟨rfl, hb5⟩
                have Hb5 := Lib.hid (Below.tr (bdrewN Hb.out _) hb5)
                have HBb5 := Lib.hid (Below.tr (bdrewN HBb.out _) hb5)
                clear hb5
                go_wp2_with fail
                go_roundw
                case rel => exact ⟨k + 1, by go_num, by omega, by rw [RR.out], by rw [RC.out], by rw [RS.out], Hb5.out, HBb5.out⟩
                case measure => simp [intOf]; omega
              | false =>
                have RS := Lib.hid (Hsn.out rfl)
                go_wp2_with fail
                go_quiet (fail)
                go_wp2_with (refine wpList_load_row rfl 70 (.tmp 6) rfl pb rfl 70 L (0, 0) _ (by rw [← HLe.out]; exact HB.out) Try.underlying70 rfl (by rw [← HLe.out, row_size]; exact sizeLives) ?_)
                refine (HTk.out _ (bdrewN Hb.out _)).mono ?_
                rintro e w5 ⟨rfl, hb5⟩
                have Hb5 := Lib.hid (Below.tr (bdrewN Hb.out _) hb5)
                have HBb5 := Lib.hid (Below.tr (bdrewN HBb.out _) hb5)
                clear hb5
                go_wp2_with fail
                go_roundw
                case rel => exact ⟨k + 1, by go_num, by omega, by rw [RR.out], by rw [RC.out], by rw [RS.out], Hb5.out, HBb5.out⟩
                case measure => simp [intOf]; omega
          · have q3 : ((ct : Int) != 40) = true := by rw [bne_iff_ne]; omega
            by_cases f4 : ct < cf
            · have q4 : (cf : Int) > (ct : Int) := by omega
              have RR := Lib.hid (Hry.out (Hrd.out.2 ⟨Hne.out, f3, f4⟩))
              clear f3 f4
              by_cases f5 : k < cf
              · have q5 : (cf : Int) > (k : Int) := by omega
                have RC := Lib.hid (Hcy.out (Hcd.out.2 ⟨Hne.out, f5⟩))
                clear f5
                cases tw with
                | true =>
                  have RS := Lib.hid (Hsy.out rfl)
                  go_wp2_with fail
                  go_quiet (fail)
                  go_wp2_with (refine wpList_load_row rfl 70 (.tmp 6) rfl pb rfl 70 L (0, 0) _ (by rw [← HLe.out]; exact HB.out) Try.underlying70 rfl (by rw [← HLe.out, row_size]; exact sizeLives) ?_)
                  refine (HTk.out _ (bdrewN Hb.out _)).mono ?_
                  rintro e w5 ⟨rfl, hb5⟩
                  have Hb5 := Lib.hid (Below.tr (bdrewN Hb.out _) hb5)
                  have HBb5 := Lib.hid (Below.tr (bdrewN HBb.out _) hb5)
                  clear hb5
                  go_wp2_with fail
                  go_roundw
                  case rel => exact ⟨k + 1, by go_num, by omega, by rw [RR.out], by rw [RC.out], by rw [RS.out], Hb5.out, HBb5.out⟩
                  case measure => simp [intOf]; omega
                | false =>
                  have RS := Lib.hid (Hsn.out rfl)
                  go_wp2_with fail
                  go_quiet (fail)
                  go_wp2_with (refine wpList_load_row rfl 70 (.tmp 6) rfl pb rfl 70 L (0, 0) _ (by rw [← HLe.out]; exact HB.out) Try.underlying70 rfl (by rw [← HLe.out, row_size]; exact sizeLives) ?_)
                  refine (HTk.out _ (bdrewN Hb.out _)).mono ?_
                  rintro e w5 ⟨rfl, hb5⟩
                  have Hb5 := Lib.hid (Below.tr (bdrewN Hb.out _) hb5)
                  have HBb5 := Lib.hid (Below.tr (bdrewN HBb.out _) hb5)
                  clear hb5
                  go_wp2_with fail
                  go_roundw
                  case rel => exact ⟨k + 1, by go_num, by omega, by rw [RR.out], by rw [RC.out], by rw [RS.out], Hb5.out, HBb5.out⟩
                  case measure => simp [intOf]; omega
              · have q5 : ¬ (cf : Int) > (k : Int) := by omega
                have RC := Lib.hid (Hcn.out fun e => f5 (Hcd.out.1 e).2)
                clear f5
                cases tw with
                | true =>
                  have RS := Lib.hid (Hsy.out rfl)
                  go_wp2_with fail
                  go_quiet (fail)
                  go_wp2_with (refine wpList_load_row rfl 70 (.tmp 6) rfl pb rfl 70 L (0, 0) _ (by rw [← HLe.out]; exact HB.out) Try.underlying70 rfl (by rw [← HLe.out, row_size]; exact sizeLives) ?_)
                  refine (HTk.out _ (bdrewN Hb.out _)).mono ?_
                  rintro e w5 ⟨rfl, hb5⟩
                  have Hb5 := Lib.hid (Below.tr (bdrewN Hb.out _) hb5)
                  have HBb5 := Lib.hid (Below.tr (bdrewN HBb.out _) hb5)
                  clear hb5
                  go_wp2_with fail
                  go_roundw
                  case rel => exact ⟨k + 1, by go_num, by omega, by rw [RR.out], by rw [RC.out], by rw [RS.out], Hb5.out, HBb5.out⟩
                  case measure => simp [intOf]; omega
                | false =>
                  have RS := Lib.hid (Hsn.out rfl)
                  go_wp2_with fail
                  go_quiet (fail)
                  go_wp2_with (refine wpList_load_row rfl 70 (.tmp 6) rfl pb rfl 70 L (0, 0) _ (by rw [← HLe.out]; exact HB.out) Try.underlying70 rfl (by rw [← HLe.out, row_size]; exact sizeLives) ?_)
                  refine (HTk.out _ (bdrewN Hb.out _)).mono ?_
                  rintro e w5 ⟨rfl, hb5⟩
                  have Hb5 := Lib.hid (Below.tr (bdrewN Hb.out _) hb5)
                  have HBb5 := Lib.hid (Below.tr (bdrewN HBb.out _) hb5)
                  clear hb5
                  go_wp2_with fail
                  go_roundw
                  case rel => exact ⟨k + 1, by go_num, by omega, by rw [RR.out], by rw [RC.out], by rw [RS.out], Hb5.out, HBb5.out⟩
                  case measure => simp [intOf]; omega
            · have q4 : ¬ (cf : Int) > (ct : Int) := by omega
              have RR := Lib.hid (Hrn.out fun e => f4 (Hrd.out.1 e).2.2)
              clear f3 f4
              by_cases f5 : k < cf
              · have q5 : (cf : Int) > (k : Int) := by omega
                have RC := Lib.hid (Hcy.out (Hcd.out.2 ⟨Hne.out, f5⟩))
                clear f5
                cases tw with
                | true =>
                  have RS := Lib.hid (Hsy.out rfl)
                  go_wp2_with fail
                  go_quiet (fail)
                  go_wp2_with (refine wpList_load_row rfl 70 (.tmp 6) rfl pb rfl 70 L (0, 0) _ (by rw [← HLe.out]; exact HB.out) Try.underlying70 rfl (by rw [← HLe.out, row_size]; exact sizeLives) ?_)
                  refine (HTk.out _ (bdrewN Hb.out _)).mono ?_
                  rintro e w5 ⟨rfl, hb5⟩
                  have Hb5 := Lib.hid (Below.tr (bdrewN Hb.out _) hb5)
                  have HBb5 := Lib.hid (Below.tr (bdrewN HBb.out _) hb5)
                  clear hb5
                  go_wp2_with fail
                  go_roundw
                  case rel => exact ⟨k + 1, by go_num, by omega, by rw [RR.out], by rw [RC.out], by rw [RS.out], Hb5.out, HBb5.out⟩
                  case measure => simp [intOf]; omega
                | false =>
                  have RS := Lib.hid (Hsn.out rfl)
                  go_wp2_with fail
                  go_quiet (fail)
                  go_wp2_with (refine wpList_load_row rfl 70 (.tmp 6) rfl pb rfl 70 L (0, 0) _ (by rw [← HLe.out]; exact HB.out) Try.underlying70 rfl (by rw [← HLe.out, row_size]; exact sizeLives) ?_)
                  refine (HTk.out _ (bdrewN Hb.out _)).mono ?_
                  rintro e w5 ⟨rfl, hb5⟩
                  have Hb5 := Lib.hid (Below.tr (bdrewN Hb.out _) hb5)
                  have HBb5 := Lib.hid (Below.tr (bdrewN HBb.out _) hb5)
                  clear hb5
                  go_wp2_with fail
                  go_roundw
                  case rel => exact ⟨k + 1, by go_num, by omega, by rw [RR.out], by rw [RC.out], by rw [RS.out], Hb5.out, HBb5.out⟩
                  case measure => simp [intOf]; omega
              · have q5 : ¬ (cf : Int) > (k : Int) := by omega
                have RC := Lib.hid (Hcn.out fun e => f5 (Hcd.out.1 e).2)
                clear f5
                cases tw with
                | true =>
                  have RS := Lib.hid (Hsy.out rfl)
                  go_wp2_with fail
                  go_quiet (fail)
                  go_wp2_with (refine wpList_load_row rfl 70 (.tmp 6) rfl pb rfl 70 L (0, 0) _ (by rw [← HLe.out]; exact HB.out) Try.underlying70 rfl (by rw [← HLe.out, row_size]; exact sizeLives) ?_)
                  refine (HTk.out _ (bdrewN Hb.out _)).mono ?_
                  rintro e w5 ⟨rfl, hb5⟩
                  have Hb5 := Lib.hid (Below.tr (bdrewN Hb.out _) hb5)
                  have HBb5 := Lib.hid (Below.tr (bdrewN HBb.out _) hb5)
                  clear hb5
                  go_wp2_with fail
                  go_roundw
                  case rel => exact ⟨k + 1, by go_num, by omega, by rw [RR.out], by rw [RC.out], by rw [RS.out], Hb5.out, HBb5.out⟩
                  case measure => simp [intOf]; omega
                | false =>
                  have RS := Lib.hid (Hsn.out rfl)
                  go_wp2_with fail
                  go_quiet (fail)
                  go_wp2_with (refine wpList_load_row rfl 70 (.tmp 6) rfl pb rfl 70 L (0, 0) _ (by rw [← HLe.out]; exact HB.out) Try.underlying70 rfl (by rw [← HLe.out, row_size]; exact sizeLives) ?_)
                  refine (HTk.out _ (bdrewN Hb.out _)).mono ?_
                  rintro e w5 ⟨rfl, hb5⟩
                  have Hb5 := Lib.hid (Below.tr (bdrewN Hb.out _) hb5)
                  have HBb5 := Lib.hid (Below.tr (bdrewN HBb.out _) hb5)
                  clear hb5
                  go_wp2_with fail
                  go_roundw
                  case rel => exact ⟨k + 1, by go_num, by omega, by rw [RR.out], by rw [RC.out], by rw [RS.out], Hb5.out, HBb5.out⟩
                  case measure => simp [intOf]; omega
      · have RR := Lib.hid (Hrn.out fun e => f1 (Hrd.out.1 e).1.1)
        have RC := Lib.hid (Hcn.out fun e => f1 (Hcd.out.1 e).1.1)
        cases tw with
        | true =>
          have RS := Lib.hid (Hsy.out rfl)
          go_wp2_with (refine wpList_load_row rfl 70 (.tmp 6) rfl pb rfl 70 L (0, 0) _ (by rw [← HLe.out]; exact HB.out) Try.underlying70 rfl (by rw [← HLe.out, row_size]; exact sizeLives) ?_)
          refine (HTk.out _ (Hb.out)).mono ?_
          rintro e w5 ⟨rfl, hb5⟩
          have Hb5 := Lib.hid (Below.tr (Hb.out) hb5)
          have HBb5 := Lib.hid (Below.tr (HBb.out) hb5)
          clear hb5
          go_wp2_with fail
          go_roundw
          case rel => exact ⟨k + 1, by go_num, by omega, by rw [RR.out], by rw [RC.out], by rw [RS.out], Hb5.out, HBb5.out⟩
          case measure => simp [intOf]; omega
        | false =>
          have RS := Lib.hid (Hsn.out rfl)
          go_wp2_with (refine wpList_load_row rfl 70 (.tmp 6) rfl pb rfl 70 L (0, 0) _ (by rw [← HLe.out]; exact HB.out) Try.underlying70 rfl (by rw [← HLe.out, row_size]; exact sizeLives) ?_)
          refine (HTk.out _ (Hb.out)).mono ?_
          rintro e w5 ⟨rfl, hb5⟩
          have Hb5 := Lib.hid (Below.tr (Hb.out) hb5)
          have HBb5 := Lib.hid (Below.tr (HBb.out) hb5)
          clear hb5
          go_wp2_with fail
          go_roundw
          case rel => exact ⟨k + 1, by go_num, by omega, by rw [RR.out], by rw [RC.out], by rw [RS.out], Hb5.out, HBb5.out⟩
          case measure => simp [intOf]; omega
    · obtain rfl : k = h.length := by omega
      go_wp2_with fail
      ((try simp only [Exit.inBlock, Exit.then]); refine bodyPost_ret (results_tmp4 rfl _ _ _) rfl ?_)
      exact ⟨rfl, Hb.out⟩
#print axioms recovery_any
end Go.Proofs.Ytpehbffkplmfjaa
