/- Contract of the reference's Recovery. -/
import Derived.Test.YtpehbffkplmfjaaRrm
namespace Go.Proofs.Ytpehbffkplmfjaa
open Go.RowKit

theorem tow_step (h : List NOp) (i m : Nat) : decide (TowTo h i (m + 1)) = (decide (TowTo h i m) || decide (TowAt h i m)) := by
  rw [Bool.eq_iff_iff, Bool.or_eq_true, decide_eq_true_iff, decide_eq_true_iff, decide_eq_true_iff]
  constructor
  · rintro ⟨j, hj, hh⟩
    by_cases e : j = m
    · subst e; exact .inr hh
    · exact .inl ⟨j, by omega, hh⟩
  · rintro (⟨j, hj, hh⟩ | hh)
    · exact ⟨j, by omega, hh⟩
    · exact ⟨m, by omega, hh⟩
def strI (h : List NOp) (k j : Nat) : Bool := strB h k && !decide (TowTo h k j)
theorem strI_0 (h : List NOp) (k : Nat) : strI h k 0 = strB h k := by
  unfold strI
  rw [decide_eq_false (fun ⟨j, hj, _⟩ => by omega)]; simp
theorem strI_end (h : List NOp) (k : Nat) : strI h k k = strB h (k + 1) := by
  unfold strI strB
  rw [all_step (P := fun i => TowTo h i i)]
theorem strI_no {h : List NOp} {k j : Nat} (e : ¬ TowAt h k j) : strI h k (j + 1) = strI h k j := by
  unfold strI
  rw [tow_step, decide_eq_false e, Bool.or_false]
theorem strI_yes {h : List NOp} {k j : Nat} (e : TowAt h k j) : strI h k (j + 1) = false := by
  unfold strI
  rw [tow_step, decide_eq_true e, Bool.or_true]; simp
theorem recB_and {h : List NOp} {k : Nat} {p : Prop} [Decidable p] (e : RecBad h k ↔ ¬ p) : recB h (k + 1) = (recB h k && decide p) := by
  by_cases hp : p
  · rw [recB_no (fun q => e.1 q hp), decide_eq_true hp, Bool.and_true]
  · rw [recB_yes (e.2 hp), decide_eq_false hp, Bool.and_false]
theorem carB_and {h : List NOp} {k : Nat} {p : Prop} [Decidable p] (e : CarBad h k ↔ ¬ p) : carB h (k + 1) = (carB h k && decide p) := by
  by_cases hp : p
  · rw [carB_no (fun q => e.1 q hp), decide_eq_true hp, Bool.and_true]
  · rw [carB_yes (e.2 hp), decide_eq_false hp, Bool.and_false]
set_option maxRecDepth 100000 in
set_option maxHeartbeats 16000000 in
theorem recoveryR_any {h : List NOp} (hh : VH h) (v : Value) (w : World) (hv : Ops w v (castO h)) :
    Calls Try.prog 31 #[v] w fun e w' => e = .returned (.tuple #[.bool (recB h h.length), .bool (carB h h.length), .bool (strB h h.length)]) ∧ Below w.heap.size w w' := by
  have HF := Lib.hid (fromR_any hh v w hv)
  have Hv := Lib.hid hv
  obtain ⟨a, b, off, cap, rfl, hle, ha, hcap, hc⟩ := Ops.nat hv
  have hix := run_ix (P := Try.prog) (t := 23) (a := a) (len := h.length) (cap := cap) (b := b) (off := off) (s := 3) Try.underlying23 (by intro w; kernel_rfl) ha
  have hixj := fun n (hn : n ≤ h.length) => run_ix (P := Try.prog) (t := 23) (a := a) (len := n) (cap := cap) (b := b) (off := off) (s := 3) Try.underlying23 (by intro w; kernel_rfl) (fun h => ha (by omega))
  have hsub := fun k (hk : k ≤ h.length) w => Ops.sub (P := Try.prog) (a := a) (k := k) Try.underlying23 (by intro w; kernel_rfl) hcap hk w
  have HE := Lib.hid (fun (q : Nat) (hq : 1 < q) (t : Nat) w' (hb : Below w.heap.size w w') => end_any hh hq t (.slice a h.length cap) w' (Ops.keep Hv.out hb))
  have h40 := hh.le
  have Hc := Lib.hid hc
  have Hix := Lib.hid hix
  have Hixj := Lib.hid hixj
  have Hsub := Lib.hid hsub
  have HH := Lib.hid hh
  clear ha hv hc hix hcap hh hle hixj hsub
  go_enter Try.func31, Try.ntmps31
  go_wp2_with fail
  refine HF.out.mono ?_
  rintro e w4 ⟨v4, rfl, hO, hb4⟩
  have hI := hO.ints
  have Hb4 := Lib.hid hb4
  obtain ⟨a5, b5, off5, cap5, rfl, hle5, ha5, hc5⟩ := Ints.get hI
  rw [froms_length] at hle5 ha5 ⊢
  have hixl := run_ix (P := Try.prog) (t := 24) (a := a5) (len := h.length) (cap := cap5) (b := b5) (off := off5) (s := 1) Try.underlying24 (by intro w; kernel_rfl) ha5
  simp only [Nat.mul_one] at hixl
  have Hixl := Lib.hid hixl
  have Hcl := Lib.hid (show ∀ i, i < h.length → w4.cell? ⟨b5, off5 + i, none⟩ = some (.int .i64 (frm h i)) from fun i hi => by rw [hc5 i (by rw [froms_length]; exact hi)]; simp [froms])
  clear hb4 hI hO hle5 ha5 hc5 hixl HF
  go_wp2_with fail
  go_loopw [5, 6, 7, 19] (fun r1 r2 r3 i wr => ∃ k : Nat, i = .int .i64 k ∧ k ≤ h.length ∧ r1 = .bool (recB h k) ∧ r2 = .bool (carB h k) ∧ r3 = .bool (strB h k) ∧ Below w.heap.size w wr ∧ Below w4.heap.size w4 wr) (fun _ _ _ i _ => h.length - (intOf i).toNat)
  case atStart => exact ⟨0, rfl, Nat.zero_le _, by simp [recB], by simp [carB], by simp [strB], Hb4.out, Below.refl _ _⟩
  case round =>
    obtain ⟨k, rfl, hk, rfl, rfl, rfl, hb, hb4⟩ := hrel
    have Hb := Lib.hid hb
    have HBb := Lib.hid hb4
    clear hb hb4
    by_cases hlt : k < h.length
    · have hixk := Hix.out k
      have hixlk := Hixl.out k
      have hsk := Hsub.out k hk
      have hd1 := Below.keep Hb.out (Hc.out k hlt).1
      have hd2 := Below.keep Hb.out (Hc.out k hlt).2.1
      have hd3 := Below.keep Hb.out (Hc.out k hlt).2.2
      have hf := Below.keep HBb.out (Hcl.out k hlt)
      have Hfn := Lib.hid (fun h0 => frm_nat HH.out hlt h0)
      have Hrd := Lib.hid (fun (f : Nat) (e : frm h k = (f : Int)) h1 f7 => recB_and (rec_ref HH.out hlt e h1 f7))
      have Hcd := Lib.hid (fun (f : Nat) (e : frm h k = (f : Int)) h1 f7 => carB_and (car_ref HH.out hlt e h1 f7))
      have Hrn := Lib.hid (fun (e : ¬ (frm h k > 0 ∧ frm h k ≠ (tT h k : Nat))) => recB_no (h := h) (k := k) (fun q => e q.1))
      have Hcn := Lib.hid (fun (e : ¬ (frm h k > 0 ∧ frm h k ≠ (tT h k : Nat))) => carB_no (h := h) (k := k) (fun q => e q.1))
      have Htd := Lib.hid (fun (j : Nat) (hj : j < h.length) => tow_ref HH.out hlt hj)
      obtain ⟨F, hF⟩ : ∃ F, F = frm h k := ⟨_, rfl⟩
      rw [← hF] at hf Hfn Hrd Hcd Hrn Hcn
      obtain ⟨t, ht⟩ : ∃ t, t = tT h k := ⟨_, rfl⟩
      obtain ⟨q, hq⟩ : ∃ q, q = tK h k := ⟨_, rfl⟩
      obtain ⟨x, hx⟩ : ∃ x, x = tI h k := ⟨_, rfl⟩
      rw [← ht] at hd1 Hrd Hcd Hrn Hcn Htd
      rw [← hq] at hd2 Htd
      rw [← hx] at hd3 Htd
      obtain ⟨R0, hR0⟩ : ∃ R0, R0 = recB h k := ⟨_, rfl⟩
      obtain ⟨C0, hC0⟩ : ∃ C0, C0 = carB h k := ⟨_, rfl⟩
      rw [← hR0] at Hrn Hrd ⊢
      rw [← hC0] at Hcn Hcd ⊢
      clear hF ht hq hx hR0 hC0
      have hbn := below_alloc wr (.cells #[.int .i64 t, .int .i64 q, .int .i64 x] 55)
      have HO := Lib.hid (And.intro (show (wr.alloc (.cells #[.int .i64 t, .int .i64 q, .int .i64 x] 55)).cell? ⟨wr.heap.size, 0, none⟩ = some (.int .i64 t) from cell_new wr _ _ 0) (And.intro (show (wr.alloc (.cells #[.int .i64 t, .int .i64 q, .int .i64 x] 55)).cell? ⟨wr.heap.size, 1, none⟩ = some (.int .i64 q) from cell_new wr _ _ 1) (show (wr.alloc (.cells #[.int .i64 t, .int .i64 q, .int .i64 x] 55)).cell? ⟨wr.heap.size, 2, none⟩ = some (.int .i64 x) from cell_new wr _ _ 2)))
      have Hb5 := Lib.hid (Below.tr Hb.out hbn)
      have HBb5 := Lib.hid (Below.tr HBb.out hbn)
      clear hbn
      go_upto_region 6 with fail
      clear hd1 hd2 hd3 hf hixk hixlk
      generalize hob : wr.heap.size = ob at *
      clear hob Hb HBb
      generalize wr.alloc (.cells #[.int .i64 t, .int .i64 q, .int .i64 x] 55) = w5 at *
      have o0 := HO.out.1
      by_cases f1 : F > 0
      · by_cases f2 : F = (t : Int)
        · have q2 : (F != (t : Int)) = false := by rw [bne_eq_false_iff_eq]; exact f2
          have RR := Lib.hid (Hrn.out fun e => e.2 f2)
          have RC := Lib.hid (Hcn.out fun e => e.2 f2)
          clear f2
          go_wp2_with fail
          go_loopw [7, 71] (fun r3 i wx => ∃ j : Nat, i = .int .i64 j ∧ j ≤ k ∧ r3 = .bool (strI h k j) ∧ Below w.heap.size w wx ∧ Below w4.heap.size w4 wx ∧ wx.cell? ⟨ob, 0, none⟩ = some (.int .i64 t) ∧ wx.cell? ⟨ob, 1, none⟩ = some (.int .i64 q) ∧ wx.cell? ⟨ob, 2, none⟩ = some (.int .i64 x)) (fun _ i _ => k - (intOf i).toNat)
          case atStart => exact ⟨0, rfl, Nat.zero_le _, by rw [strI_0], Hb5.out, HBb5.out, HO.out.1, HO.out.2.1, HO.out.2.2⟩
          case round =>
            obtain ⟨j, rfl, hj, rfl, hb6, hbb6, g0, g1, g2⟩ := hrel
            have Hb6 := Lib.hid hb6
            have HBb6 := Lib.hid hbb6
            have HO6 := Lib.hid (And.intro g0 (And.intro g1 g2))
            clear hb6 hbb6 g0 g1 g2
            by_cases hjk : j < k
            · have hjl : j < h.length := by omega
              have hd1 := Below.keep Hb6.out (Hc.out j hjl).1
              have hd2 := Below.keep Hb6.out (Hc.out j hjl).2.1
              have hd3 := Below.keep Hb6.out (Hc.out j hjl).2.2
              have hixk := Hixj.out k hk j
              have Hsn := Lib.hid (fun e => strI_no (h := h) (k := k) (j := j) e)
              have Hsy := Lib.hid (fun e => strI_yes (h := h) (k := k) (j := j) e)
              have Hta := Lib.hid (Htd.out j hjl)
              obtain ⟨s, hs⟩ : ∃ s, s = tT h j := ⟨_, rfl⟩
              obtain ⟨r, hr⟩ : ∃ r, r = tK h j := ⟨_, rfl⟩
              obtain ⟨y, hy⟩ : ∃ y, y = tI h j := ⟨_, rfl⟩
              rw [← hs] at hd1 Hta
              rw [← hr] at hd2 Hta
              rw [← hy] at hd3 Hta
              obtain ⟨z2, hz2⟩ : ∃ z2, z2 = endI h 2 s := ⟨_, rfl⟩
              obtain ⟨z3, hz3⟩ : ∃ z3, z3 = endI h 3 s := ⟨_, rfl⟩
              rw [← hz2, ← hz3] at Hta
              have Hz := Lib.hid (And.intro hz2 hz3)
              obtain ⟨B0, hB0⟩ : ∃ B0, B0 = strI h k j := ⟨_, rfl⟩
              rw [← hB0] at Hsn ⊢
              clear hs hr hy hz2 hz3 hB0
              have hbn := below_alloc wr (.cells #[.int .i64 s, .int .i64 r, .int .i64 y] 55)
              have HP := Lib.hid (And.intro (show (wr.alloc (.cells #[.int .i64 s, .int .i64 r, .int .i64 y] 55)).cell? ⟨wr.heap.size, 0, none⟩ = some (.int .i64 s) from cell_new wr _ _ 0) (And.intro (show (wr.alloc (.cells #[.int .i64 s, .int .i64 r, .int .i64 y] 55)).cell? ⟨wr.heap.size, 1, none⟩ = some (.int .i64 r) from cell_new wr _ _ 1) (show (wr.alloc (.cells #[.int .i64 s, .int .i64 r, .int .i64 y] 55)).cell? ⟨wr.heap.size, 2, none⟩ = some (.int .i64 y) from cell_new wr _ _ 2)))
              have Hb7 := Lib.hid (Below.tr Hb6.out hbn)
              have HBb7 := Lib.hid (Below.tr HBb6.out hbn)
              have HO7 := Lib.hid (And.intro (Below.keep hbn HO6.out.1) (And.intro (Below.keep hbn HO6.out.2.1) (Below.keep hbn HO6.out.2.2)))
              clear hbn HO6
              go_upto_region 13 with fail
              clear hd1 hd2 hd3 hixk
              generalize hpb : wr.heap.size = pb at *
              clear hpb Hb6 HBb6
              generalize wr.alloc (.cells #[.int .i64 s, .int .i64 r, .int .i64 y] 55) = w7 at *
              have p0 := HP.out.1
              have p1 := HP.out.2.1
              have p2 := HP.out.2.2
              have g0 := HO7.out.1
              have g1 := HO7.out.2.1
              have g2 := HO7.out.2.2
              by_cases f1 : q < 2
              · have q1 : (q : Int) < 2 := by omega
                by_cases f2 : r = 1
                · have q2 : ((r : Int) == 1) = true := by rw [beq_iff_eq]; omega
                  by_cases f3 : y = x
                  · have q3 : ((y : Int) == (x : Int)) = true := by rw [beq_iff_eq]; omega
                    by_cases f4 : s = t
                    · have q4 : ((s : Int) != (t : Int)) = false := by rw [bne_eq_false_iff_eq]; omega
                      have RS := Lib.hid (Hsn.out fun e => (Hta.out.1 e).1.2 f4)
                      clear f1 f2 f3 f4
                      go_wp2_with fail
                      go_roundw
                      case rel => exact ⟨j + 1, by go_num, by omega, by rw [RS.out], Hb7.out, HBb7.out, HO7.out.1, HO7.out.2.1, HO7.out.2.2⟩
                      case measure => simp [intOf]; omega
                    · have q4 : ((s : Int) != (t : Int)) = true := by rw [bne_iff_ne]; omega
                      have Hq := Lib.hid (show (((q < 2 ∧ r = 1) ∧ y = x) ∧ s ≠ t) from ⟨⟨⟨f1, f2⟩, f3⟩, f4⟩)
                      clear f1 f2 f3 f4
                      go_upto_region 14 with fail
                      clear g0 g1 g2 p1 p2
                      go_cut [15] (fun o wc => o = .int .i64 (max z2 z3) ∧ Below w.heap.size w wc ∧ Below w4.heap.size w4 wc ∧ wc.cell? ⟨ob, 0, none⟩ = some (.int .i64 t) ∧ wc.cell? ⟨ob, 1, none⟩ = some (.int .i64 q) ∧ wc.cell? ⟨ob, 2, none⟩ = some (.int .i64 x))
                      case first =>
                        have Hb8 := Lib.hid (show Below w.heap.size w w7.drew from Hb7.out.drew)
                        have HBb8 := Lib.hid (show Below w4.heap.size w4 w7.drew from HBb7.out.drew)
                        have HO8 := Lib.hid (show w7.drew.cell? ⟨ob, 0, none⟩ = some (.int .i64 t) ∧ w7.drew.cell? ⟨ob, 1, none⟩ = some (.int .i64 q) ∧ w7.drew.cell? ⟨ob, 2, none⟩ = some (.int .i64 x) from HO7.out)
                        have HP8 := Lib.hid (show w7.drew.cell? ⟨pb, 0, none⟩ = some (.int .i64 s) from p0)
                        obtain ⟨Z, hZ⟩ : ∃ Z, Z = max z2 z3 := ⟨_, rfl⟩
                        have hmx : (if z2 < z3 then z3 else z2) = Z := by rw [hZ]; split <;> omega
                        have Hmx := Lib.hid hZ.symm
                        clear hZ
                        have HE2 := HE.out 2 (by omega) s
                        have HE3 := HE.out 3 (by omega) s
                        rw [← Hz.out.1] at HE2
                        rw [← Hz.out.2] at HE3
                        have HE2 := Lib.hid HE2
                        have HE3 := Lib.hid HE3
                        refine wp_region_any (by kernel_rfl) ?_
                        change wpAny _ _ _ _ _ _ _ (World.drew _)
                        refine wpAny_take (i := 0) (v := ?_) rfl (by kernel_rfl) (by kernel_rfl) (by kernel_rfl) (fun _ _ _ h => h) (Or.inl ⟨by rfl, ?_⟩) ?_
                        rotate_left
                        focus (first | (intro w; go_simp; done) | (intro w; go_simp; with_reducible rfl))
                        simp only [Act.put, List.getElem_toArray, List.getElem_cons_zero, List.setIfInBounds_toArray, List.set_cons_zero, List.set_cons_succ]
                        refine wpAny_take (i := 1) (v := ?_) rfl (by kernel_rfl) (by kernel_rfl) (by kernel_rfl) (fun _ _ _ h => h) (Or.inl ⟨by rfl, ?_⟩) ?_
                        rotate_left
                        focus (first | (intro w; go_simp; done) | (intro w; go_simp; with_reducible rfl))
                        simp only [Act.put, List.getElem_toArray, List.getElem_cons_zero, List.getElem_cons_succ, List.setIfInBounds_toArray, List.set_cons_zero, List.set_cons_succ]
                        refine wpAny_take (i := 4) (v := ?_) rfl (by kernel_rfl) (by kernel_rfl) (by kernel_rfl) (fun _ _ _ h => h) (Or.inl ⟨by rfl, ?_⟩) ?_
                        rotate_left
                        focus (first | (intro w; go_simp; done) | (intro w; go_simp; with_reducible rfl))
                        simp only [Act.put, List.getElem_toArray, List.getElem_cons_zero, List.getElem_cons_succ, List.setIfInBounds_toArray, List.set_cons_zero, List.set_cons_succ]
                        refine wpAny_take (i := 5) (v := ?_) rfl (by kernel_rfl) (by kernel_rfl) (by kernel_rfl) (fun _ _ _ h => h) (Or.inl ⟨by rfl, ?_⟩) ?_
                        rotate_left
                        focus (first | (intro w; go_simp; done) | (intro w; go_simp; with_reducible rfl))
                        simp only [Act.put, List.getElem_toArray, List.getElem_cons_zero, List.getElem_cons_succ, List.setIfInBounds_toArray, List.set_cons_zero, List.set_cons_succ]
                        refine wpAny_ready (rs := [2, 6]) (by kernel_rfl) (by simp) ?_
                        refine AllReady.cons rfl (fun K hK => ?_) ?_
                        · skip
                          go_simp
                          refine hK _ _ ?_
                          clear hK K
                          refine wpAny_ready (rs := [3, 6]) (by kernel_rfl) (by simp) ?_
                          refine AllReady.cons rfl (fun K hK => ?_) ?_
                          · skip
                            go_simp
                            go_at_call 51
                            refine (HE2.out _ (by exact Hb8.out)).mono ?_
                            rintro e w9 ⟨rfl, hb9⟩
                            have Hb9 := Lib.hid (Below.tr (by exact Hb8.out) hb9)
                            have HBb9 := Lib.hid (Below.tr (by exact HBb8.out) hb9)
                            have HO9 := Lib.hid (And.intro (Below.keep hb9 (by exact HO8.out.1)) (And.intro (Below.keep hb9 (by exact HO8.out.2.1)) (Below.keep hb9 (by exact HO8.out.2.2))))
                            have HP9 := Lib.hid (Below.keep hb9 (by exact HP8.out))
                            have p0' := HP9.out
                            clear hb9
                            go_simp
                            refine hK _ _ ?_
                            clear hK K
                            refine wpAny_ready (rs := [6]) (by kernel_rfl) (by simp) ?_
                            refine AllReady.cons rfl (fun K hK => ?_) AllReady.nil
                            go_simp
                            refine hK _ _ ?_
                            clear hK K
                            refine wpAny_ready (rs := [7]) (by kernel_rfl) (by simp) ?_
                            refine AllReady.cons rfl (fun K hK => ?_) AllReady.nil
                            go_simp
                            go_at_call 51
                            refine (HE3.out _ (by exact Hb9.out)).mono ?_
                            rintro e w10 ⟨rfl, hb10⟩
                            have Hb10 := Lib.hid (Below.tr (by exact Hb9.out) hb10)
                            have HBb10 := Lib.hid (Below.tr (by exact HBb9.out) hb10)
                            have HO10 := Lib.hid (And.intro (Below.keep hb10 (by exact HO9.out.1)) (And.intro (Below.keep hb10 (by exact HO9.out.2.1)) (Below.keep hb10 (by exact HO9.out.2.2))))
                            have HP10 := Lib.hid (Below.keep hb10 (by exact HP9.out))
                            have p0' := HP10.out
                            clear hb10
                            go_simp
                            refine hK _ _ ?_
                            clear hK K
                            refine wpAny_take (i := 8) (v := ?_) rfl (by kernel_rfl) (by kernel_rfl) (by kernel_rfl) (fun _ _ _ h => h) (Or.inl ⟨by rfl, ?_⟩) ?_
                            rotate_left
                            focus (first | (intro w; go_simp; done) | (intro w; go_simp; with_reducible rfl))
                            simp only [Act.put, List.getElem_toArray, List.getElem_cons_zero, List.getElem_cons_succ, List.setIfInBounds_toArray, List.set_cons_zero, List.set_cons_succ]
                            refine wpAny_take (i := 9) (v := ?_) rfl (by kernel_rfl) (by kernel_rfl) (by kernel_rfl) (fun _ _ _ h => h) (Or.inl ⟨by rfl, ?_⟩) ?_
                            rotate_left
                            focus (first | (intro w; go_simp; done) | (intro w; go_simp; with_reducible rfl))
                            simp only [Act.put, List.getElem_toArray, List.getElem_cons_zero, List.getElem_cons_succ, List.setIfInBounds_toArray, List.set_cons_zero, List.set_cons_succ]
                            refine wpAny_done (by kernel_rfl) ?_ _
                            go_wp2_with fail
                            go_meet
                            exact ⟨by rw [Hmx.out], Hb10.out, HBb10.out, HO10.out⟩
                          · refine AllReady.cons rfl (fun K hK => ?_) AllReady.nil
                            go_simp
                            refine hK _ _ ?_
                            clear hK K
                            refine wpAny_ready (rs := [3]) (by kernel_rfl) (by simp) ?_
                            refine AllReady.cons rfl (fun K hK => ?_) AllReady.nil
                            go_simp
                            go_at_call 51
                            refine (HE2.out _ (by exact Hb8.out)).mono ?_
                            rintro e w9 ⟨rfl, hb9⟩
                            have Hb9 := Lib.hid (Below.tr (by exact Hb8.out) hb9)
                            have HBb9 := Lib.hid (Below.tr (by exact HBb8.out) hb9)
                            have HO9 := Lib.hid (And.intro (Below.keep hb9 (by exact HO8.out.1)) (And.intro (Below.keep hb9 (by exact HO8.out.2.1)) (Below.keep hb9 (by exact HO8.out.2.2))))
                            have HP9 := Lib.hid (Below.keep hb9 (by exact HP8.out))
                            have p0' := HP9.out
                            clear hb9
                            go_simp
                            refine hK _ _ ?_
                            clear hK K
                            refine wpAny_ready (rs := [7]) (by kernel_rfl) (by simp) ?_
                            refine AllReady.cons rfl (fun K hK => ?_) AllReady.nil
                            go_simp
                            go_at_call 51
                            refine (HE3.out _ (by exact Hb9.out)).mono ?_
                            rintro e w10 ⟨rfl, hb10⟩
                            have Hb10 := Lib.hid (Below.tr (by exact Hb9.out) hb10)
                            have HBb10 := Lib.hid (Below.tr (by exact HBb9.out) hb10)
                            have HO10 := Lib.hid (And.intro (Below.keep hb10 (by exact HO9.out.1)) (And.intro (Below.keep hb10 (by exact HO9.out.2.1)) (Below.keep hb10 (by exact HO9.out.2.2))))
                            have HP10 := Lib.hid (Below.keep hb10 (by exact HP9.out))
                            have p0' := HP10.out
                            clear hb10
                            go_simp
                            refine hK _ _ ?_
                            clear hK K
                            refine wpAny_take (i := 8) (v := ?_) rfl (by kernel_rfl) (by kernel_rfl) (by kernel_rfl) (fun _ _ _ h => h) (Or.inl ⟨by rfl, ?_⟩) ?_
                            rotate_left
                            focus (first | (intro w; go_simp; done) | (intro w; go_simp; with_reducible rfl))
                            simp only [Act.put, List.getElem_toArray, List.getElem_cons_zero, List.getElem_cons_succ, List.setIfInBounds_toArray, List.set_cons_zero, List.set_cons_succ]
                            refine wpAny_take (i := 9) (v := ?_) rfl (by kernel_rfl) (by kernel_rfl) (by kernel_rfl) (fun _ _ _ h => h) (Or.inl ⟨by rfl, ?_⟩) ?_
                            rotate_left
                            focus (first | (intro w; go_simp; done) | (intro w; go_simp; with_reducible rfl))
                            simp only [Act.put, List.getElem_toArray, List.getElem_cons_zero, List.getElem_cons_succ, List.setIfInBounds_toArray, List.set_cons_zero, List.set_cons_succ]
                            refine wpAny_done (by kernel_rfl) ?_ _
                            go_wp2_with fail
                            go_meet
                            exact ⟨by rw [Hmx.out], Hb10.out, HBb10.out, HO10.out⟩
                        · refine AllReady.cons rfl (fun K hK => ?_) AllReady.nil
                          go_simp
                          refine hK _ _ ?_
                          clear hK K
                          refine wpAny_ready (rs := [2]) (by kernel_rfl) (by simp) ?_
                          refine AllReady.cons rfl (fun K hK => ?_) AllReady.nil
                          go_simp
                          refine hK _ _ ?_
                          clear hK K
                          refine wpAny_ready (rs := [3]) (by kernel_rfl) (by simp) ?_
                          refine AllReady.cons rfl (fun K hK => ?_) AllReady.nil
                          go_simp
                          go_at_call 51
                          refine (HE2.out _ (by exact Hb8.out)).mono ?_
                          rintro e w9 ⟨rfl, hb9⟩
                          have Hb9 := Lib.hid (Below.tr (by exact Hb8.out) hb9)
                          have HBb9 := Lib.hid (Below.tr (by exact HBb8.out) hb9)
                          have HO9 := Lib.hid (And.intro (Below.keep hb9 (by exact HO8.out.1)) (And.intro (Below.keep hb9 (by exact HO8.out.2.1)) (Below.keep hb9 (by exact HO8.out.2.2))))
                          have HP9 := Lib.hid (Below.keep hb9 (by exact HP8.out))
                          have p0' := HP9.out
                          clear hb9
                          go_simp
                          refine hK _ _ ?_
                          clear hK K
                          refine wpAny_ready (rs := [7]) (by kernel_rfl) (by simp) ?_
                          refine AllReady.cons rfl (fun K hK => ?_) AllReady.nil
                          go_simp
                          go_at_call 51
                          refine (HE3.out _ (by exact Hb9.out)).mono ?_
                          rintro e w10 ⟨rfl, hb10⟩
                          have Hb10 := Lib.hid (Below.tr (by exact Hb9.out) hb10)
                          have HBb10 := Lib.hid (Below.tr (by exact HBb9.out) hb10)
                          have HO10 := Lib.hid (And.intro (Below.keep hb10 (by exact HO9.out.1)) (And.intro (Below.keep hb10 (by exact HO9.out.2.1)) (Below.keep hb10 (by exact HO9.out.2.2))))
                          have HP10 := Lib.hid (Below.keep hb10 (by exact HP9.out))
                          have p0' := HP10.out
                          clear hb10
                          go_simp
                          refine hK _ _ ?_
                          clear hK K
                          refine wpAny_take (i := 8) (v := ?_) rfl (by kernel_rfl) (by kernel_rfl) (by kernel_rfl) (fun _ _ _ h => h) (Or.inl ⟨by rfl, ?_⟩) ?_
                          rotate_left
                          focus (first | (intro w; go_simp; done) | (intro w; go_simp; with_reducible rfl))
                          simp only [Act.put, List.getElem_toArray, List.getElem_cons_zero, List.getElem_cons_succ, List.setIfInBounds_toArray, List.set_cons_zero, List.set_cons_succ]
                          refine wpAny_take (i := 9) (v := ?_) rfl (by kernel_rfl) (by kernel_rfl) (by kernel_rfl) (fun _ _ _ h => h) (Or.inl ⟨by rfl, ?_⟩) ?_
                          rotate_left
                          focus (first | (intro w; go_simp; done) | (intro w; go_simp; with_reducible rfl))
                          simp only [Act.put, List.getElem_toArray, List.getElem_cons_zero, List.getElem_cons_succ, List.setIfInBounds_toArray, List.set_cons_zero, List.set_cons_succ]
                          refine wpAny_done (by kernel_rfl) ?_ _
                          go_wp2_with fail
                          go_meet
                          exact ⟨by rw [Hmx.out], Hb10.out, HBb10.out, HO10.out⟩
                      case rest =>
                      obtain ⟨ho, hC1, hC2, hC3⟩ := hcut
                      subst ho
                      have Hb8 := Lib.hid hC1
                      have HBb8 := Lib.hid hC2
                      have HO8 := Lib.hid hC3
                      clear hC1 hC2 hC3 Hb7 HBb7 HO7
                      have Htb := Lib.hid (show TowAt h k j ↔ ¬ (max z2 z3 ≥ 0 ∧ max z2 z3 < (k : Int)) from ⟨fun e => (Hta.out.1 e).2, fun e => Hta.out.2 ⟨Hq.out, e⟩⟩)
                      generalize max z2 z3 = z at *
                      have Hsf := Lib.hid (fun e : B0 = false => (show strI h k (j + 1) = false from by
                        by_cases e2 : TowAt h k j
                        · exact Hsy.out e2
                        · rw [Hsn.out e2]; exact e))
                      generalize wc = w8 at *
                      cases B0 with
                      | false =>
                        have RS := Lib.hid (Hsf.out rfl)
                        go_wp2_with fail
                        go_roundw
                        case rel => exact ⟨j + 1, by go_num, by omega, by rw [RS.out], Hb8.out, HBb8.out, HO8.out.1, HO8.out.2.1, HO8.out.2.2⟩
                        case measure => simp [intOf]; omega
                      | true =>
                        by_cases e1 : z ≥ 0
                        · by_cases e2 : z < (k : Int)
                          · have RS := Lib.hid (Hsn.out fun e => (Htb.out.1 e) ⟨e1, e2⟩)
                            go_wp2_with fail
                            go_roundw
                            case rel => exact ⟨j + 1, by go_num, by omega, by rw [RS.out], Hb8.out, HBb8.out, HO8.out.1, HO8.out.2.1, HO8.out.2.2⟩
                            case measure => simp [intOf]; omega
                          · have RS := Lib.hid (Hsy.out (Htb.out.2 fun e => e2 e.2))
                            go_wp2_with fail
                            go_roundw
                            case rel => exact ⟨j + 1, by go_num, by omega, by rw [RS.out], Hb8.out, HBb8.out, HO8.out.1, HO8.out.2.1, HO8.out.2.2⟩
                            case measure => simp [intOf]; omega
                        · have RS := Lib.hid (Hsy.out (Htb.out.2 fun e => e1 e.1))
                          go_wp2_with fail
                          go_roundw
                          case rel => exact ⟨j + 1, by go_num, by omega, by rw [RS.out], Hb8.out, HBb8.out, HO8.out.1, HO8.out.2.1, HO8.out.2.2⟩
                          case measure => simp [intOf]; omega
                  · have q3 : ((y : Int) == (x : Int)) = false := by rw [beq_eq_false_iff_ne]; omega
                    have RS := Lib.hid (Hsn.out fun e => f3 (Hta.out.1 e).1.1.2)
                    clear f1 f2 f3
                    go_wp2_with fail
                    go_roundw
                    case rel => exact ⟨j + 1, by go_num, by omega, by rw [RS.out], Hb7.out, HBb7.out, HO7.out.1, HO7.out.2.1, HO7.out.2.2⟩
                    case measure => simp [intOf]; omega
                · have q2 : ((r : Int) == 1) = false := by rw [beq_eq_false_iff_ne]; omega
                  have RS := Lib.hid (Hsn.out fun e => f2 (Hta.out.1 e).1.1.1.2)
                  clear f1 f2
                  go_wp2_with fail
                  go_roundw
                  case rel => exact ⟨j + 1, by go_num, by omega, by rw [RS.out], Hb7.out, HBb7.out, HO7.out.1, HO7.out.2.1, HO7.out.2.2⟩
                  case measure => simp [intOf]; omega
              · have q1 : ¬ (q : Int) < 2 := by omega
                have RS := Lib.hid (Hsn.out fun e => f1 (Hta.out.1 e).1.1.1.1)
                clear f1
                go_wp2_with fail
                go_roundw
                case rel => exact ⟨j + 1, by go_num, by omega, by rw [RS.out], Hb7.out, HBb7.out, HO7.out.1, HO7.out.2.1, HO7.out.2.2⟩
                case measure => simp [intOf]; omega
            · obtain rfl : j = k := by omega
              have RS := Lib.hid (strI_end h j)
              go_wp2_with fail
              go_roundw
              case rel => exact ⟨j + 1, by go_num, by omega, by rw [RR.out], by rw [RC.out], by rw [RS.out], Hb6.out, HBb6.out⟩
              case measure => simp [intOf]; omega
        · have q2 : (F != (t : Int)) = true := by rw [bne_iff_ne]; exact f2
          obtain ⟨f, hf0, hf1, hf7⟩ := Hfn.out f1
          have Hr1 := Lib.hid (Hrd.out f hf0 ⟨f1, f2⟩ hf7)
          have Hc1 := Lib.hid (Hcd.out f hf0 ⟨f1, f2⟩ hf7)
          subst hf0
          have HE2 := Lib.hid (HE.out 2 (by omega) f)
          have HE3 := Lib.hid (HE.out 2 (by omega) t)
          obtain ⟨c, hcc⟩ : ∃ c, c = endI h 2 f := ⟨_, rfl⟩
          obtain ⟨o, hoo⟩ : ∃ o, o = endI h 2 t := ⟨_, rfl⟩
          rw [← hcc] at Hr1 Hc1 HE2
          rw [← hoo] at Hr1 HE3
          clear hcc hoo f2
          go_upto_region 7 with fail
          go_cut [11, 12] (fun a1 a2 wc => (a1 = .int .i64 c ∧ a2 = .int .i64 o) ∧ Below w.heap.size w wc ∧ Below w4.heap.size w4 wc ∧ wc.cell? ⟨ob, 0, none⟩ = some (.int .i64 t) ∧ wc.cell? ⟨ob, 1, none⟩ = some (.int .i64 q) ∧ wc.cell? ⟨ob, 2, none⟩ = some (.int .i64 x))
          case first =>
            have Hb8 := Lib.hid (show Below w.heap.size w w5.drew from Hb5.out.drew)
            have HBb8 := Lib.hid (show Below w4.heap.size w4 w5.drew from HBb5.out.drew)
            have HO8 := Lib.hid (show w5.drew.cell? ⟨ob, 0, none⟩ = some (.int .i64 t) ∧ w5.drew.cell? ⟨ob, 1, none⟩ = some (.int .i64 q) ∧ w5.drew.cell? ⟨ob, 2, none⟩ = some (.int .i64 x) from HO.out)
            refine wp_region_any (by kernel_rfl) ?_
            change wpAny _ _ _ _ _ _ _ (World.drew _)
            refine wpAny_take (i := 0) (v := ?_) rfl (by kernel_rfl) (by kernel_rfl) (by kernel_rfl) (fun _ _ _ h => h) (Or.inl ⟨by rfl, ?_⟩) ?_
            rotate_left
            focus (first | (intro w; go_simp; done) | (intro w; go_simp; with_reducible rfl))
            simp only [Act.put, List.getElem_toArray, List.getElem_cons_zero, List.setIfInBounds_toArray, List.set_cons_zero, List.set_cons_succ]
            refine wpAny_take (i := 1) (v := ?_) rfl (by kernel_rfl) (by kernel_rfl) (by kernel_rfl) (fun _ _ _ h => h) (Or.inl ⟨by rfl, ?_⟩) ?_
            rotate_left
            focus (first | (intro w; go_simp; done) | (intro w; go_simp; with_reducible rfl))
            simp only [Act.put, List.getElem_toArray, List.getElem_cons_zero, List.getElem_cons_succ, List.setIfInBounds_toArray, List.set_cons_zero, List.set_cons_succ]
            refine wpAny_take (i := 3) (v := ?_) rfl (by kernel_rfl) (by kernel_rfl) (by kernel_rfl) (fun _ _ _ h => h) (Or.inl ⟨by rfl, ?_⟩) ?_
            rotate_left
            focus (first | (intro w; go_simp; done) | (intro w; go_simp; with_reducible rfl))
            simp only [Act.put, List.getElem_toArray, List.getElem_cons_zero, List.getElem_cons_succ, List.setIfInBounds_toArray, List.set_cons_zero, List.set_cons_succ]
            refine wpAny_take (i := 4) (v := ?_) rfl (by kernel_rfl) (by kernel_rfl) (by kernel_rfl) (fun _ _ _ h => h) (Or.inl ⟨by rfl, ?_⟩) ?_
            rotate_left
            focus (first | (intro w; go_simp; done) | (intro w; go_simp; with_reducible rfl))
            simp only [Act.put, List.getElem_toArray, List.getElem_cons_zero, List.getElem_cons_succ, List.setIfInBounds_toArray, List.set_cons_zero, List.set_cons_succ]
            refine wpAny_ready (rs := [2, 5]) (by kernel_rfl) (by simp) ?_
            refine AllReady.cons rfl (fun K hK => ?_) ?_
            · skip
              go_simp
              go_at_call 51
              refine (HE2.out _ (by exact Hb8.out)).mono ?_
              rintro e w9 ⟨rfl, hb9⟩
              have Hb9 := Lib.hid (Below.tr (by exact Hb8.out) hb9)
              have HBb9 := Lib.hid (Below.tr (by exact HBb8.out) hb9)
              have HO9 := Lib.hid (And.intro (Below.keep hb9 (by exact HO8.out.1)) (And.intro (Below.keep hb9 (by exact HO8.out.2.1)) (Below.keep hb9 (by exact HO8.out.2.2))))
              have o0' := HO9.out.1
              clear hb9
              go_simp
              refine hK _ _ ?_
              clear hK K
              refine wpAny_ready (rs := [5]) (by kernel_rfl) (by simp) ?_
              refine AllReady.cons rfl (fun K hK => ?_) AllReady.nil
              go_simp
              refine hK _ _ ?_
              clear hK K
              refine wpAny_ready (rs := [6]) (by kernel_rfl) (by simp) ?_
              refine AllReady.cons rfl (fun K hK => ?_) AllReady.nil
              go_simp
              go_at_call 51
              refine (HE3.out _ (by exact Hb9.out)).mono ?_
              rintro e w10 ⟨rfl, hb10⟩
              have Hb10 := Lib.hid (Below.tr (by exact Hb9.out) hb10)
              have HBb10 := Lib.hid (Below.tr (by exact HBb9.out) hb10)
              have HO10 := Lib.hid (And.intro (Below.keep hb10 (by exact HO9.out.1)) (And.intro (Below.keep hb10 (by exact HO9.out.2.1)) (Below.keep hb10 (by exact HO9.out.2.2))))
              have o0' := HO10.out.1
              clear hb10
              go_simp
              refine hK _ _ ?_
              clear hK K
              refine wpAny_take (i := 7) (v := ?_) rfl (by kernel_rfl) (by kernel_rfl) (by kernel_rfl) (fun _ _ _ h => h) (Or.inl ⟨by rfl, ?_⟩) ?_
              rotate_left
              focus (first | (intro w; go_simp; done) | (intro w; go_simp; with_reducible rfl))
              simp only [Act.put, List.getElem_toArray, List.getElem_cons_zero, List.getElem_cons_succ, List.setIfInBounds_toArray, List.set_cons_zero, List.set_cons_succ]
              refine wpAny_take (i := 8) (v := ?_) rfl (by kernel_rfl) (by kernel_rfl) (by kernel_rfl) (fun _ _ _ h => h) (Or.inl ⟨by rfl, ?_⟩) ?_
              rotate_left
              focus (first | (intro w; go_simp; done) | (intro w; go_simp; with_reducible rfl))
              simp only [Act.put, List.getElem_toArray, List.getElem_cons_zero, List.getElem_cons_succ, List.setIfInBounds_toArray, List.set_cons_zero, List.set_cons_succ]
              refine wpAny_done (by kernel_rfl) ?_ _
              go_wp2_with fail
              go_meet
              exact ⟨⟨rfl, rfl⟩, Hb10.out, HBb10.out, HO10.out⟩
            · refine AllReady.cons rfl (fun K hK => ?_) AllReady.nil
              go_simp
              refine hK _ _ ?_
              clear hK K
              refine wpAny_ready (rs := [2]) (by kernel_rfl) (by simp) ?_
              refine AllReady.cons rfl (fun K hK => ?_) AllReady.nil
              go_simp
              go_at_call 51
              refine (HE2.out _ (by exact Hb8.out)).mono ?_
              rintro e w9 ⟨rfl, hb9⟩
              have Hb9 := Lib.hid (Below.tr (by exact Hb8.out) hb9)
              have HBb9 := Lib.hid (Below.tr (by exact HBb8.out) hb9)
              have HO9 := Lib.hid (And.intro (Below.keep hb9 (by exact HO8.out.1)) (And.intro (Below.keep hb9 (by exact HO8.out.2.1)) (Below.keep hb9 (by exact HO8.out.2.2))))
              have o0' := HO9.out.1
              clear hb9
              go_simp
              refine hK _ _ ?_
              clear hK K
              refine wpAny_ready (rs := [6]) (by kernel_rfl) (by simp) ?_
              refine AllReady.cons rfl (fun K hK => ?_) AllReady.nil
              go_simp
              go_at_call 51
              refine (HE3.out _ (by exact Hb9.out)).mono ?_
              rintro e w10 ⟨rfl, hb10⟩
              have Hb10 := Lib.hid (Below.tr (by exact Hb9.out) hb10)
              have HBb10 := Lib.hid (Below.tr (by exact HBb9.out) hb10)
              have HO10 := Lib.hid (And.intro (Below.keep hb10 (by exact HO9.out.1)) (And.intro (Below.keep hb10 (by exact HO9.out.2.1)) (Below.keep hb10 (by exact HO9.out.2.2))))
              have o0' := HO10.out.1
              clear hb10
              go_simp
              refine hK _ _ ?_
              clear hK K
              refine wpAny_take (i := 7) (v := ?_) rfl (by kernel_rfl) (by kernel_rfl) (by kernel_rfl) (fun _ _ _ h => h) (Or.inl ⟨by rfl, ?_⟩) ?_
              rotate_left
              focus (first | (intro w; go_simp; done) | (intro w; go_simp; with_reducible rfl))
              simp only [Act.put, List.getElem_toArray, List.getElem_cons_zero, List.getElem_cons_succ, List.setIfInBounds_toArray, List.set_cons_zero, List.set_cons_succ]
              refine wpAny_take (i := 8) (v := ?_) rfl (by kernel_rfl) (by kernel_rfl) (by kernel_rfl) (fun _ _ _ h => h) (Or.inl ⟨by rfl, ?_⟩) ?_
              rotate_left
              focus (first | (intro w; go_simp; done) | (intro w; go_simp; with_reducible rfl))
              simp only [Act.put, List.getElem_toArray, List.getElem_cons_zero, List.getElem_cons_succ, List.setIfInBounds_toArray, List.set_cons_zero, List.set_cons_succ]
              refine wpAny_done (by kernel_rfl) ?_ _
              go_wp2_with fail
              go_meet
              exact ⟨⟨rfl, rfl⟩, Hb10.out, HBb10.out, HO10.out⟩
          case rest =>
          obtain ⟨⟨ho1, ho2⟩, hC1, hC2, hC3⟩ := hcut
          subst ho1 ho2
          have Hb8 := Lib.hid hC1
          have HBb8 := Lib.hid hC2
          have HO8 := Lib.hid hC3
          clear hC1 hC2 hC3 Hb5 HBb5 HO o0
          generalize wc = w8 at *
          have hcx : ∃ C1 : Bool, C1 = (C0 && decide (c ≥ 0 ∧ c < (k : Int))) := ⟨_, rfl⟩
          obtain ⟨C1, hC1⟩ := hcx
          have hrx : ∃ R1 : Bool, R1 = (R0 && decide (o < 0 ∨ (c ≥ 0 ∧ c < o))) := ⟨_, rfl⟩
          obtain ⟨R1, hR1⟩ := hrx
          rw [← hC1] at Hc1
          rw [← hR1] at Hr1
          have RR := Hr1
          have RC := Hc1
          have HR1 := Lib.hid hR1
          have HC1 := Lib.hid hC1
          clear hR1 hC1
          go_upto_region 8 with fail
          go_cut [5] (fun b1 wc => b1 = .bool R1 ∧ wc = w8)
          case first =>
            cases R0 with
            | false =>
              have e0 := HR1.out
              rw [Bool.false_and] at e0
              subst e0
              go_wp2_with fail
              go_meet
              exact ⟨rfl, rfl⟩
            | true =>
              by_cases e1 : o < 0
              · have e0 : R1 = true := by rw [HR1.out, decide_eq_true (.inl e1)]; rfl
                subst e0
                go_wp2_with fail
                go_meet
                exact ⟨rfl, rfl⟩
              · by_cases e2 : c ≥ 0
                · by_cases e3 : c < o
                  · have e0 : R1 = true := by rw [HR1.out, decide_eq_true (.inr ⟨e2, e3⟩)]; rfl
                    subst e0
                    go_wp2_with fail
                    go_meet
                    exact ⟨rfl, rfl⟩
                  · have e0 : R1 = false := by rw [HR1.out, decide_eq_false (by omega)]; rfl
                    subst e0
                    go_wp2_with fail
                    go_meet
                    exact ⟨rfl, rfl⟩
                · have e0 : R1 = false := by rw [HR1.out, decide_eq_false (by omega)]; rfl
                  subst e0
                  go_wp2_with fail
                  go_meet
                  exact ⟨rfl, rfl⟩
          case rest =>
          obtain ⟨hx1, hx2⟩ := hcut
          subst hx1 hx2
          cases C0 with
          | false =>
            have e0 := HC1.out
            rw [Bool.false_and] at e0
            subst e0
            go_wp2_with fail
            go_loopw [7, 71] (fun r3 i wx => ∃ j : Nat, i = .int .i64 j ∧ j ≤ k ∧ r3 = .bool (strI h k j) ∧ Below w.heap.size w wx ∧ Below w4.heap.size w4 wx ∧ wx.cell? ⟨ob, 0, none⟩ = some (.int .i64 t) ∧ wx.cell? ⟨ob, 1, none⟩ = some (.int .i64 q) ∧ wx.cell? ⟨ob, 2, none⟩ = some (.int .i64 x)) (fun _ i _ => k - (intOf i).toNat)
            case atStart => exact ⟨0, rfl, Nat.zero_le _, by rw [strI_0], Hb8.out, HBb8.out, HO8.out.1, HO8.out.2.1, HO8.out.2.2⟩
            case round =>
              obtain ⟨j, rfl, hj, rfl, hb6, hbb6, g0, g1, g2⟩ := hrel
              have Hb6 := Lib.hid hb6
              have HBb6 := Lib.hid hbb6
              have HO6 := Lib.hid (And.intro g0 (And.intro g1 g2))
              clear hb6 hbb6 g0 g1 g2
              by_cases hjk : j < k
              · have hjl : j < h.length := by omega
                have hd1 := Below.keep Hb6.out (Hc.out j hjl).1
                have hd2 := Below.keep Hb6.out (Hc.out j hjl).2.1
                have hd3 := Below.keep Hb6.out (Hc.out j hjl).2.2
                have hixk := Hixj.out k hk j
                have Hsn := Lib.hid (fun e => strI_no (h := h) (k := k) (j := j) e)
                have Hsy := Lib.hid (fun e => strI_yes (h := h) (k := k) (j := j) e)
                have Hta := Lib.hid (Htd.out j hjl)
                obtain ⟨s, hs⟩ : ∃ s, s = tT h j := ⟨_, rfl⟩
                obtain ⟨r, hr⟩ : ∃ r, r = tK h j := ⟨_, rfl⟩
                obtain ⟨y, hy⟩ : ∃ y, y = tI h j := ⟨_, rfl⟩
                rw [← hs] at hd1 Hta
                rw [← hr] at hd2 Hta
                rw [← hy] at hd3 Hta
                obtain ⟨z2, hz2⟩ : ∃ z2, z2 = endI h 2 s := ⟨_, rfl⟩
                obtain ⟨z3, hz3⟩ : ∃ z3, z3 = endI h 3 s := ⟨_, rfl⟩
                rw [← hz2, ← hz3] at Hta
                have Hz := Lib.hid (And.intro hz2 hz3)
                obtain ⟨B0, hB0⟩ : ∃ B0, B0 = strI h k j := ⟨_, rfl⟩
                rw [← hB0] at Hsn ⊢
                clear hs hr hy hz2 hz3 hB0
                have hbn := below_alloc wr (.cells #[.int .i64 s, .int .i64 r, .int .i64 y] 55)
                have HP := Lib.hid (And.intro (show (wr.alloc (.cells #[.int .i64 s, .int .i64 r, .int .i64 y] 55)).cell? ⟨wr.heap.size, 0, none⟩ = some (.int .i64 s) from cell_new wr _ _ 0) (And.intro (show (wr.alloc (.cells #[.int .i64 s, .int .i64 r, .int .i64 y] 55)).cell? ⟨wr.heap.size, 1, none⟩ = some (.int .i64 r) from cell_new wr _ _ 1) (show (wr.alloc (.cells #[.int .i64 s, .int .i64 r, .int .i64 y] 55)).cell? ⟨wr.heap.size, 2, none⟩ = some (.int .i64 y) from cell_new wr _ _ 2)))
                have Hb7 := Lib.hid (Below.tr Hb6.out hbn)
                have HBb7 := Lib.hid (Below.tr HBb6.out hbn)
                have HO7 := Lib.hid (And.intro (Below.keep hbn HO6.out.1) (And.intro (Below.keep hbn HO6.out.2.1) (Below.keep hbn HO6.out.2.2)))
                clear hbn HO6
                go_upto_region 13 with fail
                clear hd1 hd2 hd3 hixk
                generalize hpb : wr.heap.size = pb at *
                clear hpb Hb6 HBb6
                generalize wr.alloc (.cells #[.int .i64 s, .int .i64 r, .int .i64 y] 55) = w7 at *
                have p0 := HP.out.1
                have p1 := HP.out.2.1
                have p2 := HP.out.2.2
                have g0 := HO7.out.1
                have g1 := HO7.out.2.1
                have g2 := HO7.out.2.2
                by_cases f1 : q < 2
                · have q1 : (q : Int) < 2 := by omega
                  by_cases f2 : r = 1
                  · have q2 : ((r : Int) == 1) = true := by rw [beq_iff_eq]; omega
                    by_cases f3 : y = x
                    · have q3 : ((y : Int) == (x : Int)) = true := by rw [beq_iff_eq]; omega
                      by_cases f4 : s = t
                      · have q4 : ((s : Int) != (t : Int)) = false := by rw [bne_eq_false_iff_eq]; omega
                        have RS := Lib.hid (Hsn.out fun e => (Hta.out.1 e).1.2 f4)
                        clear f1 f2 f3 f4
                        go_wp2_with fail
                        go_roundw
                        case rel => exact ⟨j + 1, by go_num, by omega, by rw [RS.out], Hb7.out, HBb7.out, HO7.out.1, HO7.out.2.1, HO7.out.2.2⟩
                        case measure => simp [intOf]; omega
                      · have q4 : ((s : Int) != (t : Int)) = true := by rw [bne_iff_ne]; omega
                        have Hq := Lib.hid (show (((q < 2 ∧ r = 1) ∧ y = x) ∧ s ≠ t) from ⟨⟨⟨f1, f2⟩, f3⟩, f4⟩)
                        clear f1 f2 f3 f4
                        go_upto_region 14 with fail
                        clear g0 g1 g2 p1 p2
                        go_cut [15] (fun o wc => o = .int .i64 (max z2 z3) ∧ Below w.heap.size w wc ∧ Below w4.heap.size w4 wc ∧ wc.cell? ⟨ob, 0, none⟩ = some (.int .i64 t) ∧ wc.cell? ⟨ob, 1, none⟩ = some (.int .i64 q) ∧ wc.cell? ⟨ob, 2, none⟩ = some (.int .i64 x))
                        case first =>
                          have Hb8 := Lib.hid (show Below w.heap.size w w7.drew from Hb7.out.drew)
                          have HBb8 := Lib.hid (show Below w4.heap.size w4 w7.drew from HBb7.out.drew)
                          have HO8 := Lib.hid (show w7.drew.cell? ⟨ob, 0, none⟩ = some (.int .i64 t) ∧ w7.drew.cell? ⟨ob, 1, none⟩ = some (.int .i64 q) ∧ w7.drew.cell? ⟨ob, 2, none⟩ = some (.int .i64 x) from HO7.out)
                          have HP8 := Lib.hid (show w7.drew.cell? ⟨pb, 0, none⟩ = some (.int .i64 s) from p0)
                          obtain ⟨Z, hZ⟩ : ∃ Z, Z = max z2 z3 := ⟨_, rfl⟩
                          have hmx : (if z2 < z3 then z3 else z2) = Z := by rw [hZ]; split <;> omega
                          have Hmx := Lib.hid hZ.symm
                          clear hZ
                          have HE2 := HE.out 2 (by omega) s
                          have HE3 := HE.out 3 (by omega) s
                          rw [← Hz.out.1] at HE2
                          rw [← Hz.out.2] at HE3
                          have HE2 := Lib.hid HE2
                          have HE3 := Lib.hid HE3
                          refine wp_region_any (by kernel_rfl) ?_
                          change wpAny _ _ _ _ _ _ _ (World.drew _)
                          refine wpAny_take (i := 0) (v := ?_) rfl (by kernel_rfl) (by kernel_rfl) (by kernel_rfl) (fun _ _ _ h => h) (Or.inl ⟨by rfl, ?_⟩) ?_
                          rotate_left
                          focus (first | (intro w; go_simp; done) | (intro w; go_simp; with_reducible rfl))
                          simp only [Act.put, List.getElem_toArray, List.getElem_cons_zero, List.setIfInBounds_toArray, List.set_cons_zero, List.set_cons_succ]
                          refine wpAny_take (i := 1) (v := ?_) rfl (by kernel_rfl) (by kernel_rfl) (by kernel_rfl) (fun _ _ _ h => h) (Or.inl ⟨by rfl, ?_⟩) ?_
                          rotate_left
                          focus (first | (intro w; go_simp; done) | (intro w; go_simp; with_reducible rfl))
                          simp only [Act.put, List.getElem_toArray, List.getElem_cons_zero, List.getElem_cons_succ, List.setIfInBounds_toArray, List.set_cons_zero, List.set_cons_succ]
                          refine wpAny_take (i := 4) (v := ?_) rfl (by kernel_rfl) (by kernel_rfl) (by kernel_rfl) (fun _ _ _ h => h) (Or.inl ⟨by rfl, ?_⟩) ?_
                          rotate_left
                          focus (first | (intro w; go_simp; done) | (intro w; go_simp; with_reducible rfl))
                          simp only [Act.put, List.getElem_toArray, List.getElem_cons_zero, List.getElem_cons_succ, List.setIfInBounds_toArray, List.set_cons_zero, List.set_cons_succ]
                          refine wpAny_take (i := 5) (v := ?_) rfl (by kernel_rfl) (by kernel_rfl) (by kernel_rfl) (fun _ _ _ h => h) (Or.inl ⟨by rfl, ?_⟩) ?_
                          rotate_left
                          focus (first | (intro w; go_simp; done) | (intro w; go_simp; with_reducible rfl))
                          simp only [Act.put, List.getElem_toArray, List.getElem_cons_zero, List.getElem_cons_succ, List.setIfInBounds_toArray, List.set_cons_zero, List.set_cons_succ]
                          refine wpAny_ready (rs := [2, 6]) (by kernel_rfl) (by simp) ?_
                          refine AllReady.cons rfl (fun K hK => ?_) ?_
                          · skip
                            go_simp
                            refine hK _ _ ?_
                            clear hK K
                            refine wpAny_ready (rs := [3, 6]) (by kernel_rfl) (by simp) ?_
                            refine AllReady.cons rfl (fun K hK => ?_) ?_
                            · skip
                              go_simp
                              go_at_call 51
                              refine (HE2.out _ (by exact Hb8.out)).mono ?_
                              rintro e w9 ⟨rfl, hb9⟩
                              have Hb9 := Lib.hid (Below.tr (by exact Hb8.out) hb9)
                              have HBb9 := Lib.hid (Below.tr (by exact HBb8.out) hb9)
                              have HO9 := Lib.hid (And.intro (Below.keep hb9 (by exact HO8.out.1)) (And.intro (Below.keep hb9 (by exact HO8.out.2.1)) (Below.keep hb9 (by exact HO8.out.2.2))))
                              have HP9 := Lib.hid (Below.keep hb9 (by exact HP8.out))
                              have p0' := HP9.out
                              clear hb9
                              go_simp
                              refine hK _ _ ?_
                              clear hK K
                              refine wpAny_ready (rs := [6]) (by kernel_rfl) (by simp) ?_
                              refine AllReady.cons rfl (fun K hK => ?_) AllReady.nil
                              go_simp
                              refine hK _ _ ?_
                              clear hK K
                              refine wpAny_ready (rs := [7]) (by kernel_rfl) (by simp) ?_
                              refine AllReady.cons rfl (fun K hK => ?_) AllReady.nil
                              go_simp
                              go_at_call 51
                              refine (HE3.out _ (by exact Hb9.out)).mono ?_
                              rintro e w10 ⟨rfl, hb10⟩
                              have Hb10 := Lib.hid (Below.tr (by exact Hb9.out) hb10)
                              have HBb10 := Lib.hid (Below.tr (by exact HBb9.out) hb10)
                              have HO10 := Lib.hid (And.intro (Below.keep hb10 (by exact HO9.out.1)) (And.intro (Below.keep hb10 (by exact HO9.out.2.1)) (Below.keep hb10 (by exact HO9.out.2.2))))
                              have HP10 := Lib.hid (Below.keep hb10 (by exact HP9.out))
                              have p0' := HP10.out
                              clear hb10
                              go_simp
                              refine hK _ _ ?_
                              clear hK K
                              refine wpAny_take (i := 8) (v := ?_) rfl (by kernel_rfl) (by kernel_rfl) (by kernel_rfl) (fun _ _ _ h => h) (Or.inl ⟨by rfl, ?_⟩) ?_
                              rotate_left
                              focus (first | (intro w; go_simp; done) | (intro w; go_simp; with_reducible rfl))
                              simp only [Act.put, List.getElem_toArray, List.getElem_cons_zero, List.getElem_cons_succ, List.setIfInBounds_toArray, List.set_cons_zero, List.set_cons_succ]
                              refine wpAny_take (i := 9) (v := ?_) rfl (by kernel_rfl) (by kernel_rfl) (by kernel_rfl) (fun _ _ _ h => h) (Or.inl ⟨by rfl, ?_⟩) ?_
                              rotate_left
                              focus (first | (intro w; go_simp; done) | (intro w; go_simp; with_reducible rfl))
                              simp only [Act.put, List.getElem_toArray, List.getElem_cons_zero, List.getElem_cons_succ, List.setIfInBounds_toArray, List.set_cons_zero, List.set_cons_succ]
                              refine wpAny_done (by kernel_rfl) ?_ _
                              go_wp2_with fail
                              go_meet
                              exact ⟨by rw [Hmx.out], Hb10.out, HBb10.out, HO10.out⟩
                            · refine AllReady.cons rfl (fun K hK => ?_) AllReady.nil
                              go_simp
                              refine hK _ _ ?_
                              clear hK K
                              refine wpAny_ready (rs := [3]) (by kernel_rfl) (by simp) ?_
                              refine AllReady.cons rfl (fun K hK => ?_) AllReady.nil
                              go_simp
                              go_at_call 51
                              refine (HE2.out _ (by exact Hb8.out)).mono ?_
                              rintro e w9 ⟨rfl, hb9⟩
                              have Hb9 := Lib.hid (Below.tr (by exact Hb8.out) hb9)
                              have HBb9 := Lib.hid (Below.tr (by exact HBb8.out) hb9)
                              have HO9 := Lib.hid (And.intro (Below.keep hb9 (by exact HO8.out.1)) (And.intro (Below.keep hb9 (by exact HO8.out.2.1)) (Below.keep hb9 (by exact HO8.out.2.2))))
                              have HP9 := Lib.hid (Below.keep hb9 (by exact HP8.out))
                              have p0' := HP9.out
                              clear hb9
                              go_simp
                              refine hK _ _ ?_
                              clear hK K
                              refine wpAny_ready (rs := [7]) (by kernel_rfl) (by simp) ?_
                              refine AllReady.cons rfl (fun K hK => ?_) AllReady.nil
                              go_simp
                              go_at_call 51
                              refine (HE3.out _ (by exact Hb9.out)).mono ?_
                              rintro e w10 ⟨rfl, hb10⟩
                              have Hb10 := Lib.hid (Below.tr (by exact Hb9.out) hb10)
                              have HBb10 := Lib.hid (Below.tr (by exact HBb9.out) hb10)
                              have HO10 := Lib.hid (And.intro (Below.keep hb10 (by exact HO9.out.1)) (And.intro (Below.keep hb10 (by exact HO9.out.2.1)) (Below.keep hb10 (by exact HO9.out.2.2))))
                              have HP10 := Lib.hid (Below.keep hb10 (by exact HP9.out))
                              have p0' := HP10.out
                              clear hb10
                              go_simp
                              refine hK _ _ ?_
                              clear hK K
                              refine wpAny_take (i := 8) (v := ?_) rfl (by kernel_rfl) (by kernel_rfl) (by kernel_rfl) (fun _ _ _ h => h) (Or.inl ⟨by rfl, ?_⟩) ?_
                              rotate_left
                              focus (first | (intro w; go_simp; done) | (intro w; go_simp; with_reducible rfl))
                              simp only [Act.put, List.getElem_toArray, List.getElem_cons_zero, List.getElem_cons_succ, List.setIfInBounds_toArray, List.set_cons_zero, List.set_cons_succ]
                              refine wpAny_take (i := 9) (v := ?_) rfl (by kernel_rfl) (by kernel_rfl) (by kernel_rfl) (fun _ _ _ h => h) (Or.inl ⟨by rfl, ?_⟩) ?_
                              rotate_left
                              focus (first | (intro w; go_simp; done) | (intro w; go_simp; with_reducible rfl))
                              simp only [Act.put, List.getElem_toArray, List.getElem_cons_zero, List.getElem_cons_succ, List.setIfInBounds_toArray, List.set_cons_zero, List.set_cons_succ]
                              refine wpAny_done (by kernel_rfl) ?_ _
                              go_wp2_with fail
                              go_meet
                              exact ⟨by rw [Hmx.out], Hb10.out, HBb10.out, HO10.out⟩
                          · refine AllReady.cons rfl (fun K hK => ?_) AllReady.nil
                            go_simp
                            refine hK _ _ ?_
                            clear hK K
                            refine wpAny_ready (rs := [2]) (by kernel_rfl) (by simp) ?_
                            refine AllReady.cons rfl (fun K hK => ?_) AllReady.nil
                            go_simp
                            refine hK _ _ ?_
                            clear hK K
                            refine wpAny_ready (rs := [3]) (by kernel_rfl) (by simp) ?_
                            refine AllReady.cons rfl (fun K hK => ?_) AllReady.nil
                            go_simp
                            go_at_call 51
                            refine (HE2.out _ (by exact Hb8.out)).mono ?_
                            rintro e w9 ⟨rfl, hb9⟩
                            have Hb9 := Lib.hid (Below.tr (by exact Hb8.out) hb9)
                            have HBb9 := Lib.hid (Below.tr (by exact HBb8.out) hb9)
                            have HO9 := Lib.hid (And.intro (Below.keep hb9 (by exact HO8.out.1)) (And.intro (Below.keep hb9 (by exact HO8.out.2.1)) (Below.keep hb9 (by exact HO8.out.2.2))))
                            have HP9 := Lib.hid (Below.keep hb9 (by exact HP8.out))
                            have p0' := HP9.out
                            clear hb9
                            go_simp
                            refine hK _ _ ?_
                            clear hK K
                            refine wpAny_ready (rs := [7]) (by kernel_rfl) (by simp) ?_
                            refine AllReady.cons rfl (fun K hK => ?_) AllReady.nil
                            go_simp
                            go_at_call 51
                            refine (HE3.out _ (by exact Hb9.out)).mono ?_
                            rintro e w10 ⟨rfl, hb10⟩
                            have Hb10 := Lib.hid (Below.tr (by exact Hb9.out) hb10)
                            have HBb10 := Lib.hid (Below.tr (by exact HBb9.out) hb10)
                            have HO10 := Lib.hid (And.intro (Below.keep hb10 (by exact HO9.out.1)) (And.intro (Below.keep hb10 (by exact HO9.out.2.1)) (Below.keep hb10 (by exact HO9.out.2.2))))
                            have HP10 := Lib.hid (Below.keep hb10 (by exact HP9.out))
                            have p0' := HP10.out
                            clear hb10
                            go_simp
                            refine hK _ _ ?_
                            clear hK K
                            refine wpAny_take (i := 8) (v := ?_) rfl (by kernel_rfl) (by kernel_rfl) (by kernel_rfl) (fun _ _ _ h => h) (Or.inl ⟨by rfl, ?_⟩) ?_
                            rotate_left
                            focus (first | (intro w; go_simp; done) | (intro w; go_simp; with_reducible rfl))
                            simp only [Act.put, List.getElem_toArray, List.getElem_cons_zero, List.getElem_cons_succ, List.setIfInBounds_toArray, List.set_cons_zero, List.set_cons_succ]
                            refine wpAny_take (i := 9) (v := ?_) rfl (by kernel_rfl) (by kernel_rfl) (by kernel_rfl) (fun _ _ _ h => h) (Or.inl ⟨by rfl, ?_⟩) ?_
                            rotate_left
                            focus (first | (intro w; go_simp; done) | (intro w; go_simp; with_reducible rfl))
                            simp only [Act.put, List.getElem_toArray, List.getElem_cons_zero, List.getElem_cons_succ, List.setIfInBounds_toArray, List.set_cons_zero, List.set_cons_succ]
                            refine wpAny_done (by kernel_rfl) ?_ _
                            go_wp2_with fail
                            go_meet
                            exact ⟨by rw [Hmx.out], Hb10.out, HBb10.out, HO10.out⟩
                        case rest =>
                        obtain ⟨ho, hC1, hC2, hC3⟩ := hcut
                        subst ho
                        have Hb8 := Lib.hid hC1
                        have HBb8 := Lib.hid hC2
                        have HO8 := Lib.hid hC3
                        clear hC1 hC2 hC3 Hb7 HBb7 HO7
                        have Htb := Lib.hid (show TowAt h k j ↔ ¬ (max z2 z3 ≥ 0 ∧ max z2 z3 < (k : Int)) from ⟨fun e => (Hta.out.1 e).2, fun e => Hta.out.2 ⟨Hq.out, e⟩⟩)
                        generalize max z2 z3 = z at *
                        have Hsf := Lib.hid (fun e : B0 = false => (show strI h k (j + 1) = false from by
                          by_cases e2 : TowAt h k j
                          · exact Hsy.out e2
                          · rw [Hsn.out e2]; exact e))
                        generalize wc = w8 at *
                        cases B0 with
                        | false =>
                          have RS := Lib.hid (Hsf.out rfl)
                          go_wp2_with fail
                          go_roundw
                          case rel => exact ⟨j + 1, by go_num, by omega, by rw [RS.out], Hb8.out, HBb8.out, HO8.out.1, HO8.out.2.1, HO8.out.2.2⟩
                          case measure => simp [intOf]; omega
                        | true =>
                          by_cases e1 : z ≥ 0
                          · by_cases e2 : z < (k : Int)
                            · have RS := Lib.hid (Hsn.out fun e => (Htb.out.1 e) ⟨e1, e2⟩)
                              go_wp2_with fail
                              go_roundw
                              case rel => exact ⟨j + 1, by go_num, by omega, by rw [RS.out], Hb8.out, HBb8.out, HO8.out.1, HO8.out.2.1, HO8.out.2.2⟩
                              case measure => simp [intOf]; omega
                            · have RS := Lib.hid (Hsy.out (Htb.out.2 fun e => e2 e.2))
                              go_wp2_with fail
                              go_roundw
                              case rel => exact ⟨j + 1, by go_num, by omega, by rw [RS.out], Hb8.out, HBb8.out, HO8.out.1, HO8.out.2.1, HO8.out.2.2⟩
                              case measure => simp [intOf]; omega
                          · have RS := Lib.hid (Hsy.out (Htb.out.2 fun e => e1 e.1))
                            go_wp2_with fail
                            go_roundw
                            case rel => exact ⟨j + 1, by go_num, by omega, by rw [RS.out], Hb8.out, HBb8.out, HO8.out.1, HO8.out.2.1, HO8.out.2.2⟩
                            case measure => simp [intOf]; omega
                    · have q3 : ((y : Int) == (x : Int)) = false := by rw [beq_eq_false_iff_ne]; omega
                      have RS := Lib.hid (Hsn.out fun e => f3 (Hta.out.1 e).1.1.2)
                      clear f1 f2 f3
                      go_wp2_with fail
                      go_roundw
                      case rel => exact ⟨j + 1, by go_num, by omega, by rw [RS.out], Hb7.out, HBb7.out, HO7.out.1, HO7.out.2.1, HO7.out.2.2⟩
                      case measure => simp [intOf]; omega
                  · have q2 : ((r : Int) == 1) = false := by rw [beq_eq_false_iff_ne]; omega
                    have RS := Lib.hid (Hsn.out fun e => f2 (Hta.out.1 e).1.1.1.2)
                    clear f1 f2
                    go_wp2_with fail
                    go_roundw
                    case rel => exact ⟨j + 1, by go_num, by omega, by rw [RS.out], Hb7.out, HBb7.out, HO7.out.1, HO7.out.2.1, HO7.out.2.2⟩
                    case measure => simp [intOf]; omega
                · have q1 : ¬ (q : Int) < 2 := by omega
                  have RS := Lib.hid (Hsn.out fun e => f1 (Hta.out.1 e).1.1.1.1)
                  clear f1
                  go_wp2_with fail
                  go_roundw
                  case rel => exact ⟨j + 1, by go_num, by omega, by rw [RS.out], Hb7.out, HBb7.out, HO7.out.1, HO7.out.2.1, HO7.out.2.2⟩
                  case measure => simp [intOf]; omega
              · obtain rfl : j = k := by omega
                have RS := Lib.hid (strI_end h j)
                go_wp2_with fail
                go_roundw
                case rel => exact ⟨j + 1, by go_num, by omega, by rw [RR.out], by rw [RC.out], by rw [RS.out], Hb6.out, HBb6.out⟩
                case measure => simp [intOf]; omega
          | true =>
            by_cases e2 : c ≥ 0
            · by_cases e3 : c < (k : Int)
              · have e0 : C1 = true := by rw [HC1.out, decide_eq_true ⟨e2, e3⟩]; rfl
                subst e0
                go_wp2_with fail
                go_loopw [7, 71] (fun r3 i wx => ∃ j : Nat, i = .int .i64 j ∧ j ≤ k ∧ r3 = .bool (strI h k j) ∧ Below w.heap.size w wx ∧ Below w4.heap.size w4 wx ∧ wx.cell? ⟨ob, 0, none⟩ = some (.int .i64 t) ∧ wx.cell? ⟨ob, 1, none⟩ = some (.int .i64 q) ∧ wx.cell? ⟨ob, 2, none⟩ = some (.int .i64 x)) (fun _ i _ => k - (intOf i).toNat)
                case atStart => exact ⟨0, rfl, Nat.zero_le _, by rw [strI_0], Hb8.out, HBb8.out, HO8.out.1, HO8.out.2.1, HO8.out.2.2⟩
                case round =>
                  obtain ⟨j, rfl, hj, rfl, hb6, hbb6, g0, g1, g2⟩ := hrel
                  have Hb6 := Lib.hid hb6
                  have HBb6 := Lib.hid hbb6
                  have HO6 := Lib.hid (And.intro g0 (And.intro g1 g2))
                  clear hb6 hbb6 g0 g1 g2
                  by_cases hjk : j < k
                  · have hjl : j < h.length := by omega
                    have hd1 := Below.keep Hb6.out (Hc.out j hjl).1
                    have hd2 := Below.keep Hb6.out (Hc.out j hjl).2.1
                    have hd3 := Below.keep Hb6.out (Hc.out j hjl).2.2
                    have hixk := Hixj.out k hk j
                    have Hsn := Lib.hid (fun e => strI_no (h := h) (k := k) (j := j) e)
                    have Hsy := Lib.hid (fun e => strI_yes (h := h) (k := k) (j := j) e)
                    have Hta := Lib.hid (Htd.out j hjl)
                    obtain ⟨s, hs⟩ : ∃ s, s = tT h j := ⟨_, rfl⟩
                    obtain ⟨r, hr⟩ : ∃ r, r = tK h j := ⟨_, rfl⟩
                    obtain ⟨y, hy⟩ : ∃ y, y = tI h j := ⟨_, rfl⟩
                    rw [← hs] at hd1 Hta
                    rw [← hr] at hd2 Hta
                    rw [← hy] at hd3 Hta
                    obtain ⟨z2, hz2⟩ : ∃ z2, z2 = endI h 2 s := ⟨_, rfl⟩
                    obtain ⟨z3, hz3⟩ : ∃ z3, z3 = endI h 3 s := ⟨_, rfl⟩
                    rw [← hz2, ← hz3] at Hta
                    have Hz := Lib.hid (And.intro hz2 hz3)
                    obtain ⟨B0, hB0⟩ : ∃ B0, B0 = strI h k j := ⟨_, rfl⟩
                    rw [← hB0] at Hsn ⊢
                    clear hs hr hy hz2 hz3 hB0
                    have hbn := below_alloc wr (.cells #[.int .i64 s, .int .i64 r, .int .i64 y] 55)
                    have HP := Lib.hid (And.intro (show (wr.alloc (.cells #[.int .i64 s, .int .i64 r, .int .i64 y] 55)).cell? ⟨wr.heap.size, 0, none⟩ = some (.int .i64 s) from cell_new wr _ _ 0) (And.intro (show (wr.alloc (.cells #[.int .i64 s, .int .i64 r, .int .i64 y] 55)).cell? ⟨wr.heap.size, 1, none⟩ = some (.int .i64 r) from cell_new wr _ _ 1) (show (wr.alloc (.cells #[.int .i64 s, .int .i64 r, .int .i64 y] 55)).cell? ⟨wr.heap.size, 2, none⟩ = some (.int .i64 y) from cell_new wr _ _ 2)))
                    have Hb7 := Lib.hid (Below.tr Hb6.out hbn)
                    have HBb7 := Lib.hid (Below.tr HBb6.out hbn)
                    have HO7 := Lib.hid (And.intro (Below.keep hbn HO6.out.1) (And.intro (Below.keep hbn HO6.out.2.1) (Below.keep hbn HO6.out.2.2)))
                    clear hbn HO6
                    go_upto_region 13 with fail
                    clear hd1 hd2 hd3 hixk
                    generalize hpb : wr.heap.size = pb at *
                    clear hpb Hb6 HBb6
                    generalize wr.alloc (.cells #[.int .i64 s, .int .i64 r, .int .i64 y] 55) = w7 at *
                    have p0 := HP.out.1
                    have p1 := HP.out.2.1
                    have p2 := HP.out.2.2
                    have g0 := HO7.out.1
                    have g1 := HO7.out.2.1
                    have g2 := HO7.out.2.2
                    by_cases f1 : q < 2
                    · have q1 : (q : Int) < 2 := by omega
                      by_cases f2 : r = 1
                      · have q2 : ((r : Int) == 1) = true := by rw [beq_iff_eq]; omega
                        by_cases f3 : y = x
                        · have q3 : ((y : Int) == (x : Int)) = true := by rw [beq_iff_eq]; omega
                          by_cases f4 : s = t
                          · have q4 : ((s : Int) != (t : Int)) = false := by rw [bne_eq_false_iff_eq]; omega
                            have RS := Lib.hid (Hsn.out fun e => (Hta.out.1 e).1.2 f4)
                            clear f1 f2 f3 f4
                            go_wp2_with fail
                            go_roundw
                            case rel => exact ⟨j + 1, by go_num, by omega, by rw [RS.out], Hb7.out, HBb7.out, HO7.out.1, HO7.out.2.1, HO7.out.2.2⟩
                            case measure => simp [intOf]; omega
                          · have q4 : ((s : Int) != (t : Int)) = true := by rw [bne_iff_ne]; omega
                            have Hq := Lib.hid (show (((q < 2 ∧ r = 1) ∧ y = x) ∧ s ≠ t) from ⟨⟨⟨f1, f2⟩, f3⟩, f4⟩)
                            clear f1 f2 f3 f4
                            go_upto_region 14 with fail
                            clear g0 g1 g2 p1 p2
                            go_cut [15] (fun o wc => o = .int .i64 (max z2 z3) ∧ Below w.heap.size w wc ∧ Below w4.heap.size w4 wc ∧ wc.cell? ⟨ob, 0, none⟩ = some (.int .i64 t) ∧ wc.cell? ⟨ob, 1, none⟩ = some (.int .i64 q) ∧ wc.cell? ⟨ob, 2, none⟩ = some (.int .i64 x))
                            case first =>
                              have Hb8 := Lib.hid (show Below w.heap.size w w7.drew from Hb7.out.drew)
                              have HBb8 := Lib.hid (show Below w4.heap.size w4 w7.drew from HBb7.out.drew)
                              have HO8 := Lib.hid (show w7.drew.cell? ⟨ob, 0, none⟩ = some (.int .i64 t) ∧ w7.drew.cell? ⟨ob, 1, none⟩ = some (.int .i64 q) ∧ w7.drew.cell? ⟨ob, 2, none⟩ = some (.int .i64 x) from HO7.out)
                              have HP8 := Lib.hid (show w7.drew.cell? ⟨pb, 0, none⟩ = some (.int .i64 s) from p0)
                              obtain ⟨Z, hZ⟩ : ∃ Z, Z = max z2 z3 := ⟨_, rfl⟩
                              have hmx : (if z2 < z3 then z3 else z2) = Z := by rw [hZ]; split <;> omega
                              have Hmx := Lib.hid hZ.symm
                              clear hZ
                              have HE2 := HE.out 2 (by omega) s
                              have HE3 := HE.out 3 (by omega) s
                              rw [← Hz.out.1] at HE2
                              rw [← Hz.out.2] at HE3
                              have HE2 := Lib.hid HE2
                              have HE3 := Lib.hid HE3
                              refine wp_region_any (by kernel_rfl) ?_
                              change wpAny _ _ _ _ _ _ _ (World.drew _)
                              refine wpAny_take (i := 0) (v := ?_) rfl (by kernel_rfl) (by kernel_rfl) (by kernel_rfl) (fun _ _ _ h => h) (Or.inl ⟨by rfl, ?_⟩) ?_
                              rotate_left
                              focus (first | (intro w; go_simp; done) | (intro w; go_simp; with_reducible rfl))
                              simp only [Act.put, List.getElem_toArray, List.getElem_cons_zero, List.setIfInBounds_toArray, List.set_cons_zero, List.set_cons_succ]
                              refine wpAny_take (i := 1) (v := ?_) rfl (by kernel_rfl) (by kernel_rfl) (by kernel_rfl) (fun _ _ _ h => h) (Or.inl ⟨by rfl, ?_⟩) ?_
                              rotate_left
                              focus (first | (intro w; go_simp; done) | (intro w; go_simp; with_reducible rfl))
                              simp only [Act.put, List.getElem_toArray, List.getElem_cons_zero, List.getElem_cons_succ, List.setIfInBounds_toArray, List.set_cons_zero, List.set_cons_succ]
                              refine wpAny_take (i := 4) (v := ?_) rfl (by kernel_rfl) (by kernel_rfl) (by kernel_rfl) (fun _ _ _ h => h) (Or.inl ⟨by rfl, ?_⟩) ?_
                              rotate_left
                              focus (first | (intro w; go_simp; done) | (intro w; go_simp; with_reducible rfl))
                              simp only [Act.put, List.getElem_toArray, List.getElem_cons_zero, List.getElem_cons_succ, List.setIfInBounds_toArray, List.set_cons_zero, List.set_cons_succ]
                              refine wpAny_take (i := 5) (v := ?_) rfl (by kernel_rfl) (by kernel_rfl) (by kernel_rfl) (fun _ _ _ h => h) (Or.inl ⟨by rfl, ?_⟩) ?_
                              rotate_left
                              focus (first | (intro w; go_simp; done) | (intro w; go_simp; with_reducible rfl))
                              simp only [Act.put, List.getElem_toArray, List.getElem_cons_zero, List.getElem_cons_succ, List.setIfInBounds_toArray, List.set_cons_zero, List.set_cons_succ]
                              refine wpAny_ready (rs := [2, 6]) (by kernel_rfl) (by simp) ?_
                              refine AllReady.cons rfl (fun K hK => ?_) ?_
                              · skip
                                go_simp
                                refine hK _ _ ?_
                                clear hK K
                                refine wpAny_ready (rs := [3, 6]) (by kernel_rfl) (by simp) ?_
                                refine AllReady.cons rfl (fun K hK => ?_) ?_
                                · skip
                                  go_simp
                                  go_at_call 51
                                  refine (HE2.out _ (by exact Hb8.out)).mono ?_
                                  rintro e w9 ⟨rfl, hb9⟩
                                  have Hb9 := Lib.hid (Below.tr (by exact Hb8.out) hb9)
                                  have HBb9 := Lib.hid (Below.tr (by exact HBb8.out) hb9)
                                  have HO9 := Lib.hid (And.intro (Below.keep hb9 (by exact HO8.out.1)) (And.intro (Below.keep hb9 (by exact HO8.out.2.1)) (Below.keep hb9 (by exact HO8.out.2.2))))
                                  have HP9 := Lib.hid (Below.keep hb9 (by exact HP8.out))
                                  have p0' := HP9.out
                                  clear hb9
                                  go_simp
                                  refine hK _ _ ?_
                                  clear hK K
                                  refine wpAny_ready (rs := [6]) (by kernel_rfl) (by simp) ?_
                                  refine AllReady.cons rfl (fun K hK => ?_) AllReady.nil
                                  go_simp
                                  refine hK _ _ ?_
                                  clear hK K
                                  refine wpAny_ready (rs := [7]) (by kernel_rfl) (by simp) ?_
                                  refine AllReady.cons rfl (fun K hK => ?_) AllReady.nil
                                  go_simp
                                  go_at_call 51
                                  refine (HE3.out _ (by exact Hb9.out)).mono ?_
                                  rintro e w10 ⟨rfl, hb10⟩
                                  have Hb10 := Lib.hid (Below.tr (by exact Hb9.out) hb10)
                                  have HBb10 := Lib.hid (Below.tr (by exact HBb9.out) hb10)
                                  have HO10 := Lib.hid (And.intro (Below.keep hb10 (by exact HO9.out.1)) (And.intro (Below.keep hb10 (by exact HO9.out.2.1)) (Below.keep hb10 (by exact HO9.out.2.2))))
                                  have HP10 := Lib.hid (Below.keep hb10 (by exact HP9.out))
                                  have p0' := HP10.out
                                  clear hb10
                                  go_simp
                                  refine hK _ _ ?_
                                  clear hK K
                                  refine wpAny_take (i := 8) (v := ?_) rfl (by kernel_rfl) (by kernel_rfl) (by kernel_rfl) (fun _ _ _ h => h) (Or.inl ⟨by rfl, ?_⟩) ?_
                                  rotate_left
                                  focus (first | (intro w; go_simp; done) | (intro w; go_simp; with_reducible rfl))
                                  simp only [Act.put, List.getElem_toArray, List.getElem_cons_zero, List.getElem_cons_succ, List.setIfInBounds_toArray, List.set_cons_zero, List.set_cons_succ]
                                  refine wpAny_take (i := 9) (v := ?_) rfl (by kernel_rfl) (by kernel_rfl) (by kernel_rfl) (fun _ _ _ h => h) (Or.inl ⟨by rfl, ?_⟩) ?_
                                  rotate_left
                                  focus (first | (intro w; go_simp; done) | (intro w; go_simp; with_reducible rfl))
                                  simp only [Act.put, List.getElem_toArray, List.getElem_cons_zero, List.getElem_cons_succ, List.setIfInBounds_toArray, List.set_cons_zero, List.set_cons_succ]
                                  refine wpAny_done (by kernel_rfl) ?_ _
                                  go_wp2_with fail
                                  go_meet
                                  exact ⟨by rw [Hmx.out], Hb10.out, HBb10.out, HO10.out⟩
                                · refine AllReady.cons rfl (fun K hK => ?_) AllReady.nil
                                  go_simp
                                  refine hK _ _ ?_
                                  clear hK K
                                  refine wpAny_ready (rs := [3]) (by kernel_rfl) (by simp) ?_
                                  refine AllReady.cons rfl (fun K hK => ?_) AllReady.nil
                                  go_simp
                                  go_at_call 51
                                  refine (HE2.out _ (by exact Hb8.out)).mono ?_
                                  rintro e w9 ⟨rfl, hb9⟩
                                  have Hb9 := Lib.hid (Below.tr (by exact Hb8.out) hb9)
                                  have HBb9 := Lib.hid (Below.tr (by exact HBb8.out) hb9)
                                  have HO9 := Lib.hid (And.intro (Below.keep hb9 (by exact HO8.out.1)) (And.intro (Below.keep hb9 (by exact HO8.out.2.1)) (Below.keep hb9 (by exact HO8.out.2.2))))
                                  have HP9 := Lib.hid (Below.keep hb9 (by exact HP8.out))
                                  have p0' := HP9.out
                                  clear hb9
                                  go_simp
                                  refine hK _ _ ?_
                                  clear hK K
                                  refine wpAny_ready (rs := [7]) (by kernel_rfl) (by simp) ?_
                                  refine AllReady.cons rfl (fun K hK => ?_) AllReady.nil
                                  go_simp
                                  go_at_call 51
                                  refine (HE3.out _ (by exact Hb9.out)).mono ?_
                                  rintro e w10 ⟨rfl, hb10⟩
                                  have Hb10 := Lib.hid (Below.tr (by exact Hb9.out) hb10)
                                  have HBb10 := Lib.hid (Below.tr (by exact HBb9.out) hb10)
                                  have HO10 := Lib.hid (And.intro (Below.keep hb10 (by exact HO9.out.1)) (And.intro (Below.keep hb10 (by exact HO9.out.2.1)) (Below.keep hb10 (by exact HO9.out.2.2))))
                                  have HP10 := Lib.hid (Below.keep hb10 (by exact HP9.out))
                                  have p0' := HP10.out
                                  clear hb10
                                  go_simp
                                  refine hK _ _ ?_
                                  clear hK K
                                  refine wpAny_take (i := 8) (v := ?_) rfl (by kernel_rfl) (by kernel_rfl) (by kernel_rfl) (fun _ _ _ h => h) (Or.inl ⟨by rfl, ?_⟩) ?_
                                  rotate_left
                                  focus (first | (intro w; go_simp; done) | (intro w; go_simp; with_reducible rfl))
                                  simp only [Act.put, List.getElem_toArray, List.getElem_cons_zero, List.getElem_cons_succ, List.setIfInBounds_toArray, List.set_cons_zero, List.set_cons_succ]
                                  refine wpAny_take (i := 9) (v := ?_) rfl (by kernel_rfl) (by kernel_rfl) (by kernel_rfl) (fun _ _ _ h => h) (Or.inl ⟨by rfl, ?_⟩) ?_
                                  rotate_left
                                  focus (first | (intro w; go_simp; done) | (intro w; go_simp; with_reducible rfl))
                                  simp only [Act.put, List.getElem_toArray, List.getElem_cons_zero, List.getElem_cons_succ, List.setIfInBounds_toArray, List.set_cons_zero, List.set_cons_succ]
                                  refine wpAny_done (by kernel_rfl) ?_ _
                                  go_wp2_with fail
                                  go_meet
                                  exact ⟨by rw [Hmx.out], Hb10.out, HBb10.out, HO10.out⟩
                              · refine AllReady.cons rfl (fun K hK => ?_) AllReady.nil
                                go_simp
                                refine hK _ _ ?_
                                clear hK K
                                refine wpAny_ready (rs := [2]) (by kernel_rfl) (by simp) ?_
                                refine AllReady.cons rfl (fun K hK => ?_) AllReady.nil
                                go_simp
                                refine hK _ _ ?_
                                clear hK K
                                refine wpAny_ready (rs := [3]) (by kernel_rfl) (by simp) ?_
                                refine AllReady.cons rfl (fun K hK => ?_) AllReady.nil
                                go_simp
                                go_at_call 51
                                refine (HE2.out _ (by exact Hb8.out)).mono ?_
                                rintro e w9 ⟨rfl, hb9⟩
                                have Hb9 := Lib.hid (Below.tr (by exact Hb8.out) hb9)
                                have HBb9 := Lib.hid (Below.tr (by exact HBb8.out) hb9)
                                have HO9 := Lib.hid (And.intro (Below.keep hb9 (by exact HO8.out.1)) (And.intro (Below.keep hb9 (by exact HO8.out.2.1)) (Below.keep hb9 (by exact HO8.out.2.2))))
                                have HP9 := Lib.hid (Below.keep hb9 (by exact HP8.out))
                                have p0' := HP9.out
                                clear hb9
                                go_simp
                                refine hK _ _ ?_
                                clear hK K
                                refine wpAny_ready (rs := [7]) (by kernel_rfl) (by simp) ?_
                                refine AllReady.cons rfl (fun K hK => ?_) AllReady.nil
                                go_simp
                                go_at_call 51
                                refine (HE3.out _ (by exact Hb9.out)).mono ?_
                                rintro e w10 ⟨rfl, hb10⟩
                                have Hb10 := Lib.hid (Below.tr (by exact Hb9.out) hb10)
                                have HBb10 := Lib.hid (Below.tr (by exact HBb9.out) hb10)
                                have HO10 := Lib.hid (And.intro (Below.keep hb10 (by exact HO9.out.1)) (And.intro (Below.keep hb10 (by exact HO9.out.2.1)) (Below.keep hb10 (by exact HO9.out.2.2))))
                                have HP10 := Lib.hid (Below.keep hb10 (by exact HP9.out))
                                have p0' := HP10.out
                                clear hb10
                                go_simp
                                refine hK _ _ ?_
                                clear hK K
                                refine wpAny_take (i := 8) (v := ?_) rfl (by kernel_rfl) (by kernel_rfl) (by kernel_rfl) (fun _ _ _ h => h) (Or.inl ⟨by rfl, ?_⟩) ?_
                                rotate_left
                                focus (first | (intro w; go_simp; done) | (intro w; go_simp; with_reducible rfl))
                                simp only [Act.put, List.getElem_toArray, List.getElem_cons_zero, List.getElem_cons_succ, List.setIfInBounds_toArray, List.set_cons_zero, List.set_cons_succ]
                                refine wpAny_take (i := 9) (v := ?_) rfl (by kernel_rfl) (by kernel_rfl) (by kernel_rfl) (fun _ _ _ h => h) (Or.inl ⟨by rfl, ?_⟩) ?_
                                rotate_left
                                focus (first | (intro w; go_simp; done) | (intro w; go_simp; with_reducible rfl))
                                simp only [Act.put, List.getElem_toArray, List.getElem_cons_zero, List.getElem_cons_succ, List.setIfInBounds_toArray, List.set_cons_zero, List.set_cons_succ]
                                refine wpAny_done (by kernel_rfl) ?_ _
                                go_wp2_with fail
                                go_meet
                                exact ⟨by rw [Hmx.out], Hb10.out, HBb10.out, HO10.out⟩
                            case rest =>
                            obtain ⟨ho, hC1, hC2, hC3⟩ := hcut
                            subst ho
                            have Hb8 := Lib.hid hC1
                            have HBb8 := Lib.hid hC2
                            have HO8 := Lib.hid hC3
                            clear hC1 hC2 hC3 Hb7 HBb7 HO7
                            have Htb := Lib.hid (show TowAt h k j ↔ ¬ (max z2 z3 ≥ 0 ∧ max z2 z3 < (k : Int)) from ⟨fun e => (Hta.out.1 e).2, fun e => Hta.out.2 ⟨Hq.out, e⟩⟩)
                            generalize max z2 z3 = z at *
                            have Hsf := Lib.hid (fun e : B0 = false => (show strI h k (j + 1) = false from by
                              by_cases e2 : TowAt h k j
                              · exact Hsy.out e2
                              · rw [Hsn.out e2]; exact e))
                            generalize wc = w8 at *
                            cases B0 with
                            | false =>
                              have RS := Lib.hid (Hsf.out rfl)
                              go_wp2_with fail
                              go_roundw
                              case rel => exact ⟨j + 1, by go_num, by omega, by rw [RS.out], Hb8.out, HBb8.out, HO8.out.1, HO8.out.2.1, HO8.out.2.2⟩
                              case measure => simp [intOf]; omega
                            | true =>
                              by_cases e1 : z ≥ 0
                              · by_cases e2 : z < (k : Int)
                                · have RS := Lib.hid (Hsn.out fun e => (Htb.out.1 e) ⟨e1, e2⟩)
                                  go_wp2_with fail
                                  go_roundw
                                  case rel => exact ⟨j + 1, by go_num, by omega, by rw [RS.out], Hb8.out, HBb8.out, HO8.out.1, HO8.out.2.1, HO8.out.2.2⟩
                                  case measure => simp [intOf]; omega
                                · have RS := Lib.hid (Hsy.out (Htb.out.2 fun e => e2 e.2))
                                  go_wp2_with fail
                                  go_roundw
                                  case rel => exact ⟨j + 1, by go_num, by omega, by rw [RS.out], Hb8.out, HBb8.out, HO8.out.1, HO8.out.2.1, HO8.out.2.2⟩
                                  case measure => simp [intOf]; omega
                              · have RS := Lib.hid (Hsy.out (Htb.out.2 fun e => e1 e.1))
                                go_wp2_with fail
                                go_roundw
                                case rel => exact ⟨j + 1, by go_num, by omega, by rw [RS.out], Hb8.out, HBb8.out, HO8.out.1, HO8.out.2.1, HO8.out.2.2⟩
                                case measure => simp [intOf]; omega
                        · have q3 : ((y : Int) == (x : Int)) = false := by rw [beq_eq_false_iff_ne]; omega
                          have RS := Lib.hid (Hsn.out fun e => f3 (Hta.out.1 e).1.1.2)
                          clear f1 f2 f3
                          go_wp2_with fail
                          go_roundw
                          case rel => exact ⟨j + 1, by go_num, by omega, by rw [RS.out], Hb7.out, HBb7.out, HO7.out.1, HO7.out.2.1, HO7.out.2.2⟩
                          case measure => simp [intOf]; omega
                      · have q2 : ((r : Int) == 1) = false := by rw [beq_eq_false_iff_ne]; omega
                        have RS := Lib.hid (Hsn.out fun e => f2 (Hta.out.1 e).1.1.1.2)
                        clear f1 f2
                        go_wp2_with fail
                        go_roundw
                        case rel => exact ⟨j + 1, by go_num, by omega, by rw [RS.out], Hb7.out, HBb7.out, HO7.out.1, HO7.out.2.1, HO7.out.2.2⟩
                        case measure => simp [intOf]; omega
                    · have q1 : ¬ (q : Int) < 2 := by omega
                      have RS := Lib.hid (Hsn.out fun e => f1 (Hta.out.1 e).1.1.1.1)
                      clear f1
                      go_wp2_with fail
                      go_roundw
                      case rel => exact ⟨j + 1, by go_num, by omega, by rw [RS.out], Hb7.out, HBb7.out, HO7.out.1, HO7.out.2.1, HO7.out.2.2⟩
                      case measure => simp [intOf]; omega
                  · obtain rfl : j = k := by omega
                    have RS := Lib.hid (strI_end h j)
                    go_wp2_with fail
                    go_roundw
                    case rel => exact ⟨j + 1, by go_num, by omega, by rw [RR.out], by rw [RC.out], by rw [RS.out], Hb6.out, HBb6.out⟩
                    case measure => simp [intOf]; omega
              · have e0 : C1 = false := by rw [HC1.out, decide_eq_false (fun e => e3 e.2)]; rfl
                subst e0
                go_wp2_with fail
                go_loopw [7, 71] (fun r3 i wx => ∃ j : Nat, i = .int .i64 j ∧ j ≤ k ∧ r3 = .bool (strI h k j) ∧ Below w.heap.size w wx ∧ Below w4.heap.size w4 wx ∧ wx.cell? ⟨ob, 0, none⟩ = some (.int .i64 t) ∧ wx.cell? ⟨ob, 1, none⟩ = some (.int .i64 q) ∧ wx.cell? ⟨ob, 2, none⟩ = some (.int .i64 x)) (fun _ i _ => k - (intOf i).toNat)
                case atStart => exact ⟨0, rfl, Nat.zero_le _, by rw [strI_0], Hb8.out, HBb8.out, HO8.out.1, HO8.out.2.1, HO8.out.2.2⟩
                case round =>
                  obtain ⟨j, rfl, hj, rfl, hb6, hbb6, g0, g1, g2⟩ := hrel
                  have Hb6 := Lib.hid hb6
                  have HBb6 := Lib.hid hbb6
                  have HO6 := Lib.hid (And.intro g0 (And.intro g1 g2))
                  clear hb6 hbb6 g0 g1 g2
                  by_cases hjk : j < k
                  · have hjl : j < h.length := by omega
                    have hd1 := Below.keep Hb6.out (Hc.out j hjl).1
                    have hd2 := Below.keep Hb6.out (Hc.out j hjl).2.1
                    have hd3 := Below.keep Hb6.out (Hc.out j hjl).2.2
                    have hixk := Hixj.out k hk j
                    have Hsn := Lib.hid (fun e => strI_no (h := h) (k := k) (j := j) e)
                    have Hsy := Lib.hid (fun e => strI_yes (h := h) (k := k) (j := j) e)
                    have Hta := Lib.hid (Htd.out j hjl)
                    obtain ⟨s, hs⟩ : ∃ s, s = tT h j := ⟨_, rfl⟩
                    obtain ⟨r, hr⟩ : ∃ r, r = tK h j := ⟨_, rfl⟩
                    obtain ⟨y, hy⟩ : ∃ y, y = tI h j := ⟨_, rfl⟩
                    rw [← hs] at hd1 Hta
                    rw [← hr] at hd2 Hta
                    rw [← hy] at hd3 Hta
                    obtain ⟨z2, hz2⟩ : ∃ z2, z2 = endI h 2 s := ⟨_, rfl⟩
                    obtain ⟨z3, hz3⟩ : ∃ z3, z3 = endI h 3 s := ⟨_, rfl⟩
                    rw [← hz2, ← hz3] at Hta
                    have Hz := Lib.hid (And.intro hz2 hz3)
                    obtain ⟨B0, hB0⟩ : ∃ B0, B0 = strI h k j := ⟨_, rfl⟩
                    rw [← hB0] at Hsn ⊢
                    clear hs hr hy hz2 hz3 hB0
                    have hbn := below_alloc wr (.cells #[.int .i64 s, .int .i64 r, .int .i64 y] 55)
                    have HP := Lib.hid (And.intro (show (wr.alloc (.cells #[.int .i64 s, .int .i64 r, .int .i64 y] 55)).cell? ⟨wr.heap.size, 0, none⟩ = some (.int .i64 s) from cell_new wr _ _ 0) (And.intro (show (wr.alloc (.cells #[.int .i64 s, .int .i64 r, .int .i64 y] 55)).cell? ⟨wr.heap.size, 1, none⟩ = some (.int .i64 r) from cell_new wr _ _ 1) (show (wr.alloc (.cells #[.int .i64 s, .int .i64 r, .int .i64 y] 55)).cell? ⟨wr.heap.size, 2, none⟩ = some (.int .i64 y) from cell_new wr _ _ 2)))
                    have Hb7 := Lib.hid (Below.tr Hb6.out hbn)
                    have HBb7 := Lib.hid (Below.tr HBb6.out hbn)
                    have HO7 := Lib.hid (And.intro (Below.keep hbn HO6.out.1) (And.intro (Below.keep hbn HO6.out.2.1) (Below.keep hbn HO6.out.2.2)))
                    clear hbn HO6
                    go_upto_region 13 with fail
                    clear hd1 hd2 hd3 hixk
                    generalize hpb : wr.heap.size = pb at *
                    clear hpb Hb6 HBb6
                    generalize wr.alloc (.cells #[.int .i64 s, .int .i64 r, .int .i64 y] 55) = w7 at *
                    have p0 := HP.out.1
                    have p1 := HP.out.2.1
                    have p2 := HP.out.2.2
                    have g0 := HO7.out.1
                    have g1 := HO7.out.2.1
                    have g2 := HO7.out.2.2
                    by_cases f1 : q < 2
                    · have q1 : (q : Int) < 2 := by omega
                      by_cases f2 : r = 1
                      · have q2 : ((r : Int) == 1) = true := by rw [beq_iff_eq]; omega
                        by_cases f3 : y = x
                        · have q3 : ((y : Int) == (x : Int)) = true := by rw [beq_iff_eq]; omega
                          by_cases f4 : s = t
                          · have q4 : ((s : Int) != (t : Int)) = false := by rw [bne_eq_false_iff_eq]; omega
                            have RS := Lib.hid (Hsn.out fun e => (Hta.out.1 e).1.2 f4)
                            clear f1 f2 f3 f4
                            go_wp2_with fail
                            go_roundw
                            case rel => exact ⟨j + 1, by go_num, by omega, by rw [RS.out], Hb7.out, HBb7.out, HO7.out.1, HO7.out.2.1, HO7.out.2.2⟩
                            case measure => simp [intOf]; omega
                          · have q4 : ((s : Int) != (t : Int)) = true := by rw [bne_iff_ne]; omega
                            have Hq := Lib.hid (show (((q < 2 ∧ r = 1) ∧ y = x) ∧ s ≠ t) from ⟨⟨⟨f1, f2⟩, f3⟩, f4⟩)
                            clear f1 f2 f3 f4
                            go_upto_region 14 with fail
                            clear g0 g1 g2 p1 p2
                            go_cut [15] (fun o wc => o = .int .i64 (max z2 z3) ∧ Below w.heap.size w wc ∧ Below w4.heap.size w4 wc ∧ wc.cell? ⟨ob, 0, none⟩ = some (.int .i64 t) ∧ wc.cell? ⟨ob, 1, none⟩ = some (.int .i64 q) ∧ wc.cell? ⟨ob, 2, none⟩ = some (.int .i64 x))
                            case first =>
                              have Hb8 := Lib.hid (show Below w.heap.size w w7.drew from Hb7.out.drew)
                              have HBb8 := Lib.hid (show Below w4.heap.size w4 w7.drew from HBb7.out.drew)
                              have HO8 := Lib.hid (show w7.drew.cell? ⟨ob, 0, none⟩ = some (.int .i64 t) ∧ w7.drew.cell? ⟨ob, 1, none⟩ = some (.int .i64 q) ∧ w7.drew.cell? ⟨ob, 2, none⟩ = some (.int .i64 x) from HO7.out)
                              have HP8 := Lib.hid (show w7.drew.cell? ⟨pb, 0, none⟩ = some (.int .i64 s) from p0)
                              obtain ⟨Z, hZ⟩ : ∃ Z, Z = max z2 z3 := ⟨_, rfl⟩
                              have hmx : (if z2 < z3 then z3 else z2) = Z := by rw [hZ]; split <;> omega
                              have Hmx := Lib.hid hZ.symm
                              clear hZ
                              have HE2 := HE.out 2 (by omega) s
                              have HE3 := HE.out 3 (by omega) s
                              rw [← Hz.out.1] at HE2
                              rw [← Hz.out.2] at HE3
                              have HE2 := Lib.hid HE2
                              have HE3 := Lib.hid HE3
                              refine wp_region_any (by kernel_rfl) ?_
                              change wpAny _ _ _ _ _ _ _ (World.drew _)
                              refine wpAny_take (i := 0) (v := ?_) rfl (by kernel_rfl) (by kernel_rfl) (by kernel_rfl) (fun _ _ _ h => h) (Or.inl ⟨by rfl, ?_⟩) ?_
                              rotate_left
                              focus (first | (intro w; go_simp; done) | (intro w; go_simp; with_reducible rfl))
                              simp only [Act.put, List.getElem_toArray, List.getElem_cons_zero, List.setIfInBounds_toArray, List.set_cons_zero, List.set_cons_succ]
                              refine wpAny_take (i := 1) (v := ?_) rfl (by kernel_rfl) (by kernel_rfl) (by kernel_rfl) (fun _ _ _ h => h) (Or.inl ⟨by rfl, ?_⟩) ?_
                              rotate_left
                              focus (first | (intro w; go_simp; done) | (intro w; go_simp; with_reducible rfl))
                              simp only [Act.put, List.getElem_toArray, List.getElem_cons_zero, List.getElem_cons_succ, List.setIfInBounds_toArray, List.set_cons_zero, List.set_cons_succ]
                              refine wpAny_take (i := 4) (v := ?_) rfl (by kernel_rfl) (by kernel_rfl) (by kernel_rfl) (fun _ _ _ h => h) (Or.inl ⟨by rfl, ?_⟩) ?_
                              rotate_left
                              focus (first | (intro w; go_simp; done) | (intro w; go_simp; with_reducible rfl))
                              simp only [Act.put, List.getElem_toArray, List.getElem_cons_zero, List.getElem_cons_succ, List.setIfInBounds_toArray, List.set_cons_zero, List.set_cons_succ]
                              refine wpAny_take (i := 5) (v := ?_) rfl (by kernel_rfl) (by kernel_rfl) (by kernel_rfl) (fun _ _ _ h => h) (Or.inl ⟨by rfl, ?_⟩) ?_
                              rotate_left
                              focus (first | (intro w; go_simp; done) | (intro w; go_simp; with_reducible rfl))
                              simp only [Act.put, List.getElem_toArray, List.getElem_cons_zero, List.getElem_cons_succ, List.setIfInBounds_toArray, List.set_cons_zero, List.set_cons_succ]
                              refine wpAny_ready (rs := [2, 6]) (by kernel_rfl) (by simp) ?_
                              refine AllReady.cons rfl (fun K hK => ?_) ?_
                              · skip
                                go_simp
                                refine hK _ _ ?_
                                clear hK K
                                refine wpAny_ready (rs := [3, 6]) (by kernel_rfl) (by simp) ?_
                                refine AllReady.cons rfl (fun K hK => ?_) ?_
                                · skip
                                  go_simp
                                  go_at_call 51
                                  refine (HE2.out _ (by exact Hb8.out)).mono ?_
                                  rintro e w9 ⟨rfl, hb9⟩
                                  have Hb9 := Lib.hid (Below.tr (by exact Hb8.out) hb9)
                                  have HBb9 := Lib.hid (Below.tr (by exact HBb8.out) hb9)
                                  have HO9 := Lib.hid (And.intro (Below.keep hb9 (by exact HO8.out.1)) (And.intro (Below.keep hb9 (by exact HO8.out.2.1)) (Below.keep hb9 (by exact HO8.out.2.2))))
                                  have HP9 := Lib.hid (Below.keep hb9 (by exact HP8.out))
                                  have p0' := HP9.out
                                  clear hb9
                                  go_simp
                                  refine hK _ _ ?_
                                  clear hK K
                                  refine wpAny_ready (rs := [6]) (by kernel_rfl) (by simp) ?_
                                  refine AllReady.cons rfl (fun K hK => ?_) AllReady.nil
                                  go_simp
                                  refine hK _ _ ?_
                                  clear hK K
                                  refine wpAny_ready (rs := [7]) (by kernel_rfl) (by simp) ?_
                                  refine AllReady.cons rfl (fun K hK => ?_) AllReady.nil
                                  go_simp
                                  go_at_call 51
                                  refine (HE3.out _ (by exact Hb9.out)).mono ?_
                                  rintro e w10 ⟨rfl, hb10⟩
                                  have Hb10 := Lib.hid (Below.tr (by exact Hb9.out) hb10)
                                  have HBb10 := Lib.hid (Below.tr (by exact HBb9.out) hb10)
                                  have HO10 := Lib.hid (And.intro (Below.keep hb10 (by exact HO9.out.1)) (And.intro (Below.keep hb10 (by exact HO9.out.2.1)) (Below.keep hb10 (by exact HO9.out.2.2))))
                                  have HP10 := Lib.hid (Below.keep hb10 (by exact HP9.out))
                                  have p0' := HP10.out
                                  clear hb10
                                  go_simp
                                  refine hK _ _ ?_
                                  clear hK K
                                  refine wpAny_take (i := 8) (v := ?_) rfl (by kernel_rfl) (by kernel_rfl) (by kernel_rfl) (fun _ _ _ h => h) (Or.inl ⟨by rfl, ?_⟩) ?_
                                  rotate_left
                                  focus (first | (intro w; go_simp; done) | (intro w; go_simp; with_reducible rfl))
                                  simp only [Act.put, List.getElem_toArray, List.getElem_cons_zero, List.getElem_cons_succ, List.setIfInBounds_toArray, List.set_cons_zero, List.set_cons_succ]
                                  refine wpAny_take (i := 9) (v := ?_) rfl (by kernel_rfl) (by kernel_rfl) (by kernel_rfl) (fun _ _ _ h => h) (Or.inl ⟨by rfl, ?_⟩) ?_
                                  rotate_left
                                  focus (first | (intro w; go_simp; done) | (intro w; go_simp; with_reducible rfl))
                                  simp only [Act.put, List.getElem_toArray, List.getElem_cons_zero, List.getElem_cons_succ, List.setIfInBounds_toArray, List.set_cons_zero, List.set_cons_succ]
                                  refine wpAny_done (by kernel_rfl) ?_ _
                                  go_wp2_with fail
                                  go_meet
                                  exact ⟨by rw [Hmx.out], Hb10.out, HBb10.out, HO10.out⟩
                                · refine AllReady.cons rfl (fun K hK => ?_) AllReady.nil
                                  go_simp
                                  refine hK _ _ ?_
                                  clear hK K
                                  refine wpAny_ready (rs := [3]) (by kernel_rfl) (by simp) ?_
                                  refine AllReady.cons rfl (fun K hK => ?_) AllReady.nil
                                  go_simp
                                  go_at_call 51
                                  refine (HE2.out _ (by exact Hb8.out)).mono ?_
                                  rintro e w9 ⟨rfl, hb9⟩
                                  have Hb9 := Lib.hid (Below.tr (by exact Hb8.out) hb9)
                                  have HBb9 := Lib.hid (Below.tr (by exact HBb8.out) hb9)
                                  have HO9 := Lib.hid (And.intro (Below.keep hb9 (by exact HO8.out.1)) (And.intro (Below.keep hb9 (by exact HO8.out.2.1)) (Below.keep hb9 (by exact HO8.out.2.2))))
                                  have HP9 := Lib.hid (Below.keep hb9 (by exact HP8.out))
                                  have p0' := HP9.out
                                  clear hb9
                                  go_simp
                                  refine hK _ _ ?_
                                  clear hK K
                                  refine wpAny_ready (rs := [7]) (by kernel_rfl) (by simp) ?_
                                  refine AllReady.cons rfl (fun K hK => ?_) AllReady.nil
                                  go_simp
                                  go_at_call 51
                                  refine (HE3.out _ (by exact Hb9.out)).mono ?_
                                  rintro e w10 ⟨rfl, hb10⟩
                                  have Hb10 := Lib.hid (Below.tr (by exact Hb9.out) hb10)
                                  have HBb10 := Lib.hid (Below.tr (by exact HBb9.out) hb10)
                                  have HO10 := Lib.hid (And.intro (Below.keep hb10 (by exact HO9.out.1)) (And.intro (Below.keep hb10 (by exact HO9.out.2.1)) (Below.keep hb10 (by exact HO9.out.2.2))))
                                  have HP10 := Lib.hid (Below.keep hb10 (by exact HP9.out))
                                  have p0' := HP10.out
                                  clear hb10
                                  go_simp
                                  refine hK _ _ ?_
                                  clear hK K
                                  refine wpAny_take (i := 8) (v := ?_) rfl (by kernel_rfl) (by kernel_rfl) (by kernel_rfl) (fun _ _ _ h => h) (Or.inl ⟨by rfl, ?_⟩) ?_
                                  rotate_left
                                  focus (first | (intro w; go_simp; done) | (intro w; go_simp; with_reducible rfl))
                                  simp only [Act.put, List.getElem_toArray, List.getElem_cons_zero, List.getElem_cons_succ, List.setIfInBounds_toArray, List.set_cons_zero, List.set_cons_succ]
                                  refine wpAny_take (i := 9) (v := ?_) rfl (by kernel_rfl) (by kernel_rfl) (by kernel_rfl) (fun _ _ _ h => h) (Or.inl ⟨by rfl, ?_⟩) ?_
                                  rotate_left
                                  focus (first | (intro w; go_simp; done) | (intro w; go_simp; with_reducible rfl))
                                  simp only [Act.put, List.getElem_toArray, List.getElem_cons_zero, List.getElem_cons_succ, List.setIfInBounds_toArray, List.set_cons_zero, List.set_cons_succ]
                                  refine wpAny_done (by kernel_rfl) ?_ _
                                  go_wp2_with fail
                                  go_meet
                                  exact ⟨by rw [Hmx.out], Hb10.out, HBb10.out, HO10.out⟩
                              · refine AllReady.cons rfl (fun K hK => ?_) AllReady.nil
                                go_simp
                                refine hK _ _ ?_
                                clear hK K
                                refine wpAny_ready (rs := [2]) (by kernel_rfl) (by simp) ?_
                                refine AllReady.cons rfl (fun K hK => ?_) AllReady.nil
                                go_simp
                                refine hK _ _ ?_
                                clear hK K
                                refine wpAny_ready (rs := [3]) (by kernel_rfl) (by simp) ?_
                                refine AllReady.cons rfl (fun K hK => ?_) AllReady.nil
                                go_simp
                                go_at_call 51
                                refine (HE2.out _ (by exact Hb8.out)).mono ?_
                                rintro e w9 ⟨rfl, hb9⟩
                                have Hb9 := Lib.hid (Below.tr (by exact Hb8.out) hb9)
                                have HBb9 := Lib.hid (Below.tr (by exact HBb8.out) hb9)
                                have HO9 := Lib.hid (And.intro (Below.keep hb9 (by exact HO8.out.1)) (And.intro (Below.keep hb9 (by exact HO8.out.2.1)) (Below.keep hb9 (by exact HO8.out.2.2))))
                                have HP9 := Lib.hid (Below.keep hb9 (by exact HP8.out))
                                have p0' := HP9.out
                                clear hb9
                                go_simp
                                refine hK _ _ ?_
                                clear hK K
                                refine wpAny_ready (rs := [7]) (by kernel_rfl) (by simp) ?_
                                refine AllReady.cons rfl (fun K hK => ?_) AllReady.nil
                                go_simp
                                go_at_call 51
                                refine (HE3.out _ (by exact Hb9.out)).mono ?_
                                rintro e w10 ⟨rfl, hb10⟩
                                have Hb10 := Lib.hid (Below.tr (by exact Hb9.out) hb10)
                                have HBb10 := Lib.hid (Below.tr (by exact HBb9.out) hb10)
                                have HO10 := Lib.hid (And.intro (Below.keep hb10 (by exact HO9.out.1)) (And.intro (Below.keep hb10 (by exact HO9.out.2.1)) (Below.keep hb10 (by exact HO9.out.2.2))))
                                have HP10 := Lib.hid (Below.keep hb10 (by exact HP9.out))
                                have p0' := HP10.out
                                clear hb10
                                go_simp
                                refine hK _ _ ?_
                                clear hK K
                                refine wpAny_take (i := 8) (v := ?_) rfl (by kernel_rfl) (by kernel_rfl) (by kernel_rfl) (fun _ _ _ h => h) (Or.inl ⟨by rfl, ?_⟩) ?_
                                rotate_left
                                focus (first | (intro w; go_simp; done) | (intro w; go_simp; with_reducible rfl))
                                simp only [Act.put, List.getElem_toArray, List.getElem_cons_zero, List.getElem_cons_succ, List.setIfInBounds_toArray, List.set_cons_zero, List.set_cons_succ]
                                refine wpAny_take (i := 9) (v := ?_) rfl (by kernel_rfl) (by kernel_rfl) (by kernel_rfl) (fun _ _ _ h => h) (Or.inl ⟨by rfl, ?_⟩) ?_
                                rotate_left
                                focus (first | (intro w; go_simp; done) | (intro w; go_simp; with_reducible rfl))
                                simp only [Act.put, List.getElem_toArray, List.getElem_cons_zero, List.getElem_cons_succ, List.setIfInBounds_toArray, List.set_cons_zero, List.set_cons_succ]
                                refine wpAny_done (by kernel_rfl) ?_ _
                                go_wp2_with fail
                                go_meet
                                exact ⟨by rw [Hmx.out], Hb10.out, HBb10.out, HO10.out⟩
                            case rest =>
                            obtain ⟨ho, hC1, hC2, hC3⟩ := hcut
                            subst ho
                            have Hb8 := Lib.hid hC1
                            have HBb8 := Lib.hid hC2
                            have HO8 := Lib.hid hC3
                            clear hC1 hC2 hC3 Hb7 HBb7 HO7
                            have Htb := Lib.hid (show TowAt h k j ↔ ¬ (max z2 z3 ≥ 0 ∧ max z2 z3 < (k : Int)) from ⟨fun e => (Hta.out.1 e).2, fun e => Hta.out.2 ⟨Hq.out, e⟩⟩)
                            generalize max z2 z3 = z at *
                            have Hsf := Lib.hid (fun e : B0 = false => (show strI h k (j + 1) = false from by
                              by_cases e2 : TowAt h k j
                              · exact Hsy.out e2
                              · rw [Hsn.out e2]; exact e))
                            generalize wc = w8 at *
                            cases B0 with
                            | false =>
                              have RS := Lib.hid (Hsf.out rfl)
                              go_wp2_with fail
                              go_roundw
                              case rel => exact ⟨j + 1, by go_num, by omega, by rw [RS.out], Hb8.out, HBb8.out, HO8.out.1, HO8.out.2.1, HO8.out.2.2⟩
                              case measure => simp [intOf]; omega
                            | true =>
                              by_cases e1 : z ≥ 0
                              · by_cases e2 : z < (k : Int)
                                · have RS := Lib.hid (Hsn.out fun e => (Htb.out.1 e) ⟨e1, e2⟩)
                                  go_wp2_with fail
                                  go_roundw
                                  case rel => exact ⟨j + 1, by go_num, by omega, by rw [RS.out], Hb8.out, HBb8.out, HO8.out.1, HO8.out.2.1, HO8.out.2.2⟩
                                  case measure => simp [intOf]; omega
                                · have RS := Lib.hid (Hsy.out (Htb.out.2 fun e => e2 e.2))
                                  go_wp2_with fail
                                  go_roundw
                                  case rel => exact ⟨j + 1, by go_num, by omega, by rw [RS.out], Hb8.out, HBb8.out, HO8.out.1, HO8.out.2.1, HO8.out.2.2⟩
                                  case measure => simp [intOf]; omega
                              · have RS := Lib.hid (Hsy.out (Htb.out.2 fun e => e1 e.1))
                                go_wp2_with fail
                                go_roundw
                                case rel => exact ⟨j + 1, by go_num, by omega, by rw [RS.out], Hb8.out, HBb8.out, HO8.out.1, HO8.out.2.1, HO8.out.2.2⟩
                                case measure => simp [intOf]; omega
                        · have q3 : ((y : Int) == (x : Int)) = false := by rw [beq_eq_false_iff_ne]; omega
                          have RS := Lib.hid (Hsn.out fun e => f3 (Hta.out.1 e).1.1.2)
                          clear f1 f2 f3
                          go_wp2_with fail
                          go_roundw
                          case rel => exact ⟨j + 1, by go_num, by omega, by rw [RS.out], Hb7.out, HBb7.out, HO7.out.1, HO7.out.2.1, HO7.out.2.2⟩
                          case measure => simp [intOf]; omega
                      · have q2 : ((r : Int) == 1) = false := by rw [beq_eq_false_iff_ne]; omega
                        have RS := Lib.hid (Hsn.out fun e => f2 (Hta.out.1 e).1.1.1.2)
                        clear f1 f2
                        go_wp2_with fail
                        go_roundw
                        case rel => exact ⟨j + 1, by go_num, by omega, by rw [RS.out], Hb7.out, HBb7.out, HO7.out.1, HO7.out.2.1, HO7.out.2.2⟩
                        case measure => simp [intOf]; omega
                    · have q1 : ¬ (q : Int) < 2 := by omega
                      have RS := Lib.hid (Hsn.out fun e => f1 (Hta.out.1 e).1.1.1.1)
                      clear f1
                      go_wp2_with fail
                      go_roundw
                      case rel => exact ⟨j + 1, by go_num, by omega, by rw [RS.out], Hb7.out, HBb7.out, HO7.out.1, HO7.out.2.1, HO7.out.2.2⟩
                      case measure => simp [intOf]; omega
                  · obtain rfl : j = k := by omega
                    have RS := Lib.hid (strI_end h j)
                    go_wp2_with fail
                    go_roundw
                    case rel => exact ⟨j + 1, by go_num, by omega, by rw [RR.out], by rw [RC.out], by rw [RS.out], Hb6.out, HBb6.out⟩
                    case measure => simp [intOf]; omega
            · have e0 : C1 = false := by rw [HC1.out, decide_eq_false (fun e => e2 e.1)]; rfl
              subst e0
              go_wp2_with fail
              go_loopw [7, 71] (fun r3 i wx => ∃ j : Nat, i = .int .i64 j ∧ j ≤ k ∧ r3 = .bool (strI h k j) ∧ Below w.heap.size w wx ∧ Below w4.heap.size w4 wx ∧ wx.cell? ⟨ob, 0, none⟩ = some (.int .i64 t) ∧ wx.cell? ⟨ob, 1, none⟩ = some (.int .i64 q) ∧ wx.cell? ⟨ob, 2, none⟩ = some (.int .i64 x)) (fun _ i _ => k - (intOf i).toNat)
              case atStart => exact ⟨0, rfl, Nat.zero_le _, by rw [strI_0], Hb8.out, HBb8.out, HO8.out.1, HO8.out.2.1, HO8.out.2.2⟩
              case round =>
                obtain ⟨j, rfl, hj, rfl, hb6, hbb6, g0, g1, g2⟩ := hrel
                have Hb6 := Lib.hid hb6
                have HBb6 := Lib.hid hbb6
                have HO6 := Lib.hid (And.intro g0 (And.intro g1 g2))
                clear hb6 hbb6 g0 g1 g2
                by_cases hjk : j < k
                · have hjl : j < h.length := by omega
                  have hd1 := Below.keep Hb6.out (Hc.out j hjl).1
                  have hd2 := Below.keep Hb6.out (Hc.out j hjl).2.1
                  have hd3 := Below.keep Hb6.out (Hc.out j hjl).2.2
                  have hixk := Hixj.out k hk j
                  have Hsn := Lib.hid (fun e => strI_no (h := h) (k := k) (j := j) e)
                  have Hsy := Lib.hid (fun e => strI_yes (h := h) (k := k) (j := j) e)
                  have Hta := Lib.hid (Htd.out j hjl)
                  obtain ⟨s, hs⟩ : ∃ s, s = tT h j := ⟨_, rfl⟩
                  obtain ⟨r, hr⟩ : ∃ r, r = tK h j := ⟨_, rfl⟩
                  obtain ⟨y, hy⟩ : ∃ y, y = tI h j := ⟨_, rfl⟩
                  rw [← hs] at hd1 Hta
                  rw [← hr] at hd2 Hta
                  rw [← hy] at hd3 Hta
                  obtain ⟨z2, hz2⟩ : ∃ z2, z2 = endI h 2 s := ⟨_, rfl⟩
                  obtain ⟨z3, hz3⟩ : ∃ z3, z3 = endI h 3 s := ⟨_, rfl⟩
                  rw [← hz2, ← hz3] at Hta
                  have Hz := Lib.hid (And.intro hz2 hz3)
                  obtain ⟨B0, hB0⟩ : ∃ B0, B0 = strI h k j := ⟨_, rfl⟩
                  rw [← hB0] at Hsn ⊢
                  clear hs hr hy hz2 hz3 hB0
                  have hbn := below_alloc wr (.cells #[.int .i64 s, .int .i64 r, .int .i64 y] 55)
                  have HP := Lib.hid (And.intro (show (wr.alloc (.cells #[.int .i64 s, .int .i64 r, .int .i64 y] 55)).cell? ⟨wr.heap.size, 0, none⟩ = some (.int .i64 s) from cell_new wr _ _ 0) (And.intro (show (wr.alloc (.cells #[.int .i64 s, .int .i64 r, .int .i64 y] 55)).cell? ⟨wr.heap.size, 1, none⟩ = some (.int .i64 r) from cell_new wr _ _ 1) (show (wr.alloc (.cells #[.int .i64 s, .int .i64 r, .int .i64 y] 55)).cell? ⟨wr.heap.size, 2, none⟩ = some (.int .i64 y) from cell_new wr _ _ 2)))
                  have Hb7 := Lib.hid (Below.tr Hb6.out hbn)
                  have HBb7 := Lib.hid (Below.tr HBb6.out hbn)
                  have HO7 := Lib.hid (And.intro (Below.keep hbn HO6.out.1) (And.intro (Below.keep hbn HO6.out.2.1) (Below.keep hbn HO6.out.2.2)))
                  clear hbn HO6
                  go_upto_region 13 with fail
                  clear hd1 hd2 hd3 hixk
                  generalize hpb : wr.heap.size = pb at *
                  clear hpb Hb6 HBb6
                  generalize wr.alloc (.cells #[.int .i64 s, .int .i64 r, .int .i64 y] 55) = w7 at *
                  have p0 := HP.out.1
                  have p1 := HP.out.2.1
                  have p2 := HP.out.2.2
                  have g0 := HO7.out.1
                  have g1 := HO7.out.2.1
                  have g2 := HO7.out.2.2
                  by_cases f1 : q < 2
                  · have q1 : (q : Int) < 2 := by omega
                    by_cases f2 : r = 1
                    · have q2 : ((r : Int) == 1) = true := by rw [beq_iff_eq]; omega
                      by_cases f3 : y = x
                      · have q3 : ((y : Int) == (x : Int)) = true := by rw [beq_iff_eq]; omega
                        by_cases f4 : s = t
                        · have q4 : ((s : Int) != (t : Int)) = false := by rw [bne_eq_false_iff_eq]; omega
                          have RS := Lib.hid (Hsn.out fun e => (Hta.out.1 e).1.2 f4)
                          clear f1 f2 f3 f4
                          go_wp2_with fail
                          go_roundw
                          case rel => exact ⟨j + 1, by go_num, by omega, by rw [RS.out], Hb7.out, HBb7.out, HO7.out.1, HO7.out.2.1, HO7.out.2.2⟩
                          case measure => simp [intOf]; omega
                        · have q4 : ((s : Int) != (t : Int)) = true := by rw [bne_iff_ne]; omega
                          have Hq := Lib.hid (show (((q < 2 ∧ r = 1) ∧ y = x) ∧ s ≠ t) from ⟨⟨⟨f1, f2⟩, f3⟩, f4⟩)
                          clear f1 f2 f3 f4
                          go_upto_region 14 with fail
                          clear g0 g1 g2 p1 p2
                          go_cut [15] (fun o wc => o = .int .i64 (max z2 z3) ∧ Below w.heap.size w wc ∧ Below w4.heap.size w4 wc ∧ wc.cell? ⟨ob, 0, none⟩ = some (.int .i64 t) ∧ wc.cell? ⟨ob, 1, none⟩ = some (.int .i64 q) ∧ wc.cell? ⟨ob, 2, none⟩ = some (.int .i64 x))
                          case first =>
                            have Hb8 := Lib.hid (show Below w.heap.size w w7.drew from Hb7.out.drew)
                            have HBb8 := Lib.hid (show Below w4.heap.size w4 w7.drew from HBb7.out.drew)
                            have HO8 := Lib.hid (show w7.drew.cell? ⟨ob, 0, none⟩ = some (.int .i64 t) ∧ w7.drew.cell? ⟨ob, 1, none⟩ = some (.int .i64 q) ∧ w7.drew.cell? ⟨ob, 2, none⟩ = some (.int .i64 x) from HO7.out)
                            have HP8 := Lib.hid (show w7.drew.cell? ⟨pb, 0, none⟩ = some (.int .i64 s) from p0)
                            obtain ⟨Z, hZ⟩ : ∃ Z, Z = max z2 z3 := ⟨_, rfl⟩
                            have hmx : (if z2 < z3 then z3 else z2) = Z := by rw [hZ]; split <;> omega
                            have Hmx := Lib.hid hZ.symm
                            clear hZ
                            have HE2 := HE.out 2 (by omega) s
                            have HE3 := HE.out 3 (by omega) s
                            rw [← Hz.out.1] at HE2
                            rw [← Hz.out.2] at HE3
                            have HE2 := Lib.hid HE2
                            have HE3 := Lib.hid HE3
                            refine wp_region_any (by kernel_rfl) ?_
                            change wpAny _ _ _ _ _ _ _ (World.drew _)
                            refine wpAny_take (i := 0) (v := ?_) rfl (by kernel_rfl) (by kernel_rfl) (by kernel_rfl) (fun _ _ _ h => h) (Or.inl ⟨by rfl, ?_⟩) ?_
                            rotate_left
                            focus (first | (intro w; go_simp; done) | (intro w; go_simp; with_reducible rfl))
                            simp only [Act.put, List.getElem_toArray, List.getElem_cons_zero, List.setIfInBounds_toArray, List.set_cons_zero, List.set_cons_succ]
                            refine wpAny_take (i := 1) (v := ?_) rfl (by kernel_rfl) (by kernel_rfl) (by kernel_rfl) (fun _ _ _ h => h) (Or.inl ⟨by rfl, ?_⟩) ?_
                            rotate_left
                            focus (first | (intro w; go_simp; done) | (intro w; go_simp; with_reducible rfl))
                            simp only [Act.put, List.getElem_toArray, List.getElem_cons_zero, List.getElem_cons_succ, List.setIfInBounds_toArray, List.set_cons_zero, List.set_cons_succ]
                            refine wpAny_take (i := 4) (v := ?_) rfl (by kernel_rfl) (by kernel_rfl) (by kernel_rfl) (fun _ _ _ h => h) (Or.inl ⟨by rfl, ?_⟩) ?_
                            rotate_left
                            focus (first | (intro w; go_simp; done) | (intro w; go_simp; with_reducible rfl))
                            simp only [Act.put, List.getElem_toArray, List.getElem_cons_zero, List.getElem_cons_succ, List.setIfInBounds_toArray, List.set_cons_zero, List.set_cons_succ]
                            refine wpAny_take (i := 5) (v := ?_) rfl (by kernel_rfl) (by kernel_rfl) (by kernel_rfl) (fun _ _ _ h => h) (Or.inl ⟨by rfl, ?_⟩) ?_
                            rotate_left
                            focus (first | (intro w; go_simp; done) | (intro w; go_simp; with_reducible rfl))
                            simp only [Act.put, List.getElem_toArray, List.getElem_cons_zero, List.getElem_cons_succ, List.setIfInBounds_toArray, List.set_cons_zero, List.set_cons_succ]
                            refine wpAny_ready (rs := [2, 6]) (by kernel_rfl) (by simp) ?_
                            refine AllReady.cons rfl (fun K hK => ?_) ?_
                            · skip
                              go_simp
                              refine hK _ _ ?_
                              clear hK K
                              refine wpAny_ready (rs := [3, 6]) (by kernel_rfl) (by simp) ?_
                              refine AllReady.cons rfl (fun K hK => ?_) ?_
                              · skip
                                go_simp
                                go_at_call 51
                                refine (HE2.out _ (by exact Hb8.out)).mono ?_
                                rintro e w9 ⟨rfl, hb9⟩
                                have Hb9 := Lib.hid (Below.tr (by exact Hb8.out) hb9)
                                have HBb9 := Lib.hid (Below.tr (by exact HBb8.out) hb9)
                                have HO9 := Lib.hid (And.intro (Below.keep hb9 (by exact HO8.out.1)) (And.intro (Below.keep hb9 (by exact HO8.out.2.1)) (Below.keep hb9 (by exact HO8.out.2.2))))
                                have HP9 := Lib.hid (Below.keep hb9 (by exact HP8.out))
                                have p0' := HP9.out
                                clear hb9
                                go_simp
                                refine hK _ _ ?_
                                clear hK K
                                refine wpAny_ready (rs := [6]) (by kernel_rfl) (by simp) ?_
                                refine AllReady.cons rfl (fun K hK => ?_) AllReady.nil
                                go_simp
                                refine hK _ _ ?_
                                clear hK K
                                refine wpAny_ready (rs := [7]) (by kernel_rfl) (by simp) ?_
                                refine AllReady.cons rfl (fun K hK => ?_) AllReady.nil
                                go_simp
                                go_at_call 51
                                refine (HE3.out _ (by exact Hb9.out)).mono ?_
                                rintro e w10 ⟨rfl, hb10⟩
                                have Hb10 := Lib.hid (Below.tr (by exact Hb9.out) hb10)
                                have HBb10 := Lib.hid (Below.tr (by exact HBb9.out) hb10)
                                have HO10 := Lib.hid (And.intro (Below.keep hb10 (by exact HO9.out.1)) (And.intro (Below.keep hb10 (by exact HO9.out.2.1)) (Below.keep hb10 (by exact HO9.out.2.2))))
                                have HP10 := Lib.hid (Below.keep hb10 (by exact HP9.out))
                                have p0' := HP10.out
                                clear hb10
                                go_simp
                                refine hK _ _ ?_
                                clear hK K
                                refine wpAny_take (i := 8) (v := ?_) rfl (by kernel_rfl) (by kernel_rfl) (by kernel_rfl) (fun _ _ _ h => h) (Or.inl ⟨by rfl, ?_⟩) ?_
                                rotate_left
                                focus (first | (intro w; go_simp; done) | (intro w; go_simp; with_reducible rfl))
                                simp only [Act.put, List.getElem_toArray, List.getElem_cons_zero, List.getElem_cons_succ, List.setIfInBounds_toArray, List.set_cons_zero, List.set_cons_succ]
                                refine wpAny_take (i := 9) (v := ?_) rfl (by kernel_rfl) (by kernel_rfl) (by kernel_rfl) (fun _ _ _ h => h) (Or.inl ⟨by rfl, ?_⟩) ?_
                                rotate_left
                                focus (first | (intro w; go_simp; done) | (intro w; go_simp; with_reducible rfl))
                                simp only [Act.put, List.getElem_toArray, List.getElem_cons_zero, List.getElem_cons_succ, List.setIfInBounds_toArray, List.set_cons_zero, List.set_cons_succ]
                                refine wpAny_done (by kernel_rfl) ?_ _
                                go_wp2_with fail
                                go_meet
                                exact ⟨by rw [Hmx.out], Hb10.out, HBb10.out, HO10.out⟩
                              · refine AllReady.cons rfl (fun K hK => ?_) AllReady.nil
                                go_simp
                                refine hK _ _ ?_
                                clear hK K
                                refine wpAny_ready (rs := [3]) (by kernel_rfl) (by simp) ?_
                                refine AllReady.cons rfl (fun K hK => ?_) AllReady.nil
                                go_simp
                                go_at_call 51
                                refine (HE2.out _ (by exact Hb8.out)).mono ?_
                                rintro e w9 ⟨rfl, hb9⟩
                                have Hb9 := Lib.hid (Below.tr (by exact Hb8.out) hb9)
                                have HBb9 := Lib.hid (Below.tr (by exact HBb8.out) hb9)
                                have HO9 := Lib.hid (And.intro (Below.keep hb9 (by exact HO8.out.1)) (And.intro (Below.keep hb9 (by exact HO8.out.2.1)) (Below.keep hb9 (by exact HO8.out.2.2))))
                                have HP9 := Lib.hid (Below.keep hb9 (by exact HP8.out))
                                have p0' := HP9.out
                                clear hb9
                                go_simp
                                refine hK _ _ ?_
                                clear hK K
                                refine wpAny_ready (rs := [7]) (by kernel_rfl) (by simp) ?_
                                refine AllReady.cons rfl (fun K hK => ?_) AllReady.nil
                                go_simp
                                go_at_call 51
                                refine (HE3.out _ (by exact Hb9.out)).mono ?_
                                rintro e w10 ⟨rfl, hb10⟩
                                have Hb10 := Lib.hid (Below.tr (by exact Hb9.out) hb10)
                                have HBb10 := Lib.hid (Below.tr (by exact HBb9.out) hb10)
                                have HO10 := Lib.hid (And.intro (Below.keep hb10 (by exact HO9.out.1)) (And.intro (Below.keep hb10 (by exact HO9.out.2.1)) (Below.keep hb10 (by exact HO9.out.2.2))))
                                have HP10 := Lib.hid (Below.keep hb10 (by exact HP9.out))
                                have p0' := HP10.out
                                clear hb10
                                go_simp
                                refine hK _ _ ?_
                                clear hK K
                                refine wpAny_take (i := 8) (v := ?_) rfl (by kernel_rfl) (by kernel_rfl) (by kernel_rfl) (fun _ _ _ h => h) (Or.inl ⟨by rfl, ?_⟩) ?_
                                rotate_left
                                focus (first | (intro w; go_simp; done) | (intro w; go_simp; with_reducible rfl))
                                simp only [Act.put, List.getElem_toArray, List.getElem_cons_zero, List.getElem_cons_succ, List.setIfInBounds_toArray, List.set_cons_zero, List.set_cons_succ]
                                refine wpAny_take (i := 9) (v := ?_) rfl (by kernel_rfl) (by kernel_rfl) (by kernel_rfl) (fun _ _ _ h => h) (Or.inl ⟨by rfl, ?_⟩) ?_
                                rotate_left
                                focus (first | (intro w; go_simp; done) | (intro w; go_simp; with_reducible rfl))
                                simp only [Act.put, List.getElem_toArray, List.getElem_cons_zero, List.getElem_cons_succ, List.setIfInBounds_toArray, List.set_cons_zero, List.set_cons_succ]
                                refine wpAny_done (by kernel_rfl) ?_ _
                                go_wp2_with fail
                                go_meet
                                exact ⟨by rw [Hmx.out], Hb10.out, HBb10.out, HO10.out⟩
                            · refine AllReady.cons rfl (fun K hK => ?_) AllReady.nil
                              go_simp
                              refine hK _ _ ?_
                              clear hK K
                              refine wpAny_ready (rs := [2]) (by kernel_rfl) (by simp) ?_
                              refine AllReady.cons rfl (fun K hK => ?_) AllReady.nil
                              go_simp
                              refine hK _ _ ?_
                              clear hK K
                              refine wpAny_ready (rs := [3]) (by kernel_rfl) (by simp) ?_
                              refine AllReady.cons rfl (fun K hK => ?_) AllReady.nil
                              go_simp
                              go_at_call 51
                              refine (HE2.out _ (by exact Hb8.out)).mono ?_
                              rintro e w9 ⟨rfl, hb9⟩
                              have Hb9 := Lib.hid (Below.tr (by exact Hb8.out) hb9)
                              have HBb9 := Lib.hid (Below.tr (by exact HBb8.out) hb9)
                              have HO9 := Lib.hid (And.intro (Below.keep hb9 (by exact HO8.out.1)) (And.intro (Below.keep hb9 (by exact HO8.out.2.1)) (Below.keep hb9 (by exact HO8.out.2.2))))
                              have HP9 := Lib.hid (Below.keep hb9 (by exact HP8.out))
                              have p0' := HP9.out
                              clear hb9
                              go_simp
                              refine hK _ _ ?_
                              clear hK K
                              refine wpAny_ready (rs := [7]) (by kernel_rfl) (by simp) ?_
                              refine AllReady.cons rfl (fun K hK => ?_) AllReady.nil
                              go_simp
                              go_at_call 51
                              refine (HE3.out _ (by exact Hb9.out)).mono ?_
                              rintro e w10 ⟨rfl, hb10⟩
                              have Hb10 := Lib.hid (Below.tr (by exact Hb9.out) hb10)
                              have HBb10 := Lib.hid (Below.tr (by exact HBb9.out) hb10)
                              have HO10 := Lib.hid (And.intro (Below.keep hb10 (by exact HO9.out.1)) (And.intro (Below.keep hb10 (by exact HO9.out.2.1)) (Below.keep hb10 (by exact HO9.out.2.2))))
                              have HP10 := Lib.hid (Below.keep hb10 (by exact HP9.out))
                              have p0' := HP10.out
                              clear hb10
                              go_simp
                              refine hK _ _ ?_
                              clear hK K
                              refine wpAny_take (i := 8) (v := ?_) rfl (by kernel_rfl) (by kernel_rfl) (by kernel_rfl) (fun _ _ _ h => h) (Or.inl ⟨by rfl, ?_⟩) ?_
                              rotate_left
                              focus (first | (intro w; go_simp; done) | (intro w; go_simp; with_reducible rfl))
                              simp only [Act.put, List.getElem_toArray, List.getElem_cons_zero, List.getElem_cons_succ, List.setIfInBounds_toArray, List.set_cons_zero, List.set_cons_succ]
                              refine wpAny_take (i := 9) (v := ?_) rfl (by kernel_rfl) (by kernel_rfl) (by kernel_rfl) (fun _ _ _ h => h) (Or.inl ⟨by rfl, ?_⟩) ?_
                              rotate_left
                              focus (first | (intro w; go_simp; done) | (intro w; go_simp; with_reducible rfl))
                              simp only [Act.put, List.getElem_toArray, List.getElem_cons_zero, List.getElem_cons_succ, List.setIfInBounds_toArray, List.set_cons_zero, List.set_cons_succ]
                              refine wpAny_done (by kernel_rfl) ?_ _
                              go_wp2_with fail
                              go_meet
                              exact ⟨by rw [Hmx.out], Hb10.out, HBb10.out, HO10.out⟩
                          case rest =>
                          obtain ⟨ho, hC1, hC2, hC3⟩ := hcut
                          subst ho
                          have Hb8 := Lib.hid hC1
                          have HBb8 := Lib.hid hC2
                          have HO8 := Lib.hid hC3
                          clear hC1 hC2 hC3 Hb7 HBb7 HO7
                          have Htb := Lib.hid (show TowAt h k j ↔ ¬ (max z2 z3 ≥ 0 ∧ max z2 z3 < (k : Int)) from ⟨fun e => (Hta.out.1 e).2, fun e => Hta.out.2 ⟨Hq.out, e⟩⟩)
                          generalize max z2 z3 = z at *
                          have Hsf := Lib.hid (fun e : B0 = false => (show strI h k (j + 1) = false from by
                            by_cases e2 : TowAt h k j
                            · exact Hsy.out e2
                            · rw [Hsn.out e2]; exact e))
                          generalize wc = w8 at *
                          cases B0 with
                          | false =>
                            have RS := Lib.hid (Hsf.out rfl)
                            go_wp2_with fail
                            go_roundw
                            case rel => exact ⟨j + 1, by go_num, by omega, by rw [RS.out], Hb8.out, HBb8.out, HO8.out.1, HO8.out.2.1, HO8.out.2.2⟩
                            case measure => simp [intOf]; omega
                          | true =>
                            by_cases e1 : z ≥ 0
                            · by_cases e2 : z < (k : Int)
                              · have RS := Lib.hid (Hsn.out fun e => (Htb.out.1 e) ⟨e1, e2⟩)
                                go_wp2_with fail
                                go_roundw
                                case rel => exact ⟨j + 1, by go_num, by omega, by rw [RS.out], Hb8.out, HBb8.out, HO8.out.1, HO8.out.2.1, HO8.out.2.2⟩
                                case measure => simp [intOf]; omega
                              · have RS := Lib.hid (Hsy.out (Htb.out.2 fun e => e2 e.2))
                                go_wp2_with fail
                                go_roundw
                                case rel => exact ⟨j + 1, by go_num, by omega, by rw [RS.out], Hb8.out, HBb8.out, HO8.out.1, HO8.out.2.1, HO8.out.2.2⟩
                                case measure => simp [intOf]; omega
                            · have RS := Lib.hid (Hsy.out (Htb.out.2 fun e => e1 e.1))
                              go_wp2_with fail
                              go_roundw
                              case rel => exact ⟨j + 1, by go_num, by omega, by rw [RS.out], Hb8.out, HBb8.out, HO8.out.1, HO8.out.2.1, HO8.out.2.2⟩
                              case measure => simp [intOf]; omega
                      · have q3 : ((y : Int) == (x : Int)) = false := by rw [beq_eq_false_iff_ne]; omega
                        have RS := Lib.hid (Hsn.out fun e => f3 (Hta.out.1 e).1.1.2)
                        clear f1 f2 f3
                        go_wp2_with fail
                        go_roundw
                        case rel => exact ⟨j + 1, by go_num, by omega, by rw [RS.out], Hb7.out, HBb7.out, HO7.out.1, HO7.out.2.1, HO7.out.2.2⟩
                        case measure => simp [intOf]; omega
                    · have q2 : ((r : Int) == 1) = false := by rw [beq_eq_false_iff_ne]; omega
                      have RS := Lib.hid (Hsn.out fun e => f2 (Hta.out.1 e).1.1.1.2)
                      clear f1 f2
                      go_wp2_with fail
                      go_roundw
                      case rel => exact ⟨j + 1, by go_num, by omega, by rw [RS.out], Hb7.out, HBb7.out, HO7.out.1, HO7.out.2.1, HO7.out.2.2⟩
                      case measure => simp [intOf]; omega
                  · have q1 : ¬ (q : Int) < 2 := by omega
                    have RS := Lib.hid (Hsn.out fun e => f1 (Hta.out.1 e).1.1.1.1)
                    clear f1
                    go_wp2_with fail
                    go_roundw
                    case rel => exact ⟨j + 1, by go_num, by omega, by rw [RS.out], Hb7.out, HBb7.out, HO7.out.1, HO7.out.2.1, HO7.out.2.2⟩
                    case measure => simp [intOf]; omega
                · obtain rfl : j = k := by omega
                  have RS := Lib.hid (strI_end h j)
                  go_wp2_with fail
                  go_roundw
                  case rel => exact ⟨j + 1, by go_num, by omega, by rw [RR.out], by rw [RC.out], by rw [RS.out], Hb6.out, HBb6.out⟩
                  case measure => simp [intOf]; omega
      · have RR := Lib.hid (Hrn.out fun e => f1 e.1)
        have RC := Lib.hid (Hcn.out fun e => f1 e.1)
        go_wp2_with fail
        go_loopw [7, 71] (fun r3 i wx => ∃ j : Nat, i = .int .i64 j ∧ j ≤ k ∧ r3 = .bool (strI h k j) ∧ Below w.heap.size w wx ∧ Below w4.heap.size w4 wx ∧ wx.cell? ⟨ob, 0, none⟩ = some (.int .i64 t) ∧ wx.cell? ⟨ob, 1, none⟩ = some (.int .i64 q) ∧ wx.cell? ⟨ob, 2, none⟩ = some (.int .i64 x)) (fun _ i _ => k - (intOf i).toNat)
        case atStart => exact ⟨0, rfl, Nat.zero_le _, by rw [strI_0], Hb5.out, HBb5.out, HO.out.1, HO.out.2.1, HO.out.2.2⟩
        case round =>
          obtain ⟨j, rfl, hj, rfl, hb6, hbb6, g0, g1, g2⟩ := hrel
          have Hb6 := Lib.hid hb6
          have HBb6 := Lib.hid hbb6
          have HO6 := Lib.hid (And.intro g0 (And.intro g1 g2))
          clear hb6 hbb6 g0 g1 g2
          by_cases hjk : j < k
          · have hjl : j < h.length := by omega
            have hd1 := Below.keep Hb6.out (Hc.out j hjl).1
            have hd2 := Below.keep Hb6.out (Hc.out j hjl).2.1
            have hd3 := Below.keep Hb6.out (Hc.out j hjl).2.2
            have hixk := Hixj.out k hk j
            have Hsn := Lib.hid (fun e => strI_no (h := h) (k := k) (j := j) e)
            have Hsy := Lib.hid (fun e => strI_yes (h := h) (k := k) (j := j) e)
            have Hta := Lib.hid (Htd.out j hjl)
            obtain ⟨s, hs⟩ : ∃ s, s = tT h j := ⟨_, rfl⟩
            obtain ⟨r, hr⟩ : ∃ r, r = tK h j := ⟨_, rfl⟩
            obtain ⟨y, hy⟩ : ∃ y, y = tI h j := ⟨_, rfl⟩
            rw [← hs] at hd1 Hta
            rw [← hr] at hd2 Hta
            rw [← hy] at hd3 Hta
            obtain ⟨z2, hz2⟩ : ∃ z2, z2 = endI h 2 s := ⟨_, rfl⟩
            obtain ⟨z3, hz3⟩ : ∃ z3, z3 = endI h 3 s := ⟨_, rfl⟩
            rw [← hz2, ← hz3] at Hta
            have Hz := Lib.hid (And.intro hz2 hz3)
            obtain ⟨B0, hB0⟩ : ∃ B0, B0 = strI h k j := ⟨_, rfl⟩
            rw [← hB0] at Hsn ⊢
            clear hs hr hy hz2 hz3 hB0
            have hbn := below_alloc wr (.cells #[.int .i64 s, .int .i64 r, .int .i64 y] 55)
            have HP := Lib.hid (And.intro (show (wr.alloc (.cells #[.int .i64 s, .int .i64 r, .int .i64 y] 55)).cell? ⟨wr.heap.size, 0, none⟩ = some (.int .i64 s) from cell_new wr _ _ 0) (And.intro (show (wr.alloc (.cells #[.int .i64 s, .int .i64 r, .int .i64 y] 55)).cell? ⟨wr.heap.size, 1, none⟩ = some (.int .i64 r) from cell_new wr _ _ 1) (show (wr.alloc (.cells #[.int .i64 s, .int .i64 r, .int .i64 y] 55)).cell? ⟨wr.heap.size, 2, none⟩ = some (.int .i64 y) from cell_new wr _ _ 2)))
            have Hb7 := Lib.hid (Below.tr Hb6.out hbn)
            have HBb7 := Lib.hid (Below.tr HBb6.out hbn)
            have HO7 := Lib.hid (And.intro (Below.keep hbn HO6.out.1) (And.intro (Below.keep hbn HO6.out.2.1) (Below.keep hbn HO6.out.2.2)))
            clear hbn HO6
            go_upto_region 13 with fail
            clear hd1 hd2 hd3 hixk
            generalize hpb : wr.heap.size = pb at *
            clear hpb Hb6 HBb6
            generalize wr.alloc (.cells #[.int .i64 s, .int .i64 r, .int .i64 y] 55) = w7 at *
            have p0 := HP.out.1
            have p1 := HP.out.2.1
            have p2 := HP.out.2.2
            have g0 := HO7.out.1
            have g1 := HO7.out.2.1
            have g2 := HO7.out.2.2
            by_cases f1 : q < 2
            · have q1 : (q : Int) < 2 := by omega
              by_cases f2 : r = 1
              · have q2 : ((r : Int) == 1) = true := by rw [beq_iff_eq]; omega
                by_cases f3 : y = x
                · have q3 : ((y : Int) == (x : Int)) = true := by rw [beq_iff_eq]; omega
                  by_cases f4 : s = t
                  · have q4 : ((s : Int) != (t : Int)) = false := by rw [bne_eq_false_iff_eq]; omega
                    have RS := Lib.hid (Hsn.out fun e => (Hta.out.1 e).1.2 f4)
                    clear f1 f2 f3 f4
                    go_wp2_with fail
                    go_roundw
                    case rel => exact ⟨j + 1, by go_num, by omega, by rw [RS.out], Hb7.out, HBb7.out, HO7.out.1, HO7.out.2.1, HO7.out.2.2⟩
                    case measure => simp [intOf]; omega
                  · have q4 : ((s : Int) != (t : Int)) = true := by rw [bne_iff_ne]; omega
                    have Hq := Lib.hid (show (((q < 2 ∧ r = 1) ∧ y = x) ∧ s ≠ t) from ⟨⟨⟨f1, f2⟩, f3⟩, f4⟩)
                    clear f1 f2 f3 f4
                    go_upto_region 14 with fail
                    clear g0 g1 g2 p1 p2
                    go_cut [15] (fun o wc => o = .int .i64 (max z2 z3) ∧ Below w.heap.size w wc ∧ Below w4.heap.size w4 wc ∧ wc.cell? ⟨ob, 0, none⟩ = some (.int .i64 t) ∧ wc.cell? ⟨ob, 1, none⟩ = some (.int .i64 q) ∧ wc.cell? ⟨ob, 2, none⟩ = some (.int .i64 x))
                    case first =>
                      have Hb8 := Lib.hid (show Below w.heap.size w w7.drew from Hb7.out.drew)
                      have HBb8 := Lib.hid (show Below w4.heap.size w4 w7.drew from HBb7.out.drew)
                      have HO8 := Lib.hid (show w7.drew.cell? ⟨ob, 0, none⟩ = some (.int .i64 t) ∧ w7.drew.cell? ⟨ob, 1, none⟩ = some (.int .i64 q) ∧ w7.drew.cell? ⟨ob, 2, none⟩ = some (.int .i64 x) from HO7.out)
                      have HP8 := Lib.hid (show w7.drew.cell? ⟨pb, 0, none⟩ = some (.int .i64 s) from p0)
                      obtain ⟨Z, hZ⟩ : ∃ Z, Z = max z2 z3 := ⟨_, rfl⟩
                      have hmx : (if z2 < z3 then z3 else z2) = Z := by rw [hZ]; split <;> omega
                      have Hmx := Lib.hid hZ.symm
                      clear hZ
                      have HE2 := HE.out 2 (by omega) s
                      have HE3 := HE.out 3 (by omega) s
                      rw [← Hz.out.1] at HE2
                      rw [← Hz.out.2] at HE3
                      have HE2 := Lib.hid HE2
                      have HE3 := Lib.hid HE3
                      refine wp_region_any (by kernel_rfl) ?_
                      change wpAny _ _ _ _ _ _ _ (World.drew _)
                      refine wpAny_take (i := 0) (v := ?_) rfl (by kernel_rfl) (by kernel_rfl) (by kernel_rfl) (fun _ _ _ h => h) (Or.inl ⟨by rfl, ?_⟩) ?_
                      rotate_left
                      focus (first | (intro w; go_simp; done) | (intro w; go_simp; with_reducible rfl))
                      simp only [Act.put, List.getElem_toArray, List.getElem_cons_zero, List.setIfInBounds_toArray, List.set_cons_zero, List.set_cons_succ]
                      refine wpAny_take (i := 1) (v := ?_) rfl (by kernel_rfl) (by kernel_rfl) (by kernel_rfl) (fun _ _ _ h => h) (Or.inl ⟨by rfl, ?_⟩) ?_
                      rotate_left
                      focus (first | (intro w; go_simp; done) | (intro w; go_simp; with_reducible rfl))
                      simp only [Act.put, List.getElem_toArray, List.getElem_cons_zero, List.getElem_cons_succ, List.setIfInBounds_toArray, List.set_cons_zero, List.set_cons_succ]
                      refine wpAny_take (i := 4) (v := ?_) rfl (by kernel_rfl) (by kernel_rfl) (by kernel_rfl) (fun _ _ _ h => h) (Or.inl ⟨by rfl, ?_⟩) ?_
                      rotate_left
                      focus (first | (intro w; go_simp; done) | (intro w; go_simp; with_reducible rfl))
                      simp only [Act.put, List.getElem_toArray, List.getElem_cons_zero, List.getElem_cons_succ, List.setIfInBounds_toArray, List.set_cons_zero, List.set_cons_succ]
                      refine wpAny_take (i := 5) (v := ?_) rfl (by kernel_rfl) (by kernel_rfl) (by kernel_rfl) (fun _ _ _ h => h) (Or.inl ⟨by rfl, ?_⟩) ?_
                      rotate_left
                      focus (first | (intro w; go_simp; done) | (intro w; go_simp; with_reducible rfl))
                      simp only [Act.put, List.getElem_toArray, List.getElem_cons_zero, List.getElem_cons_succ, List.setIfInBounds_toArray, List.set_cons_zero, List.set_cons_succ]
                      refine wpAny_ready (rs := [2, 6]) (by kernel_rfl) (by simp) ?_
                      refine AllReady.cons rfl (fun K hK => ?_) ?_
                      · skip
                        go_simp
                        refine hK _ _ ?_
                        clear hK K
                        refine wpAny_ready (rs := [3, 6]) (by kernel_rfl) (by simp) ?_
                        refine AllReady.cons rfl (fun K hK => ?_) ?_
                        · skip
                          go_simp
                          go_at_call 51
                          refine (HE2.out _ (by exact Hb8.out)).mono ?_
                          rintro e w9 ⟨rfl, hb9⟩
                          have Hb9 := Lib.hid (Below.tr (by exact Hb8.out) hb9)
                          have HBb9 := Lib.hid (Below.tr (by exact HBb8.out) hb9)
                          have HO9 := Lib.hid (And.intro (Below.keep hb9 (by exact HO8.out.1)) (And.intro (Below.keep hb9 (by exact HO8.out.2.1)) (Below.keep hb9 (by exact HO8.out.2.2))))
                          have HP9 := Lib.hid (Below.keep hb9 (by exact HP8.out))
                          have p0' := HP9.out
                          clear hb9
                          go_simp
                          refine hK _ _ ?_
                          clear hK K
                          refine wpAny_ready (rs := [6]) (by kernel_rfl) (by simp) ?_
                          refine AllReady.cons rfl (fun K hK => ?_) AllReady.nil
                          go_simp
                          refine hK _ _ ?_
                          clear hK K
                          refine wpAny_ready (rs := [7]) (by kernel_rfl) (by simp) ?_
                          refine AllReady.cons rfl (fun K hK => ?_) AllReady.nil
                          go_simp
                          go_at_call 51
                          refine (HE3.out _ (by exact Hb9.out)).mono ?_
                          rintro e w10 ⟨rfl, hb10⟩
                          have Hb10 := Lib.hid (Below.tr (by exact Hb9.out) hb10)
                          have HBb10 := Lib.hid (Below.tr (by exact HBb9.out) hb10)
                          have HO10 := Lib.hid (And.intro (Below.keep hb10 (by exact HO9.out.1)) (And.intro (Below.keep hb10 (by exact HO9.out.2.1)) (Below.keep hb10 (by exact HO9.out.2.2))))
                          have HP10 := Lib.hid (Below.keep hb10 (by exact HP9.out))
                          have p0' := HP10.out
                          clear hb10
                          go_simp
                          refine hK _ _ ?_
                          clear hK K
                          refine wpAny_take (i := 8) (v := ?_) rfl (by kernel_rfl) (by kernel_rfl) (by kernel_rfl) (fun _ _ _ h => h) (Or.inl ⟨by rfl, ?_⟩) ?_
                          rotate_left
                          focus (first | (intro w; go_simp; done) | (intro w; go_simp; with_reducible rfl))
                          simp only [Act.put, List.getElem_toArray, List.getElem_cons_zero, List.getElem_cons_succ, List.setIfInBounds_toArray, List.set_cons_zero, List.set_cons_succ]
                          refine wpAny_take (i := 9) (v := ?_) rfl (by kernel_rfl) (by kernel_rfl) (by kernel_rfl) (fun _ _ _ h => h) (Or.inl ⟨by rfl, ?_⟩) ?_
                          rotate_left
                          focus (first | (intro w; go_simp; done) | (intro w; go_simp; with_reducible rfl))
                          simp only [Act.put, List.getElem_toArray, List.getElem_cons_zero, List.getElem_cons_succ, List.setIfInBounds_toArray, List.set_cons_zero, List.set_cons_succ]
                          refine wpAny_done (by kernel_rfl) ?_ _
                          go_wp2_with fail
                          go_meet
                          exact ⟨by rw [Hmx.out], Hb10.out, HBb10.out, HO10.out⟩
                        · refine AllReady.cons rfl (fun K hK => ?_) AllReady.nil
                          go_simp
                          refine hK _ _ ?_
                          clear hK K
                          refine wpAny_ready (rs := [3]) (by kernel_rfl) (by simp) ?_
                          refine AllReady.cons rfl (fun K hK => ?_) AllReady.nil
                          go_simp
                          go_at_call 51
                          refine (HE2.out _ (by exact Hb8.out)).mono ?_
                          rintro e w9 ⟨rfl, hb9⟩
                          have Hb9 := Lib.hid (Below.tr (by exact Hb8.out) hb9)
                          have HBb9 := Lib.hid (Below.tr (by exact HBb8.out) hb9)
                          have HO9 := Lib.hid (And.intro (Below.keep hb9 (by exact HO8.out.1)) (And.intro (Below.keep hb9 (by exact HO8.out.2.1)) (Below.keep hb9 (by exact HO8.out.2.2))))
                          have HP9 := Lib.hid (Below.keep hb9 (by exact HP8.out))
                          have p0' := HP9.out
                          clear hb9
                          go_simp
                          refine hK _ _ ?_
                          clear hK K
                          refine wpAny_ready (rs := [7]) (by kernel_rfl) (by simp) ?_
                          refine AllReady.cons rfl (fun K hK => ?_) AllReady.nil
                          go_simp
                          go_at_call 51
                          refine (HE3.out _ (by exact Hb9.out)).mono ?_
                          rintro e w10 ⟨rfl, hb10⟩
                          have Hb10 := Lib.hid (Below.tr (by exact Hb9.out) hb10)
                          have HBb10 := Lib.hid (Below.tr (by exact HBb9.out) hb10)
                          have HO10 := Lib.hid (And.intro (Below.keep hb10 (by exact HO9.out.1)) (And.intro (Below.keep hb10 (by exact HO9.out.2.1)) (Below.keep hb10 (by exact HO9.out.2.2))))
                          have HP10 := Lib.hid (Below.keep hb10 (by exact HP9.out))
                          have p0' := HP10.out
                          clear hb10
                          go_simp
                          refine hK _ _ ?_
                          clear hK K
                          refine wpAny_take (i := 8) (v := ?_) rfl (by kernel_rfl) (by kernel_rfl) (by kernel_rfl) (fun _ _ _ h => h) (Or.inl ⟨by rfl, ?_⟩) ?_
                          rotate_left
                          focus (first | (intro w; go_simp; done) | (intro w; go_simp; with_reducible rfl))
                          simp only [Act.put, List.getElem_toArray, List.getElem_cons_zero, List.getElem_cons_succ, List.setIfInBounds_toArray, List.set_cons_zero, List.set_cons_succ]
                          refine wpAny_take (i := 9) (v := ?_) rfl (by kernel_rfl) (by kernel_rfl) (by kernel_rfl) (fun _ _ _ h => h) (Or.inl ⟨by rfl, ?_⟩) ?_
                          rotate_left
                          focus (first | (intro w; go_simp; done) | (intro w; go_simp; with_reducible rfl))
                          simp only [Act.put, List.getElem_toArray, List.getElem_cons_zero, List.getElem_cons_succ, List.setIfInBounds_toArray, List.set_cons_zero, List.set_cons_succ]
                          refine wpAny_done (by kernel_rfl) ?_ _
                          go_wp2_with fail
                          go_meet
                          exact ⟨by rw [Hmx.out], Hb10.out, HBb10.out, HO10.out⟩
                      · refine AllReady.cons rfl (fun K hK => ?_) AllReady.nil
                        go_simp
                        refine hK _ _ ?_
                        clear hK K
                        refine wpAny_ready (rs := [2]) (by kernel_rfl) (by simp) ?_
                        refine AllReady.cons rfl (fun K hK => ?_) AllReady.nil
                        go_simp
                        refine hK _ _ ?_
                        clear hK K
                        refine wpAny_ready (rs := [3]) (by kernel_rfl) (by simp) ?_
                        refine AllReady.cons rfl (fun K hK => ?_) AllReady.nil
                        go_simp
                        go_at_call 51
                        refine (HE2.out _ (by exact Hb8.out)).mono ?_
                        rintro e w9 ⟨rfl, hb9⟩
                        have Hb9 := Lib.hid (Below.tr (by exact Hb8.out) hb9)
                        have HBb9 := Lib.hid (Below.tr (by exact HBb8.out) hb9)
                        have HO9 := Lib.hid (And.intro (Below.keep hb9 (by exact HO8.out.1)) (And.intro (Below.keep hb9 (by exact HO8.out.2.1)) (Below.keep hb9 (by exact HO8.out.2.2))))
                        have HP9 := Lib.hid (Below.keep hb9 (by exact HP8.out))
                        have p0' := HP9.out
                        clear hb9
                        go_simp
                        refine hK _ _ ?_
                        clear hK K
                        refine wpAny_ready (rs := [7]) (by kernel_rfl) (by simp) ?_
                        refine AllReady.cons rfl (fun K hK => ?_) AllReady.nil
                        go_simp
                        go_at_call 51
                        refine (HE3.out _ (by exact Hb9.out)).mono ?_
                        rintro e w10 ⟨rfl, hb10⟩
                        have Hb10 := Lib.hid (Below.tr (by exact Hb9.out) hb10)
                        have HBb10 := Lib.hid (Below.tr (by exact HBb9.out) hb10)
                        have HO10 := Lib.hid (And.intro (Below.keep hb10 (by exact HO9.out.1)) (And.intro (Below.keep hb10 (by exact HO9.out.2.1)) (Below.keep hb10 (by exact HO9.out.2.2))))
                        have HP10 := Lib.hid (Below.keep hb10 (by exact HP9.out))
                        have p0' := HP10.out
                        clear hb10
                        go_simp
                        refine hK _ _ ?_
                        clear hK K
                        refine wpAny_take (i := 8) (v := ?_) rfl (by kernel_rfl) (by kernel_rfl) (by kernel_rfl) (fun _ _ _ h => h) (Or.inl ⟨by rfl, ?_⟩) ?_
                        rotate_left
                        focus (first | (intro w; go_simp; done) | (intro w; go_simp; with_reducible rfl))
                        simp only [Act.put, List.getElem_toArray, List.getElem_cons_zero, List.getElem_cons_succ, List.setIfInBounds_toArray, List.set_cons_zero, List.set_cons_succ]
                        refine wpAny_take (i := 9) (v := ?_) rfl (by kernel_rfl) (by kernel_rfl) (by kernel_rfl) (fun _ _ _ h => h) (Or.inl ⟨by rfl, ?_⟩) ?_
                        rotate_left
                        focus (first | (intro w; go_simp; done) | (intro w; go_simp; with_reducible rfl))
                        simp only [Act.put, List.getElem_toArray, List.getElem_cons_zero, List.getElem_cons_succ, List.setIfInBounds_toArray, List.set_cons_zero, List.set_cons_succ]
                        refine wpAny_done (by kernel_rfl) ?_ _
                        go_wp2_with fail
                        go_meet
                        exact ⟨by rw [Hmx.out], Hb10.out, HBb10.out, HO10.out⟩
                    case rest =>
                    obtain ⟨ho, hC1, hC2, hC3⟩ := hcut
                    subst ho
                    have Hb8 := Lib.hid hC1
                    have HBb8 := Lib.hid hC2
                    have HO8 := Lib.hid hC3
                    clear hC1 hC2 hC3 Hb7 HBb7 HO7
                    have Htb := Lib.hid (show TowAt h k j ↔ ¬ (max z2 z3 ≥ 0 ∧ max z2 z3 < (k : Int)) from ⟨fun e => (Hta.out.1 e).2, fun e => Hta.out.2 ⟨Hq.out, e⟩⟩)
                    generalize max z2 z3 = z at *
                    have Hsf := Lib.hid (fun e : B0 = false => (show strI h k (j + 1) = false from by
                      by_cases e2 : TowAt h k j
                      · exact Hsy.out e2
                      · rw [Hsn.out e2]; exact e))
                    generalize wc = w8 at *
                    cases B0 with
                    | false =>
                      have RS := Lib.hid (Hsf.out rfl)
                      go_wp2_with fail
                      go_roundw
                      case rel => exact ⟨j + 1, by go_num, by omega, by rw [RS.out], Hb8.out, HBb8.out, HO8.out.1, HO8.out.2.1, HO8.out.2.2⟩
                      case measure => simp [intOf]; omega
                    | true =>
                      by_cases e1 : z ≥ 0
                      · by_cases e2 : z < (k : Int)
                        · have RS := Lib.hid (Hsn.out fun e => (Htb.out.1 e) ⟨e1, e2⟩)
                          go_wp2_with fail
                          go_roundw
                          case rel => exact ⟨j + 1, by go_num, by omega, by rw [RS.out], Hb8.out, HBb8.out, HO8.out.1, HO8.out.2.1, HO8.out.2.2⟩
                          case measure => simp [intOf]; omega
                        · have RS := Lib.hid (Hsy.out (Htb.out.2 fun e => e2 e.2))
                          go_wp2_with fail
                          go_roundw
                          case rel => exact ⟨j + 1, by go_num, by omega, by rw [RS.out], Hb8.out, HBb8.out, HO8.out.1, HO8.out.2.1, HO8.out.2.2⟩
                          case measure => simp [intOf]; omega
                      · have RS := Lib.hid (Hsy.out (Htb.out.2 fun e => e1 e.1))
                        go_wp2_with fail
                        go_roundw
                        case rel => exact ⟨j + 1, by go_num, by omega, by rw [RS.out], Hb8.out, HBb8.out, HO8.out.1, HO8.out.2.1, HO8.out.2.2⟩
                        case measure => simp [intOf]; omega
                · have q3 : ((y : Int) == (x : Int)) = false := by rw [beq_eq_false_iff_ne]; omega
                  have RS := Lib.hid (Hsn.out fun e => f3 (Hta.out.1 e).1.1.2)
                  clear f1 f2 f3
                  go_wp2_with fail
                  go_roundw
                  case rel => exact ⟨j + 1, by go_num, by omega, by rw [RS.out], Hb7.out, HBb7.out, HO7.out.1, HO7.out.2.1, HO7.out.2.2⟩
                  case measure => simp [intOf]; omega
              · have q2 : ((r : Int) == 1) = false := by rw [beq_eq_false_iff_ne]; omega
                have RS := Lib.hid (Hsn.out fun e => f2 (Hta.out.1 e).1.1.1.2)
                clear f1 f2
                go_wp2_with fail
                go_roundw
                case rel => exact ⟨j + 1, by go_num, by omega, by rw [RS.out], Hb7.out, HBb7.out, HO7.out.1, HO7.out.2.1, HO7.out.2.2⟩
                case measure => simp [intOf]; omega
            · have q1 : ¬ (q : Int) < 2 := by omega
              have RS := Lib.hid (Hsn.out fun e => f1 (Hta.out.1 e).1.1.1.1)
              clear f1
              go_wp2_with fail
              go_roundw
              case rel => exact ⟨j + 1, by go_num, by omega, by rw [RS.out], Hb7.out, HBb7.out, HO7.out.1, HO7.out.2.1, HO7.out.2.2⟩
              case measure => simp [intOf]; omega
          · obtain rfl : j = k := by omega
            have RS := Lib.hid (strI_end h j)
            go_wp2_with fail
            go_roundw
            case rel => exact ⟨j + 1, by go_num, by omega, by rw [RR.out], by rw [RC.out], by rw [RS.out], Hb6.out, HBb6.out⟩
            case measure => simp [intOf]; omega
    · obtain rfl : k = h.length := by omega
      go_wp2_with fail
      go_ret3
      exact ⟨rfl, Hb.out⟩
#print axioms recoveryR_any
end Go.Proofs.Ytpehbffkplmfjaa
