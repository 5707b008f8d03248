/- Contract of snapshotsOf. -/
import Derived.Test.YtpehbffkplmfjaaSnl
import Derived.Test.YtpehbffkplmfjaaCom
namespace Go.Proofs.Ytpehbffkplmfjaa
open Go.RowKit
/-- the sets of what each transaction wrote among the first k operations -/
def snW (h : List NOp) : Nat → Nat → Nat
  | 0 => fun _ => 0
  | k + 1 => if tK h k = 1 then fun t => if t = tT h k then snW h k t ||| 2 ^ tI h k else snW h k t else snW h k
/-- .. and read from others -/
def snR (h : List NOp) : Nat → Nat → Nat
  | 0 => fun _ => 0
  | k + 1 => if tK h k = 0 then fun t => if t = tT h k then snR h k t ||| ndiff (2 ^ tI h k) (snW h k t) else snR h k t else snR h k
theorem wpList_load_var {P : Program} {ops : Array Oper} {rest : List Oper} {o : Oper} {a : Act} {w : World} {Q : Exit → Act → World → Prop} (hgd : o.guard = none) (ty : TypeId) (x : Operand) (ho : o.op = .load ty x)
    (p : Addr) (hx : a.eval x = .pointer (some p)) (A : Array Value) (hl : (loadVar ty p).run P w = .ok (.agg A) w) (h : wpList P ops Q rest (a.put o.dst (.agg A)) w) : wpList P ops Q (o :: rest) a w :=
  wpList_plain hgd fun K hK => by
    unfold Oper.wp execOp
    simp only [ho, hx, Instr.loadAt, Instr.sureAddr, Sem.run_bind, Sem.run_pure, Result.andThen_ok, hl]
    exact hK _ _ h
theorem load_lives {w : World} {b : Nat} {f : Nat → Value} {t : TypeId} (h : Blk w b t 36 f) : (loadVar 70 ⟨b, 0, none⟩).run Try.prog w = .ok (.agg (row 21 f)) w := by
  have hl := run_loadCells (P := Try.prog) w ⟨b, 0, none⟩ 21 f (fun j hj => by
    rw [Addr.add_lit, Nat.zero_add]
    exact Blk.at h (by omega))
  have hi : (Try.prog.info? 70).map (·.size) = some 21 := sizeLives
  cases hq : Try.prog.info? 70 with
  | none => simp [hq] at hi
  | some i =>
    have hs : i.size = 21 := by simpa [hq] using hi
    have hagg : (isAgg 70).run Try.prog w = .ok true w := by
      unfold isAgg
      rw [Sem.run_bind, run_underlying Try.underlying70 w]
      rfl
    simp [loadVar, Sem.run_bind, hagg, sizeOf, typeInfo, hq, hs, hl]
    rfl
theorem Blk.put_snW {w : World} {b : Nat} {h : List NOp} {W F : Nat → Nat} {v : Value} (s : SnB w b h W F v) {t : Nat} (ht : t < 7) (z : Nat) : SnB (w.setCell ⟨b, 21 + t, none⟩ (.int .i64 (z : Nat))) b h (fun x => if x = t then z else W x) F v := by
  refine Blk.congr (Blk.put s (21 + t) (.int .i64 (z : Nat))) fun j hj => ?_
  by_cases e : j = 21 + t
  · simp only [e, if_true]
    unfold snF
    rw [if_neg (by omega), if_pos (by omega)]
    show _ = Value.int .i64 ((if 21 + t - 21 = t then z else W (21 + t - 21) : Nat) : Int)
    rw [if_pos (by omega)]
  · simp only [e, if_false]
    unfold snF
    split
    · rfl
    · split
      · show _ = Value.int .i64 ((if j - 21 = t then z else W (j - 21) : Nat) : Int)
        rw [if_neg (by omega)]
      · rfl
theorem Blk.put_snF {w : World} {b : Nat} {h : List NOp} {W F : Nat → Nat} {v : Value} (s : SnB w b h W F v) {t : Nat} (ht : t < 7) (z : Nat) : SnB (w.setCell ⟨b, 28 + t, none⟩ (.int .i64 (z : Nat))) b h W (fun x => if x = t then z else F x) v := by
  refine Blk.congr (Blk.put s (28 + t) (.int .i64 (z : Nat))) fun j hj => ?_
  by_cases e : j = 28 + t
  · simp only [e, if_true]
    unfold snF
    rw [if_neg (by omega), if_neg (by omega), if_pos (by omega)]
    show _ = Value.int .i64 ((if 28 + t - 28 = t then z else F (28 + t - 28) : Nat) : Int)
    rw [if_pos (by omega)]
  · simp only [e, if_false]
    unfold snF
    split
    · rfl
    · split
      · rfl
      · split
        · show _ = Value.int .i64 ((if j - 28 = t then z else F (j - 28) : Nat) : Int)
          rw [if_neg (by omega)]
        · rfl
theorem SnB.put_l {w : World} {b : Nat} {h : List NOp} {W F : Nat → Nat} {v : Value} (s : SnB w b h W F v) (u : Value) : SnB (w.setCell ⟨b, 35, none⟩ u) b h W F u := by
  refine Blk.congr (Blk.put s 35 u) fun j hj => ?_
  by_cases e : j = 35
  · subst e; rfl
  · simp only [e, if_false]
    unfold snF
    split
    · rfl
    · split
      · rfl
      · rw [if_pos (by omega), if_pos (by omega)]
theorem ndiff_lt {a b : Nat} (ha : a < 128) : ndiff a b < 128 := by
  unfold ndiff
  exact Nat.xor_lt_two_pow (n := 7) ha (Nat.lt_of_le_of_lt Nat.and_le_left ha)
theorem snW_lt {h : List NOp} (hh : VH h) : ∀ k, k ≤ h.length → ∀ t, snW h k t < 128
  | 0, _, t => by simp [snW]
  | k + 1, hk, t => by
    have ih := snW_lt hh k (by omega)
    rw [snW]
    split
    · show (if t = tT h k then _ else _) < 128
      split
      · exact Nat.or_lt_two_pow (n := 7) (ih t) (Nat.pow_lt_pow_right (by decide) (show tI h k < 7 by have := (hh.x5 k (by omega)).1; omega))
      · exact ih t
    · exact ih t
theorem snR_lt {h : List NOp} (hh : VH h) : ∀ k, k ≤ h.length → ∀ t, snR h k t < 128
  | 0, _, t => by simp [snR]
  | k + 1, hk, t => by
    have ih := snR_lt hh k (by omega)
    rw [snR]
    split
    · show (if t = tT h k then _ else _) < 128
      split
      · exact Nat.or_lt_two_pow (n := 7) (ih t) (ndiff_lt (Nat.pow_lt_pow_right (by decide) (show tI h k < 7 by have := (hh.x5 k (by omega)).1; omega)))
      · exact ih t
    · exact ih t
set_option maxRecDepth 100000 in
set_option maxHeartbeats 8000000 in
theorem snapshotsOf_any {h : List NOp} (hh : VH h) (v : Value) (w : World) (hv : Ops w v (castO h)) :
    Calls Try.prog 66 #[v] w fun e w' => ∃ b u, e = .returned (.pointer (some ⟨b, 0, none⟩)) ∧ w.heap.size ≤ b ∧ SnB w' b h (snW h h.length) (snR h h.length) u ∧ Ints w' u (castN (comN h 7)) ∧ Below w.heap.size w w' := by
  have HL := Lib.hid (livesOf_any hh v w hv)
  rw [livA_eq] at HL
  have HM := Lib.hid (fun w' => committed_any h w')
  obtain ⟨a, bl, off, cap, rfl, hle, ha, hcap, hc⟩ := Ops.nat hv
  have hix := run_ix (P := Try.prog) (t := 29) (a := a) (len := h.length) (cap := cap) (b := bl) (off := off) (s := 3) Try.underlying29 (by intro w; kernel_rfl) ha
  have h40 := hh.le
  have Hc := Lib.hid hc
  have Hix := Lib.hid hix
  have HH := Lib.hid hh
  clear hc hix ha hle hcap hv hh
  go_enter Try.func66, Try.ntmps66
  go_wp2_with fail
  refine HL.out.mono ?_
  rintro e w1 ⟨rfl, hb1⟩
  have Hb1 := Lib.hid hb1
  clear hb1 HL
  have HS0 := Lib.hid (show SnB (w1.alloc (.cells #[.int .i64 (lv h h.length 0 : Nat), .int .i64 (lv h h.length 1 : Nat), .int .i64 (lv h h.length 2 : Nat), .int .i64 (lv h h.length 3 : Nat), .int .i64 (lv h h.length 4 : Nat), .int .i64 (lv h h.length 5 : Nat), .int .i64 (lv h h.length 6 : Nat), .int .i64 (lv h h.length 7 : Nat), .int .i64 (lv h h.length 8 : Nat), .int .i64 (lv h h.length 9 : Nat), .int .i64 (lv h h.length 10 : Nat), .int .i64 (lv h h.length 11 : Nat), .int .i64 (lv h h.length 12 : Nat), .int .i64 (lv h h.length 13 : Nat), .int .i64 (lv h h.length 14 : Nat), .int .i64 (lv h h.length 15 : Nat), .int .i64 (lv h h.length 16 : Nat), .int .i64 (lv h h.length 17 : Nat), .int .i64 (lv h h.length 18 : Nat), .int .i64 (lv h h.length 19 : Nat), .int .i64 (lv h h.length 20 : Nat), .int .i64 0, .int .i64 0, .int .i64 0, .int .i64 0, .int .i64 0, .int .i64 0, .int .i64 0, .int .i64 0, .int .i64 0, .int .i64 0, .int .i64 0, .int .i64 0, .int .i64 0, .int .i64 0, .slice none 0 0] 97)) w1.heap.size h (snW h 0) (snR h 0) (.slice none 0 0) from blk_new w1 97 36 (snF h (fun _ => 0) (fun _ => 0) (.slice none 0 0)))
  have Hb2 := Lib.hid (show Below w.heap.size w (w1.alloc (.cells #[.int .i64 (lv h h.length 0 : Nat), .int .i64 (lv h h.length 1 : Nat), .int .i64 (lv h h.length 2 : Nat), .int .i64 (lv h h.length 3 : Nat), .int .i64 (lv h h.length 4 : Nat), .int .i64 (lv h h.length 5 : Nat), .int .i64 (lv h h.length 6 : Nat), .int .i64 (lv h h.length 7 : Nat), .int .i64 (lv h h.length 8 : Nat), .int .i64 (lv h h.length 9 : Nat), .int .i64 (lv h h.length 10 : Nat), .int .i64 (lv h h.length 11 : Nat), .int .i64 (lv h h.length 12 : Nat), .int .i64 (lv h h.length 13 : Nat), .int .i64 (lv h h.length 14 : Nat), .int .i64 (lv h h.length 15 : Nat), .int .i64 (lv h h.length 16 : Nat), .int .i64 (lv h h.length 17 : Nat), .int .i64 (lv h h.length 18 : Nat), .int .i64 (lv h h.length 19 : Nat), .int .i64 (lv h h.length 20 : Nat), .int .i64 0, .int .i64 0, .int .i64 0, .int .i64 0, .int .i64 0, .int .i64 0, .int .i64 0, .int .i64 0, .int .i64 0, .int .i64 0, .int .i64 0, .int .i64 0, .int .i64 0, .int .i64 0, .slice none 0 0] 97)) from Below.tr Hb1.out (below_alloc _ _))
  have Hwb := Lib.hid Hb1.out.size
  go_upto_region 2 with fail
  generalize w1.alloc (.cells #[.int .i64 (lv h h.length 0 : Nat), .int .i64 (lv h h.length 1 : Nat), .int .i64 (lv h h.length 2 : Nat), .int .i64 (lv h h.length 3 : Nat), .int .i64 (lv h h.length 4 : Nat), .int .i64 (lv h h.length 5 : Nat), .int .i64 (lv h h.length 6 : Nat), .int .i64 (lv h h.length 7 : Nat), .int .i64 (lv h h.length 8 : Nat), .int .i64 (lv h h.length 9 : Nat), .int .i64 (lv h h.length 10 : Nat), .int .i64 (lv h h.length 11 : Nat), .int .i64 (lv h h.length 12 : Nat), .int .i64 (lv h h.length 13 : Nat), .int .i64 (lv h h.length 14 : Nat), .int .i64 (lv h h.length 15 : Nat), .int .i64 (lv h h.length 16 : Nat), .int .i64 (lv h h.length 17 : Nat), .int .i64 (lv h h.length 18 : Nat), .int .i64 (lv h h.length 19 : Nat), .int .i64 (lv h h.length 20 : Nat), .int .i64 0, .int .i64 0, .int .i64 0, .int .i64 0, .int .i64 0, .int .i64 0, .int .i64 0, .int .i64 0, .int .i64 0, .int .i64 0, .int .i64 0, .int .i64 0, .int .i64 0, .int .i64 0, .slice none 0 0] 97) = w2 at *
  generalize w1.heap.size = b at *
  have hA : row 21 (snF h (snW h 0) (snR h 0) (.slice none 0 0)) = livA h := row_congr fun j hj => if_pos hj
  have hld := load_lives HS0.out
  rw [hA] at hld
  have Hld := Lib.hid hld
  clear hld hA
  go_wp2_with (refine wpList_load_var rfl 70 (.tmp 13) rfl ⟨b, 0, none⟩ rfl (livA h) Hld.out ?_)
  refine (HM.out _).mono ?_
  rintro e w3 ⟨u, rfl, hu, hb3⟩
  obtain ⟨ua, uc, rfl⟩ : ∃ a c, u = .slice a (comN h 7).length c := by
    obtain ⟨a, c, e⟩ := own_slice hu
    rw [castN_length] at e
    exact ⟨a, c, e⟩
  have s3 : SnB w3 b h (snW h 0) (snR h 0) (.slice none 0 0) := Blk.keep HS0.out hb3
  have hli := s3.li
  have hfz := Blk.fz s3 35
  have HS4 := Lib.hid (SnB.put_l s3 (.slice ua (comN h 7).length uc))
  have Hb4 := Lib.hid (Below.put (Below.tr Hb2.out hb3) Hwb.out (i := 35) (.slice ua (comN h 7).length uc))
  have HI4 := Lib.hid (show OwnInts w2.heap.size (w3.setCell ⟨b, 35, none⟩ (.slice ua (comN h 7).length uc)) (.slice ua (comN h 7).length uc) (castN (comN h 7)) from by
    have ho : OwnInts w2.heap.size (w3.setCell ⟨b, 35, none⟩ (.slice ua (comN h 7).length uc)) (.slice ua (comN h 7).length uc) (castN (comN h 7)) := own_block hu fun g hg => heap_setCell_other w3 ⟨b, 35, none⟩ g _ (by
      show g ≠ b
      have h1 := (own_lt hu hg).1
      have h2 := Blk.lt HS0.out
      omega)
    exact ho)
  have Hbl := Lib.hid (Blk.lt HS0.out)
  clear s3 HS0 hb3 hu Hld
  go_wp2_with fail
  generalize w3.setCell ⟨b, 35, none⟩ (.slice ua (comN h 7).length uc) = w4 at *
  generalize hU : Value.slice ua (comN h 7).length uc = U at *
  have HWl := Lib.hid (fun k (hk : k ≤ h.length) => snW_lt HH.out k hk)
  have HFl := Lib.hid (fun k (hk : k ≤ h.length) => snR_lt HH.out k hk)
  have HWs := Lib.hid (show ∀ k, snW h (k + 1) = if tK h k = 1 then fun t => if t = tT h k then snW h k t ||| 2 ^ tI h k else snW h k t else snW h k from fun k => rfl)
  have HFs := Lib.hid (show ∀ k, snR h (k + 1) = if tK h k = 0 then fun t => if t = tT h k then snR h k t ||| ndiff (2 ^ tI h k) (snW h k t) else snR h k t else snR h k from fun k => rfl)
  clear hU
  go_loopw [20] (fun vk wr => ∃ k : Nat, vk = .int .i64 k ∧ k ≤ h.length ∧ SnB wr b h (snW h k) (snR h k) U ∧ Below w.heap.size w wr ∧ w4.grownBy wr (some b)) (fun vk _ => h.length - (intOf vk).toNat)
  case atStart => exact ⟨0, rfl, Nat.zero_le _, HS4.out, Hb4.out, World.grownBy.refl _ _⟩
  case round =>
    clear Hb4
    obtain ⟨k, rfl, hk, hS, hb, hg⟩ := hrel
    obtain ⟨wA, hwA⟩ : ∃ wA : World, wA = wr := ⟨_, rfl⟩
    subst hwA
    have HS := Lib.hid hS
    have Hb := Lib.hid hb
    have Hg := Lib.hid hg
    clear hS hb hg
    by_cases hlt : k < h.length
    · have hc1 := Below.keep Hb.out (Hc.out k hlt).1
      have hc2 := Below.keep Hb.out (Hc.out k hlt).2.1
      have hc3 := Below.keep Hb.out (Hc.out k hlt).2.2
      have hixk := Hix.out k
      have ht6 := HH.out.t6 k hlt
      have hx5 := (HH.out.x5 k hlt).1
      have HW1 := Lib.hid (HWs.out k)
      have HF1 := Lib.hid (HFs.out k)
      have hWl := HWl.out k hk (tT h k)
      have hFl := HFl.out k hk (tT h k)
      obtain ⟨t, ht⟩ : ∃ s, s = tT h k := ⟨_, rfl⟩
      obtain ⟨q, hq⟩ : ∃ r, r = tK h k := ⟨_, rfl⟩
      obtain ⟨x, hx⟩ : ∃ x, x = tI h k := ⟨_, rfl⟩
      rw [← ht] at hc1 HW1 HF1 hWl hFl ht6
      rw [← hq] at hc2 HW1 HF1
      rw [← hx] at hc3 HW1 HF1 hx5
      obtain ⟨ht1, ht2⟩ := ht6
      have s5 : SnB (wA.alloc (.cells #[.int .i64 t, .int .i64 q, .int .i64 x] 58)) b h (snW h k) (snR h k) U := Blk.keep HS.out (below_alloc _ _)
      have c1 := s5.wr (show t < 7 by omega)
      have c2 := s5.fo (show t < 7 by omega)
      have f1 := Blk.fz s5 (21 + t)
      have f2 := Blk.fz s5 (28 + t)
      have g0 : (wA.alloc (.cells #[.int .i64 t, .int .i64 q, .int .i64 x] 58)).cell? ⟨wA.heap.size, 0, none⟩ = some (.int .i64 t) := cell_new wA _ _ 0
      have g1 : (wA.alloc (.cells #[.int .i64 t, .int .i64 q, .int .i64 x] 58)).cell? ⟨wA.heap.size, 1, none⟩ = some (.int .i64 q) := cell_new wA _ _ 1
      have g2 : (wA.alloc (.cells #[.int .i64 t, .int .i64 q, .int .i64 x] 58)).cell? ⟨wA.heap.size, 2, none⟩ = some (.int .i64 x) := cell_new wA _ _ 2
      have Hb5 := Lib.hid (Below.tr Hb.out (below_alloc wA (.cells #[.int .i64 t, .int .i64 q, .int .i64 x] 58)))
      have Hg5 := Lib.hid (show w4.grownBy (wA.alloc (.cells #[.int .i64 t, .int .i64 q, .int .i64 x] 58)) (some b) from ⟨Hg.out.os, Hg.out.tape, Hg.out.output, by have := Hg.out.size; simp; omega, fun j hj hne => (heap_alloc_old _ _ (by have := Hg.out.size; omega)).trans (Hg.out.block j hj hne)⟩)
      have Hs5 := Lib.hid s5
      have hti : (t : Int) < 7 := by omega
      have ht0 : (0 : Int) ≤ (t : Int) := by omega
      have hxi : (x : Int) < 64 := by omega
      have hx0 : (0 : Int) ≤ (x : Int) := by omega
      obtain ⟨P, hP, p1, p2, p3⟩ := pow_name x (by omega)
      have hP128 : P < 128 := by rw [hP]; exact Nat.pow_lt_pow_right (by decide) (show x < 7 by omega)
      have HP := Lib.hid hP
      have hor := bits_or_nat (snW h k t) P (by omega) (by omega)
      have han := bits_andNot_nat P (snW h k t) (by omega) (by omega)
      have hor2 := bits_or_nat (snR h k t) (ndiff P (snW h k t)) (by omega) (by have := ndiff_lt (b := snW h k t) hP128; omega)
      have HA := Lib.hid (fun (q1 : q = 1) => show (fun y => if y = t then snW h k t ||| P else snW h k y) = snW h (k + 1) from by
        rw [HW1.out, if_pos q1, HP.out]
        funext y
        by_cases e : y = t
        · rw [if_pos e, if_pos e, e]
        · rw [if_neg e, if_neg e])
      have HB := Lib.hid (fun (q1 : q = 0) => show (fun y => if y = t then snR h k t ||| ndiff P (snW h k t) else snR h k y) = snR h (k + 1) from by
        rw [HF1.out, if_pos q1, HP.out]
        funext y
        by_cases e : y = t
        · rw [if_pos e, if_pos e, e]
        · rw [if_neg e, if_neg e])
      have HW0 := Lib.hid (fun (q1 : q ≠ 1) => HW1.out.trans (if_neg q1))
      have HF0 := Lib.hid (fun (q1 : q ≠ 0) => HF1.out.trans (if_neg q1))
      have Hputs := Lib.hid (fun (z : Nat) => And.intro (Blk.put_snW Hs5.out (show t < 7 by omega) z) (Blk.put_snF Hs5.out (show t < 7 by omega) z))
      have Hbput := Lib.hid (fun (i : Nat) (z : Value) => And.intro (Below.put Hb5.out Hwb.out (i := i) z) (show w4.grownBy ((wA.alloc (.cells #[.int .i64 t, .int .i64 q, .int .i64 x] 58)).setCell ⟨b, i, none⟩ z).drew (some b) from ⟨Hg5.out.os, Hg5.out.tape, Hg5.out.output, by have := Hg5.out.size; simpa using this, fun j hj hne => (heap_setCell_other _ ⟨b, i, none⟩ j _ (fun e => hne (by rw [e]))).trans (Hg5.out.block j hj hne)⟩))
      obtain ⟨wv, hwv⟩ : ∃ z, z = snW h k t := ⟨_, rfl⟩
      obtain ⟨rv, hrv⟩ : ∃ z, z = snR h k t := ⟨_, rfl⟩
      rw [← hwv] at c1 hor han hor2 HA HB
      rw [← hrv] at c2 hor2 HB
      clear ht hq hx hP hwv hrv hWl hFl
      by_cases e0 : q = 0
      · have q0 : ((q : Int) == 0) = true := by rw [beq_iff_eq]; omega
        have R1 := Lib.hid (HB.out e0)
        have R2 := Lib.hid (HW0.out (by omega))
        clear e0
        go_wp2_with fail
        go_region
        all_goals
          go_wp2_with fail
          go_roundw
          case rel => exact ⟨k + 1, by go_num, by omega, by rw [← R1.out, R2.out]; exact (Hputs.out _).2, (Hbput.out _ _).1.drew, (Hbput.out _ _).2⟩
          case measure => simp [intOf]; omega
      · have q0 : ((q : Int) == 0) = false := by rw [beq_eq_false_iff_ne]; omega
        have R2 := Lib.hid (HF0.out e0)
        by_cases e1 : q = 1
        · have q1 : ((q : Int) == 1) = true := by rw [beq_iff_eq]; omega
          have R1 := Lib.hid (HA.out e1)
          clear e0 e1
          go_wp2_with fail
          go_region
          all_goals
            go_wp2_with fail
            go_roundw
            case rel => exact ⟨k + 1, by go_num, by omega, by rw [← R1.out, R2.out]; exact (Hputs.out _).1, (Hbput.out _ _).1.drew, (Hbput.out _ _).2⟩
            case measure => simp [intOf]; omega
        · have q1 : ((q : Int) == 1) = false := by rw [beq_eq_false_iff_ne]; omega
          have R1 := Lib.hid (HW0.out e1)
          clear e0 e1
          go_wp2_with fail
          go_roundw
          case rel => exact ⟨k + 1, by go_num, by omega, by rw [R1.out, R2.out]; exact Hs5.out, Hb5.out, Hg5.out⟩
          case measure => simp [intOf]; omega
    · obtain rfl : k = h.length := by omega
      have HI := Lib.hid (show Ints wA U (castN (comN h 7)) from by
        have ho : OwnInts w2.heap.size wA U (castN (comN h 7)) := own_block HI4.out fun g hg => Hg.out.block g (own_lt HI4.out hg).2 (fun e => by
          injection e with e
          have h1 := (own_lt HI4.out hg).1
          have h2 := Hbl.out
          omega)
        exact ho.ints)
      go_wp2_with fail
      go_ret
      exact ⟨b, U, rfl, Hwb.out, HS.out, HI.out, Hb.out⟩
#print axioms snapshotsOf_any
end Go.Proofs.Ytpehbffkplmfjaa
