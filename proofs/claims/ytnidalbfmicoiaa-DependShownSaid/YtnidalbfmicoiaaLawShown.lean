/- DependShown: for every input the law returns true. -/
import Derived.Test.YtnidalbfmicoiaaMathArm
import Derived.Test.YtnidalbfmicoiaaFrame
import Derived.Deep.DeepCutAuto
import Derived.Test.YtnidalbfmicoiaaRows
namespace Go.Proofs.Ytnidalbfmicoiaa
open Go.RowKit

def pairOk (T : List (List Int)) (s t m i j : Nat) : Bool := !(eqTo s (row T i) (row T j) m) || eqTo t (row T i) (row T j) m
def rowOk (T : List (List Int)) (s t m i j : Nat) : Bool := (List.range j).all (pairOk T s t m i)
def holdsTo (T : List (List Int)) (s t m i : Nat) : Bool := (List.range i).all fun i => rowOk T s t m i i
theorem rowOk_succ (T : List (List Int)) (s t m i j : Nat) : rowOk T s t m i (j + 1) = (rowOk T s t m i j && pairOk T s t m i j) := by simp [rowOk, List.range_succ]
theorem holdsTo_succ (T : List (List Int)) (s t m i : Nat) : holdsTo T s t m (i + 1) = (holdsTo T s t m i && rowOk T s t m i i) := by simp [holdsTo, List.range_succ]
theorem holdsTo_iff {T : List (List Int)} {s t m : Nat} (hs : s < 2 ^ m) (ht : t < 2 ^ m) (hT : ∀ i, i < T.length → (row T i).length = m) : holdsTo T s t m T.length = decide (HoldsR T s t) := by
  rw [Bool.eq_iff_iff, decide_eq_true_iff]
  simp only [holdsTo, rowOk, List.all_eq_true, List.mem_range]
  constructor
  · intro h e he hse
    obtain ⟨i, j, hi, hj, rfl⟩ := mem_agrs he
    have := h i hi j hj
    unfold pairOk at this
    rw [eqTo_sub hs (hT i hi), eqTo_sub ht (hT i hi), agr_comm _ _ (by rw [hT i hi, hT j (by omega)]), decide_eq_true hse] at this
    simpa using this
  · intro h i hi j hj
    unfold pairOk
    rw [eqTo_sub hs (hT i hi), eqTo_sub ht (hT i hi), agr_comm _ _ (by rw [hT i hi, hT j (by omega)])]
    have := h _ (agrs_mem hi hj)
    by_cases hse : Sub s (agr (row T j) (row T i))
    · simp [this hse]
    · simp [hse]

set_option maxRecDepth 100000 in
theorem shown_no (n x y : Int) (l : List (Int × Int)) (v : Value) (w : World) (hv : Deps w v l) (hno : ∀ s, ¬ ValidP n (l.take 14) s) :
    Calls Try.prog 14 #[.int .i64 n, v, .agg #[.int .i64 x, .int .i64 y]] w fun e w' => e = .returned (.bool true) ∧ Below w.heap.size w w' := by
  have Hv := Lib.hid hv
  have Hno := Lib.hid hno
  have hb0 := below_alloc w (.cells #[.int .i64 x, .int .i64 y] 24)
  have c0 := cell_new w #[.int .i64 x, .int .i64 y] 24 0
  have c1 := cell_new w #[.int .i64 x, .int .i64 y] 24 1
  clear hv hno
  go_enter Try.func14, Try.ntmps14
  go_wp2_with fail
  generalize w.alloc (.cells #[.int .i64 x, .int .i64 y] 24) = w0 at *
  have Hb0 := Lib.hid hb0
  have C0 := Lib.hid c0
  have C1 := Lib.hid c1
  clear hb0 c0 c1
  refine (deps_any l _ _ (Deps.keep Hv.out Hb0.out)).mono ?_
  rintro e w1 ⟨v1, rfl, hd1, hb1⟩
  have Hb1 := Lib.hid hb1
  have Hd1 := Lib.hid hd1
  clear hb1 hd1
  go_wp2_with fail
  refine (arm_bad n _ _ _ Hd1.out (Hno.out _)).mono ?_
  rintro e w2 ⟨rfl, hb2⟩
  have Hb2 := Lib.hid (Below.tr Hb1.out hb2)
  clear hb2
  have C0' := Lib.hid (Below.keep Hb2.out C0.out)
  have C1' := Lib.hid (Below.keep Hb2.out C1.out)
  go_wp2_with fail
  go_region_held3 (fun w' => w'.cell? ⟨w.heap.size, 0, none⟩ = some (.int .i64 x) ∧ w'.cell? ⟨w.heap.size, 1, none⟩ = some (.int .i64 y) ∧ Below w2.heap.size w2 w')
    ((refine hold2 C0'.out C1'.out ?_; repeat (first | exact Below.refl _ _ | refine Below.drew ?_ | refine Below.tr ?_ (below_alloc _ _) | refine Below.tr ?_ (by assumption))))
    (first | (go_at_call 22; refine (deps_any l _ _ (by exact Deps.keep Hv.out (Below.tr Hb0.out Hb2.out).drew)).mono ?_; rintro e w3 ⟨v3, rfl, hd3, hb3⟩) | (go_at_call 24; refine (dep_any _ _ _).mono ?_; rintro e w4 ⟨rfl, hb4⟩) | (go_at_call 23; refine (followsE_bad _ _ _ _ _ _ (by exact Deps.keep hd3 hb4) (Hno.out _)).mono ?_; rintro e w5 ⟨rfl, hb5⟩))
  have Hb5 := Lib.hid (show Below w2.heap.size w2 w5 from Below.tr (Below.tr (Below.tr (Below.refl _ _).drew hb3) hb4) hb5)
  clear hd3 hb3 hb4 hb5
  go_wp2_with fail
  refine (awake_any _).mono ?_
  rintro e w6 ⟨rfl, hb6⟩
  have Hb6 := Lib.hid (Below.tr (Below.tr Hb0.out (Below.tr Hb2.out Hb5.out)) hb6)
  clear hb6
  go_wp2_with fail
  go_ret
  exact ⟨rfl, Hb6.out⟩

set_option maxRecDepth 100000 in
theorem shown_yes {m F : Nat} {l' : List DepN} (hok : Okl m l') (hF : F = 2 ^ m) (x y : Int) (l : List (Int × Int)) (hl : l.take 14 = castD l') (v : Value) (w : World) (hv : Deps w v l) :
    Calls Try.prog 14 #[.int .i64 m, v, .agg #[.int .i64 x, .int .i64 y]] w fun e w' => e = .returned (.bool true) ∧ Below w.heap.size w w' := by
  have Hv := Lib.hid hv
  have Hl := Lib.hid hl
  have hdeps : ∀ (w1 : World), Below w.heap.size w w1 → Calls Try.prog 22 #[v] w1 fun e w' => ∃ v', e = .returned v' ∧ Deps w' v' (castD l') ∧ Below w1.heap.size w1 w' := fun w1 hb => by
    rw [← Hl.out]; exact deps_any l v w1 (Deps.keep Hv.out hb)
  have Hdeps := Lib.hid hdeps
  have hb0 := below_alloc w (.cells #[.int .i64 x, .int .i64 y] 24)
  have c0 := cell_new w #[.int .i64 x, .int .i64 y] 24 0
  have c1 := cell_new w #[.int .i64 x, .int .i64 y] 24 1
  obtain ⟨T, hT⟩ : ∃ T, T = armTo l' m (F - 1) := ⟨_, rfl⟩
  have HTl := Lib.hid (show ∀ i, i < T.length → (row T i).length = m by rw [hT]; exact armTo_lengths l' m (F - 1))
  have HTh := Lib.hid (show ∀ s t, s < F → t < F → (HoldsR T s t ↔ Sub t (cl l' s)) by rw [hT]; exact fun s t hs ht => arm_holds hok hF hs ht)
  have harm := fun v1 w1 h => arm_F hok hF v1 w1 h
  rw [← hT] at harm
  have Harm := Lib.hid harm
  obtain ⟨p1, p2⟩ := hok.pow
  rw [← hF] at p1 p2
  have HF := Lib.hid hF
  have hm8 := hok.h8
  clear hv hl hdeps harm hT hF
  go_enter Try.func14, Try.ntmps14
  go_wp2_with fail
  generalize w.alloc (.cells #[.int .i64 x, .int .i64 y] 24) = w0 at *
  have Hb0 := Lib.hid hb0
  have C0 := Lib.hid c0
  have C1 := Lib.hid c1
  clear hb0 c0 c1
  refine (Hdeps.out _ Hb0.out).mono ?_
  rintro e w1 ⟨v1, rfl, hd1, hb1⟩
  have Hb1 := Lib.hid hb1
  have Hd1 := Lib.hid hd1
  clear hb1 hd1
  go_wp2_with fail
  refine (Harm.out _ _ Hd1.out).mono ?_
  rintro e w2 ⟨tv, rfl, htab, hb2⟩
  have Hb2 := Lib.hid (Below.tr Hb1.out hb2)
  have Htab := Lib.hid htab
  clear hb2 htab
  have C0' := Lib.hid (Below.keep Hb2.out C0.out)
  have C1' := Lib.hid (Below.keep Hb2.out C1.out)
  go_wp2_with fail
  go_region_held3 (fun w' => w'.cell? ⟨w.heap.size, 0, none⟩ = some (.int .i64 x) ∧ w'.cell? ⟨w.heap.size, 1, none⟩ = some (.int .i64 y) ∧ Below w2.heap.size w2 w')
    ((refine hold2 C0'.out C1'.out ?_; repeat (first | exact Below.refl _ _ | refine Below.drew ?_ | refine Below.tr ?_ (below_alloc _ _) | refine Below.tr ?_ (by assumption))))
    (first | (go_at_call 22; refine (Hdeps.out _ (by exact (Below.tr Hb0.out Hb2.out).drew)).mono ?_; rintro e w3 ⟨v3, rfl, hd3, hb3⟩) | (go_at_call 24; refine (dep_any _ _ _).mono ?_; rintro e w4 ⟨rfl, hb4⟩) | (go_at_call 23; refine (followsE_set hok _ _ _ _ (by exact Deps.keep hd3 hb4)).mono ?_; rintro e w5 ⟨c, r, rfl, hc, hb5⟩))
  have Hb5 := Lib.hid (show Below w2.heap.size w2 w5 from Below.tr (Below.tr (Below.tr (Below.refl _ _).drew hb3) hb4) hb5)
  clear hd3 hb3 hb4 hb5
  rcases hc with ⟨-, rfl, rfl⟩ | ⟨s, t, rfl, rfl, hs, ht, rfl, rfl⟩
  · go_wp2_with fail
    refine (awake_any _).mono ?_
    rintro e w6 ⟨rfl, hb6⟩
    have Hb6 := Lib.hid (Below.tr (Below.tr Hb0.out (Below.tr Hb2.out Hb5.out)) hb6)
    clear hb6
    go_wp2_with fail
    go_ret
    exact ⟨rfl, Hb6.out⟩
  · have K0 := Lib.hid (Below.keep Hb5.out C0'.out)
    have K1 := Lib.hid (Below.keep Hb5.out C1'.out)
    have hfin : holdsTo T s t m T.length = decide (Sub t (cl l' s)) := by
      rw [holdsTo_iff hs ht HTl.out, Bool.eq_iff_iff, decide_eq_true_iff, decide_eq_true_iff]
      have := HF.out
      exact HTh.out s t (by omega) (by omega)
    have Hfin := Lib.hid hfin
    have hs256 : s < 256 := by have := HF.out; omega
    have ht256 : t < 256 := by have := HF.out; omega
    obtain ⟨a, b, off, cap, vs, rfl, hle, ha, hvs, hcell, hrow⟩ := Rows.get Htab.out
    have hcap : T.length ≤ cap := by
      obtain ⟨vs', _, h2, _⟩ := Htab.out
      exact (Rd.cap h2).1
    have hix := run_ix (P := Try.prog) (t := 34) (a := a) (len := T.length) (cap := cap) (b := b) (off := off) (s := 1) Try.underlying34 (by intro w; kernel_rfl) ha
    simp only [Nat.mul_one] at hix
    have hsl := run_to (P := Try.prog) (t := 34) (a := a) (len := T.length) (cap := cap) (s := 1) Try.underlying34 (by intro w; kernel_rfl) hcap
    have Ha := Lib.hid ha
    have Hcell := Lib.hid hcell
    have Hrow := Lib.hid hrow
    have Hvs := Lib.hid hvs
    have HsF := Lib.hid hs
    have HtF := Lib.hid ht
    clear ha hcell hrow hvs hfin hs ht hcap
    go_wp2_with fail
    go_loopw [11, 48] (fun h i wr => ∃ k : Nat, i = .int .i64 k ∧ h = .bool (holdsTo T s t m k) ∧ k ≤ T.length ∧ Below w5.heap.size w5 wr) (fun _ i _ => T.length - (intOf i).toNat)
    case atStart => exact ⟨0, rfl, rfl, Nat.zero_le _, Below.refl _ _⟩
    case round =>
      obtain ⟨k, rfl, rfl, hk, hbr⟩ := hrel
      have Hbr := Lib.hid hbr
      clear hbr
      by_cases hlt : k < T.length
      · have hv1 := Hvs.out
        have hc1 := Below.keep (Below.tr Hb5.out Hbr.out) (Hcell.out k (by omega))
        have hxi := Hrow.out k hlt (by omega)
        have hrk : row T k = T[k] := by unfold row; simp [List.getD, hlt]
        rw [← hrk] at hxi
        have hlk := HTl.out k hlt
        obtain ⟨ax, bx, offx, capx, hvx, _, hax, hcx⟩ := Ints.get hxi
        rw [hvx, hlk] at hc1
        rw [hlk] at hax
        have hixx := run_ix (P := Try.prog) (t := 56) (a := ax) (len := m) (cap := capx) (b := bx) (off := offx) (s := 1) Try.underlying56 (by intro w; kernel_rfl) hax
        simp only [Nat.mul_one] at hixx
        have Hcx := Lib.hid hcx
        have Hlk := Lib.hid hlk
        have Hstep := Lib.hid (holdsTo_succ T s t m k)
        clear hxi hvx hax hcx hrk hlk
        go_wp2_with fail
        have hix2 := run_ix (P := Try.prog) (t := 34) (a := a) (len := k) (cap := cap) (b := b) (off := off) (s := 1) Try.underlying34 (by intro w; kernel_rfl) (fun h => Ha.out (by omega))
        simp only [Nat.mul_one] at hix2
        obtain ⟨wo, rfl⟩ : ∃ wo : World, wo = wr := ⟨_, rfl⟩
        go_loopw [11, 57] (fun h i wr => ∃ j : Nat, i = .int .i64 j ∧ h = .bool (holdsTo T s t m k && rowOk T s t m k j) ∧ j ≤ k ∧ Below wo.heap.size wo wr) (fun _ i _ => k - (intOf i).toNat)
        case atStart => exact ⟨0, rfl, by simp [rowOk], Nat.zero_le _, Below.refl _ _⟩
        case round =>
          obtain ⟨j, rfl, rfl, hj, hbr2⟩ := hrel
          have Hbr2 := Lib.hid hbr2
          clear hbr2 hc1
          by_cases hlt2 : j < k
          · have hjT : j < T.length := by omega
            have hc1 := Below.keep (Below.tr Hb5.out (Below.tr Hbr.out Hbr2.out)) (Hcell.out j (by omega))
            have hyi := Hrow.out j hjT (by omega)
            have hrj : row T j = T[j] := by unfold row; simp [List.getD, hjT]
            rw [← hrj] at hyi
            have hlj := HTl.out j hjT
            obtain ⟨ay, by', offy, capy, hvy, _, hay, hcy⟩ := Ints.get hyi
            rw [hvy, hlj] at hc1
            rw [hlj] at hay
            have hixy := run_ix (P := Try.prog) (t := 56) (a := ay) (len := m) (cap := capy) (b := by') (off := offy) (s := 1) Try.underlying56 (by intro w; kernel_rfl) hay
            simp only [Nat.mul_one] at hixy
            have Hcy := Lib.hid hcy
            have Hlj := Lib.hid hlj
            have Hstep2 := Lib.hid (rowOk_succ T s t m k j)
            clear hyi hvy hay hcy hrj hlj
            go_wp2_with fail
            have hbz0 : Below w5.heap.size w5 wr := Below.tr Hbr.out Hbr2.out
            have Hbz0 := Lib.hid hbz0
            clear hbz0
            obtain ⟨wi, rfl⟩ : ∃ wi : World, wi = wr := ⟨_, rfl⟩
            go_loopw [16, 17, 72] (fun f g i wr => ∃ q : Nat, i = .int .i64 q ∧ f = .bool (eqTo s (row T k) (row T j) q) ∧ g = .bool (eqTo t (row T k) (row T j) q) ∧ q ≤ m ∧ Below w5.heap.size w5 wr ∧ Below wo.heap.size wo wr) (fun _ _ i _ => m - (intOf i).toNat)
            case atStart => exact ⟨0, rfl, rfl, rfl, Nat.zero_le _, Hbz0.out, Hbr2.out⟩
            case round =>
              obtain ⟨q, rfl, rfl, rfl, hq, hbz⟩ := hrel
              have Hbz1 := Lib.hid (show Below wo.heap.size wo wr from hbz.2)
              replace hbz := hbz.1
              have Hbz := Lib.hid hbz
              clear hbz hc1
              by_cases hlt3 : q < m
              ·
                go_upto_region 18 with fail
                go_cut [16] (fun z wx => z = .bool (eqTo s (row T k) (row T j) (q + 1)) ∧ Below w5.heap.size w5 wx ∧ Below wo.heap.size wo wx)
                case first =>
                  have k0 := Below.keep Hbz.out K0.out
                  have hcx := Below.keep (Below.tr Hb5.out Hbz.out) (Hcx.out q (by rw [Hlk.out]; exact hlt3))
                  have hcy := Below.keep (Below.tr Hb5.out Hbz.out) (Hcy.out q (by rw [Hlj.out]; exact hlt3))
                  have t1 := shr_bit s q (by omega)
                  have hgx : (row T k).getD q 0 = (row T k)[q]'(by rw [Hlk.out]; exact hlt3) := by simp [List.getD, Hlk.out, hlt3]
                  have hgy : (row T j).getD q 0 = (row T j)[q]'(by rw [Hlj.out]; exact hlt3) := by simp [List.getD, Hlj.out, hlt3]
                  have hst : eqTo s (row T k) (row T j) (q + 1) = (eqTo s (row T k) (row T j) q && (!s.testBit q || decide ((row T k)[q]'(by rw [Hlk.out]; exact hlt3) = (row T j)[q]'(by rw [Hlj.out]; exact hlt3)))) := by rw [eqTo, hgx, hgy]
                  have Hst := Lib.hid hst
                  clear hst hgx hgy
                  generalize (row T k)[q]'(by rw [Hlk.out]; exact hlt3) = xq at *
                  generalize (row T j)[q]'(by rw [Hlj.out]; exact hlt3) = yq at *
                  cases hf : eqTo s (row T k) (row T j) q
                  · have Hf := Lib.hid hf
                    clear hf t1
                    go_wp2_with fail
                    go_quiet (fail)
                    go_wp2_with fail
                    go_meet
                    exact ⟨by rw [Hst.out, Hf.out]; rfl, bdrewN Hbz.out _, bdrewN Hbz1.out _⟩
                  · have Hf := Lib.hid hf
                    clear hf
                    cases hb : s.testBit q
                    · rw [hb] at t1
                      simp only [Bool.false_eq_true, if_false] at t1
                      have HB := Lib.hid hb
                      clear hb
                      go_wp2_with fail
                      go_quiet (fail)
                      go_wp2_with fail
                      go_meet
                      exact ⟨by rw [Hst.out, Hf.out, HB.out]; rfl, bdrewN Hbz.out _, bdrewN Hbz1.out _⟩
                    · rw [hb] at t1
                      simp only [if_true] at t1
                      have HB := Lib.hid hb
                      clear hb
                      have t2 : (xq == yq) = decide (xq = yq) := by rw [Bool.eq_iff_iff]; simp
                      go_wp2_with fail
                      go_quiet (fail)
                      go_wp2_with fail
                      go_meet
                      exact ⟨by rw [Hst.out, Hf.out, HB.out]; simp, bdrewN Hbz.out _, bdrewN Hbz1.out _⟩
                case rest => 
                  obtain ⟨rfl, hbz, hbz1⟩ := hcut
                  have Hbz := Lib.hid hbz
                  have Hbz1 := Lib.hid hbz1
                  clear hbz hbz1

                  have k0 := Below.keep Hbz.out K1.out
                  have hcx := Below.keep (Below.tr Hb5.out Hbz.out) (Hcx.out q (by rw [Hlk.out]; exact hlt3))
                  have hcy := Below.keep (Below.tr Hb5.out Hbz.out) (Hcy.out q (by rw [Hlj.out]; exact hlt3))
                  have t1 := shr_bit t q (by omega)
                  have hgx : (row T k).getD q 0 = (row T k)[q]'(by rw [Hlk.out]; exact hlt3) := by simp [List.getD, Hlk.out, hlt3]
                  have hgy : (row T j).getD q 0 = (row T j)[q]'(by rw [Hlj.out]; exact hlt3) := by simp [List.getD, Hlj.out, hlt3]
                  have hst : eqTo t (row T k) (row T j) (q + 1) = (eqTo t (row T k) (row T j) q && (!t.testBit q || decide ((row T k)[q]'(by rw [Hlk.out]; exact hlt3) = (row T j)[q]'(by rw [Hlj.out]; exact hlt3)))) := by rw [eqTo, hgx, hgy]
                  have Hst := Lib.hid hst
                  clear hst hgx hgy
                  generalize (row T k)[q]'(by rw [Hlk.out]; exact hlt3) = xq at *
                  generalize (row T j)[q]'(by rw [Hlj.out]; exact hlt3) = yq at *
                  cases hf : eqTo t (row T k) (row T j) q
                  · have Hf := Lib.hid hf
                    clear hf t1
                    go_wp2_with fail
                    go_quiet (fail)
                    go_wp2_with fail
                    go_roundw
                    case rel => exact ⟨q + 1, by go_num, rfl, by rw [Hst.out, Hf.out]; rfl, by omega, bdrewN Hbz.out _, bdrewN Hbz1.out _⟩
                    case measure => simp [intOf]; omega
                  · have Hf := Lib.hid hf
                    clear hf
                    cases hb : t.testBit q
                    · rw [hb] at t1
                      simp only [Bool.false_eq_true, if_false] at t1
                      have HB := Lib.hid hb
                      clear hb
                      go_wp2_with fail
                      go_quiet (fail)
                      go_wp2_with fail
                      go_roundw
                      case rel => exact ⟨q + 1, by go_num, rfl, by rw [Hst.out, Hf.out, HB.out]; rfl, by omega, bdrewN Hbz.out _, bdrewN Hbz1.out _⟩
                      case measure => simp [intOf]; omega
                    · rw [hb] at t1
                      simp only [if_true] at t1
                      have HB := Lib.hid hb
                      clear hb
                      have t2 : (xq == yq) = decide (xq = yq) := by rw [Bool.eq_iff_iff]; simp
                      go_wp2_with fail
                      go_quiet (fail)
                      go_wp2_with fail
                      go_roundw
                      case rel => exact ⟨q + 1, by go_num, rfl, by rw [Hst.out, Hf.out, HB.out]; simp, by omega, bdrewN Hbz.out _, bdrewN Hbz1.out _⟩
                      case measure => simp [intOf]; omega
              · obtain rfl : q = m := by omega
                have Hpo := Lib.hid (show pairOk T s t q k j = (!(eqTo s (row T k) (row T j) q) || eqTo t (row T k) (row T j) q) from rfl)
                cases hf : eqTo s (row T k) (row T j) q
                all_goals
                  cases hg : eqTo t (row T k) (row T j) q
                all_goals
                  have Hf := Lib.hid hf
                  have Hg := Lib.hid hg
                  clear hf hg
                  cases hh : (holdsTo T s t q k && rowOk T s t q k j)
                all_goals
                  have Hh := Lib.hid hh
                  clear hh
                  go_wp2_with fail
                  go_roundw
                  case rel => exact ⟨j + 1, by go_num, by rw [Hstep2.out, ← Bool.and_assoc, Hh.out, Hpo.out, Hf.out, Hg.out]; rfl, by omega, Hbz1.out⟩
                  case measure => simp [intOf]; omega
          · obtain rfl : j = k := by omega
            have HR := Lib.hid (show Value.bool (holdsTo T s t m j && rowOk T s t m j j) = Value.bool (holdsTo T s t m (j + 1)) by rw [Hstep.out])
            go_wp2_with fail
            go_roundw
            case rel => exact ⟨j + 1, by go_num, HR.out, by omega, Below.tr Hbr.out Hbr2.out⟩
            case measure => simp [intOf]; omega
      · obtain rfl : k = T.length := by omega
        have e7 : holdsTo T s t m T.length = decide (Sub t (cl l' s)) := Hfin.out
        go_wp2_with fail
        refine (awake_any _).mono ?_
        rintro e w6 ⟨rfl, hb6⟩
        have Hb6 := Lib.hid (Below.tr (Below.tr Hb0.out (Below.tr Hb2.out (Below.tr Hb5.out Hbr.out))) hb6)
        clear hb6
        go_wp2_with fail
        go_ret
        exact ⟨rfl, Hb6.out⟩

theorem shown_any (n x y : Int) (l : List (Int × Int)) (v : Value) (w : World) (hv : Deps w v l) :
    Calls Try.prog 14 #[.int .i64 n, v, .agg #[.int .i64 x, .int .i64 y]] w fun e w' => e = .returned (.bool true) ∧ Below w.heap.size w w' := by
  rcases deps_cases n (l.take 14) with h | ⟨m, l', rfl, h, hok⟩
  · exact shown_no n x y l v w hv h
  · exact shown_yes hok rfl x y l h v w hv

namespace dependShown
open Go.ChangeShapes Go.WideShapes Go.ChangeAt
set_option maxRecDepth 100000 in
theorem lifted (os : Os) (started : os.Started) (H : Type) (enc : TypeId × Value → H) :
    ReturnsInHanded {} Try.checked os 14 .any (Rows.dependShownSpec.pre6 enc Try.prog Try.f14 Rows.dependShownRow.domain false) (Rows.dependShownSpec.post enc Try.prog Try.f14 false true false false) := by
  refine returnsInHanded_of_change (C := Try.checked) Try.own started (by kernel_rfl) Try.func14
    (ChangeSpec.witness6 (enc := enc) (C := Try.checked) false ⟨#[], #[.int .i64 0, .slice none 0 0, .agg #[.int .i64 0, .int .i64 0]], []⟩ 8 (by kernel_rfl) (by kernel_rfl) (by kernel_rfl) (by kernel_rfl)) ?_
  intro W base args ds gs before hval0 hW _ _
  have hval : ∀ (j : Nat) t v, Try.f14.params[j]? = some t → args[j]? = some v → Value.okWide Try.prog W .any base t v := hval0
  clear hval0
  obtain rfl : gs = [] := by obtain ⟨p, q, _, hV, _⟩ := hW; exact (trodVars_none hV).1
  have hW' := hW
  obtain ⟨p, q, hA0, hV, rfl, hfz, hnd⟩ := hW
  have hA : DataW.TrodAll enc Try.prog W 0 (fun _ => true) true Try.f14.params.toList args.toList ds p := hA0
  rw [Try.params14] at hA hval
  obtain ⟨v0, vs0, d0, ds0, p0, q0, hv0, hd0, hp0, h0, r0⟩ := trodAll_cons hA
  obtain ⟨v1, vs1, d1, ds1, p1, q1, hv1, hd1, hp1, h1, r1⟩ := trodAll_cons r0
  obtain ⟨v2, vs2, d2, ds2, p2, q2, hv2, hd2, hp2, h2, r2⟩ := trodAll_cons r1
  obtain ⟨hvn, hdn, hpn⟩ := trodAll_nil r2
  have ha : args = #[v0, v1, v2] := by cases args; simp_all
  have hdd : ds = [d0, d1, d2] := by simp_all
  rw [ha] at hval
  obtain ⟨a0, e0, -, -, w0⟩ := open_int Try.underlying3 (hval 0 3 v0 rfl rfl) h0
  obtain ⟨a1, k1⟩ := deps_of_trod Try.underlying22 Try.underlying24 ⟨rfl, rfl⟩ ⟨rfl, rfl⟩ Try.underlying3 Try.cells3 Try.cells24 (okWide_slice Try.underlying22 (hval 1 22 v1 rfl rfl)) h1
  obtain ⟨a2, e2⟩ := pair_arg Try.underlying24 ⟨rfl, rfl⟩ ⟨rfl, rfl⟩ Try.underlying3 Try.cells3 Try.cells24 (hval 2 24 v2 rfl rfl) h2
  have hw : Calls Try.prog 14 args W (fun e W' => e = .returned (.bool true) ∧ Below W.heap.size W W') := by
    rw [ha, e0, e2]; exact shown_any a0 a2.1 a2.2 a1 v1 W k1
  exact hw.mono fun e W' ⟨he, hb⟩ => ⟨_, he, law_post Try.laidOut hW' rfl rfl Try.underlying4 (by rw [hdd]; rfl)
    (by kernel_rfl) hb⟩

theorem holds : Rows.DependShownSaid :=
  OpenClaim.holds_of_wide 14 Try.f14 rfl rfl rfl rfl rfl rfl rfl ⟨rfl, rfl, rfl, rfl, rfl⟩ rfl rfl rfl rfl rfl (by kernel_rfl) Try.func14 (by kernel_rfl)
    (of_decide_eq_true (by kernel_rfl)) (by unfold Func.isWrapper; first | (rw [if_pos (by decide +kernel)]; kernel_rfl) | (rw [if_neg (by decide +kernel)]; exact ⟨rfl, rfl⟩))
    (fun os started H enc _ => lifted os started H enc)
#print axioms holds
end dependShown
end Go.Proofs.Ytnidalbfmicoiaa
