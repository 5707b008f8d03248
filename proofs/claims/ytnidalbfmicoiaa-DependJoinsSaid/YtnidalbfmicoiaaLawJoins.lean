/- DependJoins: for every input the law returns true. -/
import Derived.Test.YtnidalbfmicoiaaMathMix
import Derived.Test.YtnidalbfmicoiaaWalkJa
import Derived.Test.YtnidalbfmicoiaaWalkDc
import Derived.Test.YtnidalbfmicoiaaWalkU
import Derived.Test.YtnidalbfmicoiaaWalkK
import Derived.Test.YtnidalbfmicoiaaFrame
import Derived.Test.YtnidalbfmicoiaaFacts
import Derived.Test.YtnidalbfmicoiaaRows
import Derived.Deep.DeepCutAuto
namespace Go.Proofs.Ytnidalbfmicoiaa
open Go.RowKit

theorem valid_take {n : Int} {l : List (Int × Int)} {s : List Int} : ValidP n (l.take 14) s ↔ ValidP n l s := by
  by_cases h : l.length ≤ 14
  · rw [List.take_of_length_le h]
  · constructor
    · intro hv
      have := hv.1.2.2
      simp at this
      omega
    · intro hv
      have := hv.1.2.2
      omega
set_option maxRecDepth 100000 in
theorem joins_bad (n : Int) (l : List (Int × Int)) (v u t : Value) (w : World) (hv : Deps w v l) (hbad : ¬ ValidP n l []) :
    Calls Try.prog 16 #[.int .i64 n, v, u, t] w fun e w' => e = .returned (.bool true) ∧ Below w.heap.size w w' := by
  have Hv := Lib.hid hv
  have Hno := Lib.hid (show ¬ ValidP n (l.take 14) [] from fun h => hbad (valid_take.1 h))
  clear hv hbad
  go_enter Try.func16, Try.ntmps16
  go_wp2_with fail
  refine (deps_any l _ _ Hv.out).mono ?_
  rintro e w1 ⟨v1, rfl, hd1, hb1⟩
  have Hb1 := Lib.hid hb1
  have Hd1 := Lib.hid hd1
  clear hb1 hd1
  go_wp2_with fail
  refine (dec_bad n _ _ _ Hd1.out Hno.out).mono ?_
  rintro e w2 ⟨rfl, hb2⟩
  have Hb2 := Lib.hid (Below.tr Hb1.out hb2)
  clear hb2
  go_wp2_with fail
  refine (awake_any _).mono ?_
  rintro e w3 ⟨rfl, hb3⟩
  have Hb3 := Lib.hid (Below.tr Hb2.out hb3)
  clear hb3
  go_wp2_with fail
  go_ret
  exact ⟨rfl, Hb3.out⟩
theorem run_to3 {P : Program} {t E : TypeId} {a : Option Addr} {len cap s : Nat} (ht : P.underlying t = some (.slice E))
    (hs : ∀ w, (sizeOf E).run P w = .ok s w) (hc : len ≤ cap) (i : Nat) (w : World) (hi : i ≤ len) :
    (Instr.slice t (.slice a len cap) none (some (.int .i64 i)) (some (.int .i64 i))).run P w = .ok (.slice a i i) w := by
  have he : P.elem t = E := by simp [Program.elem, ht]
  rw [run_slice_hm w t a len cap (by rw [he]; exact ht) .i64 .i64 i i (by omega) (by omega) (by omega), he, hs]
  simp only [Result.andThen, Int.toNat_natCast, sliced, Nat.sub_zero, Nat.zero_mul]
  have : a.map (fun x => x.add 0) = a := by cases a <;> simp [Addr.add_zero']
  rw [this]
  simp
theorem rows_take {w : World} {a : Option Addr} {n cap : Nat} {R : List (List Int)} (h : Rows w (.slice a n cap) R) (k : Nat) (hk : k ≤ R.length) : Rows w (.slice a k k) (R.take k) := by
  obtain ⟨vs, h1, ⟨h2, h3, a', b, off, cap', e, h5, h6⟩, h7⟩ := h
  injection e with e1 e2 e3
  subst e1
  have el : (R.take k).length = k := by simp; omega
  refine ⟨vs.take k, by simp [h1], ⟨by simp [h1], by rw [el]; omega, a, b, off, k, by rw [el], ⟨fun hh => h5.1 (by omega), by omega⟩, fun j hj => ?_⟩, fun i hi hi' => ?_⟩
  · have hj' : j < k := by simp at hj; omega
    rw [h6 j (by omega)]; simp
  · rw [el] at hi
    rw [List.getElem_take, List.getElem_take]
    exact h7 i (by omega) (by omega)
theorem hold_all {l : List DepN} {R : List (List Int)} {m : Nat} (hm : ∀ r ∈ R, r.length = m) (hl : AllLt l (2 ^ m)) (h : ∀ d ∈ l, HoldsR R d.1 d.2) : HoldAll l R m := by
  have hs : Shape R R.length m := ⟨rfl, fun i hi => by
    unfold row; simp only [List.getD, List.getElem?_eq_getElem hi, Option.getD_some]
    exact hm _ (List.getElem_mem hi)⟩
  intro d hd i j hi hj hag
  have e1 : row R i = R[i] := by unfold row; simp [List.getD, hi]
  have e2 : row R j = R[j] := by unfold row; simp [List.getD, hj]
  have hb := hl d hd
  have h1 := (agree_iff (j := j) hs hi hb.1).2 hag
  rw [e1, e2] at h1
  have h2 := (holdsR_all hm hb.2).1 (h d hd) i hi j hj h1
  rw [← e1, ← e2] at h2
  exact (agree_iff hs hi hb.2).1 h2
theorem own_head {base : Nat} {w : World} {v : Value} {l : List Int} (h : OwnInts base w v l) (h0 : 0 < l.length) : ∃ g c, v = .slice (some ⟨g, 0, none⟩) l.length c ∧ base ≤ g ∧ g < w.heap.size := by
  have hlt := h.lt
  rcases h.2 with ⟨rfl, h⟩ | ⟨g, cap, cur, rfl, hg, hh, -⟩
  · omega
  · exact ⟨g, cap, rfl, hg, (hlt g rfl).2⟩
theorem Tab.grown {base m b2 n2 : Nat} {w w' : World} {o v : Value} {gs : List Nat} {T : List (List Int)} {xs : List Value} (h : Tab base m w o gs T) (hv : w.ownsRow b2 56 1 v n2 xs) (hg : w.grownBy w' v.ownBlock) (hne : o.ownBlock = none ∨ o.ownBlock ≠ v.ownBlock) : Tab base m w' o gs T :=
  ⟨h.1, h.2.1, World.ownsRow.kept h.2.2.1 hg hne, fun i a b => ⟨(h.2.2.2 i a b).1, World.ownsRow.kept (h.2.2.2 i a b).2 hg (rows_apart (h.2.2.2 i a b).2 hv (by decide))⟩⟩
/-- what Lossless says of a list of sets -/
theorem loss_cases {m : Nat} {l : List DepN} (hok : Okl m l) (ps : List Int) (v u : Value) (w : World) (hv : Deps w v (castD l)) (hu : Ints w u ps) :
    Calls Try.prog 56 #[.int .i64 m, v, u] w fun e w' => ∃ (b : Bool) (r : Int), e = .returned (.tuple #[.bool b, .int .i64 r]) ∧ ((¬ PartsP m ps ∧ b = false ∧ r = 2) ∨ ∃ q T, ps = castN q ∧ PartsN m q ∧ r = 0 ∧ ChaseEnd l (initTo q m q.length) q.length m T ∧ (b = true ↔ ZeroRow T q.length m)) ∧ Below w.heap.size w w' := by
  by_cases h : PartsP m ps
  · obtain ⟨m', q, em, rfl, -, -, hq⟩ := h
    have em : m = m' := by omega
    subst em
    refine (lossE_ok hok q rfl hq v u w hv hu).mono ?_
    rintro e w' ⟨b, T, he, hT, hb, hB⟩
    exact ⟨b, 0, he, .inr ⟨q, T, rfl, hq, rfl, hT, hb⟩, hB⟩
  · refine (lossE_bad m _ ps v u w hv hu (fun q => h q.2)).mono ?_
    rintro e w' ⟨he, hB⟩
    exact ⟨false, 2, he, .inl ⟨h, rfl, rfl⟩, hB⟩

set_option maxHeartbeats 8000000 in
set_option maxRecDepth 100000 in
theorem joins_ok {m : Nat} {l : List DepN} (hok : Okl m l) (ps : List Int) (R : List (List Int)) (v u t : Value) (w : World) (hv : Deps w v (castD l)) (hu : Ints w u ps) (ht : Rows w t R) :
    Calls Try.prog 16 #[.int .i64 m, v, u, t] w fun e w' => e = .returned (.bool true) ∧ Below w.heap.size w w' := by
  have hm8 := hok.h8
  obtain ⟨F, hF⟩ : ∃ F, F = 2 ^ m := ⟨_, rfl⟩
  have p256 := pow_small m hm8
  obtain ⟨r, hr⟩ := dec_ex (c := cl l) (fun x hx => sub_cl hx) (F - 1) (by omega)
  have e14 : (castD l).take 14 = castD l := List.take_of_length_le (by have := hok.h12; simp [castD]; omega)
  obtain ⟨hrF, hr1, hror⟩ := dec_parts hok hF hr
  have hrl : r.length ≤ 511 := by
    have h1 := length_wts r
    have h2 := (hr.size (F := F) (fun x hx => sub_cl hx) (by omega) (by intro S hS; simp at hS; have := Nat.two_pow_pos m; omega) (by simp)).1
    have h3 : wts ([] ++ [F - 1]) ≤ 511 := by rw [List.nil_append, wts_cons]; exact wt_le
    omega
  have Hloss := Lib.hid (fun k hk T hT => dec_lossless (k := k) hok hF hr hk (T := T) hT)
  have Hnorm := Lib.hid (hr.normal (by simp))
  have hvalid : ValidP m (castD l) [] := validP_nat hok.h1 hok.h8 hok.h12 hok.hl (t := []) (by simp)
  have Hvalid := Lib.hid hvalid
  have Hpn := Lib.hid (show r.length ≤ 8 → PartsN m r from fun h => ⟨hr1, h, by rw [← hF]; exact hrF, by rw [← hF]; exact hror⟩)
  have Hok := Lib.hid hok
  have Hr := Lib.hid hr
  have HF := Lib.hid hF
  have HrF := Lib.hid hrF
  have Hv := Lib.hid hv
  have Hu := Lib.hid hu
  have Ht := Lib.hid ht
  have Hdeps := Lib.hid (fun v w h => deps_any (castD l) v w h)
  rw [e14] at Hdeps
  obtain ⟨a, b, off, cap, rfl, -⟩ := Deps.get hv
  obtain ⟨au, bu, offu, capu, rfl, hleu, hau, hccu⟩ := Ints.get hu
  obtain ⟨i0, hi0, hz0, hz1, hz2⟩ := info_parts info3
  have Hi0 := Lib.hid hi0
  have Hz0 := Lib.hid hz0
  have Hz1 := Lib.hid hz1
  have hby : i0.bytes * m ≤ 281474976710656 := by rw [hz2]; omega
  have Hby := Lib.hid hby
  obtain ⟨kp, hkp⟩ : ∃ k, k = ps.length := ⟨_, rfl⟩
  rw [← hkp] at hleu hau Hu ⊢
  have Hkp := Lib.hid hkp
  have Hccu := Lib.hid hccu
  have hixu := run_ix (P := Try.prog) (t := 56) (a := au) (len := kp) (cap := capu) (b := bu) (off := offu) (s := 1) Try.underlying56 (by intro w; kernel_rfl) hau
  clear hv hu ht hok hr hF hrF hror hr1 hvalid e14 hi0 hz0 hz1 hz2 hby hkp hau hccu
  go_enter Try.func16, Try.ntmps16
  go_wp2_with fail
  refine (Hdeps.out _ _ Hv.out).mono ?_
  rintro e w1 ⟨v1, rfl, hd1, hb1⟩
  have Hb1 := Lib.hid hb1
  have Hd1 := Lib.hid hd1
  clear hb1 hd1
  go_wp2_with fail
  refine (dec_F Hok.out HF.out r Hr.out _ _ Hd1.out).mono ?_
  rintro e w2 ⟨u2, rfl, hi2, hb2⟩
  have Hb2 := Lib.hid (Below.tr Hb1.out hb2)
  have Hi2 := Lib.hid hi2
  obtain ⟨a2, b2, off2, cap2, rfl, hle2, ha2, hcc2⟩ := Ints.get hi2
  have e1 := castN_length r
  have hc2 : ∀ i (h : i < r.length), w2.cell? ⟨b2, off2 + i, none⟩ = some (.int .i64 ((r[i] : Nat) : Int)) := by
    intro i hi
    have := hcc2 i (by rw [e1]; exact hi)
    simpa [castN] using this
  rw [e1] at hle2 ha2 Hi2 ⊢
  have hix2 := run_ix (P := Try.prog) (t := 56) (a := a2) (len := r.length) (cap := cap2) (b := b2) (off := off2) (s := 1) Try.underlying56 (by intro w; kernel_rfl) ha2
  have Hc2 := Lib.hid hc2
  clear hb2 hi2 Hd1 Hb1 hcc2 hc2 e1 ha2
  go_wp2_with fail
  refine (validR_any m (castD l) _ _ (Deps.keep Hv.out Hb2.out)).mono ?_
  rintro e w3 ⟨rfl, hb3⟩
  have Hb23 := Lib.hid hb3
  have Hb3 := Lib.hid (Below.tr Hb2.out hb3)
  clear hb3
  rw [decide_eq_true Hvalid.out]
  go_wp2_with fail
  refine (Hdeps.out _ _ (Deps.keep Hv.out Hb3.out)).mono ?_
  rintro e w4 ⟨v4, rfl, hd4, hb4⟩
  have Hd4 := Lib.hid hd4
  have Hb24 := Lib.hid (Below.tr Hb23.out hb4)
  have Hb4 := Lib.hid (Below.tr Hb3.out hb4)
  clear hd4 hb4
  go_wp2_with fail
  refine (loss_cases Hok.out (castN r) _ _ _ Hd4.out (Ints.keep Hi2.out Hb24.out)).mono ?_
  rintro e w5 ⟨bz, ez, rfl, hz, hb5⟩
  have Hb25 := Lib.hid (Below.tr Hb24.out hb5)
  have Hb5 := Lib.hid (Below.tr Hb4.out hb5)
  have hz2 : r.length ≤ 8 → bz = true ∧ ez = 0 := fun h8 => by
    rcases hz with ⟨hn, -, -⟩ | ⟨q, T, eq, hq, rfl, hT, hb⟩
    · exact absurd ⟨m, r, rfl, rfl, Hok.out.h1, Hok.out.h8, Hpn.out h8⟩ hn
    · have eq := castN_inj eq
      subst eq
      exact ⟨hb.2 (Hloss.out _ rfl T hT), rfl⟩
  have Hz2 := Lib.hid hz2
  clear hz hb5 Hb23 Hb24 Hd4 hz2
  go_upto_region 5 with fail
  go_cut [74] (fun z wx => z = .bool false ∧ w5 = wx)
  case first =>
    by_cases h8 : r.length ≤ 8
    · obtain ⟨rfl, rfl⟩ := Hz2.out h8
      go_wp2_with fail
      go_meet
      exact ⟨rfl, rfl⟩
    · go_wp2_with fail
      go_meet
      exact ⟨rfl, rfl⟩
  case rest => as_aux_lemma =>
    obtain ⟨rfl, hwc⟩ := hcut
    subst hwc
    go_wp2_with fail
    go_loopw [77] (fun i wr => ∃ j : Nat, i = .int .i64 j ∧ j ≤ r.length ∧ Below w5.heap.size w5 wr) (fun i _ => r.length - (intOf i).toNat)
    case atStart => exact ⟨0, rfl, Nat.zero_le _, Below.refl _ _⟩
    case round => as_aux_lemma =>
      obtain ⟨j, rfl, hj, hb⟩ := hrel
      have Hb := Lib.hid hb
      clear hb
      by_cases hlt : j < r.length
      ·
        have hcell := Below.keep (Below.tr Hb25.out Hb.out) (Hc2.out j hlt)
        have hSF := HrF.out _ (List.getElem_mem hlt)
        have hS : r[j] < 2 ^ m := by rw [← HF.out]; exact hSF
        have hn := Hnorm.out _ (List.getElem_mem hlt)
        generalize r[j] = S at *
        have Hn := Lib.hid hn
        have HS := Lib.hid hS
        clear hn hS hSF
        go_wp2_with fail
        refine (Hdeps.out _ _ (Deps.keep Hv.out (Below.tr Hb5.out Hb.out))).mono ?_
        rintro e w6 ⟨v6, rfl, hd6, hb6⟩
        have Hd6 := Lib.hid hd6
        have Hb6 := Lib.hid (Below.tr Hb.out hb6)
        clear hd6 hb6
        go_wp2_with fail
        refine (vioE_ok Hok.out HS.out _ _ Hd6.out).mono ?_
        rintro e w7 ⟨he, hb7⟩
        have Hb7 := Lib.hid (Below.tr Hb6.out hb7)
        rcases he with ⟨-, rfl⟩ | ⟨d, h2, -⟩
        · clear hb7
          go_wp2_with fail
          go_roundw
          case rel => exact ⟨j + 1, by go_num, by omega, Hb7.out.alloc Hb7.out.size _⟩
          case measure => simp [intOf]; omega
        · rw [Hn.out] at h2; cases h2
        
      · have Hb6 := Lib.hid (Below.tr Hb5.out Hb.out)
        go_wp2_with fail
        refine (Hdeps.out _ _ (Deps.keep Hv.out Hb6.out)).mono ?_
        rintro e w8 ⟨v8, rfl, hd8, hb8⟩
        have Hd8 := Lib.hid hd8
        have Hb8 := Lib.hid (Below.tr Hb6.out hb8)
        clear hd8 hb8
        go_wp2_with fail
        refine (list_any ps _ _ (Ints.keep Hu.out Hb8.out)).mono ?_
        rintro e w9 ⟨u9, rfl, hi9, hb9⟩
        have Hd9 := Lib.hid (Deps.keep Hd8.out hb9)
        have Hi9 := Lib.hid hi9
        have Hb9 := Lib.hid (Below.tr Hb8.out hb9)
        clear hi9 hb9 Hd8
        go_wp2_with fail
        refine (loss_cases Hok.out (ps.take 10) _ _ _ Hd9.out Hi9.out).mono ?_
        rintro e w10 ⟨b10, e10, rfl, hz10, hb10⟩
        have Hb10 := Lib.hid (Below.tr Hb9.out hb10)
        clear hb10 Hd9 Hi9
        rcases hz10 with ⟨hn, rfl, rfl⟩ | ⟨q, T, eq, hq, rfl, hT, hbz⟩
        · clear hn
          go_wp2_with fail
          refine (awake_any _).mono ?_
          rintro e w11 ⟨rfl, hb11⟩
          have Hb11 := Lib.hid (Below.tr Hb10.out hb11)
          clear hb11
          go_wp2_with fail
          go_ret
          exact ⟨rfl, Hb11.out⟩
        · have eps : ps = castN q := by
            have h8 := hq.2.1
            have h1 := congrArg List.length eq
            rw [castN_length, List.length_take] at h1
            rwa [List.take_of_length_le (by omega)] at eq
          have HT := Lib.hid hT
          have Hq := Lib.hid hq
          have Hbz := Lib.hid hbz
          have Heps := Lib.hid eps
          clear hT hq hbz eq eps
          cases b10 with
          | false =>
            go_wp2_with fail
            refine (awake_any _).mono ?_
            rintro e w11 ⟨rfl, hb11⟩
            have Hb11 := Lib.hid (Below.tr Hb10.out hb11)
            clear hb11
            go_wp2_with fail
            go_ret
            exact ⟨rfl, Hb11.out⟩
          | true =>
            go_wp2_with fail
            refine (table_any m R _ _ (Rows.keep Ht.out Hb10.out)).mono ?_
            rintro e w11 ⟨rfl, rfl⟩
            by_cases htb : TblP m R
            · rw [decide_eq_true htb]
              have Htb := Lib.hid htb
              clear htb
              go_wp2_with fail
              refine (partsR_any m F Hok.out.h1 hm8 HF.out ps _ _ (Ints.keep Hu.out Hb10.out)).mono ?_
              rintro e w12 ⟨b12, rfl, hb12', hb12⟩
              have Hb12 := Lib.hid (Below.tr Hb10.out hb12)
              obtain rfl : b12 = true := hb12'.2 ⟨m, q, rfl, Heps.out, Hok.out.h1, hm8, Hq.out⟩
              clear hb12 hb12'
              have Ht12 := Lib.hid (Rows.keep Ht.out Hb12.out)
              obtain ⟨ta, tb, toff, tc, tvs, htv, -, -, -, -, -⟩ := Rows.get Ht12.out
              subst htv
              have htc : R.length ≤ tc := by
                obtain ⟨vs, q1, q2, q3⟩ := Ht12.out
                exact (Rd.cap q2).1
              have hto3 := run_to3 (P := Try.prog) (t := 34) (a := ta) (len := R.length) (cap := tc) (s := 1) Try.underlying34 (by intro w; kernel_rfl) htc
              have hl60 := Htb.out.2.1
              go_upto_region 17 with fail
              go_cut [3] (fun z wx => w12 = wx ∧ Rows wx z (R.take 3))
              case first =>
                
                by_cases h3 : R.length ≤ 3
                · have hs1 := fun w => hto3 R.length w (Nat.le_refl _)
                  have HR := Lib.hid (show Rows w12 (.slice ta R.length R.length) (R.take 3) by
                    have e4 := rows_take Ht12.out R.length (Nat.le_refl _)
                    rw [List.take_length] at e4
                    rw [List.take_of_length_le h3]
                    exact e4)
                  by_cases h3' : R.length = 3
                  · have e3 := h3'
                    rw [h3'] at hs1 HR
                    go_wp2_with fail
                    go_meet
                    exact ⟨rfl, HR.out⟩
                  · go_wp2_with fail
                    go_meet
                    exact ⟨rfl, HR.out⟩
                · have hs1 : ∀ w, _ := fun w => hto3 3 w (by omega)
                  have HR := Lib.hid (rows_take Ht12.out 3 (by omega))
                  go_wp2_with fail
                  go_meet
                  exact ⟨rfl, HR.out⟩
                
              case rest => as_aux_lemma =>
                obtain ⟨hwc, hR3⟩ := hcut
                subst hwc
                have HR3 := Lib.hid hR3
                clear hR3 hto3 htc
                have hR3l : (R.take 3).length ≤ 3 := by simp; omega
                have hR3m : ∀ r ∈ R.take 3, r.length = m := fun r hr => by
                  have := Htb.out.2.2 r (List.mem_of_mem_take hr)
                  omega
                have HTp := Lib.hid (show TableP m (R.take 3) from ⟨by omega, fun r hr => by rw [hR3m r hr]⟩)
                have HR3m := Lib.hid hR3m
                clear hR3m
                generalize R.take 3 = R3 at *
                go_wp2_with fail
                refine (Hdeps.out _ _ (Deps.keep Hv.out Hb12.out)).mono ?_
                rintro e w13 ⟨v13, rfl, hd13, hb13⟩
                have Hb1213 := Lib.hid hb13
                have Hb13 := Lib.hid (Below.tr Hb12.out hb13)
                obtain ⟨a13, b13, off13, cap13, rfl, hle13, ha13, hcc13⟩ := Deps.get hd13
                have el : (castD l).length = l.length := by simp [castD]
                have hc13 : ∀ i (h : i < l.length), w13.cell? ⟨b13, off13 + i * 2, none⟩ = some (.int .i64 ((l[i].1 : Nat) : Int)) ∧ w13.cell? ⟨b13, off13 + i * 2 + 1, none⟩ = some (.int .i64 ((l[i].2 : Nat) : Int)) := by
                  intro i hi
                  have := hcc13 i (by omega)
                  simpa [castD] using this
                have Hc13 := Lib.hid hc13
                rw [el] at hle13 ha13
                rw [show (Value.slice a13 (castD l).length cap13) = .slice a13 l.length cap13 by rw [el]]
                have hix13 := run_ix (P := Try.prog) (t := 28) (a := a13) (len := l.length) (cap := cap13) (b := b13) (off := off13) (s := 2) Try.underlying28 (by intro w; kernel_rfl) ha13
                clear hd13 hb13 hcc13 hc13 ha13 el
                go_wp2_with fail
                go_loopw [139] (fun i wr => ∃ ii : Nat, i = .int .i64 ii ∧ ii ≤ l.length ∧ Below w13.heap.size w13 wr ∧ ∀ n, n < ii → ∀ d, l[n]? = some d → HoldsR R3 d.1 d.2) (fun i _ => l.length - (intOf i).toNat)
                case atStart => exact ⟨0, rfl, Nat.zero_le _, Below.refl _ _, fun n hn => by omega⟩
                case round => as_aux_lemma =>
                  obtain ⟨ii, rfl, hii, hb, hin⟩ := hrel
                  have Hb14 := Lib.hid hb
                  have Hin := Lib.hid hin
                  clear hb hin
                  by_cases hlt2 : ii < l.length
                  ·
                    have hc1 := Below.keep Hb14.out (Hc13.out ii hlt2).1
                    have hc2 := Below.keep Hb14.out (Hc13.out ii hlt2).2
                    have hld := Hok.out.hl _ (List.getElem_mem hlt2)
                    have Hget := Lib.hid (List.getElem?_eq_getElem hlt2)
                    generalize l[ii] = d at *
                    have Hld := Lib.hid hld
                    clear hld
                    go_wp2_with fail
                    have Hb15 := Lib.hid (Hb14.out.alloc Hb14.out.size (.cells #[.int .i64 (d.1 : Nat), .int .i64 (d.2 : Nat)] 32))
                    refine (holds_ok Hok.out.h1 hm8 Hld.out.1 Hld.out.2 R3 HTp.out _ _ (Rows.keep HR3.out (Below.tr Hb1213.out Hb15.out))).mono ?_
                    rintro e w16 ⟨rfl, hb16⟩
                    have Hb16 := Lib.hid (Below.tr Hb15.out hb16)
                    clear hb16
                    by_cases hH : HoldsR R3 d.1 d.2
                    · rw [decide_eq_true hH]
                      have R2 := Lib.hid (show ∀ n, n < ii + 1 → ∀ d, l[n]? = some d → HoldsR R3 d.1 d.2 from fun n hn d' hd' => by
                        rcases Nat.lt_succ_iff_lt_or_eq.1 hn with hn | rfl
                        · exact Hin.out n hn d' hd'
                        · have := Hget.out
                          rw [this] at hd'
                          cases hd'
                          exact hH)
                      clear hH
                      go_wp2_with fail
                      go_roundw
                      case rel => exact ⟨ii + 1, by go_num, by omega, Hb16.out, R2.out⟩
                      case measure => simp [intOf]; omega
                    · rw [decide_eq_false hH]
                      clear hH
                      go_wp2_with fail
                      refine (awake_any _).mono ?_
                      rintro e w17 ⟨rfl, hb17⟩
                      have Hb17 := Lib.hid (Below.tr Hb13.out (Below.tr Hb16.out hb17))
                      clear hb17
                      go_wp2_with fail
                      go_ret
                      exact ⟨rfl, Hb17.out⟩
                    
                  · have HH := Lib.hid (show HoldAll l R3 m from hold_all (fun r hr => HR3m.out r hr) Hok.out.hl (fun d hd => by
                      obtain ⟨n, hn, rfl⟩ := List.mem_iff_getElem.1 hd
                      exact Hin.out n (by omega) _ (List.getElem?_eq_getElem hn)))
                    have HBA := Lib.hid (Below.tr Hb13.out Hb14.out)
                    have HR3b := Lib.hid (Rows.keep HR3.out (Below.tr Hb1213.out Hb14.out))
                    have hkq : kp = q.length := by have h1 := Hkp.out; have h2 := congrArg List.length Heps.out; rw [castN_length] at h2; omega
                    have hq8 := Hq.out.2.1
                    have Hcu := Lib.hid (show ∀ i (h : i < q.length), w.cell? ⟨bu, offu + i, none⟩ = some (.int .i64 ((q[i] : Nat) : Int)) from fun i hi => by
                      have h1 := Hkp.out
                      have h3 : i < ps.length := by omega
                      have h2 := Hccu.out i h3
                      have h4 : ps[i] = ((q[i] : Nat) : Int) := by
                        have : ps[i]? = (castN q)[i]? := by rw [Heps.out]
                        rw [List.getElem?_eq_getElem h3, List.getElem?_eq_getElem (by rw [castN_length]; exact hi)] at this
                        have := Option.some.inj this
                        rw [this]; simp [castN]
                      rw [h2, h4])
                    have Hkq := Lib.hid hkq
                    have hk8 : kp ≤ 8 := by omega
                    clear hkq hq8
                    obtain ⟨ra, rb, roff, rc, rvs, hrv, -⟩ := Rows.get HR3b.out
                    subst hrv
                    have Hfin := Lib.hid (fun z (hz : JoinOk R3 q m q.length z) => join_mem HT.out (Hbz.out.1 trivial) HH.out HR3m.out hz)
                    go_wp2_with (refine wpList_make_full _ rfl (.tmp 162) (.tmp 162) 56 rfl wr.heap.size 3 i0 (.int .i64 0) 1 Try.underlying56 Hi0.out Hz0.out Hz1.out .i64 .i64 _ _ m rfl rfl rfl rfl Hby.out (by unfold maxLen; omega) (Nat.le_refl _) ?_; intro w18 hown hg)
                    have hz18 : OwnInts wr.heap.size w18 (.slice (some ⟨wr.heap.size, 0, none⟩) m m) (List.replicate m 0) := by
                      have e : (madeCells (Value.int IntKind.i64 0).cells (m * 1)).toList = (List.replicate m (0 : Int)).map (Value.int .i64) := by rw [Nat.mul_one]; exact zeros_list m
                      rw [e] at hown
                      unfold OwnInts
                      simpa using hown
                    have hb18 : Below wr.heap.size wr w18 := (Below.refl _ _).grown hg (Nat.le_refl _) (fun k hk => by cases hk)
                    have Hz18 := Lib.hid hz18
                    have Hb18 := Lib.hid hb18
                    clear hown hg hz18 hb18
                    go_wp2_with fail
                    have Hj0 := Lib.hid (show Rows (w18.alloc (.cells #[.slice (some ⟨wr.heap.size, 0, none⟩) m m] 56)) (.slice (some ⟨w18.heap.size, 0, none⟩) 1 1) [List.replicate m 0] from
                      ⟨[.slice (some ⟨wr.heap.size, 0, none⟩) m m], rfl, rd_new w18 #[.slice (some ⟨wr.heap.size, 0, none⟩) m m] 56 1 1 rfl (by unfold maxLen; omega), fun i h h' => by
                        match i, h with
                        | 0, _ => exact (Hz18.out.keep (below_alloc _ _)).ints⟩)
                    have Hb19 := Lib.hid (Below.tr Hb18.out (below_alloc w18 (.cells #[.slice (some ⟨wr.heap.size, 0, none⟩) m m] 56)))
                    generalize w18.alloc (.cells #[.slice (some ⟨wr.heap.size, 0, none⟩) m m] 56) = w19 at *
                    obtain ⟨w17, hw17⟩ : ∃ w17 : World, w17 = wr := ⟨_, rfl⟩
                    subst hw17
                    generalize w18.heap.size = g18 at *
                    go_loopw [22, 23, 167] (fun jv dv iv wr => ∃ (p ln : Nat) (L : List (List Int)) (ja : Option Addr) (jc : Nat), jv = .slice ja ln jc ∧ dv = .int .i64 (orTo q p : Nat) ∧ iv = .int .i64 p ∧ p ≤ kp ∧ ln = L.length ∧ Rows wr (.slice ja ln jc) L ∧ L.length ≤ 3 ^ p ∧ (∀ z ∈ L, JoinOk R3 q m p z) ∧ Below w17.heap.size w17 wr) (fun _ _ i _ => kp - (intOf i).toNat)
                    case atStart => exact ⟨0, 1, [List.replicate m 0], _, _, rfl, rfl, rfl, Nat.zero_le _, rfl, Hj0.out, by simp, fun z hz => by
                      simp at hz; subst hz; exact ⟨by simp, fun i hi => by omega⟩, Hb19.out⟩
                    case round => as_aux_lemma =>
                      obtain ⟨p, ln, L, ja, jc, rfl, rfl, rfl, hp, hln, hL, hL3, hJ, hb⟩ := hrel
                      have HL := Lib.hid hL
                      have HL3 := Lib.hid hL3
                      have HJ := Lib.hid hJ
                      have Hb20 := Lib.hid hb
                      have Hln := Lib.hid hln
                      obtain ⟨la, lb, loff, lcap, lvs, elv, hlle, hla, hlvs, hlc, hlr⟩ := Rows.get hL
                      injection elv with e1 e2 e3
                      subst e1 e3
                      rw [← hln] at hlle hla hlvs
                      have hixl := run_ix (P := Try.prog) (t := 34) (a := ja) (len := ln) (cap := jc) (b := lb) (off := loff) (s := 1) Try.underlying34 (by intro w; kernel_rfl) hla
                      have Hlc := Lib.hid hlc
                      have Hlr := Lib.hid hlr
                      have Hlvs := Lib.hid hlvs
                      have hln6 : ln ≤ 6561 := by
                        have h1 := HL3.out
                        have h2 : 3 ^ p ≤ 3 ^ 8 := Nat.pow_le_pow_right (by decide) (by omega)
                        have h3 : (3 : Nat) ^ 8 = 6561 := by decide
                        omega
                      clear hL hL3 hJ hb hln hla hlvs hlc hlr e2
                      by_cases hltp : p < kp
                      · have hpq : p < q.length := by have := Hkq.out; omega
                        have hcell := Below.keep (Below.tr HBA.out Hb20.out) (Hcu.out p hpq)
                        have hs2 := Hq.out.2.2.1 _ (List.getElem_mem hpq)
                        have hgp : q.getD p 0 = q[p] := by simp [List.getD, hpq]
                        have Hor := Lib.hid (show orTo q (p + 1) = orTo q p ||| q.getD p 0 from rfl)
                        rw [hgp] at Hor
                        have horl : orTo q p < 2 ^ m := orTo_lt Hq.out.2.2.1 p (by omega)
                        have Hgp := Lib.hid hgp
                        clear hgp
                        generalize q[p] = s at *
                        have hs256 : s < 256 := by omega
                        have hD256 : orTo q p < 256 := by omega
                        have Hdef := Lib.hid (show True from trivial)
                        clear hs2 horl hpq
                        go_wp2_with fail
                        obtain ⟨w20, hw20⟩ : ∃ w20 : World, w20 = wr := ⟨_, rfl⟩
                        subst hw20
                        go_loopw [26, 173] (fun nv iv wr => ∃ (xi nn : Nat) (N : List (List Int)) (na : Option Addr) (nc : Nat), nv = .slice na nn nc ∧ iv = .int .i64 xi ∧ xi ≤ ln ∧ nn = N.length ∧ OwnRows w20.heap.size wr (.slice na nn nc) N ∧ nn ≤ 3 * xi ∧ (∀ z ∈ N, JoinOk R3 q m (p + 1) z) ∧ Below w20.heap.size w20 wr) (fun _ i _ => ln - (intOf i).toNat)
                        case atStart => exact ⟨0, 0, [], none, 0, rfl, rfl, Nat.zero_le _, rfl, ⟨[], rfl, World.ownsRow_nil _ _ _ _, fun i h => by simp at h⟩, by omega, fun z hz => by simp at hz, Below.refl _ _⟩
                        case round => as_aux_lemma =>
                          obtain ⟨xi, nn, N, na, nc, rfl, rfl, hxi, hnn, hown, hn3, hJN, hb⟩ := hrel
                          have Hnn := Lib.hid hnn
                          have Hown := Lib.hid hown
                          have HJN := Lib.hid hJN
                          have Hb21 := Lib.hid hb
                          clear hnn hown hJN hb
                          by_cases hltx : xi < ln
                          · have hx2 : xi < lvs.length := by have := Hlvs.out; omega
                            have hx3 : xi < L.length := by have := Hln.out; omega
                            have hcell := Below.keep Hb21.out (Hlc.out xi hx2)
                            have HIx := Lib.hid (Hlr.out xi hx3 hx2)
                            have HJx := Lib.hid (HJ.out _ (List.getElem_mem hx3))
                            generalize lvs[xi] = xv at *
                            generalize L[xi] = x at *
                            clear hx2 hx3
                            go_wp2_with fail
                            refine (project_any R3 m s hm8 hs256 (by omega) HR3m.out _ _ (Rows.keep HR3b.out (Below.tr Hb20.out Hb21.out))).mono ?_
                            rintro e w22 ⟨pv, gsP, rfl, htab, hb22⟩
                            obtain ⟨pa, pc, hpv⟩ := ownRow_slice htab.2.2.1
                            rw [projTo_length] at hpv
                            subst hpv
                            have Htab := Lib.hid htab
                            have Hb22 := Lib.hid (Below.tr Hb21.out hb22)
                            have Hown22 := Lib.hid (Hown.out.keep hb22)
                            have Hap := Lib.hid (show ∀ g, (Value.slice na nn nc).ownBlock = some g → (Value.slice pa R3.length pc).ownBlock ≠ some g from fun g h1 h2 => by
                              obtain ⟨vs, -, hov, -⟩ := Hown.out
                              have q1 := (hov.lt g h1).2
                              have q2 := (htab.2.2.1.lt g h2).1
                              omega)
                            clear htab hb22 hcell
                            go_wp2_with fail
                            obtain ⟨w21, hw21⟩ : ∃ w21 : World, w21 = wr := ⟨_, rfl⟩
                            subst hw21
                            go_loopw [26, 181] (fun nv iv wr => ∃ (yi nn : Nat) (N : List (List Int)) (na : Option Addr) (nc : Nat), nv = .slice na nn nc ∧ iv = .int .i64 yi ∧ yi ≤ R3.length ∧ nn = N.length ∧ OwnRows w20.heap.size wr (.slice na nn nc) N ∧ nn ≤ 3 * xi + yi ∧ (∀ z ∈ N, JoinOk R3 q m (p + 1) z) ∧ Below w20.heap.size w20 wr ∧ Tab w21.heap.size m wr (.slice pa R3.length pc) gsP (projTo R3 s m R3.length) ∧ ∀ g, (Value.slice na nn nc).ownBlock = some g → (Value.slice pa R3.length pc).ownBlock ≠ some g) (fun _ i _ => R3.length - (intOf i).toNat)
                            case atStart => exact ⟨0, nn, N, na, nc, rfl, rfl, Nat.zero_le _, Hnn.out, Hown22.out, by omega, HJN.out, Hb22.out, Htab.out, Hap.out⟩
                            case round => as_aux_lemma =>
                              obtain ⟨yi, nn, N, na, nc, rfl, rfl, hyi, hnn, hown, hn3, hJN, hb, htab, hap⟩ := hrel
                              have Hnn := Lib.hid hnn
                              have Hown := Lib.hid hown
                              have HJN := Lib.hid hJN
                              have Hb23 := Lib.hid hb
                              have Htab := Lib.hid htab
                              have Hap := Lib.hid hap
                              clear hnn hown hJN hb htab hap
                              by_cases hlty : yi < R3.length
                              · obtain ⟨pb, pc', hpa⟩ := Htab.out.head (by rw [projTo_length]; omega)
                                rw [projTo_length] at hpa
                                injection hpa with e1 e2 e3
                                subst e1 e3
                                have hyP : yi < (projTo R3 s m R3.length).length := by rw [projTo_length]; exact hlty
                                have hyg : yi < gsP.length := by rw [Htab.out.1]; exact hyP
                                have cy := Htab.out.cellAt yi hyP hyg
                                have hPy : (projTo R3 s m R3.length)[yi] = prTo (row R3 yi) s m m := by simp [projTo]
                                have Hny := Lib.hid (show ∀ a, a < m → wr.cell? ⟨gsP[yi], a, none⟩ = some (.int .i64 ((prTo (row R3 yi) s m m).getD a 0)) from fun a ha => by
                                  have := (Htab.out.numAt yi hyP hyg a ha).1
                                  rwa [hPy] at this)
                                unfold rowV at cy
                                have hixp := run_ix (P := Try.prog) (t := 34) (a := some ⟨pb, 0, none⟩) (len := R3.length) (cap := pc) (b := pb) (off := 0) (s := 1) Try.underlying34 (by intro w; kernel_rfl) (fun _ => rfl)
                                generalize gsP[yi] = gy at *
                                clear hyP hyg hPy e2
                                have hym : R3.length ≤ 3 := hR3l
                                have HIx2 := Lib.hid (Ints.keep HIx.out Hb23.out)
                                go_wp2_with fail
                                refine (clone_any x _ _ (by rw [HJx.out.1]; omega) HIx2.out).mono ?_
                                rintro e w24 ⟨zv, rfl, hz, hb24⟩
                                obtain ⟨gz, zc, hzv, hgz1, hgz2⟩ := own_head hz (by rw [HJx.out.1]; have := Hok.out.h1; omega)
                                rw [HJx.out.1] at hzv
                                subst hzv
                                have Hz := Lib.hid (show w24.ownsRow wr.heap.size 3 1 (.slice (some ⟨gz, 0, none⟩) m zc) m ((mixTo x (prTo (row R3 yi) s m m) s m 0).map (Value.int .i64)) by
                                  rw [mixTo_zero _ _ HJx.out.1]
                                  have := hz
                                  unfold OwnInts at this
                                  rwa [HJx.out.1] at this)
                                have Hb24 := Lib.hid hb24
                                clear hz hb24 cy
                                go_wp2_with fail
                                have Hbox := Lib.hid (cell_new w24 #[.slice (some ⟨gz, 0, none⟩) m zc] 56 0)
                                have Hb25' := Lib.hid (Below.tr Hb24.out (below_alloc w24 (.cells #[.slice (some ⟨gz, 0, none⟩) m zc] 56)))
                                have Hz25 := Lib.hid (World.ownsRow.alloc Hz.out (.cells #[.slice (some ⟨gz, 0, none⟩) m zc] 56))
                                generalize w24.alloc (.cells #[.slice (some ⟨gz, 0, none⟩) m zc] 56) = w25 at *
                                generalize w24.heap.size = B at *
                                obtain ⟨wk, hwk⟩ : ∃ wk : World, wk = wr := ⟨_, rfl⟩
                                subst hwk
                                generalize hy : prTo (row R3 yi) s m m = y at *
                                have Hy := Lib.hid hy
                                clear hy
                                have hixz := run_ix (P := Try.prog) (t := 56) (a := some ⟨gz, 0, none⟩) (len := m) (cap := zc) (b := gz) (off := 0) (s := 1) Try.underlying56 (by intro w; kernel_rfl) (fun _ => rfl)
                                have hixy := run_ix (P := Try.prog) (t := 56) (a := some ⟨gy, 0, none⟩) (len := m) (cap := m) (b := gy) (off := 0) (s := 1) Try.underlying56 (by intro w; kernel_rfl) (fun _ => rfl)
                                go_loopw [32, 188] (fun fv av wz => ∃ a : Nat, fv = .bool (fitTo x y s (orTo q p) a) ∧ av = .int .i64 a ∧ a ≤ m ∧ wz.ownsRow wk.heap.size 3 1 (.slice (some ⟨gz, 0, none⟩) m zc) m ((mixTo x y s m a).map (Value.int .i64)) ∧ wz.cell? ⟨B, 0, none⟩ = some (.slice (some ⟨gz, 0, none⟩) m zc) ∧ Below wk.heap.size wk wz) (fun _ i _ => m - (intOf i).toNat)
                                case atStart => exact ⟨0, rfl, rfl, Nat.zero_le _, Hz25.out, Hbox.out, Hb25'.out⟩
                                case round => as_aux_lemma =>
                                  obtain ⟨a, rfl, rfl, ha, hzr, hbx, hbz⟩ := hrel
                                  have Hzr := Lib.hid hzr
                                  have Hbx := Lib.hid hbx
                                  have Hbz2 := Lib.hid hbz
                                  clear hzr hbx hbz
                                  by_cases hlta : a < m
                                  ·
                                    have t1 := shr_bit s a hs256
                                    have t2 := shr_bit (orTo q p) a hD256
                                    have zcell := World.ownsRow.cellAt Hzr.out a (by omega)
                                    have zfz := World.ownsRow.frozenAt Hzr.out a
                                    rw [List.getElem?_map, List.getElem?_eq_getElem (by rw [mixTo_length]; exact hlta), Option.map_some] at zcell
                                    have hzx : (mixTo x y s m a)[a]'(by rw [mixTo_length]; exact hlta) = x.getD a 0 := by simp [mixTo, List.getD]
                                    rw [hzx] at zcell
                                    have ycell := Below.keep Hbz2.out (Hny.out a hlta)
                                    have hbx := Hbx.out
                                    have Hst := Lib.hid (World.ownsRow.stored Hzr.out a (.int .i64 (y.getD a 0)))
                                    clear hzx
                                    cases hbit : s.testBit a with
                                    | false =>
                                      have R2 := Lib.hid (mixTo_skip x y m hbit)
                                      have R3' := Lib.hid (show fitTo x y s (orTo q p) (a + 1) = fitTo x y s (orTo q p) a by rw [fitTo, hbit]; rfl)
                                      rw [hbit] at t1
                                      simp only [Bool.false_eq_true, if_false] at t1
                                      clear hbit t2
                                      go_wp2_with fail
                                      go_roundw
                                      case rel => exact ⟨a + 1, by rw [R3'.out], by go_num, by omega, by rw [R2.out]; exact Hzr.out, Hbx.out, Hbz2.out⟩
                                      case measure => simp [intOf]; omega
                                    | true =>
                                      have R2 := Lib.hid (mixTo_set x y m hbit)
                                      have R3' := Lib.hid (show fitTo x y s (orTo q p) (a + 1) = (fitTo x y s (orTo q p) a && (!(orTo q p).testBit a || decide (x.getD a 0 = y.getD a 0))) by rw [fitTo, hbit]; rfl)
                                      rw [hbit] at t1
                                      simp only [if_true] at t1
                                      generalize x.getD a 0 = xa at *
                                      generalize hya : y.getD a 0 = ya at *
                                      have Hbit := Lib.hid hbit
                                      have Hya := Lib.hid hya
                                      clear hbit hya
                                      have ha1 : (0 : Int) ≤ (a : Int) := by omega
                                      have ha2 : (a : Int) < (m : Int) := by omega
                                      go_upto_region 41 with fail
                                      go_cut [32] (fun z wx => z = .bool (fitTo x y s (orTo q p) (a + 1)) ∧ ∃ n, wx = wr.drewN n)
                                      case first =>
                                        cases hf : fitTo x y s (orTo q p) a with
                                        | false =>
                                          have Hf := Lib.hid hf
                                          clear t2 hf
                                          go_wp2_with fail
                                          go_quiet (fail)
                                          go_wp2_with fail
                                          go_meet
                                          exact ⟨by rw [R3'.out, Hf.out]; rfl, _, rfl⟩
                                        | true =>
                                          have Hf := Lib.hid hf
                                          clear hf
                                          cases hDb : (orTo q p).testBit a with
                                          | false =>
                                            rw [hDb] at t2
                                            simp only [Bool.false_eq_true, if_false] at t2
                                            have HDb := Lib.hid hDb
                                            clear hDb
                                            go_wp2_with fail
                                            go_quiet (fail)
                                            go_wp2_with fail
                                            go_meet
                                            exact ⟨by rw [R3'.out, Hf.out, HDb.out]; rfl, _, rfl⟩
                                          | true =>
                                            rw [hDb] at t2
                                            simp only [if_true] at t2
                                            have HDb := Lib.hid hDb
                                            clear hDb
                                            have t3 : (xa == ya) = decide (xa = ya) := by rw [Bool.eq_iff_iff]; simp
                                            go_wp2_with fail
                                            go_quiet (fail)
                                            go_wp2_with fail
                                            go_meet
                                            exact ⟨by rw [R3'.out, Hf.out, HDb.out]; simp, _, rfl⟩
                                      case rest => as_aux_lemma =>
                                        obtain ⟨rfl, nd, hwc⟩ := hcut
                                        have Hwc := Lib.hid (show Below wr.heap.size wr wc by rw [hwc]; exact bdrewN (Below.refl _ _) nd)
                                        clear hwc zcell ycell zfz hbx t2
                                        have hbx := Below.keep Hwc.out Hbx.out
                                        have ycell := Below.keep (Below.tr Hbz2.out Hwc.out) (Hny.out a hlta)
                                        rw [Hya.out] at ycell
                                        go_wp2_with fail
                                        go_still_tail 7, (by kernel_rfl)
                                        change wpList _ _ _ _ _ wc.drew
                                        have Hwd := Lib.hid (show Below wr.heap.size wr wc.drew from Below.tr Hwc.out (Below.refl _ _).drew)
                                        clear hbx ycell
                                        generalize wc.drew = w26 at *
                                        have zr := owns_keep Hzr.out Hwd.out
                                        have hbx := Below.keep Hwd.out Hbx.out
                                        have zcell := World.ownsRow.cellAt zr a (by omega)
                                        have zfz := World.ownsRow.frozenAt zr a
                                        rw [List.getElem?_map, List.getElem?_eq_getElem (by rw [mixTo_length]; exact hlta), Option.map_some] at zcell
                                        have hst := World.ownsRow.stored zr a (.int .i64 ya)
                                        have ZR := Lib.hid (show (w26.setCell ⟨gz, a, none⟩ (.int .i64 ya)).ownsRow wk.heap.size 3 1 (.slice (some ⟨gz, 0, none⟩) m zc) m ((mixTo x y s m (a + 1)).map (Value.int .i64)) by
                                          have e := R2.out
                                          rw [e, List.map_set]
                                          first | exact hst.1 | (rw [Hya.out]; exact hst.1))
                                        have BX := Lib.hid (show (w26.setCell ⟨gz, a, none⟩ (.int .i64 ya)).cell? ⟨B, 0, none⟩ = some (.slice (some ⟨gz, 0, none⟩) m zc) from hst.2.cell hbx (by intro e; have e2 : B = gz := Option.some.inj e; omega))
                                        have HB := Lib.hid (show Below wk.heap.size wk (w26.setCell ⟨gz, a, none⟩ (.int .i64 ya)) from (Below.tr Hbz2.out Hwd.out).setCell (p := ⟨gz, a, none⟩) hgz1 _)
                                        clear zr hbx hst
                                        go_wp2_with fail
                                        go_roundw
                                        case rel => exact ⟨a + 1, rfl, by go_num, by omega, ZR.out, BX.out, HB.out⟩
                                        case measure => simp [intOf]; omega
                                    
                                  · obtain rfl : m = a := by omega
                                    have HZi := Lib.hid (show OwnInts wk.heap.size wr (.slice (some ⟨gz, 0, none⟩) m zc) (mixTo x y s m m) by
                                      unfold OwnInts; rw [mixTo_length]; exact Hzr.out)
                                    have Hown2 := Lib.hid (Hown.out.keep Hbz2.out)
                                    have Htab2 := Lib.hid (Htab.out.keep Hbz2.out)
                                    have Hb26 := Lib.hid (Below.tr Hb23.out Hbz2.out)
                                    cases hf : fitTo x y s (orTo q p) m with
                                    | false =>
                                      clear hf
                                      go_wp2_with fail
                                      go_roundw
                                      case rel => exact ⟨yi + 1, nn, N, na, nc, rfl, by go_num, by omega, Hnn.out, Hown2.out, by omega, HJN.out, Hb26.out, Htab2.out, Hap.out⟩
                                      case measure => simp [intOf]; omega
                                    | true =>
                                      have HJz := Lib.hid (show JoinOk R3 q m (p + 1) (mixTo x y s m m) by
                                        have := join_step (R := R3) (q := q) (m := m) (p := p) (yi := yi) (s := s) (x := x) HJx.out hlty Hgp.out (by rw [Hy.out]; exact hf)
                                        rwa [Hy.out] at this)
                                      clear hf
                                      go_wp2_with fail
                                      refine (has68_any N (mixTo x y s m m) B _ _ _ Hown2.out.rows Hbx.out HZi.out.ints).mono ?_
                                      rintro e w27 ⟨bb, rfl, -, hb27⟩
                                      have Hb27 := Lib.hid (Below.tr Hb26.out hb27)
                                      have Hown3 := Lib.hid (Hown2.out.keep hb27)
                                      have Htab3 := Lib.hid (Htab2.out.keep hb27)
                                      have HZ3 := Lib.hid (HZi.out.keep hb27)
                                      have hbx := Below.keep hb27 Hbx.out
                                      clear hb27
                                      cases bb with
                                      | true =>
                                        clear hbx
                                        go_wp2_with fail
                                        go_roundw
                                        case rel => exact ⟨yi + 1, nn, N, na, nc, rfl, by go_num, by omega, Hnn.out, Hown3.out, by omega, HJN.out, Hb27.out, Htab3.out, Hap.out⟩
                                        case measure => simp [intOf]; omega
                                      | false =>
                                        obtain ⟨vs, hv1, hv2, hv3⟩ := Hown3.out
                                        have hv2' : w27.ownsRow w20.heap.size 56 1 (.slice na nn nc) nn vs := by rw [← Hnn.out] at hv2; exact hv2
                                        have Hv1 := Lib.hid hv1
                                        have Hv2 := Lib.hid hv2
                                        have Hv2' := Lib.hid hv2'
                                        have Hv3 := Lib.hid hv3
                                        have hxl := hltx
                                        clear hv1 hv2 hv2' hv3
                                        go_wp2_with (at_builtin; go_loud (refine append_lies rfl (.tmp 230) (.tmp 232) 34 rfl elem34 rfl (World.ownsRow.alloc Hv2'.out _) [.slice (some ⟨gz, 0, none⟩) m zc] rfl rfl (by intro j u hj; go_simp) (by intro u hu; simp at hu; subst hu; rfl) (by omega) (by omega) (by have := Hb27.out.size; simp; omega) ?_))
                                        intro g' cap' w28 hown28 hb28 hg28 hat28
                                        have HN := Lib.hid (OwnRows.step (n := nn + 1) Hv1.out (World.ownsRow.alloc Hv2.out (.cells #[.slice (some ⟨gz, 0, none⟩) m zc] 56)) (fun i h h' => World.ownsRow.alloc (Hv3.out i h h') _) (World.ownsRow.alloc (owns_base HZ3.out Hb23.out.size) _) (by rw [Hnn.out]) hown28 hg28)
                                        have HB28 := Lib.hid ((Hb27.out.alloc Hb27.out.size (.cells #[.slice (some ⟨gz, 0, none⟩) m zc] 56)).trans hb28)
                                        have HT28 := Lib.hid (Tab.grown (Htab3.out.keep (below_alloc _ _)) (World.ownsRow.alloc Hv2'.out _) hg28 (.inr (by
                                          intro e
                                          cases hnb : (Value.slice na nn nc).ownBlock with
                                          | none => rw [hnb] at e; cases e
                                          | some g => rw [hnb] at e; exact Hap.out g hnb e)))
                                        have HA28 := Lib.hid (show ∀ g, (Value.slice (some ⟨g', 0, none⟩) (nn + 1) cap').ownBlock = some g → (Value.slice (some ⟨pb, 0, none⟩) R3.length pc).ownBlock ≠ some g from fun g h1 h2 => by
                                          have e1 : g' = g := by injection h1
                                          subst e1
                                          rcases hat28 with h | h
                                          · exact Hap.out g' h h2
                                          · have := (Htab3.out.2.2.1.lt g' h2).2
                                            omega)
                                        clear hown28 hb28 hg28 hat28 hbx
                                        go_wp2_with fail
                                        go_roundw
                                        case rel => exact ⟨yi + 1, nn + 1, N ++ [mixTo x y s m m], _, _, rfl, by go_num, by omega, by rw [List.length_append, List.length_singleton, ← Hnn.out], HN.out, by omega, fun z hz => by
                                          rcases List.mem_append.1 hz with hz | hz
                                          · exact HJN.out z hz
                                          · rw [List.mem_singleton.1 hz]; exact HJz.out, HB28.out, HT28.out, HA28.out⟩
                                        case measure => simp [intOf]; omega
                              · go_wp2_with fail
                                go_roundw
                                case rel => exact ⟨xi + 1, nn, N, na, nc, rfl, by go_num, by omega, Hnn.out, Hown.out, by omega, HJN.out, Hb23.out⟩
                                case measure => simp [intOf]; omega
                          · have eor : bits .or .i64 (orTo q p : Nat) (s : Nat) = ((orTo q p ||| s : Nat) : Int) := bits_or_nat _ _ (by omega) (by omega)
                            have Hlen := Lib.hid (show N.length ≤ 3 ^ (p + 1) by
                              have h1 := HL3.out
                              have h2 : 3 ^ (p + 1) = 3 ^ p * 3 := Nat.pow_succ ..
                              have h3 := Hnn.out
                              have h4 := Hln.out
                              omega)
                            have HRw := Lib.hid (show Rows wr (.slice na nn nc) N from Hown.out.rows)
                            go_wp2_with fail
                            go_roundw
                            case rel => exact ⟨p + 1, nn, N, na, nc, rfl, by rw [Hor.out], by go_num, by omega, Hnn.out, HRw.out, Hlen.out, HJN.out, Below.tr Hb20.out Hb21.out⟩
                            case measure => simp [intOf]; omega
                      · have hpk : p = q.length := by have := Hkq.out; omega
                        have HJq := Lib.hid (show ∀ z ∈ L, z ∈ R3 from fun z hz => Hfin.out z (by rw [← hpk]; exact HJ.out z hz))
                        clear hpk
                        go_wp2_with fail
                        obtain ⟨w20, hw20⟩ : ∃ w20 : World, w20 = wr := ⟨_, rfl⟩
                        subst hw20
                        go_loopw [243] (fun iv wr => ∃ xi : Nat, iv = .int .i64 xi ∧ xi ≤ ln ∧ Below w20.heap.size w20 wr) (fun i _ => ln - (intOf i).toNat)
                        case atStart => exact ⟨0, rfl, Nat.zero_le _, Below.refl _ _⟩
                        case round => as_aux_lemma =>
                          obtain ⟨xi, rfl, hxi, hb⟩ := hrel
                          have Hb21 := Lib.hid hb
                          clear hb
                          by_cases hltx : xi < ln
                          · have hx2 : xi < lvs.length := by have := Hlvs.out; omega
                            have hx3 : xi < L.length := by have := Hln.out; omega
                            have hcell := Below.keep Hb21.out (Hlc.out xi hx2)
                            have HIx := Lib.hid (Ints.keep (Hlr.out xi hx3 hx2) Hb21.out)
                            have HJx := Lib.hid (HJq.out _ (List.getElem_mem hx3))
                            generalize lvs[xi] = xv at *
                            generalize L[xi] = x at *
                            clear hx2 hx3
                            obtain ⟨xa, xb, xo, xc, hxv, -⟩ := Ints.get HIx.out
                            subst hxv
                            go_wp2_with fail
                            have Hb22 := Lib.hid (Hb21.out.alloc Hb21.out.size (.cells #[.slice xa x.length xc] 56))
                            refine (has69_any R3 x wr.heap.size (.slice xa x.length xc) _ _ (Rows.keep HR3b.out (Below.tr Hb20.out Hb22.out)) (cell_new wr #[.slice xa x.length xc] 56 0) (Ints.keep HIx.out (below_alloc _ _))).mono ?_
                            rintro e w22 ⟨bb, rfl, hbb, hb22⟩
                            have Hb23 := Lib.hid (Below.tr Hb22.out hb22)
                            obtain rfl : bb = true := hbb.2 HJx.out
                            clear hbb hb22
                            go_wp2_with fail
                            go_roundw
                            case rel => exact ⟨xi + 1, by go_num, by omega, Hb23.out⟩
                            case measure => simp [intOf]; omega
                          · go_wp2_with fail
                            refine (awake_any _).mono ?_
                            rintro e w22 ⟨rfl, hb22⟩
                            have Hb22 := Lib.hid (Below.tr HBA.out (Below.tr Hb20.out (Below.tr Hb21.out hb22)))
                            clear hb22
                            go_wp2_with fail
                            go_ret
                            exact ⟨rfl, Hb22.out⟩
            · rw [decide_eq_false htb]
              clear htb
              go_wp2_with fail
              refine (awake_any _).mono ?_
              rintro e w12 ⟨rfl, hb12⟩
              have Hb12 := Lib.hid (Below.tr Hb10.out hb12)
              clear hb12
              go_wp2_with fail
              go_ret
              exact ⟨rfl, Hb12.out⟩
theorem joins_any (n : Int) (l : List (Int × Int)) (ps : List Int) (R : List (List Int)) (v u t : Value) (w : World) (hv : Deps w v l) (hu : Ints w u ps) (ht : Rows w t R) :
    Calls Try.prog 16 #[.int .i64 n, v, u, t] w fun e w' => e = .returned (.bool true) ∧ Below w.heap.size w w' := by
  by_cases h : ValidP n l []
  · obtain ⟨m, l', q, rfl, h1, h8, rfl, h12, hl, hq, hlt⟩ := h.nat
    exact joins_ok ⟨h1, h8, h12, hl⟩ ps R v u t w hv hu ht
  · exact joins_bad n l v u t w hv h

namespace dependJoins
open Go.ChangeShapes Go.WideShapes Go.ChangeAt
set_option maxRecDepth 100000 in
theorem lifted (os : Os) (started : os.Started) (H : Type) (enc : TypeId × Value → H) :
    ReturnsInHanded {} Try.checked os 16 .any (Rows.dependJoinsSpec.pre6 enc Try.prog Try.f16 Rows.dependJoinsRow.domain false) (Rows.dependJoinsSpec.post enc Try.prog Try.f16 false true false false) := by
  refine returnsInHanded_of_change (C := Try.checked) Try.own started (by kernel_rfl) Try.func16
    (ChangeSpec.witness6 (enc := enc) (C := Try.checked) false ⟨#[], #[.int .i64 0, .slice none 0 0, .slice none 0 0, .slice none 0 0], []⟩ 8 (by kernel_rfl) (by kernel_rfl) (by kernel_rfl) (by kernel_rfl)) ?_
  intro W base args ds gs before hval0 hW _ _
  have hval : ∀ (j : Nat) t v, Try.f16.params[j]? = some t → args[j]? = some v → Value.okWide Try.prog W .any base t v := hval0
  clear hval0
  obtain rfl : gs = [] := by obtain ⟨p, q, _, hV, _⟩ := hW; exact (trodVars_none hV).1
  have hW' := hW
  obtain ⟨p, q, hA0, hV, rfl, hfz, hnd⟩ := hW
  have hA : DataW.TrodAll enc Try.prog W 0 (fun _ => true) true Try.f16.params.toList args.toList ds p := hA0
  rw [Try.params16] at hA hval
  obtain ⟨v0, vs0, d0, ds0, p0, q0, hv0, hd0, hp0, h0, r0⟩ := trodAll_cons hA
  obtain ⟨v1, vs1, d1, ds1, p1, q1, hv1, hd1, hp1, h1, r1⟩ := trodAll_cons r0
  obtain ⟨v2, vs2, d2, ds2, p2, q2, hv2, hd2, hp2, h2, r2⟩ := trodAll_cons r1
  obtain ⟨v3, vs3, d3, ds3, p3, q3, hv3, hd3, hp3, h3, r3⟩ := trodAll_cons r2
  obtain ⟨hvn, hdn, hpn⟩ := trodAll_nil r3
  have ha : args = #[v0, v1, v2, v3] := by cases args; simp_all
  have hdd : ds = [d0, d1, d2, d3] := by simp_all
  rw [ha] at hval
  obtain ⟨a0, e0, -, -, w0⟩ := open_int Try.underlying3 (hval 0 3 v0 rfl rfl) h0
  obtain ⟨a1, k1⟩ := deps_of_trod Try.underlying22 Try.underlying24 ⟨rfl, rfl⟩ ⟨rfl, rfl⟩ Try.underlying3 Try.cells3 Try.cells24 (okWide_slice Try.underlying22 (hval 1 22 v1 rfl rfl)) h1
  obtain ⟨a2, k2⟩ := ints_of_trod Try.underlying56 Try.underlying3 Try.cells3 (okWide_slice Try.underlying56 (hval 2 56 v2 rfl rfl)) h2
  obtain ⟨a3, k3⟩ := rows_of_trod Try.underlying34 Try.underlying56 Try.underlying3 Try.cells3 Try.cells56 (okWide_slice Try.underlying34 (hval 3 34 v3 rfl rfl)) h3
  have hw : Calls Try.prog 16 args W (fun e W' => e = .returned (.bool true) ∧ Below W.heap.size W W') := by
    rw [ha, e0]; exact joins_any a0 a1 a2 a3 v1 v2 v3 W k1 k2 k3
  exact hw.mono fun e W' ⟨he, hb⟩ => ⟨_, he, law_post Try.laidOut hW' rfl rfl Try.underlying4 (by rw [hdd]; rfl)
    (by kernel_rfl) hb⟩

theorem holds : Rows.DependJoinsSaid :=
  OpenClaim.holds_of_wide 16 Try.f16 rfl rfl rfl rfl rfl rfl rfl ⟨rfl, rfl, rfl, rfl, rfl⟩ rfl rfl rfl rfl rfl (by kernel_rfl) Try.func16 (by kernel_rfl)
    (of_decide_eq_true (by kernel_rfl)) (by unfold Func.isWrapper; first | (rw [if_pos (by decide +kernel)]; kernel_rfl) | (rw [if_neg (by decide +kernel)]; exact ⟨rfl, rfl⟩))
    (fun os started H enc _ => lifted os started H enc)
#print axioms holds
end dependJoins
end Go.Proofs.Ytnidalbfmicoiaa
