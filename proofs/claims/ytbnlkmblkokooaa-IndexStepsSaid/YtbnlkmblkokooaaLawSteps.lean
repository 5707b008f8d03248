/- IndexSteps: for every input the law returns true. -/
import Derived.Test.YtbnlkmblkokooaaLoc
import Derived.Test.YtbnlkmblkokooaaFrame
import Derived.Test.YtbnlkmblkokooaaRows
import Derived.BigQuiet
import Derived.HandedShaped
namespace Go.Proofs.Ytbnlkmblkokooaa
open Go.RowKit
theorem locate_all {B : Nat} {l : Bs} {v : Value} {p : ByteArray} (hl : Lab l) (hps : p.size ≤ 1000) (w : World) (hm : Made B w v l) :
    Calls Try.prog 35 #[v, .string p] w fun e w' => ∃ v' c, e = .returned (.tuple #[v', .int .i64 c]) ∧ Below w.heap.size w w' := by
  by_cases h : Lab (bs p)
  · refine (locate_yes hl h w hm).mono ?_
    rintro e w' ⟨v', rfl, _, hb⟩
    exact ⟨_, _, rfl, hb⟩
  · refine (locate_arg h hps w hm).mono ?_
    rintro e w' ⟨rfl, q, rfl⟩
    exact ⟨_, _, rfl, bdrewN (Below.refl _ _) q⟩
/-- of the occurrences of the rest those with a byte before them, one less -/
def stepB (l : Bs) (c : UInt8) (r : List Nat) : List Nat := r.filterMap fun i => if 0 < i ∧ l[i - 1]? = some c then some (i - 1) else none
theorem stepB_snoc (l : Bs) (c : UInt8) (r : List Nat) (i : Nat) : stepB l c (r ++ [i]) = stepB l c r ++ (if 0 < i ∧ l[i - 1]? = some c then [i - 1] else []) := by
  unfold stepB
  rw [List.filterMap_append]
  congr 1
  by_cases h : 0 < i ∧ l[i - 1]? = some c
  · rw [if_pos h]; simp [h]
  · rw [if_neg h, List.filterMap_cons, if_neg h]; rfl
theorem stepB_len (l : Bs) (c : UInt8) (r : List Nat) : (stepB l c r).length ≤ r.length := List.length_filterMap_le _ _
theorem fm_congr {α β : Type} {f g : α → Option β} : ∀ {l : List α}, (∀ x ∈ l, f x = g x) → l.filterMap f = l.filterMap g
  | [], _ => rfl
  | x :: l, h => by
    rw [List.filterMap_cons, List.filterMap_cons, h x (by simp), fm_congr fun y hy => h y (by simp [hy])]
theorem stepB_occ (l q : Bs) (c : UInt8) : stepB l c (occ' l q) = occ' l (c :: q) := by
  unfold stepB occ'
  rw [List.filterMap_filter, List.range_succ_eq_map, List.filterMap_cons]
  have h0 : (if q.isPrefixOf (l.drop 0) = true then (if 0 < 0 ∧ l[0 - 1]? = some c then some (0 - 1) else none) else none) = none := by simp
  rw [h0, List.filterMap_map, ← List.range_succ_eq_map, List.range_succ, List.filter_append]
  have h1 : List.filter (fun m => (c :: q).isPrefixOf (l.drop m)) [l.length] = [] := by simp
  rw [h1, List.append_nil, ← List.filterMap_eq_filter]
  refine fm_congr fun m hm => ?_
  have hm' := List.mem_range.1 hm
  show (if q.isPrefixOf (l.drop (m + 1)) = true then (if 0 < m + 1 ∧ l[m + 1 - 1]? = some c then some (m + 1 - 1) else none) else none) = _
  rw [Nat.add_sub_cancel, List.getElem?_eq_getElem hm']
  have hd := List.drop_eq_getElem_cons hm'
  have he : (c :: q).isPrefixOf (l.drop m) = (c == l[m] && q.isPrefixOf (l.drop (m + 1))) := by rw [hd, List.isPrefixOf_cons_cons]
  unfold Option.guard
  simp only [he]
  by_cases e : l[m] = c
  · by_cases e2 : q.isPrefixOf (l.drop (m + 1)) = true <;> simp [e, e2]
  · have e' : ¬ c = l[m] := fun h => e h.symm
    by_cases e2 : q.isPrefixOf (l.drop (m + 1)) = true <;> simp [e, e', e2]
#print axioms stepB_occ
theorem occs_len (l q : Bs) : (occ' l q).length ≤ l.length + 1 := by
  unfold occ'
  have := List.length_filter_le (fun m => q.isPrefixOf (l.drop m)) (List.range (l.length + 1))
  simpa using this
theorem occ_le {l q : Bs} {j i : Nat} (h : (occ' l q)[j]? = some i) : i ≤ l.length := by
  have := List.mem_of_getElem? h
  unfold occ' at this
  have := List.mem_range.1 (List.mem_filter.1 this).1
  omega
set_option maxRecDepth 100000 in
set_option maxHeartbeats 8000000 in
theorem steps_bad {t0 p0 s p : ByteArray} (HF : Hid (∀ w, Calls Try.prog 18 #[.string t0] w fun e w' => e = .returned (.string s) ∧ w = w')) (HF2 : Hid (∀ w, Calls Try.prog 18 #[.string p0] w fun e w' => e = .returned (.string p) ∧ w = w')) (hs : s.size ≤ 1000) (h1 : ¬ Lab (bs s)) (w : World) :
    Calls Try.prog 12 #[.string t0, .string p0] w fun e w' => e = .returned (.bool true) ∧ Below w.heap.size w w' := by
  have HN := Lib.hid (newE_bad hs h1)
  clear h1 hs
  go_enter Try.func12, Try.ntmps12
  go_wp2_with fail
  refine (HF.out _).mono ?_
  rintro e w' ⟨rfl, rfl⟩
  go_wp2_with fail
  refine (HF2.out _).mono ?_
  rintro e w' ⟨rfl, rfl⟩
  go_wp2_with fail
  refine (HN.out _).mono ?_
  rintro e w' ⟨rfl, rfl⟩
  go_wp2_with fail
  refine (awake_any _).mono ?_
  rintro e w7 ⟨rfl, hb7⟩
  have Hb7 := Lib.hid (hb7)
  clear hb7
  go_wp2_with fail
  go_ret
  exact ⟨rfl, Hb7.out⟩
#print axioms steps_bad
set_option maxRecDepth 100000 in
set_option maxHeartbeats 8000000 in
theorem steps_nil {t0 p0 s p : ByteArray} (HF : Hid (∀ w, Calls Try.prog 18 #[.string t0] w fun e w' => e = .returned (.string s) ∧ w = w')) (HF2 : Hid (∀ w, Calls Try.prog 18 #[.string p0] w fun e w' => e = .returned (.string p) ∧ w = w')) (h1 : Lab (bs s)) (h0 : p.size = 0) (w : World) :
    Calls Try.prog 12 #[.string t0, .string p0] w fun e w' => e = .returned (.bool true) ∧ Below w.heap.size w w' := by
  have HN := Lib.hid (newE_any h1)
  obtain rfl : p = ⟨#[]⟩ := ByteArray.ext (Array.eq_empty_of_size_eq_zero h0)
  clear h1 h0
  go_enter Try.func12, Try.ntmps12
  go_wp2_with fail
  refine (HF.out _).mono ?_
  rintro e w' ⟨rfl, rfl⟩
  go_wp2_with fail
  refine (HF2.out _).mono ?_
  rintro e w' ⟨rfl, rfl⟩
  go_wp2_with fail
  refine (HN.out w).mono ?_
  rintro e w1 ⟨v1, rfl, hm1, hb1⟩
  have Hm1 := Lib.hid hm1
  have Hb1 := Lib.hid hb1
  clear hm1 hb1
  go_wp2_with fail
  refine (awake_any _).mono ?_
  rintro e w7 ⟨rfl, hb7⟩
  have Hb7 := Lib.hid (Below.tr Hb1.out hb7)
  clear hb7
  go_wp2_with fail
  go_ret
  exact ⟨rfl, Hb7.out⟩
#print axioms steps_nil
set_option maxRecDepth 100000 in
set_option maxHeartbeats 8000000 in
theorem steps_arg {t0 p0 s p : ByteArray} (HF : Hid (∀ w, Calls Try.prog 18 #[.string t0] w fun e w' => e = .returned (.string s) ∧ w = w')) (HF2 : Hid (∀ w, Calls Try.prog 18 #[.string p0] w fun e w' => e = .returned (.string p) ∧ w = w')) (h1 : Lab (bs s)) (h0 : ¬ p.size = 0) (h2 : ¬ Lab (bs p)) (hs2 : p.size ≤ 1000) (w : World) :
    Calls Try.prog 12 #[.string t0, .string p0] w fun e w' => e = .returned (.bool true) ∧ Below w.heap.size w w' := by
  have hq : p.toList.isEmpty = false := by
    rw [bs_toList]
    have h2 := bs_len p
    cases h : bs p with
    | nil => rw [h] at h2; exact absurd h2.symm h0
    | cons x m => rfl
  have hq1 : 1 ≤ p.size := by omega
  clear h0
  have HN := Lib.hid (newE_any h1)
  have H1 := Lib.hid h1
  have H2 := Lib.hid h2
  have HS2 := Lib.hid hs2
  have HS3 := Lib.hid (show (p.extract 1 p.size).size ≤ 1000 by rw [ByteArray.size_extract]; omega)
  clear h1 h2 hs2
  go_enter Try.func12, Try.ntmps12
  go_wp2_with fail
  refine (HF.out _).mono ?_
  rintro e w' ⟨rfl, rfl⟩
  go_wp2_with fail
  refine (HF2.out _).mono ?_
  rintro e w' ⟨rfl, rfl⟩
  go_wp2_with fail
  refine (HN.out w).mono ?_
  rintro e w1 ⟨v1, rfl, hm1, hb1⟩
  have Hm1 := Lib.hid hm1
  have Hb1 := Lib.hid hb1
  clear hm1 hb1
  go_wp2_with fail
  refine (count_arg H2.out HS2.out w1 Hm1.out).mono ?_
  rintro e w2 ⟨rfl, q2, rfl⟩
  go_wp2_with fail
  refine (locate_arg H2.out HS2.out _ (Hm1.out.draw q2)).mono ?_
  rintro e w3 ⟨rfl, q3, rfl⟩
  go_wp2_with fail
  refine (locate_all H1.out HS3.out _ (Hm1.out.draw (q2 + q3))).mono ?_
  rintro e w4 ⟨v4, c4, rfl, hb4⟩
  have Hb4 := Lib.hid (Below.tr (bdrewN Hb1.out (q2 + q3)) hb4)
  clear hb4
  go_wp2_with fail
  refine (awake_any _).mono ?_
  rintro e w7 ⟨rfl, hb7⟩
  have Hb7 := Lib.hid (Below.tr Hb4.out hb7)
  clear hb7
  go_wp2_with fail
  go_ret
  exact ⟨rfl, Hb7.out⟩
#print axioms steps_arg
set_option maxRecDepth 100000 in
set_option maxHeartbeats 8000000 in
theorem steps_yes {t0 p0 s p : ByteArray} (HF : Hid (∀ w, Calls Try.prog 18 #[.string t0] w fun e w' => e = .returned (.string s) ∧ w = w')) (HF2 : Hid (∀ w, Calls Try.prog 18 #[.string p0] w fun e w' => e = .returned (.string p) ∧ w = w')) (h1 : Lab (bs s)) (h0 : ¬ p.size = 0) (h2 : Lab (bs p)) (w : World) :
    Calls Try.prog 12 #[.string t0, .string p0] w fun e w' => e = .returned (.bool true) ∧ Below w.heap.size w w' := by
  have hq : p.toList.isEmpty = false := by
    rw [bs_toList]
    have h2 := bs_len p
    cases h : bs p with
    | nil => rw [h] at h2; exact absurd h2.symm h0
    | cons x m => rfl
  have hq1 : 1 ≤ p.size := by omega
  clear h0
  have HN := Lib.hid (newE_any h1)
  have H1 := Lib.hid h1
  have H2 := Lib.hid h2
  have H3 := Lib.hid (show Lab (bs (p.extract 1 p.size)) from by rw [bs_drop]; exact ⟨by rw [List.length_drop]; have := h2.1; omega, fun c hc => h2.2 c (List.mem_of_mem_drop hc)⟩)
  have hp0 : 0 < p.size := by omega
  obtain ⟨l, hl⟩ : ∃ l, l = bs s := ⟨_, rfl⟩
  obtain ⟨R, hR⟩ : ∃ R, R = occ' l (bs (p.extract 1 p.size)) := ⟨_, rfl⟩
  have hcons : bs p = p[0] :: bs (p.extract 1 p.size) := by
    rw [bs_drop, bs_get hp0, ← List.drop_eq_getElem_cons]; rfl
  obtain ⟨d, hd⟩ : ∃ d, d = p[0] := ⟨_, rfl⟩
  have HSt := Lib.hid (show stepB l d R = occ' l (bs p) from by rw [hcons, ← hd, hR]; exact stepB_occ _ _ _)
  have HRn := Lib.hid (show R.length ≤ 201 from by rw [hR]; have := occs_len l (bs (p.extract 1 p.size)); have := h1.1; rw [← hl] at this; omega)
  have HRl := Lib.hid (show ∀ j i, R[j]? = some i → i ≤ s.size from fun j i h => by rw [hR] at h; have := occ_le h; rwa [hl, bs_len] at this)
  have HLg := Lib.hid (show ∀ i (h : i < s.size), l[i]? = some s[i] from fun i h => by rw [hl, bs_get h]; exact List.getElem?_eq_getElem _)
  have HRe := Lib.hid hR
  have HLe := Lib.hid hl
  have HD := Lib.hid (show p[0].toNat = d.toNat by rw [hd])
  have hs1 : s.size ≤ 200 := lab_size h1
  clear h1 h2 hR hl hcons hd
  go_enter Try.func12, Try.ntmps12
  go_wp2_with fail
  refine (HF.out _).mono ?_
  rintro e w' ⟨rfl, rfl⟩
  go_wp2_with fail
  refine (HF2.out _).mono ?_
  rintro e w' ⟨rfl, rfl⟩
  go_wp2_with fail
  refine (HN.out w).mono ?_
  rintro e w1 ⟨v1, rfl, hm1, hb1⟩
  have Hm1 := Lib.hid hm1
  have Hb1 := Lib.hid hb1
  clear hm1 hb1
  go_wp2_with fail
  refine (count_yes H1.out H2.out w1 Hm1.out).mono ?_
  rintro e w2 ⟨rfl, q2, rfl⟩
  go_wp2_with fail
  refine (locate_yes H1.out H2.out _ (Hm1.out.draw q2)).mono ?_
  rintro e w3 ⟨v3, rfl, ho3, hb3⟩
  have Hi3 := Lib.hid (OwnInts.ints ho3)
  have Hm3 := Lib.hid ((Hm1.out.draw q2).keep hb3)
  have Hb3 := Lib.hid (Below.tr (bdrewN Hb1.out q2) hb3)
  clear ho3 hb3
  go_wp2_with fail
  refine (locate_yes H1.out H3.out _ Hm3.out).mono ?_
  rintro e w4 ⟨v4, rfl, ho4, hb4⟩
  have hi4 := OwnInts.ints ho4
  have hi3 := Ints.keep Hi3.out hb4
  have Hb4 := Lib.hid (Below.tr Hb3.out hb4)
  clear ho4 hb4 Hi3 Hb3 Hm3 Hm1 Hb1
  rw [← HLe.out, ← HRe.out] at hi4
  rw [← HLe.out, ← HSt.out] at hi3
  rw [← HLe.out, ← HSt.out]
  obtain ⟨n, hn⟩ : ∃ n, n = R.length := ⟨_, rfl⟩
  obtain ⟨M, hM⟩ : ∃ M, M = (stepB l d R).length := ⟨_, rfl⟩
  have Hi3 := Lib.hid hi3
  obtain ⟨a3, b3, off3, c3, rfl, hle3, ha3, hc3⟩ := Ints.nats hi3
  obtain ⟨a4, b4, off4, c4, rfl, hle4, ha4, hc4⟩ := Ints.nats hi4
  rw [← hn] at ha4 hc4 hle4
  rw [← hn, ← hM]
  rw [← hM] at Hi3
  have hn1 : n ≤ 201 := by rw [hn]; exact HRn.out
  have hix4 := run_ix (P := Try.prog) (t := 23) (a := a4) (len := n) (cap := c4) (b := b4) (off := off4) (s := 1) Try.underlying23 (by intro w; kernel_rfl) ha4
  simp only [Nat.mul_one] at hix4
  have Hix4 := Lib.hid hix4
  have Hc4 := Lib.hid hc4
  have HNn := Lib.hid hn
  have HMm := Lib.hid hM
  clear ha3 hc3 ha4 hc4 hix4 hle4 hn hle3 hi3 hi4 hM
  obtain ⟨wo, hwo⟩ : ∃ wo : World, wo = w4 := ⟨_, rfl⟩
  subst hwo
  go_wp2_with fail
  go_loopw [12, 79] (fun o i wr => ∃ j : Nat, i = .int .i64 j ∧ j ≤ n ∧ Below wo.heap.size wo wr ∧ OwnInts wo.heap.size wr o (castN (stepB l d (R.take j)))) (fun _ i _ => n - (intOf i).toNat)
  case atStart => exact ⟨0, rfl, Nat.zero_le _, Below.refl _ _, ownInts_nil _ _⟩
  case round =>
    obtain ⟨j, rfl, hj, hb', hown'⟩ := hrel
    have Hb' := Lib.hid hb'
    have Hown' := Lib.hid hown'
    clear hb' hown'
    by_cases hlt : j < n
    · obtain ⟨i, hi⟩ : ∃ i, R[j]? = some i := ⟨_, List.getElem?_eq_getElem (by rw [← HNn.out]; exact hlt)⟩
      have hti : R.take (j + 1) = R.take j ++ [i] := by rw [List.take_add_one, hi]; rfl
      have hat : at' R j = i := by simp [at', List.getD, hi]
      have hci := Below.keep Hb'.out (Hc4.out j hlt)
      rw [hat] at hci
      have his := HRl.out j i hi
      have hixj := Hix4.out j
      have HTi := Lib.hid hti
      clear hti hat hi
      by_cases hi0 : i = 0
      · subst hi0
        have HO := Lib.hid (show OwnInts wo.heap.size wr u12 (castN (stepB l d (R.take (j + 1)))) from by
          rw [HTi.out, stepB_snoc, if_neg (by omega), List.append_nil]; exact Hown'.out)
        go_wp2_with fail
        go_quiet (fail)
        go_wp2_with fail
        go_roundw
        case rel => exact ⟨j + 1, by go_num, by omega, bdrewN Hb'.out _, HO.out⟩
        case measure => simp [intOf] <;> omega
      · have hi1 : (0 : Int) < i := by omega
        have hin : 0 < i := by omega
        have hdn : decide (0 < i) = true := decide_eq_true hin
        have hw1 : IntKind.i64.wrap ((i : Int) - 1) = ((i - 1 : Nat) : Int) := by rw [IntWalk.i64_in _ ⟨by omega, by omega⟩]; omega
        have his1 : i - 1 < s.size := by omega
        obtain ⟨x, hx⟩ : ∃ x, x = s[i - 1] := ⟨_, rfl⟩
        have hxg := HLg.out (i - 1) his1
        rw [← hx] at hxg
        by_cases hxd : x = d
        · have hxe : s[i - 1].toNat = p[0].toNat := by rw [← hx, hxd, HD.out]
          have HS2 := Lib.hid (show stepB l d (R.take (j + 1)) = stepB l d (R.take j) ++ [i - 1] from by rw [HTi.out, stepB_snoc, if_pos ⟨by omega, by rw [hxg, hxd]⟩])
          have HSl := Lib.hid (show (stepB l d (R.take j)).length ≤ j from by have := stepB_len l d (R.take j); rw [List.length_take] at this; omega)
          clear hx hxg hxd
          go_wp2_with fail
          go_big_quiet (fail)
          go_wp2_with (at_builtin; refine append_own rfl (.tmp 98) (.tmp 101) 23 rfl elemInts rfl (World.ownsRow.alloc (owns_drewN Hown'.out nq) _) [.int .i64 (i - 1 : Nat)] rfl rfl ?c1 ?c2 ?c3 ?c4 ?_)
          case c1 => intro q u hq; exact new_one _ _ _ hq
          case c2 => intro u hu; simp at hu; subst hu; rfl
          case c3 => have := HSl.out; rw [castN_length]; omega
          case c4 => have := Hb'.out.size; simp; omega
          intro v7 w7 hown7 hb7 _
          have HO := Lib.hid (show OwnInts wo.heap.size w7 v7 (castN (stepB l d (R.take (j + 1)))) from by
            rw [HS2.out, castN_append]; exact OwnInts.snoc hown7)
          have hb' := Lib.hid (show Below wo.heap.size wo w7 from (Below.alloc (bdrewN Hb'.out nq) (by have := Hb'.out.size; exact this) _).trans hb7)
          clear hown7 hb7
          go_wp2_with fail
          go_roundw
          case rel => exact ⟨j + 1, by go_num, by omega, hb'.out, HO.out⟩
          case measure => simp [intOf] <;> omega
        · have hxe : (s[i - 1].toNat : Int) ≠ p[0].toNat := by rw [← hx, HD.out]; intro h; exact hxd (UInt8.toNat_inj.1 (by omega))
          have HO := Lib.hid (show OwnInts wo.heap.size wr u12 (castN (stepB l d (R.take (j + 1)))) from by
            rw [HTi.out, stepB_snoc, if_neg (by rw [hxg]; intro h; exact hxd (Option.some.inj h.2)), List.append_nil]; exact Hown'.out)
          clear hx hxg hxd
          go_wp2_with fail
          go_big_quiet (fail)
          go_wp2_with fail
          go_roundw
          case rel => exact ⟨j + 1, by go_num, by omega, bdrewN Hb'.out _, HO.out⟩
          case measure => simp [intOf] <;> omega
    · obtain rfl : j = n := by omega
      have HE := Lib.hid (show R.take j = R from List.take_of_length_le (by rw [← HNn.out]; exact Nat.le_refl _))
      have HO := Lib.hid (OwnInts.ints Hown'.out)
      rw [HE.out] at HO
      have Hi3' := Lib.hid (Ints.keep Hi3.out Hb'.out)
      have Hb6 := Lib.hid (Below.tr Hb4.out Hb'.out)
      go_wp2_with fail
      refine (equal_yes rfl _ _ _ Hi3'.out HO.out).mono ?_
      rintro e w6 ⟨rfl, hb6⟩
      have Hb8 := Lib.hid (Below.tr Hb6.out hb6)
      clear hb6
      go_wp2_with fail
      refine (awake_any _).mono ?_
      rintro e w7 ⟨rfl, hb7⟩
      have Hb7 := Lib.hid (Below.tr Hb8.out hb7)
      clear hb7
      go_wp2_with fail
      go_ret
      exact ⟨rfl, Hb7.out⟩
#print axioms steps_yes
theorem steps_any (t0 : ByteArray) (ht : t0.size ≤ maxLen) (p0 : ByteArray) (hp : p0.size ≤ maxLen) (w : World) :
    Calls Try.prog 12 #[.string t0, .string p0] w fun e w' => e = .returned (.bool true) ∧ Below w.heap.size w w' := by
  have HF := Lib.hid (few_any t0 ht)
  have HF2 := Lib.hid (few_any p0 hp)
  have hs : (fewB t0).size ≤ 1000 := by have := fewB_size t0; omega
  have hs2 : (fewB p0).size ≤ 1000 := by have := fewB_size p0; omega
  by_cases h1 : Lab (bs (fewB t0))
  · by_cases h0 : (fewB p0).size = 0
    · exact steps_nil HF HF2 h1 h0 w
    · by_cases h2 : Lab (bs (fewB p0))
      · exact steps_yes HF HF2 h1 h0 h2 w
      · exact steps_arg HF HF2 h1 h0 h2 hs2 w
  · exact steps_bad HF HF2 hs h1 w

namespace indexSteps
open Go.ChangeShapes Go.WideShapes Go.ChangeAt Go.ChangeMaps
set_option maxRecDepth 100000 in
theorem lifted (os : Os) (started : os.Started) (H : Type) (enc : TypeId × Value → H) :
    ReturnsInHanded {} Try.checked os 12 .any (Rows.indexStepsSpec.pre6 enc Try.prog Try.f12 Rows.indexStepsRow.domain false) (Rows.indexStepsSpec.post enc Try.prog Try.f12 false true false false) := by
  refine returnsInHanded_of_change (C := Try.checked) Try.own started (by kernel_rfl) Try.func12
    (ChangeSpec.witness6 (enc := enc) (C := Try.checked) false ⟨#[], #[.string ⟨#[]⟩, .string ⟨#[]⟩], []⟩ 8 (by kernel_rfl) (by kernel_rfl) (by kernel_rfl) (by kernel_rfl)) ?_
  intro W base args ds gs before hval0 hW _ hshape
  have hval : ∀ (j : Nat) t v, Try.f12.params[j]? = some t → args[j]? = some v → Value.okWide Try.prog W .any base t v := hval0
  clear hval0
  obtain rfl : gs = [] := by obtain ⟨p, q, _, hV, _⟩ := hW; exact (trodVars_none hV).1
  have hW' := hW
  obtain ⟨p, q, hA0, hV, rfl, hfz, hnd⟩ := hW
  have hA : DataW.TrodAll enc Try.prog W 0 (fun _ => true) true Try.f12.params.toList args.toList ds p := hA0
  rw [Try.params12] at hA hval
  obtain ⟨v0, vs0, d0, ds0, p0, q0, hv0, hd0, hp0, h0, r0⟩ := trodAll_cons hA
  obtain ⟨v1, vs1, d1, ds1, p1, q1, hv1, hd1, hp1, h1, r1⟩ := trodAll_cons r0
  obtain ⟨hvn, hdn, hpn⟩ := trodAll_nil r1
  have ha : args = #[v0, v1] := by cases args; simp_all
  have hdd : ds = [d0, d1] := by simp_all
  rw [ha] at hval
  obtain ⟨a0, e0, -, -, ws0⟩ := open_string Try.underlying9 (hval 0 9 v0 rfl rfl) h0
  obtain ⟨a1, e1, -, -, ws1⟩ := open_string Try.underlying9 (hval 1 9 v1 rfl rfl) h1
  have hw : Calls Try.prog 12 args W (fun e W' => e = .returned (.bool true) ∧ Below W.heap.size W W') := by
    rw [ha, e0, e1]; exact steps_any a0 ws0 a1 ws1 W
  exact hw.mono fun e W' ⟨he, hb⟩ => ⟨_, he, law_post Try.laidOut hW' rfl rfl Try.underlying4 (by rw [hdd]; rfl)
    (by kernel_rfl) hb⟩

theorem holds : Rows.IndexStepsSaid :=
  OpenClaim.holds_of_wide 12 Try.f12 rfl rfl rfl rfl rfl rfl rfl ⟨rfl, rfl, rfl, rfl, rfl⟩ rfl rfl rfl rfl rfl (by kernel_rfl) Try.func12 (by kernel_rfl)
    (of_decide_eq_true (by kernel_rfl)) (by unfold Func.isWrapper; first | (rw [if_pos (by decide +kernel)]; kernel_rfl) | (rw [if_neg (by decide +kernel)]; exact ⟨rfl, rfl⟩))
    (fun os started H enc _ => lifted os started H enc)
#print axioms holds
end indexSteps
end Go.Proofs.Ytbnlkmblkokooaa
