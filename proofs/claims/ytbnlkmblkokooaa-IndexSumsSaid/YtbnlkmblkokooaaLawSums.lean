/- IndexSums: for every input the law returns true. -/
import Derived.Test.YtbnlkmblkokooaaDis
import Derived.Test.YtbnlkmblkokooaaFrame
import Derived.Test.YtbnlkmblkokooaaRows
namespace Go.Proofs.Ytbnlkmblkokooaa
open Go.RowKit

set_option maxRecDepth 100000 in
set_option maxHeartbeats 4000000 in
theorem sums_bad {s : ByteArray} (hs : s.size ≤ 1000) (h : ¬ Lab (bs s)) (t0 : ByteArray) (w : World) (hF : Calls Try.prog 18 #[.string t0] w fun e w' => e = .returned (.string s) ∧ w = w') :
    Calls Try.prog 13 #[.string t0] w fun e w' => e = .returned (.bool true) ∧ Below w.heap.size w w' := by
  have HF := Lib.hid hF
  have H1 := Lib.hid (sortE_bad hs h)
  have H2 := Lib.hid (commonE_bad hs h)
  have H3 := Lib.hid (distinctE_bad hs h)
  clear h hF
  go_enter Try.func13, Try.ntmps13
  go_wp2_with fail
  refine HF.out.mono ?_
  rintro e w' ⟨rfl, rfl⟩
  go_wp2_with fail
  refine (H1.out _).mono ?_
  rintro e w' ⟨rfl, rfl⟩
  go_wp2_with fail
  refine (H2.out _).mono ?_
  rintro e w' ⟨rfl, rfl⟩
  go_wp2_with fail
  refine (H3.out _).mono ?_
  rintro e w' ⟨rfl, rfl⟩
  go_wp2_with fail
  refine (awake_any _).mono ?_
  rintro e w7 ⟨rfl, hb7⟩
  have Hb7 := Lib.hid hb7
  clear hb7
  go_wp2_with fail
  go_ret
  exact ⟨rfl, Hb7.out⟩
set_option maxRecDepth 100000 in
set_option maxHeartbeats 8000000 in
theorem sums_good {s : ByteArray} (h : Lab (bs s)) (t0 : ByteArray) (w : World) (hF : Calls Try.prog 18 #[.string t0] w fun e w' => e = .returned (.string s) ∧ w = w') :
    Calls Try.prog 13 #[.string t0] w fun e w' => e = .returned (.bool true) ∧ Below w.heap.size w w' := by
  have hs := lab_size h
  have HF := Lib.hid hF
  have H1 := Lib.hid (sortE_any h)
  have H2 := Lib.hid (commonE_any h)
  have H3 := Lib.hid (distinctE_any h)
  obtain ⟨n, hn⟩ : ∃ n, n = s.size := ⟨_, rfl⟩
  have hn1 : n ≤ 1000 := by omega
  obtain ⟨P, D, hP, hD, e1, hP2, hD2, e2⟩ := tri_facts hn1
  obtain ⟨L, hL⟩ : ∃ L, L = bs s := ⟨_, rfl⟩
  have HLn := Lib.hid (show L.length = n by rw [hL, bs_len, hn])
  have HL := Lib.hid hL
  have HN := Lib.hid hn
  have Hmono := Lib.hid (fun j (hj : j ≤ L.length) => sumTo_mono (comAt L) hj)
  have Hsb := Lib.hid (com_bound L (by rw [HLn.out]; exact hn1))
  have HE := Lib.hid (show disI L = (D : Int) - (sumTo (comAt L) L.length : Nat) by unfold disI; rw [HLn.out, hD])
  have Hq := Lib.hid (show IntKind.i64.wrap ((s.size : Int) + 1) = (n : Int) + 1 ∧ (s.size : Int) = (n : Int) ∧ IntKind.i64.wrap (P : Int) = (P : Int) ∧ (P : Int).tdiv 2 = (D : Int) ∧ (n : Int) * ((n : Int) + 1) = (P : Int) from ⟨by rw [IntWalk.i64_in _ ⟨by omega, by omega⟩]; omega, by omega, IntWalk.i64_in _ ⟨by omega, by omega⟩, by rw [Int.tdiv_eq_ediv_of_nonneg (by omega)]; exact e2, e1⟩)
  clear h hF hL hn hP hD e1 e2
  go_enter Try.func13, Try.ntmps13
  go_wp2_with fail
  refine HF.out.mono ?_
  rintro e w' ⟨rfl, rfl⟩
  go_wp2_with fail
  refine (H1.out _).mono ?_
  rintro e w1 ⟨v1, rfl, ho1, hb1⟩
  rw [← HL.out] at ho1
  have Ho1 := Lib.hid ho1
  have Hb1 := Lib.hid hb1
  clear ho1 hb1
  go_wp2_with fail
  refine (H2.out _).mono ?_
  rintro e w2 ⟨v2, rfl, ho2, hb2⟩
  rw [← HL.out] at ho2
  obtain ⟨a2, b2, off2, cap2, rfl, hle2, ha2, hc2⟩ := Ints.nats (OwnInts.ints ho2)
  have hsl : (com L).length = n := by rw [com_length, HLn.out]
  rw [hsl] at ha2 hc2 hle2 ⊢
  have hix2 := run_ix (P := Try.prog) (t := 23) (a := a2) (len := n) (cap := cap2) (b := b2) (off := off2) (s := 1) Try.underlying23 (by intro w; kernel_rfl) ha2
  simp only [Nat.mul_one] at hix2
  have Hix2 := Lib.hid hix2
  have Hc2 := Lib.hid (show ∀ i, i < n → w2.cell? ⟨b2, off2 + i, none⟩ = some (.int .i64 (comAt L i : Nat)) from fun i hi => by rw [hc2 i hi, com_at (by rw [HLn.out]; exact hi)])
  have Ho1' := Lib.hid (OwnInts.keep Ho1.out hb2)
  have Hb2 := Lib.hid (Below.tr Hb1.out hb2)
  clear ho2 hb2 ha2 hc2 hsl hix2
  go_wp2_with fail
  refine (H3.out _).mono ?_
  rw [← HL.out]
  rintro e w3 ⟨rfl, hb3⟩
  have Hc3 := Lib.hid (fun i (hi : i < n) => Below.keep hb3 (Hc2.out i hi))
  have Ho3 := Lib.hid (OwnInts.keep Ho1'.out hb3)
  have Hb3 := Lib.hid (Below.tr Hb2.out hb3)
  rw [HE.out]
  clear hb3 Hc2 Ho1 Ho1'
  obtain ⟨a1, b1, off1, cap1, hv1, hle1, ha1, hc1⟩ := Ints.nats (OwnInts.ints Ho3.out)
  subst hv1
  have hsl : (sa L).length = n + 1 := by rw [sa_length, HLn.out]
  have Ho4 := Lib.hid (show OwnInts w.heap.size w3 (.slice a1 (n + 1) cap1) (castN (sa L)) by have := Ho3.out; rw [hsl] at this; exact this)
  rw [hsl] at ha1 hc1 hle1 ⊢
  have hix1 := run_ix (P := Try.prog) (t := 23) (a := a1) (len := n + 1) (cap := cap1) (b := b1) (off := off1) (s := 1) Try.underlying23 (by intro w; kernel_rfl) ha1
  simp only [Nat.mul_one] at hix1
  have Hix1 := Lib.hid hix1
  have Hc1 := Lib.hid (show ∀ i, i < n + 1 → w3.cell? ⟨b1, off1 + i, none⟩ = some (.int .i64 (saAt L i : Nat)) from hc1)
  clear ha1 hc1 hsl hix1 Ho3
  go_wp2_with fail
  go_loopw [7, 50] (fun d i wr => ∃ j : Nat, i = .int .i64 j ∧ j ≤ n ∧ wr = w3 ∧ d = .int .i64 ((D : Int) - (sumTo (comAt L) L.length : Nat) + (sumTo (comAt L) j : Nat))) (fun _ i _ => n - (intOf i).toNat)
  case atStart => exact ⟨0, rfl, Nat.zero_le _, rfl, by simp [sumTo]⟩
  case round =>
    obtain ⟨j, rfl, hj, hwr, rfl⟩ := hrel
    subst hwr
    by_cases hlt : j < n
    · have hixj := Hix2.out j
      have hcj := Hc3.out j hlt
      have hm1 := Hmono.out j (by rw [HLn.out]; exact hj)
      have hsb := Hsb.out
      have hm2 := Hmono.out (j + 1) (by rw [HLn.out]; exact hlt)
      have hS : sumTo (comAt L) (j + 1) = sumTo (comAt L) j + comAt L j := rfl
      have HS := Lib.hid hS
      rw [hS] at hm2
      generalize sumTo (comAt L) j = S at *
      generalize comAt L j = x at *
      generalize sumTo (comAt L) L.length = T at *
      have q5 : IntKind.i64.wrap ((D : Int) - (T : Int) + (S : Int) + (x : Int)) = (D : Int) - (T : Int) + (S : Int) + (x : Int) := IntWalk.i64_in _ ⟨by omega, by omega⟩
      clear hS
      go_wp2_with fail
      go_roundw
      case rel => exact ⟨j + 1, by go_num, by omega, trivial, by rw [HS.out]; push_cast; rw [Int.add_assoc]⟩
      case measure => simp [intOf]; omega
    · obtain rfl : j = n := by omega
      have hD0 : (D : Int) - (sumTo (comAt L) L.length : Nat) + (sumTo (comAt L) j : Nat) = (D : Int) := by rw [HLn.out]; omega
      rw [hD0]
      clear hD0
      go_wp2_with fail
      obtain ⟨w4, rfl⟩ : ∃ w4 : World, w4 = wr := ⟨_, rfl⟩
      go_loopw [11] (fun i wr => ∃ k : Nat, i = .int .i64 ((k : Int) + 1) ∧ k ≤ j ∧ ∃ q, wr = w4.drewN q) (fun i _ => j + 1 - (intOf i).toNat)
      case atStart => exact ⟨0, rfl, Nat.zero_le _, 0, rfl⟩
      case round =>
        obtain ⟨k, rfl, hk, q, rfl⟩ := hrel
        by_cases hltk : k < j
        · have hixk := Hix1.out k
          have hixk1 : ∀ w, k + 1 < j + 1 → (Instr.indexAt 23 (.slice a1 (j + 1) cap1) (.int .i64 ((k : Int) + 1))).run Try.prog w = .ok (.pointer (some ⟨b1, off1 + (k + 1), none⟩)) w := fun w h => by have := Hix1.out (k + 1) w h; simpa using this
          have hwk : IntKind.i64.wrap (k : Int) = (k : Int) := IntWalk.i64_in _ ⟨by omega, by omega⟩
          have hwk1 : IntKind.i64.wrap ((k : Int) + 1 + 1) = (k : Int) + 1 + 1 := IntWalk.i64_in _ ⟨by omega, by omega⟩
          have hc1 := Hc1.out k (by omega)
          have hc2 := Hc1.out (k + 1) (by omega)
          have hlss := saAt_lt (l := L) (i := k) (j := k + 1) (by omega) (by rw [HLn.out]; omega)
          have hxs : saAt L k ≤ s.size := by have := saAt_le L k; have := HLn.out; have := HN.out; omega
          have hys : saAt L (k + 1) ≤ s.size := by have := saAt_le L (k + 1); have := HLn.out; have := HN.out; omega
          generalize saAt L k = x at *
          generalize saAt L (k + 1) = y at *
          have hd : Op.bytesLess (s.extract x s.size).toList (s.extract y s.size).toList = true := by
            rw [Lib.toList_data, Lib.toList_data, Lib.extract_to_end, Lib.extract_to_end]
            have := hlss
            unfold sl at this
            rw [HL.out] at this
            exact this
          have hd1 : decide ((k : Int) + 1 < (j : Int) + 1) = true := decide_eq_true (by omega)
          have hd2 : decide ((s.size : Int) < (x : Int)) = false := decide_eq_false (by omega)
          have hd3 : decide ((s.size : Int) < (y : Int)) = false := decide_eq_false (by omega)
          clear hlss
          go_wp2_with fail
          go_quiet (fail)
          go_wp2_with fail
          go_quiet (fail)
          go_wp2_with fail
          go_roundw
          case rel => exact ⟨k + 1, by go_num, by omega, _, rfl⟩
          case measure => simp [intOf]; omega
        · obtain rfl : k = j := by omega
          have hd1 : decide ((k : Int) + 1 < (k : Int) + 1) = false := decide_eq_false (by omega)
          have Ho5 := Lib.hid (show OwnInts w.heap.size (w4.drewN q) (.slice a1 (k + 1) cap1) (castN (sa L)) from owns_drewN Ho4.out q)
          have Hb5 := Lib.hid (show Below w.heap.size w (w4.drewN q) from bdrewN Hb3.out q)
          have HS := Lib.hid (sort_any w.heap.size (castN (sa L)) (.slice a1 (k + 1) cap1) (w4.drewN q) (by rw [castN_length, sa_length]; omega) (by rw [castN_length, sa_length, HLn.out]; omega) Hb5.out.size Ho5.out)
          clear Hix1 Hc1 Hix2 Hc3
          go_wp2_with fail
          refine HS.out.mono ?_
          rintro e w6 ⟨rfl, ho6, hb6⟩
          rw [srt_sa, HLn.out] at ho6
          obtain ⟨a6, b6, off6, cap6, hv6, hle6, ha6, hc6⟩ := Ints.nats (OwnInts.ints ho6)
          rw [List.length_range] at hv6 hle6 ha6 hc6
          injection hv6 with hv6 _ hv7
          subst hv6; subst hv7
          have hix6 := run_ix (P := Try.prog) (t := 23) (a := a1) (len := k + 1) (cap := cap1) (b := b6) (off := off6) (s := 1) Try.underlying23 (by intro w; kernel_rfl) ha6
          simp only [Nat.mul_one] at hix6
          have Hix6 := Lib.hid hix6
          have Hc6 := Lib.hid (show ∀ i, i < k + 1 → w6.cell? ⟨b6, off6 + i, none⟩ = some (.int .i64 (i : Nat)) from fun i hi => by rw [hc6 i hi]; simp [at', List.getD, hi])
          have Hb6 := Lib.hid (Hb5.out.trans hb6)
          clear ho6 hb6 ha6 hc6 hix6
          go_wp2_with fail
          go_loopw [104] (fun i wr => ∃ r : Nat, i = .int .i64 r ∧ r ≤ k + 1 ∧ wr = w6) (fun i _ => k + 1 - (intOf i).toNat)
          case atStart => exact ⟨0, rfl, Nat.zero_le _, rfl⟩
          case round =>
            obtain ⟨r, rfl, hr, hwr⟩ := hrel
            subst hwr
            by_cases hltr : r < k + 1
            · have hixr := Hix6.out r
              have hcr := Hc6.out r hltr
              have hbr : ((r : Int) != (r : Int)) = false := by simp
              go_wp2_with fail
              go_roundw
              case rel => exact ⟨r + 1, by go_num, by omega, trivial⟩
              case measure => simp [intOf]; omega
            · obtain rfl : r = k + 1 := by omega
              obtain ⟨q1, q2, q3, q4, q5⟩ := Hq.out
              go_wp2_with fail
              refine (awake_any _).mono ?_
              rintro e w7 ⟨rfl, hb7⟩
              have Hb7 := Lib.hid (Below.tr Hb6.out hb7)
              clear hb7
              go_wp2_with fail
              go_ret
              exact ⟨rfl, Hb7.out⟩
theorem sums_any (t0 : ByteArray) (ht : t0.size ≤ maxLen) (w : World) :
    Calls Try.prog 13 #[.string t0] w fun e w' => e = .returned (.bool true) ∧ Below w.heap.size w w' := by
  by_cases h : Lab (bs (fewB t0))
  · exact sums_good h t0 w (few_any t0 ht w)
  · exact sums_bad (by have := fewB_size t0; omega) h t0 w (few_any t0 ht w)

namespace indexSums
open Go.ChangeShapes Go.WideShapes Go.ChangeAt Go.ChangeMaps
set_option maxRecDepth 100000 in
theorem lifted (os : Os) (started : os.Started) (H : Type) (enc : TypeId × Value → H) :
    ReturnsInHanded {} Try.checked os 13 .any (Rows.indexSumsSpec.pre6 enc Try.prog Try.f13 Rows.indexSumsRow.domain false) (Rows.indexSumsSpec.post enc Try.prog Try.f13 false true false false) := by
  refine returnsInHanded_of_change (C := Try.checked) Try.own started (by kernel_rfl) Try.func13
    (ChangeSpec.witness6 (enc := enc) (C := Try.checked) false ⟨#[], #[.string ⟨#[]⟩], []⟩ 8 (by kernel_rfl) (by kernel_rfl) (by kernel_rfl) (by kernel_rfl)) ?_
  intro W base args ds gs before hval0 hW _ hshape
  have hval : ∀ (j : Nat) t v, Try.f13.params[j]? = some t → args[j]? = some v → Value.okWide Try.prog W .any base t v := hval0
  clear hval0
  obtain rfl : gs = [] := by obtain ⟨p, q, _, hV, _⟩ := hW; exact (trodVars_none hV).1
  have hW' := hW
  obtain ⟨p, q, hA0, hV, rfl, hfz, hnd⟩ := hW
  have hA : DataW.TrodAll enc Try.prog W 0 (fun _ => true) true Try.f13.params.toList args.toList ds p := hA0
  rw [Try.params13] at hA hval
  obtain ⟨v0, vs0, d0, ds0, p0, q0, hv0, hd0, hp0, h0, r0⟩ := trodAll_cons hA
  obtain ⟨hvn, hdn, hpn⟩ := trodAll_nil r0
  have ha : args = #[v0] := by cases args; simp_all
  have hdd : ds = [d0] := by simp_all
  rw [ha] at hval
  obtain ⟨a0, e0, -, -, ws0⟩ := open_string Try.underlying9 (hval 0 9 v0 rfl rfl) h0
  have hw : Calls Try.prog 13 args W (fun e W' => e = .returned (.bool true) ∧ Below W.heap.size W W') := by
    rw [ha, e0]; exact sums_any a0 ws0 W
  exact hw.mono fun e W' ⟨he, hb⟩ => ⟨_, he, law_post Try.laidOut hW' rfl rfl Try.underlying4 (by rw [hdd]; rfl)
    (by kernel_rfl) hb⟩

theorem holds : Rows.IndexSumsSaid :=
  OpenClaim.holds_of_wide 13 Try.f13 rfl rfl rfl rfl rfl rfl rfl ⟨rfl, rfl, rfl, rfl, rfl⟩ rfl rfl rfl rfl rfl (by kernel_rfl) Try.func13 (by kernel_rfl)
    (of_decide_eq_true (by kernel_rfl)) (by unfold Func.isWrapper; first | (rw [if_pos (by decide +kernel)]; kernel_rfl) | (rw [if_neg (by decide +kernel)]; exact ⟨rfl, rfl⟩))
    (fun os started H enc _ => lifted os started H enc)
#print axioms holds
end indexSums
end Go.Proofs.Ytbnlkmblkokooaa
