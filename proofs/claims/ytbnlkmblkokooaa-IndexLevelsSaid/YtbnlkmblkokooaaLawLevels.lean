/- IndexLevels: for every input the law returns true. -/
import Derived.Test.YtbnlkmblkokooaaWvl
import Derived.Test.YtbnlkmblkokooaaFrame
import Derived.Test.YtbnlkmblkokooaaRows
import Derived.HandedShaped
namespace Go.Proofs.Ytbnlkmblkokooaa
open Go.RowKit
theorem wav_bit : ∀ (m : Nat) (L S : Bs), L.length < m → ∀ c ∈ wav L S, c = 48 ∨ c = 49
  | 0, _, _, h => absurd h (Nat.not_lt_zero _)
  | m + 1, L, S, h => by
    intro c hc
    by_cases h2 : 2 ≤ L.length
    · have hh := half_lt h2
      rw [wav_node h2, List.mem_append, List.mem_append] at hc
      rcases hc with (hc | hc) | hc
      · unfold bitsOf at hc
        obtain ⟨x, _, rfl⟩ := List.mem_map.1 hc
        by_cases hx : high (spl L) x <;> simp [hx]
      · exact wav_bit m _ _ (by rw [List.length_take]; omega) c hc
      · exact wav_bit m _ _ (by rw [List.length_drop]; omega) c hc
    · rw [wav_small h2] at hc; cases hc
theorem lets_txt {l : Bs} (h : Txt l) : (lets l).length ≤ 96 := by
  have h1 : (lets l).length ≤ (((List.range 256).map UInt8.ofNat).filter mayB).length := by
    unfold lets
    rw [← List.countP_eq_length_filter, ← List.countP_eq_length_filter]
    exact List.countP_mono_left fun c _ hc => h.2 c (List.contains_iff_mem.1 hc)
  have h2 : (((List.range 256).map UInt8.ofNat).filter mayB).length = 96 := by decide +kernel
  omega
theorem wav_le7 {l : Bs} (h : Txt l) : (wav (lets l) l).length ≤ l.length * 7 := wav_len 7 _ _ (by have := lets_txt h; omega)
theorem two_len {l : Bs} {x y : UInt8} (hx : x ∈ l) (hy : y ∈ l) (hne : x ≠ y) : 2 ≤ (lets l).length := by
  have h1 := lets_mem.2 hx
  have h2 := lets_mem.2 hy
  match h : lets l with
  | [] => rw [h] at h1; cases h1
  | [a] => rw [h] at h1 h2; simp at h1 h2; exact absurd (h1.trans h2.symm) hne
  | a :: b :: m => simp
theorem wav_ge {l : Bs} (h : 2 ≤ (lets l).length) : l.length ≤ (wav (lets l) l).length := by
  rw [wav_node h, List.length_append, List.length_append]
  have : (bitsOf (spl (lets l)) l).length = l.length := by simp [bitsOf]
  omega
theorem one_wav {l : Bs} (h : ∀ x ∈ l, ∀ y ∈ l, x = y) : wav (lets l) l = [] := by
  refine wav_small fun h2 => ?_
  have hr := lets_rise l
  match e : lets l with
  | [] => rw [e] at h2; simp at h2
  | [a] => rw [e] at h2; simp at h2
  | a :: b :: m =>
    rw [e] at hr
    have ha : a ∈ l := lets_mem.1 (by rw [e]; simp)
    have hb : b ∈ l := lets_mem.1 (by rw [e]; simp)
    have := (List.pairwise_cons.1 hr).1 b (by simp)
    rw [h a ha b hb] at this
    exact u8_irr _ this
#print axioms one_wav
set_option maxRecDepth 100000 in
set_option maxHeartbeats 8000000 in
theorem levels_bad {t0 s : ByteArray} (HF : Hid (∀ w, Calls Try.prog 18 #[.string t0] w fun e w' => e = .returned (.string s) ∧ w = w')) (hs : s.size ≤ 1000) (h1 : ¬ Txt (bs s)) (w : World) :
    Calls Try.prog 15 #[.string t0] w fun e w' => e = .returned (.bool true) ∧ Below w.heap.size w w' := by
  have HW := Lib.hid (waveletE_bad hs h1)
  clear hs h1
  go_enter Try.func15, Try.ntmps15
  go_wp2_with fail
  refine (HF.out _).mono ?_
  rintro e w' ⟨rfl, rfl⟩
  go_wp2_with fail
  refine (HW.out _).mono ?_
  rintro e w' ⟨rfl, q, rfl⟩
  go_wp2_with fail
  refine (awake_any _).mono ?_
  rintro e w7 ⟨rfl, hb7⟩
  have Hb7 := Lib.hid (Below.tr (bdrewN (Below.refl w.heap.size w) q) hb7)
  clear hb7
  go_wp2_with fail
  go_ret
  exact ⟨rfl, Hb7.out⟩
#print axioms levels_bad
set_option maxRecDepth 100000 in
set_option maxHeartbeats 8000000 in
theorem levels_yes {t0 s : ByteArray} (HF : Hid (∀ w, Calls Try.prog 18 #[.string t0] w fun e w' => e = .returned (.string s) ∧ w = w')) (h1 : Txt (bs s)) (w : World) :
    Calls Try.prog 15 #[.string t0] w fun e w' => e = .returned (.bool true) ∧ Below w.heap.size w w' := by
  have hs : s.size ≤ 201 := by have := h1.1; rwa [bs_len] at this
  have hWv := waveletE_any h1 w
  obtain ⟨W, hW⟩ : ∃ W : ByteArray, strV (wav (lets (bs s)) (bs s)) = .string W := ⟨_, rfl⟩
  have hWb : bs W = wav (lets (bs s)) (bs s) := by unfold strV at hW; injection hW with hW; rw [← hW]; rfl
  rw [hW] at hWv
  have HWv := Lib.hid hWv
  obtain ⟨m, hm⟩ : ∃ m, m = W.size := ⟨_, rfl⟩
  have hm7 : m ≤ s.size * 7 := by rw [hm, ← bs_len, hWb, ← bs_len s]; exact wav_le7 h1
  have HBit := Lib.hid (show ∀ k (h : k < W.size), W[k].toNat = 48 ∨ W[k].toNat = 49 from fun k h => by
    have hc := wav_bit _ (lets (bs s)) (bs s) (Nat.lt_succ_self _) W[k] (by rw [← hWb, bs_get h]; exact List.getElem_mem _)
    rcases hc with hc | hc <;> rw [hc]
    · left; rfl
    · right; rfl)
  have HGe := Lib.hid (show ∀ k (h : k < s.size) (h0 : 0 < s.size), s[k].toNat ≠ s[0].toNat → s.size ≤ m from fun k h h0 hne => by
    rw [hm, ← bs_len W, hWb, ← bs_len s]
    exact wav_ge (two_len (x := s[k]) (y := s[0]) (by rw [bs_get h]; exact List.getElem_mem _) (by rw [bs_get h0]; exact List.getElem_mem _) (fun e => hne (by rw [e])))
    )
  have HOne := Lib.hid (show (∀ k (h : k < s.size) (h0 : 0 < s.size), s[k].toNat = s[0].toNat) → m = 0 from fun h => by
    rw [hm, ← bs_len W, hWb, one_wav ?_]; rfl
    have hall : ∀ x ∈ bs s, ∃ h0 : 0 < s.size, x = s[0] := by
      intro x hx
      obtain ⟨k, hk, rfl⟩ := List.getElem_of_mem hx
      have hk' : k < s.size := by rw [← bs_len]; exact hk
      refine ⟨by omega, ?_⟩
      rw [← bs_get hk']
      exact UInt8.toNat_inj.1 (h k hk' (by omega))
    intro x hx y hy
    obtain ⟨_, e1⟩ := hall x hx
    obtain ⟨_, e2⟩ := hall y hy
    rw [e1, e2])
  have HEm := Lib.hid (show m = 0 → W.toList.isEmpty = true from fun h => by
    rw [bs_toList]
    have := bs_len W
    rw [← hm, h] at this
    rw [List.eq_nil_of_length_eq_zero this]; rfl)
  have hmz : (W.size : Int) = (m : Int) := by omega
  have HMz := Lib.hid hm
  have hw7 : IntKind.i64.wrap (7 * (s.size : Int)) = 7 * (s.size : Int) := IntWalk.i64_in _ ⟨by omega, by omega⟩
  rw [hW] at *
  clear hWv h1 hW hWb hm
  go_enter Try.func15, Try.ntmps15
  go_wp2_with fail
  refine (HF.out _).mono ?_
  rintro e w' ⟨rfl, hw'⟩
  subst hw'
  go_wp2_with fail
  refine HWv.out.mono ?_
  rintro e w1 ⟨rfl, hb1⟩
  have Hb1 := Lib.hid hb1
  clear hb1
  go_wp2_with fail
  go_loopw [5, 28] (fun v i wr => ∃ (k : Nat) (b : Bool), i = .int .i64 k ∧ v = .bool b ∧ k ≤ s.size ∧ (∃ d, wr = w1.drewN d) ∧ (b = true → s.size ≤ m) ∧ (b = false → ∀ q (hq : q < s.size) (h0 : 0 < s.size), q < k → s[q].toNat = s[0].toNat)) (fun _ i _ => s.size - (intOf i).toNat)
  case atStart => exact ⟨0, false, rfl, rfl, Nat.zero_le _, ⟨0, rfl⟩, fun h => (by cases h), fun _ q _ _ hq => absurd hq (Nat.not_lt_zero _)⟩
  case round =>
    obtain ⟨k, b, rfl, rfl, hk, ⟨d, hwr⟩, hb1, hb2⟩ := hrel
    have HWr := Lib.hid hwr
    have HB1 := Lib.hid hb1
    have HB2 := Lib.hid hb2
    clear hwr hb1 hb2
    by_cases hlt : k < s.size
    · have hs0 : 0 < s.size := by omega
      cases b with
      | true =>
        go_wp2_with fail
        go_quiet (fail)
        go_wp2_with fail
        go_roundw
        case rel => exact ⟨k + 1, true, by go_num, rfl, by omega, ⟨d + nq, by rw [HWr.out]; exact World.drewN_drewN _ _ _⟩, fun _ => HB1.out (by trivial), fun h => (by cases h)⟩
        case measure => simp [intOf] <;> omega
      | false =>
        by_cases he : s[k].toNat = s[0].toNat
        · go_wp2_with fail
          go_quiet (fail)
          go_wp2_with fail
          go_roundw
          case rel => exact ⟨k + 1, false, by go_num, rfl, by omega, ⟨d + nq, by rw [HWr.out]; exact World.drewN_drewN _ _ _⟩, fun h => (by cases h), fun _ q hq h0 h => by
            by_cases e : q = k
            · subst e; exact he
            · exact HB2.out (by trivial) q hq h0 (by omega)⟩
          case measure => simp [intOf] <;> omega
        · have HG := Lib.hid (HGe.out k hlt hs0 he)
          go_wp2_with fail
          go_quiet (fail)
          go_wp2_with fail
          go_roundw
          case rel => exact ⟨k + 1, true, by go_num, congrArg Value.bool (bne_iff_ne.2 fun h => he (Int.ofNat_inj.1 h)), by omega, ⟨d + nq, by rw [HWr.out]; exact World.drewN_drewN _ _ _⟩, fun _ => HG.out, fun h => (by cases h)⟩
          case measure => simp [intOf] <;> omega
    · have hk2 : k = s.size := by omega
      have HO := Lib.hid (show b = false → m = 0 from fun hb => HOne.out fun q hq h0 => HB2.out hb q hq h0 (by omega))
      obtain ⟨wo, hwo⟩ : ∃ wo : World, wo = wr := ⟨_, rfl⟩
      subst hwo
      clear hk2
      go_wp2_with fail
      go_loopw [43] (fun i wr => ∃ k : Nat, i = .int .i64 k ∧ k ≤ m ∧ ∃ d, wr = wo.drewN d) (fun i _ => m - (intOf i).toNat)
      case atStart => exact ⟨0, rfl, Nat.zero_le _, 0, rfl⟩
      case round =>
        obtain ⟨j, rfl, hj, d2, hwr2⟩ := hrel
        have HWr2 := Lib.hid hwr2
        clear hwr2
        by_cases hltj : j < m
        · have hjW : j < W.size := by omega
          rcases HBit.out j hjW with hc | hc
          · go_wp2_with fail
            go_roundw
            case rel => exact ⟨j + 1, by go_num, by omega, d2, HWr2.out⟩
            case measure => simp [intOf] <;> omega
          · go_wp2_with fail
            go_roundw
            case rel => exact ⟨j + 1, by go_num, by omega, d2, HWr2.out⟩
            case measure => simp [intOf] <;> omega
        · have Hbw := Lib.hid (show Below w.heap.size w wr from by
            rw [HWr2.out, HWr.out]; exact bdrewN (bdrewN Hb1.out d) d2)
          cases b with
          | true =>
            have hge := HB1.out rfl
            go_wp2_with fail
            refine (awake_any _).mono ?_
            rintro e w7 ⟨rfl, hb7⟩
            have Hb7 := Lib.hid (Below.tr Hbw.out hb7)
            clear hb7
            go_wp2_with fail
            go_ret
            exact ⟨rfl, Hb7.out⟩
          | false =>
            have hem := HEm.out (HO.out rfl)
            go_wp2_with fail
            refine (awake_any _).mono ?_
            rintro e w7 ⟨rfl, hb7⟩
            have Hb7 := Lib.hid (Below.tr Hbw.out hb7)
            clear hb7
            go_wp2_with fail
            go_ret
            exact ⟨rfl, Hb7.out⟩
#print axioms levels_yes
theorem levels_any (t0 : ByteArray) (ht : t0.size ≤ maxLen) (w : World) :
    Calls Try.prog 15 #[.string t0] w fun e w' => e = .returned (.bool true) ∧ Below w.heap.size w w' := by
  have HF := Lib.hid (few_any t0 ht)
  have hs : (fewB t0).size ≤ 1000 := by have := fewB_size t0; omega
  by_cases h1 : Txt (bs (fewB t0))
  · exact levels_yes HF h1 w
  · exact levels_bad HF hs h1 w

namespace indexLevels
open Go.ChangeShapes Go.WideShapes Go.ChangeAt Go.ChangeMaps
set_option maxRecDepth 100000 in
theorem lifted (os : Os) (started : os.Started) (H : Type) (enc : TypeId × Value → H) :
    ReturnsInHanded {} Try.checked os 15 .any (Rows.indexLevelsSpec.pre6 enc Try.prog Try.f15 Rows.indexLevelsRow.domain false) (Rows.indexLevelsSpec.post enc Try.prog Try.f15 false true false false) := by
  refine returnsInHanded_of_change (C := Try.checked) Try.own started (by kernel_rfl) Try.func15
    (ChangeSpec.witness6 (enc := enc) (C := Try.checked) false ⟨#[], #[.string ⟨#[]⟩], []⟩ 8 (by kernel_rfl) (by kernel_rfl) (by kernel_rfl) (by kernel_rfl)) ?_
  intro W base args ds gs before hval0 hW _ hshape
  have hval : ∀ (j : Nat) t v, Try.f15.params[j]? = some t → args[j]? = some v → Value.okWide Try.prog W .any base t v := hval0
  clear hval0
  obtain rfl : gs = [] := by obtain ⟨p, q, _, hV, _⟩ := hW; exact (trodVars_none hV).1
  have hW' := hW
  obtain ⟨p, q, hA0, hV, rfl, hfz, hnd⟩ := hW
  have hA : DataW.TrodAll enc Try.prog W 0 (fun _ => true) true Try.f15.params.toList args.toList ds p := hA0
  rw [Try.params15] at hA hval
  obtain ⟨v0, vs0, d0, ds0, p0, q0, hv0, hd0, hp0, h0, r0⟩ := trodAll_cons hA
  obtain ⟨hvn, hdn, hpn⟩ := trodAll_nil r0
  have ha : args = #[v0] := by cases args; simp_all
  have hdd : ds = [d0] := by simp_all
  rw [ha] at hval
  obtain ⟨a0, e0, -, -, ws0⟩ := open_string Try.underlying9 (hval 0 9 v0 rfl rfl) h0
  have hw : Calls Try.prog 15 args W (fun e W' => e = .returned (.bool true) ∧ Below W.heap.size W W') := by
    rw [ha, e0]; exact levels_any a0 ws0 W
  exact hw.mono fun e W' ⟨he, hb⟩ => ⟨_, he, law_post Try.laidOut hW' rfl rfl Try.underlying4 (by rw [hdd]; rfl)
    (by kernel_rfl) hb⟩

theorem holds : Rows.IndexLevelsSaid :=
  OpenClaim.holds_of_wide 15 Try.f15 rfl rfl rfl rfl rfl rfl rfl ⟨rfl, rfl, rfl, rfl, rfl⟩ rfl rfl rfl rfl rfl (by kernel_rfl) Try.func15 (by kernel_rfl)
    (of_decide_eq_true (by kernel_rfl)) (by unfold Func.isWrapper; first | (rw [if_pos (by decide +kernel)]; kernel_rfl) | (rw [if_neg (by decide +kernel)]; exact ⟨rfl, rfl⟩))
    (fun os started H enc _ => lifted os started H enc)
#print axioms holds
end indexLevels
end Go.Proofs.Ytbnlkmblkokooaa
