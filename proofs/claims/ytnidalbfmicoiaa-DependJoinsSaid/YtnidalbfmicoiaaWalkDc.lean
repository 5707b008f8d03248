/- Contracts of Decompose (bad arguments) and of the reference's Decompose. -/
import Derived.Test.YtnidalbfmicoiaaWalkDb
import Derived.Deep.RegionLaw
import Derived.Deep.DeepCutAuto
import Derived.Test.YtnidalbfmicoiaaWalkX
namespace Go.Proofs.Ytnidalbfmicoiaa
open Go.RowKit

theorem dec_bad (n : Int) (l : List (Int × Int)) (v : Value) (w : World) (hv : Deps w v l) (hbad : ¬ ValidP n l []) :
    Calls Try.prog 61 #[.int .i64 n, v] w fun e w' => e = .returned (.tuple #[.slice none 0 0, .int .i64 2]) ∧ Below w.heap.size w w' := by
  have H := Lib.hid (valid_no hv (ints_nil w) hbad)
  clear hv hbad
  go_enter Try.func61, Try.ntmps61
  go_wp2_with fail
  refine H.out.mono ?_
  rintro e w1 ⟨rfl, hb1⟩
  go_wp2_with fail
  go_ret2
  exact ⟨rfl, hb1⟩

theorem castN_one (t : List Nat) : ∀ u ∈ (castN t).map (Value.int .i64), u.oneCell' = true := by
  intro u hu
  obtain ⟨x, -, rfl⟩ := List.mem_map.1 hu
  rfl
theorem castN_len {t : List Nat} {n : Nat} (h : n = t.length) : ((castN t).map (Value.int .i64)).length = n * 1 := by simp [castN, h]
theorem Todo.len {w : World} {ad : Addr} {n c : Nat} {t : List Nat} {row : Option Nat} (h : Todo w (.slice (some ad) n c) t row) : n = t.length := by
  obtain ⟨b, off, cap, e, -⟩ := h
  injection e
theorem Todo.drop {w : World} {b off n cap : Nat} {t : List Nat} {row : Option Nat} (h : Todo w (.slice (some ⟨b, off, none⟩) n cap) t row) (k : Nat) (hk : k ≤ n) : Todo w (.slice (some ⟨b, off + k, none⟩) (n - k) (cap - k)) (t.drop k) row := by
  obtain ⟨b', off', cap', e, h1, h2, h3, h4, h⟩ := h
  injection e with e5 e6 e7
  injection e5 with e5
  injection e5 with e5 e8
  subst e5 e8 e6 e7
  refine ⟨b, off + k, cap - k, by simp, by simp; omega, by simp; omega, h3, h4, fun j hj => ?_⟩
  rw [List.length_drop] at hj
  rw [List.getElem_drop, Nat.add_assoc]
  exact h (k + j) (by omega)
theorem Todo.drop0 {w : World} {b off n cap : Nat} {t : List Nat} {row : Option Nat} (h : Todo w (.slice (some ⟨b, off, none⟩) n cap) t row) (k : Nat) (hk : k ≤ n) (hc : cap = k) : Todo w (.slice (some ⟨b, off, none⟩) 0 0) (t.drop k) row := by
  obtain ⟨b', off', cap', e, h1, h2, h3, h4, h⟩ := h
  injection e with e5 e6 e7
  injection e5 with e5
  injection e5 with e5 e8
  subst e5 e8 e6 e7
  have : t.drop k = [] := List.drop_eq_nil_of_le (by omega)
  rw [this]
  exact ⟨b, off, 0, rfl, Nat.le_refl _, by simp, h3, h4, fun j hj => by simp at hj⟩
theorem Todo.take {w : World} {b off n cap : Nat} {t : List Nat} {row : Option Nat} (h : Todo w (.slice (some ⟨b, off, none⟩) n cap) t row) (k : Nat) (hk : k ≤ n) : Todo w (.slice (some ⟨b, off, none⟩) k cap) (t.take k) row := by
  obtain ⟨b', off', cap', e, h1, h2, h3, h4, h⟩ := h
  injection e with e5 e6 e7
  injection e5 with e5
  injection e5 with e5 e8
  subst e5 e8 e6 e7
  refine ⟨b, off, cap, by rw [List.length_take, Nat.min_eq_left hk], by rw [List.length_take]; omega, by rw [List.length_take]; omega, h3, h4, fun j hj => ?_⟩
  rw [List.length_take] at hj
  rw [List.getElem_take]
  exact h j (by omega)
theorem Todo.ints {w : World} {v : Value} {t : List Nat} {row : Option Nat} (h : Todo w v t row) : Ints w v (castN t) := by
  obtain ⟨b, off, cap, rfl, h1, h2, h3, h4, h⟩ := h
  have e : (castN t).length = t.length := by simp [castN]
  refine ⟨by simp [castN], by rw [e]; exact h2, some ⟨b, off, none⟩, b, off, cap, by rw [e], ⟨fun _ => rfl, by omega⟩, fun j hj => ?_⟩
  have hj' : j < t.length := by simpa [castN] using hj
  rw [h j hj']; simp [castN]

set_option maxHeartbeats 4000000 in
set_option maxRecDepth 100000 in
theorem decR_F {m F : Nat} {l : List DepN} (hok : Okl m l) (hF : F = 2 ^ m) (r : List Nat) (hr : Run (cl l) [] [F - 1] r) (v : Value) (w : World) (hv : Deps w v (castD l)) :
    Calls Try.prog 62 #[.int .i64 m, v] w fun e w' => ∃ v', e = .returned v' ∧ Ints w' v' (castN r) ∧ Below w.heap.size w w' := by
  obtain ⟨p1, p2⟩ := hok.pow
  have pc : (2 : Int) ^ m = (F : Int) := by rw [hF]; simp
  rw [← hF] at p1 p2
  have Hlt := Lib.hid hok.lt
  have Hsc := Lib.hid (show ∀ x, x < 256 → Sub x (cl l x) from fun x hx => sub_cl hx)
  have Hv := Lib.hid hv
  have Hr := Lib.hid hr
  have hm8 := hok.h8
  have qF : ((F : Int) - 1) = ((F - 1 : Nat) : Int) := by omega
  obtain ⟨a, b, off, cap, hva, -⟩ := Deps.get hv
  subst hva
  clear hv hF hr
  go_enter Try.func62, Try.ntmps62
  go_wp2_with fail
  have Hb0 := Lib.hid (below_alloc w (.cells #[.int .i64 (F - 1 : Nat)] 3))
  have Ht0 := Lib.hid (show Todo (w.alloc (.cells #[.int .i64 (F - 1 : Nat)] 3)) (.slice (some ⟨w.heap.size, 0, none⟩) 1 1) [F - 1] none from ⟨_, 0, 1, rfl, Nat.le_refl _, by simp, by simp, by simp, fun j hj => by
    have : j = 0 := by simpa using hj
    subst this
    rw [Nat.zero_add, cell_new]; rfl⟩)
  generalize w.alloc (.cells #[.int .i64 (F - 1 : Nat)] 3) = w3 at *
  go_loopw [5, 6] (fun o i wr => ∃ (x t : List Nat) (k : Nat), i = .int .i64 k ∧ k = x.length ∧ Below w.heap.size w wr ∧ Todo wr o (x ++ t) none ∧ Run (cl l) x t r ∧ wts (x ++ t) ≤ 511 ∧ (∀ S ∈ x ++ t, S < F) ∧ ∀ S ∈ x, vioTo (cl l) S = none) (fun o i wr => wts (readN wr o) * 1000 + (1000 - (intOf i).toNat))
  case atStart => exact ⟨[], [F - 1], 0, rfl, rfl, Hb0.out, Ht0.out, Hr.out, by rw [List.nil_append, wts_cons]; exact wt_le, by intro S hS; simp at hS; omega, by simp⟩
  case round =>
    obtain ⟨x, t, k, rfl, hkx, hb, htd, hrun, hw511, htF, hxn⟩ := hrel
    have Hb := Lib.hid hb
    have Htd := Lib.hid htd
    have Hrun := Lib.hid hrun
    have HtF := Lib.hid htF
    have Hxn := Lib.hid hxn
    have Hm := Lib.hid htd.read
    have H511 := Lib.hid hw511
    have Hkx := Lib.hid hkx
    clear hkx hb hrun htF hw511 hxn
    obtain ⟨tb, toff, tc, rfl, h1, h2, h3, h4, h5⟩ := htd
    obtain ⟨n, hn⟩ : ∃ n, n = (x ++ t).length := ⟨_, rfl⟩
    rw [← hn] at h1 h2 Htd Hm ⊢
    have Hn := Lib.hid hn
    have hn511 : n ≤ 511 := by have := length_wts (x ++ t); have := H511.out; omega
    cases t with
    | nil =>
      have hkn : k = n := by have := Hkx.out; simp at hn; omega
      have e := Hrun.out.at_nil
      have HI := Lib.hid (show Ints wr (.slice (some ⟨tb, toff, none⟩) n tc) (castN r) by
        rw [e]; have := Htd.out.ints; simpa using this)
      clear e hn h5
      subst hkn
      go_wp2_with fail
      go_ret
      exact ⟨_, rfl, HI.out, Hb.out⟩
    | cons S t =>
      have hkn : k < n := by have := Hkx.out; simp at hn; omega
      have hS := HtF.out S (by simp)
      have hc0 : wr.cell? ⟨tb, toff + k, none⟩ = some (.int .i64 S) := by
        have h6 := Hkx.out
        have := h5 k (by simp; omega)
        rw [List.getElem_append_right (by omega)] at this
        simpa [h6] using this
      have hix := run_ix (P := Try.prog) (t := 56) (a := some ⟨tb, toff, none⟩) (len := n) (cap := tc) (b := tb) (off := toff) (s := 1) Try.underlying56 (by intro w; kernel_rfl) (fun _ => rfl)
      clear h5 hn
      go_wp2_with fail
      refine (violationR_any l Hlt.out S (by omega) _ _ (Deps.keep Hv.out Hb.out)).mono ?_
      rintro e w4 ⟨he, hb4⟩
      have Hb4 := Lib.hid (Below.tr Hb.out hb4)
      have HT4 := Lib.hid (Htd.out.keep hb4)
      have hc4 := Below.keep hb4 hc0
      clear hb4
      rcases he with ⟨hvn, rfl⟩ | ⟨d, hd, rfl⟩
      · have Hrun' := Lib.hid (Hrun.out.at_none hvn)
        have Hvn := Lib.hid hvn
        clear hvn
        go_wp2_with fail
        go_roundw
        case rel => exact ⟨x ++ [S], t, k + 1, by go_num, by simp [Hkx.out], Hb4.out.alloc Hb4.out.size _, by have := HT4.out.keep (below_alloc w4 (.cells #[.int .i64 0, .int .i64 0] 24)); simpa using this, Hrun'.out, by have := H511.out; simpa using this, by have := HtF.out; simpa using this, fun Y hY => by
          rcases List.mem_append.1 hY with hY | hY
          · exact Hxn.out Y hY
          · simp at hY; subst hY; exact Hvn.out⟩
        case measure =>
          have := (HT4.out.keep (below_alloc w4 (.cells #[.int .i64 0, .int .i64 0] 24))).read
          have h8 := Hm.out
          rw [this, h8]; simp [intOf]; omega
      · obtain ⟨-, q1, q2, q3, q4, q5, -⟩ := split_parts (by omega) Hsc.out hd
        have Hrun' := Lib.hid (Run.back x [] Hxn.out (by simpa using Hrun.out.at_some hd))
        have hd1 := q1.le
        have hd2 := q2.le
        have hA := q3.le
        have hB := q4.le
        have eor : bits .or .i64 (d.1 : Nat) (d.2 : Nat) = ((d.1 ||| d.2 : Nat) : Int) := bits_or_nat _ _ (by omega) (by omega)
        have ean : bits .andNot .i64 (S : Nat) (d.2 : Nat) = ((ndiff S d.2 : Nat) : Int) := bits_andNot_nat _ _ (by omega) (by omega)
        have Hq5 := Lib.hid q5
        have hto := run_to (P := Try.prog) (t := 56) (a := some ⟨tb, toff, none⟩) (len := n) (cap := tc) (s := 1) Try.underlying56 (by intro w; kernel_rfl) h1
        clear hd q1 q2 q3 q4 q5
        have HTt := Lib.hid (HT4.out.take k (by omega))
        go_wp2_with (at_builtin; (refine append_own_at rfl (.tmp 31) (.tmp 34) 56 rfl elem56 rfl (own_lit (base := w4.heap.size + 1) _ #[] 0 (by simp) (by simp) (by unfold maxLen; omega) rfl) ((castN ((x ++ S :: t).take k)).map (Value.int .i64)) rfl (castN_len HTt.out.len) ((HTt.out.keep (below_alloc _ _)).keep (below_alloc _ _)).cells (castN_one _) (by omega) (by simp <;> omega) ?_))
        intro v' w6 hown6 hb6 _
        have ek : (x ++ S :: t).take k = x := by have := Hkx.out; subst this; exact List.take_left
        rw [ek] at hown6
        have hd0 : w6.cell? ⟨w4.heap.size, 0, none⟩ = some (.int .i64 (d.1 : Nat)) := (Below.cell hb6 (p := ⟨w4.heap.size, 0, none⟩) (Nat.lt_succ_self _)).trans (by go_simp)
        have hd1' : w6.cell? ⟨w4.heap.size, 1, none⟩ = some (.int .i64 (d.2 : Nat)) := (Below.cell hb6 (p := ⟨w4.heap.size, 1, none⟩) (Nat.lt_succ_self _)).trans (by go_simp)
        have hb46 : Below w4.heap.size w4 w6 := ((below_alloc w4 _).alloc (by simp) _).trans (hb6.mono (Nat.le_succ _))
        have HB := Lib.hid (Below.tr Hb4.out hb46)
        have HO := Lib.hid (owns_base hown6 (Nat.le_succ w4.heap.size))
        have HT6 := Lib.hid (HT4.out.keep hb46)
        have hc6 := Below.keep hb46 hc4
        have hsz6 : w4.heap.size + 1 < w6.heap.size := by have := hb6.size; simp at this; omega
        obtain ⟨na, nc, hvt⟩ := ownRow_slice hown6
        have Hb46 := Lib.hid hb46
        have Hed := Lib.hid (show (x ++ S :: t).drop (k + 1) = t by have := Hkx.out; subst this; simp)
        clear hown6 hb6 hb46 ek hto HTt hc0 hc4
        subst hvt
        go_upto_region 8 with fail
        go_cut [9] (fun z wx => ∃ na nc, z = .slice na (k + 2) nc ∧ Below w4.heap.size w4 wx ∧ wx.ownsRow w4.heap.size 3 1 (.slice na (k + 2) nc) (k + 2) ((castN (x ++ [d.1 ||| d.2, ndiff S d.2])).map (Value.int .i64)))
        case first =>
          go_wp2_with fail
          go_region_law (refine step_append_own (by rfl) (.tmp 36) (.tmp 49) 56 (by rfl) elem56 (by rfl) (World.ownsRow.alloc (World.ownsRow.drew HO.out) _) [.int .i64 (d.1 ||| d.2 : Nat), .int .i64 (ndiff S d.2 : Nat)] (by rfl) (by rfl) (by intro q u hq; go_simp) (by intro u hu; simp at hu; rcases hu with rfl | rfl <;> rfl) (by omega) (by simp; omega) ?_; intro v' w7 hown7 hb7)
          all_goals (
            have HB7 := Lib.hid ((Hb46.out.trans ((below_alloc w6 _).drew.mono (by omega))).trans hb7)
            have HO7 := Lib.hid hown7
            obtain ⟨pa, pcc, hvt⟩ := ownRow_slice hown7
            clear hown7 hb7
            subst hvt
            go_wp2_with fail
            go_meet
            exact ⟨_, _, rfl, HB7.out, by have := HO7.out; simpa [castN] using this⟩)
        case rest =>
          obtain ⟨pa, pcc, rfl, hb47, hown7⟩ := hcut
          have HB7 := Lib.hid (Below.tr Hb4.out hb47)
          have HT7 := Lib.hid (HT4.out.keep hb47)
          have hsz7 := hb47.size
          have HtlA := Lib.hid (show tc = k + 1 → Todo wc (.slice (some ⟨tb, toff, none⟩) (n - (k + 1)) 0) t none from fun h => by
            have := HT7.out.drop0 (k + 1) (by omega) h
            rw [Hed.out] at this
            rwa [show n - (k + 1) = 0 by omega])
          have HtlB := Lib.hid (show ¬ tc = k + 1 → Todo wc (.slice (some ⟨tb, toff + (k + 1), none⟩) (n - (k + 1)) (tc - (k + 1))) t none from fun h => by
            have := HT7.out.drop (k + 1) (by omega)
            rwa [Hed.out] at this)
          have HO7 := Lib.hid hown7
          clear hown7 hb47
          have hn2 : n - (k + 1) = t.length ∧ k = x.length := by have := Hn.out; have := Hkx.out; simp at *; omega
          have Hn2 := Lib.hid hn2
          clear hn2
          by_cases htc : tc = k + 1
          · have HT9 := Lib.hid (HtlA.out htc)
            go_wp2_with (at_builtin; refine append_own_at rfl (.tmp 51) (.tmp 55) 56 rfl elem56 rfl HO7.out ((castN t).map (Value.int .i64)) rfl (castN_len Hn2.out.1) (HT9.out).cells (castN_one _) (by omega) hsz7 ?_)
            intro v8 w8 hown8 hb8 _
            have HB8 := Lib.hid (HB7.out.trans (hb8.mono (by have := Hb4.out.size; omega)))
            have HT8 := Lib.hid (Todo.of_own (t := x ++ (d.1 ||| d.2) :: ndiff S d.2 :: t) (row := none) (by simpa [castN] using hown8) (by have h1 := Hn2.out.1; have h2 := Hn2.out.2; rw [List.length_append, List.length_cons, List.length_cons]; omega) (by omega) (by simp))
            obtain ⟨ta, tcc, hvt⟩ := ownRow_slice hown8
            clear hown8 hb8
            subst hvt
            go_wp2_with fail
            go_roundw
            case rel => exact ⟨[], x ++ (d.1 ||| d.2) :: ndiff S d.2 :: t, 0, rfl, rfl, HB8.out, by rw [List.nil_append]; exact HT8.out, Hrun'.out, by have := H511.out; have := Hq5.out; simp only [wts_append, wts_cons, List.nil_append] at *; omega, fun Y hY => by
              rw [List.nil_append, List.mem_append, List.mem_cons, List.mem_cons] at hY
              rcases hY with hY | rfl | rfl | hY
              · exact HtF.out Y (by simp [hY])
              · omega
              · omega
              · exact HtF.out Y (by simp [hY]), by simp⟩
            case measure => rw [HT8.out.read]; have h8 := Hm.out; rw [h8]; have := Hq5.out; simp only [wts_append, wts_cons]; simp [intOf]; omega
          · have HT9 := Lib.hid (HtlB.out htc)
            go_wp2_with (at_builtin; refine append_own_at rfl (.tmp 51) (.tmp 55) 56 rfl elem56 rfl HO7.out ((castN t).map (Value.int .i64)) rfl (castN_len Hn2.out.1) (HT9.out).cells (castN_one _) (by omega) hsz7 ?_)
            intro v8 w8 hown8 hb8 _
            have HB8 := Lib.hid (HB7.out.trans (hb8.mono (by have := Hb4.out.size; omega)))
            have HT8 := Lib.hid (Todo.of_own (t := x ++ (d.1 ||| d.2) :: ndiff S d.2 :: t) (row := none) (by simpa [castN] using hown8) (by have h1 := Hn2.out.1; have h2 := Hn2.out.2; rw [List.length_append, List.length_cons, List.length_cons]; omega) (by omega) (by simp))
            obtain ⟨ta, tcc, hvt⟩ := ownRow_slice hown8
            clear hown8 hb8
            subst hvt
            go_wp2_with fail
            go_roundw
            case rel => exact ⟨[], x ++ (d.1 ||| d.2) :: ndiff S d.2 :: t, 0, rfl, rfl, HB8.out, by rw [List.nil_append]; exact HT8.out, Hrun'.out, by have := H511.out; have := Hq5.out; simp only [wts_append, wts_cons, List.nil_append] at *; omega, fun Y hY => by
              rw [List.nil_append, List.mem_append, List.mem_cons, List.mem_cons] at hY
              rcases hY with hY | rfl | rfl | hY
              · exact HtF.out Y (by simp [hY])
              · omega
              · omega
              · exact HtF.out Y (by simp [hY]), by simp⟩
            case measure => rw [HT8.out.read]; have h8 := Hm.out; rw [h8]; have := Hq5.out; simp only [wts_append, wts_cons]; simp [intOf]; omega
end Go.Proofs.Ytnidalbfmicoiaa
