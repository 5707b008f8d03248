/- Contract of the reference's committed. -/
import Derived.Test.YtpehbffkplmfjaaFir
import Derived.Test.YtpehbffkplmfjaaEnd
import Derived.Test.YtpehbffkplmfjaaFrm
namespace Go.Proofs.Ytpehbffkplmfjaa
open Go.RowKit
theorem endI_com {h : List NOp} {t : Nat} (ht : t < 7) : endI h 2 t ≥ 0 ↔ lv h h.length (7 + t) ≠ 40 := by
  rw [lv_com h ht]
  unfold endI
  by_cases e : en h 2 h.length t = 40
  · rw [if_pos e]; omega
  · rw [if_neg e]; omega
theorem comN_one {h : List NOp} (hh : VH h) : comN h 1 = [] := by
  rw [comN_step, lv_com h (by omega)]
  rcases en_spec h 2 0 h.length hh.le with h1 | h1
  · rw [if_neg (by rw [h1.1]; simp)]; rfl
  · have := hh.t6 _ h1.1
    rw [h1.2.1] at this
    omega
set_option maxRecDepth 100000 in
set_option maxHeartbeats 4000000 in
theorem committedR_any {h : List NOp} (hh : VH h) (v : Value) (w : World) (hv : Ops w v (castO h)) :
    Calls Try.prog 58 #[v] w fun e w' => ∃ v', e = .returned v' ∧ OwnInts w.heap.size w' v' (castN (comN h 7)) ∧ Below w.heap.size w w' := by
  have HE := Lib.hid (fun (t : Nat) (w' : World) (hb : Below w.heap.size w w') => end_any hh (q := 2) (by omega) t v w' (Ops.keep hv hb))
  have Hs := Lib.hid (comN_step h)
  have Hl := Lib.hid (comN_le h)
  have H1 := Lib.hid (comN_one hh)
  have Hc := Lib.hid (fun (t : Nat) (ht : t < 7) => endI_com (h := h) ht)
  clear hv hh
  go_enter Try.func58, Try.ntmps58
  go_wp2_with fail
  go_loopw [3, 4] (fun o vt wr => ∃ t : Nat, vt = .int .i64 t ∧ 1 ≤ t ∧ t ≤ 7 ∧ Below w.heap.size w wr ∧ OwnInts w.heap.size wr o (castN (comN h t))) (fun _ vt _ => 7 - (intOf vt).toNat)
  case atStart => exact ⟨1, rfl, Nat.le_refl _, by omega, Below.refl _ _, by rw [H1.out]; exact ownInts_nil _ _⟩
  case round =>
    obtain ⟨t, rfl, ht1, ht7, hb, hown⟩ := hrel
    have Hb := Lib.hid hb
    have Hown := Lib.hid hown
    clear hb hown
    by_cases hlt : t ≤ 6
    · have HE1 := Lib.hid (HE.out t wr Hb.out)
      have HC1 := Lib.hid (Hc.out t (by omega))
      have HS1 := Lib.hid (Hs.out t)
      have HL1 := Lib.hid (Hl.out t)
      obtain ⟨z, hz⟩ : ∃ z, z = endI h 2 t := ⟨_, rfl⟩
      rw [← hz] at HE1 HC1
      clear hz
      by_cases hz0 : 0 ≤ z
      · have R := Lib.hid (HS1.out.trans (if_pos (HC1.out.1 hz0)))
        go_wp2_with fail
        refine HE1.out.mono ?_
        rintro e w1 ⟨rfl, hb1⟩
        have Hb1 := Lib.hid (Below.tr Hb.out hb1)
        have Hown1 := Lib.hid (Hown.out.keep hb1)
        clear hb1
        go_wp2_with (at_builtin; refine append_own rfl (.tmp 13) (.tmp 15) 24 rfl elemInts rfl (World.ownsRow.alloc Hown1.out _) [.int .i64 t] rfl rfl ?c1 ?c2 ?c3 ?c4 ?_)
        case c1 => intro j u hj; go_simp
        case c2 => intro u hu; simp at hu; subst hu; rfl
        case c3 => have := HL1.out; rw [castN_length]; omega
        case c4 => have := Hb1.out.size; simp; omega
        intro v2 w2 r1 r2 _
        have HO := Lib.hid (show OwnInts w.heap.size w2 v2 (castN (comN h (t + 1))) from by
          rw [R.out, castN_append]
          exact OwnInts.snoc r1)
        have HB := Lib.hid (show Below w.heap.size w w2 from (Below.tr Hb1.out (below_alloc _ _)).trans r2)
        clear r1 r2
        go_wp2_with fail
        go_roundw
        case rel => exact ⟨t + 1, by go_num, by omega, by omega, HB.out, HO.out⟩
        case measure => simp [intOf]; omega
      · have R := Lib.hid (HS1.out.trans (if_neg fun e => hz0 (HC1.out.2 e)))
        go_wp2_with fail
        refine HE1.out.mono ?_
        rintro e w1 ⟨rfl, hb1⟩
        have Hb1 := Lib.hid (Below.tr Hb.out hb1)
        have Hown1 := Lib.hid (Hown.out.keep hb1)
        clear hb1
        go_wp2_with fail
        go_roundw
        case rel => exact ⟨t + 1, by go_num, by omega, by omega, Hb1.out, by rw [R.out]; exact Hown1.out⟩
        case measure => simp [intOf]; omega
    · obtain rfl : t = 7 := by omega
      go_wp2_with fail
      go_ret
      exact ⟨_, rfl, Hown.out, Hb.out⟩
#print axioms committedR_any
end Go.Proofs.Ytpehbffkplmfjaa
