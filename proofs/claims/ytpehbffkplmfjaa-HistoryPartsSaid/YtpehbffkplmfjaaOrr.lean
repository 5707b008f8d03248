/- Contract of the reference's Order. -/
import Derived.Test.YtpehbffkplmfjaaCfr
import Derived.Test.YtpehbffkplmfjaaOrd
namespace Go.Proofs.Ytpehbffkplmfjaa
open Go.RowKit
theorem comN_lt7 {h : List NOp} {x : Nat} (hx : x ∈ comN h 7) : x < 7 := by
  have := (List.mem_filter.1 hx).1
  exact List.mem_range.1 this
theorem ordN_fst {h : List NOp} (hh : VH h) : ordN h = fst' (edR (partN h) (partN h).length) (comN h 7) := by
  have he : edR (partN h) (partN h).length = fun a b => (ed h h.length a).testBit b := by
    funext a b; exact edR_ed hh a b
  unfold ordN
  rw [fo_fst (fun x => ed_irr x) _ _ _ rfl, he]
  simp
set_option maxRecDepth 100000 in
set_option maxHeartbeats 4000000 in
theorem orderR_any {h : List NOp} (hh : VH h) (v : Value) (w : World) (hv : Ops w v (castO h)) :
    Calls Try.prog 26 #[v] w fun e w' => ∃ v', e = .returned (.tuple #[v', .int .i64 (if (ordN h).isSome then 0 else 8)]) ∧ Ints w' v' (castN ((ordN h).getD [])) ∧ Below w.heap.size w w' := by
  have HC := Lib.hid (committedR_any hh v w hv)
  have HK := Lib.hid (fun (w' : World) (hb : Below w.heap.size w w') => conflicts_any hh v w' (Ops.keep hv hb))
  have HF := Lib.hid (fun (v : Value) (w : World) (hv : Ints w v (castN (comN h 7))) => first_any (E := edR (partN h) (partN h).length) (fun x hx => comN_lt7 hx) (comN_le h 7) v w hv)
  rw [← ordN_fst hh] at HF
  obtain ⟨a, c, rfl⟩ := ops_slice hv
  clear hv hh
  obtain ⟨M, hM⟩ : ∃ M, M = mat (edR (partN h) (partN h).length) := ⟨_, rfl⟩
  rw [← hM] at HK HF
  clear hM
  cases hO : ordN h with
  | none =>
    rw [hO] at HF
    clear hO
    go_enter Try.func26, Try.ntmps26
    go_wp2_with fail
    refine HC.out.mono ?_
    rintro e w1 ⟨v1, rfl, ho1, hb1⟩
    have Hb1 := Lib.hid hb1
    have Ho1 := Lib.hid ho1
    have HK1 := Lib.hid (HK.out w1 hb1)
    clear hb1 ho1
    go_wp2_with fail
    refine HK1.out.mono ?_
    rintro e w2 ⟨rfl, hb2⟩
    have Hb2 := Lib.hid (Below.tr Hb1.out hb2)
    have HF2 := Lib.hid (HF.out v1 w2 (Ho1.out.ints.keep hb2))
    clear hb2
    go_wp2_with fail
    refine HF2.out.mono ?_
    rintro e w3 ⟨v3, rfl, hi3, hb3⟩
    have Hb3 := Lib.hid (Below.tr Hb2.out hb3)
    clear hb3 hi3
    go_wp2_with fail
    go_ret2
    exact ⟨_, rfl, ints_nil _, Hb3.out⟩
  | some p =>
    rw [hO] at HF
    clear hO
    go_enter Try.func26, Try.ntmps26
    go_wp2_with fail
    refine HC.out.mono ?_
    rintro e w1 ⟨v1, rfl, ho1, hb1⟩
    have Hb1 := Lib.hid hb1
    have Ho1 := Lib.hid ho1
    have HK1 := Lib.hid (HK.out w1 hb1)
    clear hb1 ho1
    go_wp2_with fail
    refine HK1.out.mono ?_
    rintro e w2 ⟨rfl, hb2⟩
    have Hb2 := Lib.hid (Below.tr Hb1.out hb2)
    have HF2 := Lib.hid (HF.out v1 w2 (Ho1.out.ints.keep hb2))
    clear hb2
    go_wp2_with fail
    refine HF2.out.mono ?_
    rintro e w3 ⟨v3, rfl, hi3, hb3⟩
    have Hb3 := Lib.hid (Below.tr Hb2.out hb3)
    have Hi3 := Lib.hid hi3
    clear hb3 hi3
    go_wp2_with fail
    go_ret2
    exact ⟨_, rfl, Hi3.out, Hb3.out⟩
#print axioms orderR_any
end Go.Proofs.Ytpehbffkplmfjaa
