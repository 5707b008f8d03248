/- Contract of the reference's View. -/
import Derived.Test.YtpehbffkplmfjaaVrs
import Derived.Test.YtpehbffkplmfjaaOrr
namespace Go.Proofs.Ytpehbffkplmfjaa
open Go.RowKit
set_option maxRecDepth 100000 in
set_option maxHeartbeats 8000000 in
theorem viewRR_any {h : List NOp} (hh : VH h) (h1 : VH (partN h)) (hS : ∀ p, p ∈ perms (comN h 7) → VH (serN h p) ∧ (vrN (partN h)).length ≤ (vrN (serN h p)).length)
    (R : Option (List Nat)) (hR : (perms (comN h 7)).find? (seenB h) = R) (v : Value) (w : World) (hv : Ops w v (castO h)) :
    Calls Try.prog 29 #[v] w fun e w' => ∃ v', e = .returned (.tuple #[v', .int .i64 (if R.isSome then 0 else 5)]) ∧ Ints w' v' (castN (R.getD [])) ∧ Below w.heap.size w w' := by
  have HC := Lib.hid (committedR_any hh v w hv)
  have HPr := Lib.hid (fun (v : Value) (w : World) (hv : Ints w v (castN (comN h 7))) => perms_any (comN h 7).length (comN h 7) rfl (comN_le h 7) v w hv)
  have HA := Lib.hid (fun (p : List Nat) (hp : p ∈ perms (comN h 7)) (B : Bool) (hB : seenB h p = B) (u : Value) (w' : World) (hb : Below w.heap.size w w') (hu : Ints w' u (castN p)) =>
    seen_any hh h1 (by rw [(perms_perm rfl hp).length_eq]; exact comN_le h 7) (hS p hp).1 (hS p hp).2 B hB v w' (Ops.keep hv hb) u hu)
  have HF := Lib.hid hR
  obtain ⟨P, hP⟩ : ∃ P, P = perms (comN h 7) := ⟨_, rfl⟩
  have HPl := Lib.hid (show P.length ≤ 5040 from by rw [hP, perms_length _ _ rfl]; exact facN_le (comN_le h 7))
  rw [← hP] at HPr HA HF
  obtain ⟨C, hC⟩ : ∃ C : Int, C = if R.isSome then (0 : Int) else 5 := ⟨_, rfl⟩
  rw [← hC]
  have HCi := Lib.hid hC
  obtain ⟨a, c, rfl⟩ := ops_slice hv
  clear hv hh h1 hS hP hC hR
  go_enter Try.func29, Try.ntmps29
  go_wp2_with fail
  refine HC.out.mono ?_
  rintro e w1 ⟨v1, rfl, ho1, hb1⟩
  have HP1 := Lib.hid (HPr.out v1 w1 ho1.ints)
  have Hb1 := Lib.hid hb1
  clear ho1 hb1 HC HPr
  go_wp2_with fail
  refine HP1.out.mono ?_
  rintro e w2 ⟨v2, rfl, ho2, hb2⟩
  have Hb2 := Lib.hid (Below.tr Hb1.out hb2)
  obtain ⟨a4, cap4, hv4⟩ := ho2.slice
  have hpl : (P.map castN).length = P.length := by rw [List.length_map]
  rw [hpl] at hv4
  subst hv4
  obtain ⟨a5, b5, off5, cap5, vs, hv5, hle5, ha5, hvl, hc5, hr5⟩ := Rows.get ho2.rows
  injection hv5 with e1 e2 e3
  subst e1 e3
  rw [hpl] at ha5 hvl hle5
  have hix5 := run_ix (P := Try.prog) (t := 82) (a := a4) (len := P.length) (cap := cap4) (b := b5) (off := off5) (s := 1) Try.underlying82 (by intro w; kernel_rfl) ha5
  simp only [Nat.mul_one] at hix5
  have Hix5 := Lib.hid hix5
  have Hc5 := Lib.hid hc5
  have Hvl := Lib.hid hvl
  have Hr5 := Lib.hid (show ∀ (i : Nat) (h : i < P.length) (h' : i < vs.length), Ints w2 vs[i] (castN P[i]) from fun i h h' => by
    have := hr5 i (by rw [hpl]; exact h) h'
    rw [List.getElem_map] at this
    exact this)
  have hP5 := HPl.out
  clear ho2 hb2 HP1 hix5 hc5 hr5 hvl ha5 hle5 hpl e2
  go_wp2_with fail
  go_loopw [10] (fun vi wr => ∃ k : Nat, vi = .int .i64 k ∧ k ≤ P.length ∧ Below w2.heap.size w2 wr ∧ ∀ j (hj : j < P.length), j < k → seenB h P[j] = false) (fun vi _ => P.length - (intOf vi).toNat)
  case atStart => exact ⟨0, rfl, Nat.zero_le _, Below.refl _ _, fun j _ h => by omega⟩
  case round =>
    obtain ⟨k, rfl, hk, hb, hin⟩ := hrel
    have Hb := Lib.hid hb
    have Hin := Lib.hid hin
    clear hb hin
    by_cases hlt : k < P.length
    · have hkv : k < vs.length := by rw [Hvl.out]; exact hlt
      have hck := Below.keep Hb.out (Hc5.out k hkv)
      have hixk := Hix5.out k
      have Hpk := Lib.hid ((Hr5.out k hlt hkv).keep Hb.out)
      obtain ⟨vp, hvp⟩ : ∃ vp, vp = vs[k] := ⟨_, rfl⟩
      rw [← hvp] at Hpk hck
      obtain ⟨B, hB⟩ : ∃ B, B = seenB h P[k] := ⟨_, rfl⟩
      have HA1 := Lib.hid (HA.out P[k] (List.getElem_mem hlt) B hB.symm vp wr (Below.tr Hb2.out Hb.out) Hpk.out)
      cases B with
      | true =>
        have HR := Lib.hid (HF.out.symm.trans (find_at hlt hB.symm Hin.out))
        have HEz := Lib.hid (show C = 0 by rw [HCi.out, HR.out]; rfl)
        clear hvp hB hkv Hin
        go_wp2_with fail
        refine HA1.out.mono ?_
        rintro e w3 ⟨rfl, hb3⟩
        have Hb3 := Lib.hid (Below.tr Hb2.out (Below.tr Hb.out hb3))
        have HV := Lib.hid (Hpk.out.keep hb3)
        clear hb3
        go_wp2_with fail
        go_ret2
        exact ⟨_, by rw [HEz.out]; rfl, by rw [HR.out]; exact HV.out, Hb3.out⟩
      | false =>
        have R2 := Lib.hid (show ∀ j (hj : j < P.length), j < k + 1 → seenB h P[j] = false from fun j hj hjk => by
          by_cases e : j = k
          · subst e; exact hB.symm
          · exact Hin.out j hj (by omega))
        clear hvp hB hkv Hin
        go_wp2_with fail
        refine HA1.out.mono ?_
        rintro e w3 ⟨rfl, hb3⟩
        have Hb3 := Lib.hid (Below.tr Hb.out hb3)
        clear hb3
        go_wp2_with fail
        go_roundw
        case rel => exact ⟨k + 1, by go_num, by omega, Hb3.out, R2.out⟩
        case measure => simp [intOf]; omega
    · obtain rfl : k = P.length := by omega
      have HR := Lib.hid (HF.out.symm.trans (List.find?_eq_none.2 fun p hp => by
        obtain ⟨j, hj, e⟩ := List.getElem_of_mem hp
        rw [← e, Hin.out j hj hj]
        simp))
      have HEz := Lib.hid (show C = 5 by rw [HCi.out, HR.out]; rfl)
      have Hb3 := Lib.hid (Below.tr Hb2.out Hb.out)
      go_wp2_with fail
      go_ret2
      exact ⟨_, by rw [HEz.out]; rfl, by rw [HR.out]; exact ints_nil _, Hb3.out⟩
#print axioms viewRR_any
end Go.Proofs.Ytpehbffkplmfjaa
