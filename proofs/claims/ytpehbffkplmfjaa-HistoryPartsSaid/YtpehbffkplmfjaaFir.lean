/- Contract of the reference's first. -/
import Derived.Test.YtpehbffkplmfjaaAgr
namespace Go.Proofs.Ytpehbffkplmfjaa
open Go.RowKit
/-- a slice of naturals that the reference gives: nil where there is none -/
theorem find_at {α : Type} {f : α → Bool} {l : List α} {k : Nat} (hk : k < l.length) (h1 : f l[k] = true) (h : ∀ j (hj : j < l.length), j < k → f l[j] = false) : l.find? f = some l[k] := by
  induction l generalizing k with
  | nil => simp at hk
  | cons x l ih =>
    match k with
    | 0 => simp at h1; simp [h1]
    | k + 1 =>
      have h0 := h 0 (by simp) (by omega)
      simp at h0
      rw [List.find?_cons, h0]
      simp only [List.getElem_cons_succ]
      exact ih (by simpa using hk) (by simpa using h1) fun j hj hjk => by
        have := h (j + 1) (by simpa using hj) (by omega)
        simpa using this
theorem undEdges : Try.prog.underlying 80 = some (.array 7 66) := by kernel_rfl
set_option maxRecDepth 100000 in
set_option maxHeartbeats 8000000 in
theorem first_any {E : Nat → Nat → Bool} {l : List Nat} (h7 : ∀ x, x ∈ l → x < 7) (hl : l.length ≤ 7) (v : Value) (w : World) (hv : Ints w v (castN l)) :
    Calls Try.prog 57 #[v, .agg (mat E)] w fun e w' => ∃ v', e = .returned (.tuple #[v', .bool (fst' E l).isSome]) ∧ Ints w' v' (castN ((fst' E l).getD [])) ∧ Below w.heap.size w w' := by
  have hla : mat E = row 49 fun j => .bool (E (j / 7) (j % 7)) := rfl
  have HP := Lib.hid (perms_any l.length l rfl hl v (w.alloc (.cells (mat E) 80)) (hv.keep (below_alloc _ _)))
  have HPm := Lib.hid (show ∀ p, p ∈ perms l → ∀ x, x ∈ p → x < 7 from fun p hp x hx => h7 x ((perms_perm rfl hp).mem_iff.1 hx))
  have HF := Lib.hid (show fst' E l = (perms l).find? (agB E) from rfl)
  obtain ⟨P, hP⟩ : ∃ P, P = perms l := ⟨_, rfl⟩
  have HPl := Lib.hid (show P.length ≤ 5040 from by rw [hP, perms_length _ l rfl]; exact facN_le hl)
  rw [← hP] at HP HPm HF
  have HB0 := Lib.hid (below_alloc w (.cells (mat E) 80))
  have HBk := Lib.hid (show Blk (w.alloc (.cells (mat E) 80)) w.heap.size 80 49 (fun j => .bool (E (j / 7) (j % 7))) from blk_new w _ 49 _)
  have HA := Lib.hid (fun (p : List Nat) (h : ∀ x, x ∈ p → x < 7) (B : Bool) (hB : agB E p = B) (v : Value) (w : World) (hv : Ints w v (castN p)) => agrees_any h B hB v w hv)
  have HLs := Lib.hid (show (Try.prog.info? 80).map (·.size) = some (mat E).size from by rw [hla, row_size]; kernel_rfl)
  obtain ⟨a, c, rfl⟩ := ints_slice hv
  clear hv hP
  obtain ⟨w1, hw1⟩ : ∃ w1, w1 = w.alloc (.cells (mat E) 80) := ⟨_, rfl⟩
  obtain ⟨L, hL⟩ : ∃ L, L = mat E := ⟨_, rfl⟩
  rw [← hw1] at HP HB0 HBk
  rw [← hL] at HA HLs hw1 ⊢
  obtain ⟨pb, hpb⟩ : ∃ pb, pb = w.heap.size := ⟨_, rfl⟩
  rw [← hpb] at HBk
  have hLr := hL.trans hla
  have HLr := Lib.hid hLr
  clear hla hL hLr
  go_enter Try.func57, Try.ntmps57
  go_wp2_with fail
  rw [← hw1]
  refine HP.out.mono ?_
  rintro e w2 ⟨v2, rfl, ho2, hb2⟩
  have Hb2 := Lib.hid (Below.tr HB0.out hb2)
  have HBk2 := Lib.hid (show Blk w2 pb 80 49 (fun j => .bool (E (j / 7) (j % 7))) from Blk.keep HBk.out hb2)
  obtain ⟨a4, cap4, hv4⟩ := ho2.slice
  have hpl : (P.map castN).length = P.length := by rw [List.length_map]
  rw [hpl] at hv4
  subst hv4
  obtain ⟨a5, b5, off5, cap5, vs, hv5, hle5, ha5, hvl, hc5, hr5⟩ := Rows.get ho2.rows
  injection hv5 with e1 e2 e3
  subst e1 e3
  rw [hpl] at ha5 hvl hle5
  have hix5 := run_ix (P := Try.prog) (t := 82) (a := a4) (len := P.length) (cap := cap4) (b := b5) (off := off5) (s := 1) Try.underlying82 (by intro w; kernel_rfl) ha5
  simp only [Nat.mul_one] at hix5
  have Hix5 := Lib.hid hix5
  have Hc5 := Lib.hid hc5
  have Hvl := Lib.hid hvl
  have Hr5 := Lib.hid (show ∀ (i : Nat) (h : i < P.length) (h' : i < vs.length), Ints w2 vs[i] (castN P[i]) from fun i h h' => by
    have := hr5 i (by rw [hpl]; exact h) h'
    rw [List.getElem_map] at this
    exact this)
  have hP5 := HPl.out
  clear ho2 hb2 HP hix5 hc5 hr5 hvl ha5 hle5 hpl e2 HBk HB0
  go_wp2_with fail
  go_loopw [11] (fun vi wr => ∃ k : Nat, vi = .int .i64 k ∧ k ≤ P.length ∧ Below w2.heap.size w2 wr ∧ ∀ j (hj : j < P.length), j < k → agB E P[j] = false) (fun vi _ => P.length - (intOf vi).toNat)
  case atStart => exact ⟨0, rfl, Nat.zero_le _, Below.refl _ _, fun j _ h => by omega⟩
  case round =>
    obtain ⟨k, rfl, hk, hb, hin⟩ := hrel
    have Hb := Lib.hid hb
    have Hin := Lib.hid hin
    clear hb hin
    by_cases hlt : k < P.length
    · have hkv : k < vs.length := by rw [Hvl.out]; exact hlt
      have hck := Below.keep Hb.out (Hc5.out k hkv)
      have hixk := Hix5.out k
      have Hpk := Lib.hid ((Hr5.out k hlt hkv).keep Hb.out)
      have HBq := Lib.hid (Blk.keep HBk2.out Hb.out)
      obtain ⟨vp, hvp⟩ : ∃ vp, vp = vs[k] := ⟨_, rfl⟩
      rw [← hvp] at Hpk hck
      obtain ⟨B, hB⟩ : ∃ B, B = agB E P[k] := ⟨_, rfl⟩
      have HA1 := Lib.hid (HA.out P[k] (HPm.out _ (List.getElem_mem hlt)) B hB.symm vp wr Hpk.out)
      cases B with
      | true =>
        have R := Lib.hid (HF.out.trans (find_at hlt hB.symm Hin.out))
        clear hvp hB hkv Hin
        go_wp2_with (refine wpList_load_row rfl 80 (.tmp 3) rfl w.heap.size rfl 80 L (0, 0) _ (by rw [← hpb, HLr.out]; exact HBq.out) undEdges rfl HLs.out ?_)
        refine HA1.out.mono ?_
        rintro e w3 ⟨rfl, hb3⟩
        have Hb3 := Lib.hid (Below.tr Hb2.out (Below.tr Hb.out hb3))
        have HV := Lib.hid (Hpk.out.keep hb3)
        clear hb3
        go_wp2_with fail
        go_ret2
        exact ⟨_, by rw [R.out]; rfl, by rw [R.out]; exact HV.out, Hb3.out⟩
      | false =>
        have R := Lib.hid (show ∀ j (hj : j < P.length), j < k + 1 → agB E P[j] = false from fun j hj hjk => by
          by_cases e : j = k
          · subst e; exact hB.symm
          · exact Hin.out j hj (by omega))
        clear hvp hB hkv Hin
        go_wp2_with (refine wpList_load_row rfl 80 (.tmp 3) rfl w.heap.size rfl 80 L (0, 0) _ (by rw [← hpb, HLr.out]; exact HBq.out) undEdges rfl HLs.out ?_)
        refine HA1.out.mono ?_
        rintro e w3 ⟨rfl, hb3⟩
        have Hb3 := Lib.hid (Below.tr Hb.out hb3)
        clear hb3
        go_wp2_with fail
        go_roundw
        case rel => exact ⟨k + 1, by go_num, by omega, Hb3.out, R.out⟩
        case measure => simp [intOf]; omega
    · obtain rfl : k = P.length := by omega
      have R := Lib.hid (HF.out.trans (List.find?_eq_none.2 fun p hp => by
        obtain ⟨j, hj, e⟩ := List.getElem_of_mem hp
        rw [← e, Hin.out j hj hj]
        simp))
      have Hb3 := Lib.hid (Below.tr Hb2.out Hb.out)
      go_wp2_with fail
      go_ret2
      exact ⟨_, by rw [R.out]; rfl, by rw [R.out]; exact ints_nil _, Hb3.out⟩
#print axioms first_any
end Go.Proofs.Ytpehbffkplmfjaa
