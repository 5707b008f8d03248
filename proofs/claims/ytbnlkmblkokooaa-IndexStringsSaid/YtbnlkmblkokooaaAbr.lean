/- Contract of the reference's Absent. -/
import Derived.Test.YtbnlkmblkokooaaAbw
import Derived.Deep.LoopGhost
namespace Go.Proofs.Ytbnlkmblkokooaa
open Go.RowKit
theorem locs_le (t p : Bs) : (locs t p).length ≤ t.length + 1 := by
  unfold locs
  have := List.length_filter_le (fun i => Lib.occAt t p i) (List.range (t.length + 1))
  simpa using this
theorem ex_one {p : ByteArray} {b : Nat} (h : b < p.size) : bs (p.extract b (b + 1)) = [p[b]] := by
  rw [bs_part, Nat.add_sub_cancel_left, bs_get h]
  have h' : b < (bs p).length := by rw [bs_len]; exact h
  rw [List.drop_eq_getElem_cons h']
  rfl
set_option maxRecDepth 100000 in
set_option maxHeartbeats 8000000 in
theorem absentR_from {s p : ByteArray} (h1 : Lab (bs s)) (h2 : LetOK (bs p)) (w w1 : World) (hw1 : Below w.heap.size w w1) :
    Calls Try.prog 46 #[.string s, .string p] w1 fun e w' => ∃ x, e = .returned (strV x) ∧ IsAbs (bs s) (bs p) x ∧ Below w.heap.size w w' := by
  have hs := lab_size h1
  have hp : p.size ≤ 8 := by have := h2.2.1; rwa [bs_len] at this
  have hL1 : bs p ≠ [] := fun e => by have := h2.1; rw [e] at this; simp at this
  have hd := sorted_nodup h2.2.2.2
  have HD := Lib.hid hd
  have HL1 := Lib.hid hL1
  have Hb1 := Lib.hid hw1
  clear h1 h2 hL1 hd hw1
  go_enter Try.func46, Try.ntmps46
  go_wp2_with fail
  have Hst := Lib.hid (show Strs (w1.alloc (.cells #[.string ⟨#[]⟩] 9)) (.slice (some ⟨w1.heap.size, 0, none⟩) 1 1) (lvl (bs p) 0) from rd_new w1 #[.string ⟨#[]⟩] 9 1 1 rfl (by unfold maxLen; omega))
  have Hb2 := Lib.hid (Below.tr Hb1.out (below_alloc w1 (.cells #[.string ⟨#[]⟩] 9)))
  generalize w1.alloc (.cells #[.string ⟨#[]⟩] 9) = w2 at *
  go_loopg [5] ((bs s).length + 1) (fun g v wr => ∃ k, k + g = (bs s).length + 1 ∧ Below w.heap.size w wr ∧ Strs wr v (lvl (bs p) k) ∧ ∀ j, j ≤ k → Full (bs s) (bs p) j)
  case atStart => exact ⟨0, by omega, Hb2.out, Hst.out, fun j hj => by
    have hj0 : j = 0 := by omega
    rw [hj0]; exact full_zero _ _⟩
  case round =>
    obtain ⟨k, hkg, hb, hst, hf⟩ := hrel
    have hkle := full_le HL1.out (hf k (Nat.le_refl _))
    have hfew := full_few HD.out (hf k (Nat.le_refl _))
    rw [bs_len] at hkle hkg hfew
    obtain ⟨a3, b3, off3, cap3, rfl, hle3, ha3, hc3⟩ := Strs.get hst
    obtain ⟨N, hN⟩ : ∃ N, N = (lvl (bs p) k).length := ⟨_, rfl⟩
    rw [← hN] at ha3 hc3 hle3 hfew
    have hix3 := run_ix (P := Try.prog) (t := 57) (a := a3) (len := N) (cap := cap3) (b := b3) (off := off3) (s := 1) Try.underlying57 (by intro w; kernel_rfl) ha3
    simp only [Nat.mul_one] at hix3
    have Hix3 := Lib.hid hix3
    have Hc3 := Lib.hid hc3
    have Hf := Lib.hid hf
    have Hb := Lib.hid hb
    have HN := Lib.hid hN
    rw [← hN]
    clear hb hst hf ha3 hc3 hix3 hN
    go_wp2_with fail
    obtain ⟨wo, hwo⟩ : ∃ wo : World, wo = wr := ⟨_, rfl⟩
    subst hwo
    go_loopw [6, 14] (fun o i wr => ∃ a : Nat, i = .int .i64 a ∧ a ≤ N ∧ Below wo.heap.size wo wr ∧ OwnStrs wo.heap.size wr o (part (bs p) k a 0) ∧ ∀ x ∈ part (bs p) k a 0, Lib.contains (bs s) x = true) (fun _ i _ => N - (intOf i).toNat)
    case atStart => exact ⟨0, rfl, Nat.zero_le _, Below.refl _ _, by rw [part_zero]; exact ownStrs_nil _ _, fun x hx => by rw [part_zero] at hx; cases hx⟩
    case round =>
      obtain ⟨a, rfl, ha, hb, hown, hall⟩ := hrel
      have Hb4 := Lib.hid hb
      have Hown := Lib.hid hown
      have Hall := Lib.hid hall
      clear hb hown hall
      by_cases hlta : a < N
      · have hixa := Hix3.out a
        have hca := Below.keep Hb4.out (Hc3.out a hlta)
        obtain ⟨S, hS, hSV⟩ : ∃ S : ByteArray, bs S = (lvl (bs p) k).getD a [] ∧ strV ((lvl (bs p) k).getD a []) = .string S := ⟨⟨((lvl (bs p) k).getD a []).toArray⟩, rfl, rfl⟩
        rw [hSV] at hca
        have hSk : S.size = k := by
          rw [← bs_len, hS]
          apply lvl_len (L := bs p)
          rw [List.getD_eq_getElem?_getD, List.getElem?_eq_getElem (by rw [← HN.out]; exact hlta)]
          exact List.getElem_mem _
        have HS := Lib.hid hS
        clear hS hSV
        go_wp2_with fail
        go_loopw [6, 20] (fun o i wr => ∃ b : Nat, i = .int .i64 b ∧ b ≤ p.size ∧ Below wo.heap.size wo wr ∧ OwnStrs wo.heap.size wr o (part (bs p) k a b) ∧ ∀ x ∈ part (bs p) k a b, Lib.contains (bs s) x = true) (fun _ i _ => p.size - (intOf i).toNat)
        case atStart => exact ⟨0, rfl, Nat.zero_le _, Hb4.out, Hown.out, Hall.out⟩
        case round =>
          obtain ⟨b, rfl, hbp, hb, hown, hall⟩ := hrel
          have Hb5 := Lib.hid hb
          have Hown5 := Lib.hid hown
          have Hall5 := Lib.hid hall
          clear hb hown hall
          by_cases hltb : b < p.size
          · have hto : ((b : Int) + 1).toNat = b + 1 := by omega
            have hex : (p.extract b (b + 1)).size = 1 := by rw [ByteArray.size_extract]; omega
            have Hnx := Lib.hid (show bs (S ++ p.extract b (b + 1)) = ((lvl (bs p) k).getD a []) ++ [(bs p)[b]'(by rw [bs_len]; exact hltb)] by rw [bs_app, ex_one hltb, HS.out]; rfl)
            go_wp2_with fail
            generalize p.extract b (b + 1) = C at *
            have hbL : b < (bs p).length := by rw [bs_len]; exact hltb
            have haL : a < (lvl (bs p) k).length := by rw [← HN.out]; exact hlta
            cases hcn : Lib.contains (bs s) (bs (S ++ C)) with
            | true =>
              have HC := Lib.hid (locateR_any s (S ++ C) (by omega) (by rw [ByteArray.size_append]; omega) wr)
              have hne : 0 < (locs (bs s) (bs (S ++ C))).length := List.length_pos_iff.2 fun h0 => by rw [locs_nil, hcn] at h0; cases h0
              have Hle := Lib.hid (locs_le (bs s) (bs (S ++ C)))
              have Hall6 := Lib.hid (show ∀ x ∈ part (bs p) k a (b + 1), Lib.contains (bs s) x = true from fun x hx => by
                rw [part_succ hbL] at hx
                rcases List.mem_append.1 hx with hx | hx
                · exact Hall5.out x hx
                · simp only [List.mem_singleton] at hx
                  rw [hx, ← Hnx.out]; exact hcn)
              have hlen := part_few HD.out haL Hall5.out
              rw [bs_len] at hlen
              have Hlen := Lib.hid hlen
              clear hcn hlen
              refine HC.out.mono ?_
              rintro e w' ⟨v', rfl, ho', hb'⟩
              obtain ⟨a', c', rfl⟩ := ints_slice ho'.ints
              rw [castN_length]
              obtain ⟨M, hM⟩ : ∃ M, M = (locs (bs s) (bs (S ++ C))).length := ⟨_, rfl⟩
              rw [← hM]
              have hM0 : 0 < M := hM ▸ hne
              have hMle := Hle.out
              rw [← hM, bs_len] at hMle
              clear hne
              have Hown7 := Lib.hid (owns_keep Hown5.out hb')
              have Hb7 := Lib.hid (Below.tr Hb5.out hb')
              clear ho' hb' hM
              go_wp2_with (at_builtin; refine append_own rfl (.tmp 36) (.tmp 38) 57 rfl elemStrs rfl (World.ownsRow.alloc Hown7.out _) [.string (S ++ C)] rfl rfl ?c1 ?c2 ?c3 ?c4 ?_)
              case c1 => intro q u hq; exact new_one _ _ _ hq
              case c2 => intro u hu; simp at hu; subst hu; rfl
              case c3 => have := Hlen.out; omega
              case c4 => have := Hb7.out.size; simp; omega
              intro v7 w7 hown7 hb7 _
              have HO := Lib.hid (show OwnStrs wo.heap.size w7 v7 (part (bs p) k a (b + 1)) from by
                rw [part_succ hbL]
                refine OwnStrs.snoc ?_
                rw [str_bs, Hnx.out] at hown7
                exact hown7)
              have hb' := Lib.hid (show Below wo.heap.size wo w7 from (Below.alloc Hb7.out Hb7.out.size _).trans hb7)
              clear hown7 hb7
              go_wp2_with fail
              go_roundw
              case rel => exact ⟨b + 1, by go_num, by omega, hb'.out, HO.out, Hall6.out⟩
              case measure => simp [intOf]; omega
            | false =>
              have HC := Lib.hid (locateR_any s (S ++ C) (by omega) (by rw [ByteArray.size_append]; omega) wr)
              have hne : locs (bs s) (bs (S ++ C)) = [] := locs_nil.2 hcn
              have HA := Lib.hid (isAbs_of Hf.out haL hbL Hall5.out (by rw [← Hnx.out]; exact hcn))
              clear hcn
              refine HC.out.mono ?_
              rintro e w' ⟨v', rfl, ho', hb'⟩
              obtain ⟨a', c', rfl⟩ := ints_slice ho'.ints
              rw [castN_length]
              obtain ⟨M, hM⟩ : ∃ M, M = (locs (bs s) (bs (S ++ C))).length := ⟨_, rfl⟩
              rw [← hM]
              obtain rfl : M = 0 := by rw [hM, hne]; rfl
              clear hne
              have Hown7 := Lib.hid (owns_keep Hown5.out hb')
              have Hb7 := Lib.hid (Below.tr Hb5.out hb')
              clear ho' hb'
              go_wp2_with fail
              go_ret
              exact ⟨_, by rw [← Hnx.out, ← str_bs]; rfl, HA.out, Below.tr Hb.out Hb7.out⟩
          · obtain rfl : b = p.size := by omega
            have Hown6 := Lib.hid (show OwnStrs wo.heap.size wr u6 (part (bs p) k (a + 1) 0) from by
              have := Hown5.out
              rw [← bs_len, part_row (by rw [← HN.out]; exact hlta)] at this
              exact this)
            have Hall6 := Lib.hid (show ∀ x ∈ part (bs p) k (a + 1) 0, Lib.contains (bs s) x = true from by
              have := Hall5.out
              rw [← bs_len, part_row (by rw [← HN.out]; exact hlta)] at this
              exact this)
            go_wp2_with fail
            go_roundw
            case rel => exact ⟨a + 1, by go_num, by omega, Hb5.out, Hown6.out, Hall6.out⟩
            case measure => simp [intOf]; omega
      · obtain rfl : a = N := by omega
        have Hst6 := Lib.hid (show Strs wr u6 (lvl (bs p) (k + 1)) from by
          have := Hown.out.strs
          rw [HN.out, part_all] at this
          exact this)
        have Hf6 := Lib.hid (show ∀ j, j ≤ k + 1 → Full (bs s) (bs p) j from fun j hj => by
          by_cases e : j = k + 1
          · rw [e]
            have := Hall.out
            rw [HN.out, part_all] at this
            exact this
          · exact Hf.out j (by omega))
        have hkl := full_le HL1.out (Hf6.out (k + 1) (Nat.le_refl _))
        rw [bs_len] at hkl
        go_wp2_with fail
        go_roundg (gk - 1)
        case measure => omega
        case rel => exact ⟨k + 1, by rw [bs_len]; omega, Below.tr Hb.out Hb4.out, Hst6.out, Hf6.out⟩
theorem absentR_any {s p : ByteArray} (h1 : Lab (bs s)) (h2 : LetOK (bs p)) (w : World) :
    Calls Try.prog 46 #[.string s, .string p] w fun e w' => ∃ x, e = .returned (strV x) ∧ IsAbs (bs s) (bs p) x ∧ Below w.heap.size w w' := absentR_from h1 h2 w w (Below.refl _ _)
#print axioms absentR_any
end Go.Proofs.Ytbnlkmblkokooaa
