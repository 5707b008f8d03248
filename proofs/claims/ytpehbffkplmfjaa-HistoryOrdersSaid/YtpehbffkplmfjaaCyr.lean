/- Contract of the reference's Cycle. -/
import Derived.Test.YtpehbffkplmfjaaCyp
import Derived.Test.YtpehbffkplmfjaaOrr
import Derived.BigQuiet
namespace Go.Proofs.Ytpehbffkplmfjaa
open Go.RowKit
theorem someF_nil : ∀ {k : Nat} {l : List Nat}, l.length < k → someF k l = []
  | 0, l, h => by omega
  | k + 1, l, h => by
    rw [someF, List.flatMap_eq_nil_iff]
    intro i hi
    have hi : i < l.length := List.mem_range.1 hi
    rw [someF_nil (by rw [List.length_eraseIdx_of_lt hi]; omega)]; rfl
theorem some_mem : ∀ {n : Nat} {l p : List Nat}, p ∈ someF n l → ∀ x, x ∈ p → x ∈ l
  | 0, l, p, hp, x, hx => by simp [someF] at hp; rw [hp] at hx; simp at hx
  | n + 1, l, p, hp, x, hx => by
    rw [someF] at hp
    obtain ⟨i, hi, hp⟩ := List.mem_flatMap.1 hp
    obtain ⟨q, hq, rfl⟩ := List.mem_map.1 hp
    rcases List.mem_cons.1 hx with h | h
    · rw [h]; exact getD_mem (List.mem_range.1 hi)
    · exact List.mem_of_mem_eraseIdx (some_mem hq x h)
theorem comN_nodup (h : List NOp) : (comN h 7).Nodup := List.nodup_range.filter _
theorem comN_le6 {h : List NOp} (hh : VH h) : (comN h 7).length ≤ 6 := by
  have h1 := comN_one hh
  unfold comN at h1 ⊢
  rw [List.range_succ_eq_map, List.filter_cons] at h1 ⊢
  split at h1
  · cases h1
  · rename_i h0
    rw [if_neg h0]
    exact Nat.le_trans (List.length_filter_le _ _) (by simp)
theorem cyK_eq (h : List NOp) (k : Nat) : cyK h k = (someF k (comN h 7)).find? (goodB (bitE (ed h h.length))) := by
  unfold cyK
  rw [cyc_some (comN_nodup h) k [] (fun i hi => by simp at hi), show ((comN h 7).filter fun x => !decide (x ∈ ([] : List Nat))) = comN h 7 from List.filter_eq_self.2 fun x _ => by simp]
  simp
theorem cyK_lt {h : List NOp} {k : Nat} (hk : k < 2) : cyK h k = none := by
  rw [cyK_eq, List.find?_eq_none]
  intro p hp
  have := some_len hp
  unfold goodB
  rw [decide_eq_false (by omega)]
  simp
theorem cyK_gt {h : List NOp} {k : Nat} (hk : (comN h 7).length < k) : cyK h k = none := by
  rw [cyK_eq, someF_nil hk]; rfl
theorem cycN_some {h : List NOp} {k : Nat} (hno : ∀ q, q < k → cyK h q = none) {c : List Nat} (hc : cyK h k = some c) : cycN h = some c :=
  cycN_at hno (by
    by_cases e : (comN h 7).length < k
    · rw [cyK_gt e] at hc; cases hc
    · omega) hc
theorem cycN_all {h : List NOp} (hh : VH h) (hno : ∀ q, q < 7 → cyK h q = none) : cycN h = none :=
  cycN_none fun q hq => hno q (by have := comN_le6 hh; omega)
/-- the first i of n transactions have edges to the next ones -/
def cyTo (E : Nat → Nat → Bool) (p : List Nat) (n i : Nat) : Bool := (List.range i).all fun i => E (p.getD i 0) (p.getD ((i + 1) % n) 0)
theorem cyTo_succ (E : Nat → Nat → Bool) (p : List Nat) (n i : Nat) : cyTo E p n (i + 1) = (cyTo E p n i && E (p.getD i 0) (p.getD ((i + 1) % n) 0)) := by
  unfold cyTo
  rw [List.range_succ, List.all_append]; simp
theorem good_to {E : Nat → Nat → Bool} {p : List Nat} {n : Nat} (hp : p.length = n) (hn : 2 ≤ n) : goodB E p = cyTo E p n n := by
  subst hp
  unfold goodB cycB cyTo
  rw [decide_eq_true (by omega)]; simp
set_option maxRecDepth 100000 in
set_option maxHeartbeats 8000000 in
theorem cycleR_any {h : List NOp} (hh : VH h) (v : Value) (w : World) (hv : Ops w v (castO h)) :
    Calls Try.prog 27 #[v] w fun e w' => ∃ v', e = .returned (.tuple #[v', .int .i64 (if (cycN h).isSome then 0 else 5)]) ∧ Ints w' v' (castN ((cycN h).getD [])) ∧ Below w.heap.size w w' := by
  have HK := Lib.hid (conflicts_any hh v w hv)
  have HCm := Lib.hid (fun (w' : World) (hb : Below w.heap.size w w') => committedR_any hh v w' (Ops.keep hv hb))
  have Hle := Lib.hid (comN_le6 hh)
  have Hall := Lib.hid (cycN_all hh)
  have Hsm := Lib.hid (fun (n : Nat) (hn : n ≤ 6) (v : Value) (w : World) (hv : Ints w v (castN (comN h 7))) => some_any n hn (comN h 7) (comN_le h 7) v w hv)
  have Hsl := Lib.hid (fun (n : Nat) (hn : n ≤ 6) => some_length n hn (comN h 7) (comN_le h 7))
  have Hmem := Lib.hid (show ∀ n p, p ∈ someF n (comN h 7) → ∀ x, x ∈ p → x < 7 from fun n p hp x hx => comN_lt7 (some_mem hp x hx))
  have he : edR (partN h) (partN h).length = bitE (ed h h.length) := by
    funext a b; exact edR_ed hh a b
  rw [he] at HK
  clear he
  have HcyK := Lib.hid (cyK_eq h)
  obtain ⟨E, hE⟩ : ∃ E, E = bitE (ed h h.length) := ⟨_, rfl⟩
  rw [← hE] at HK HcyK
  obtain ⟨a, c, rfl⟩ := ops_slice hv
  obtain ⟨C, hC⟩ : ∃ C : Int, C = if (cycN h).isSome then (0 : Int) else 5 := ⟨_, rfl⟩
  rw [← hC]
  have HCi := Lib.hid hC
  clear hE hv hh hC
  have hla : mat E = row 49 fun j => .bool (E (j / 7) (j % 7)) := rfl
  have HLs := Lib.hid (show (Try.prog.info? 80).map (·.size) = some (mat E).size from by rw [hla, row_size]; kernel_rfl)
  have HL1 := Lib.hid (mat_one E)
  have HZ := Lib.hid (show #[Value.bool false, Value.bool false, Value.bool false, Value.bool false, Value.bool false, Value.bool false, Value.bool false, Value.bool false, Value.bool false, Value.bool false, Value.bool false, Value.bool false, Value.bool false, Value.bool false, Value.bool false, Value.bool false, Value.bool false, Value.bool false, Value.bool false, Value.bool false, Value.bool false, Value.bool false, Value.bool false, Value.bool false, Value.bool false, Value.bool false, Value.bool false, Value.bool false, Value.bool false, Value.bool false, Value.bool false, Value.bool false, Value.bool false, Value.bool false, Value.bool false, Value.bool false, Value.bool false, Value.bool false, Value.bool false, Value.bool false, Value.bool false, Value.bool false, Value.bool false, Value.bool false, Value.bool false, Value.bool false, Value.bool false, Value.bool false, Value.bool false].size = (mat E).size from by rw [hla, row_size]; rfl)
  have HBk := Lib.hid (fun w : World => show Blk ((w.alloc (.cells #[Value.bool false, Value.bool false, Value.bool false, Value.bool false, Value.bool false, Value.bool false, Value.bool false, Value.bool false, Value.bool false, Value.bool false, Value.bool false, Value.bool false, Value.bool false, Value.bool false, Value.bool false, Value.bool false, Value.bool false, Value.bool false, Value.bool false, Value.bool false, Value.bool false, Value.bool false, Value.bool false, Value.bool false, Value.bool false, Value.bool false, Value.bool false, Value.bool false, Value.bool false, Value.bool false, Value.bool false, Value.bool false, Value.bool false, Value.bool false, Value.bool false, Value.bool false, Value.bool false, Value.bool false, Value.bool false, Value.bool false, Value.bool false, Value.bool false, Value.bool false, Value.bool false, Value.bool false, Value.bool false, Value.bool false, Value.bool false, Value.bool false] 80)).setRow w.heap.size (mat E)) w.heap.size 80 49 (fun j => .bool (E (j / 7) (j % 7))) from (blk_new w 80 49 fun _ => .bool false).setRow _)
  obtain ⟨L, hL⟩ : ∃ L, L = mat E := ⟨_, rfl⟩
  rw [← hL] at HK HLs HL1 HZ HBk
  clear hL hla
  go_enter Try.func27, Try.ntmps27
  go_wp2_with fail
  refine HK.out.mono ?_
  rintro e w2 ⟨rfl, hb2⟩
  have Hb2 := Lib.hid hb2
  clear hb2 HK
  go_upto_region 2 with (refine wpList_store_row rfl 80 (.tmp 4) (.tmp 12) rfl w2.heap.size L rfl rfl 80 _ (heap_alloc_new _ _) HLs.out HZ.out HL1.out ?_; have HB3 := Lib.hid (HBk.out w2); have Hb3 := Lib.hid (show Below w.heap.size w ((w2.alloc (.cells #[Value.bool false, Value.bool false, Value.bool false, Value.bool false, Value.bool false, Value.bool false, Value.bool false, Value.bool false, Value.bool false, Value.bool false, Value.bool false, Value.bool false, Value.bool false, Value.bool false, Value.bool false, Value.bool false, Value.bool false, Value.bool false, Value.bool false, Value.bool false, Value.bool false, Value.bool false, Value.bool false, Value.bool false, Value.bool false, Value.bool false, Value.bool false, Value.bool false, Value.bool false, Value.bool false, Value.bool false, Value.bool false, Value.bool false, Value.bool false, Value.bool false, Value.bool false, Value.bool false, Value.bool false, Value.bool false, Value.bool false, Value.bool false, Value.bool false, Value.bool false, Value.bool false, Value.bool false, Value.bool false, Value.bool false, Value.bool false, Value.bool false] 80)).setRow w2.heap.size L) from below_setRow (Below.tr Hb2.out (below_alloc _ _)) Hb2.out.size _); generalize (w2.alloc (.cells #[Value.bool false, Value.bool false, Value.bool false, Value.bool false, Value.bool false, Value.bool false, Value.bool false, Value.bool false, Value.bool false, Value.bool false, Value.bool false, Value.bool false, Value.bool false, Value.bool false, Value.bool false, Value.bool false, Value.bool false, Value.bool false, Value.bool false, Value.bool false, Value.bool false, Value.bool false, Value.bool false, Value.bool false, Value.bool false, Value.bool false, Value.bool false, Value.bool false, Value.bool false, Value.bool false, Value.bool false, Value.bool false, Value.bool false, Value.bool false, Value.bool false, Value.bool false, Value.bool false, Value.bool false, Value.bool false, Value.bool false, Value.bool false, Value.bool false, Value.bool false, Value.bool false, Value.bool false, Value.bool false, Value.bool false, Value.bool false, Value.bool false] 80)).setRow w2.heap.size L = w3 at *)
  clear HBk HLs HL1 HZ
  generalize w2.heap.size = pb at *
  simp only [Act.put]
  go_wp2_with fail
  go_loopw [5] (fun vk wr => ∃ n : Nat, vk = .int .i64 n ∧ 2 ≤ n ∧ n ≤ 7 ∧ Below w3.heap.size w3 wr ∧ ∀ q, q < n → cyK h q = none) (fun vk _ => 7 - (intOf vk).toNat)
  case atStart => exact ⟨2, rfl, Nat.le_refl _, by omega, Below.refl _ _, fun q hq => cyK_lt hq⟩
  case round =>
    obtain ⟨n, rfl, hn2, hn7, hb, hno⟩ := hrel
    have Hb := Lib.hid hb
    have Hno := Lib.hid hno
    clear hb hno
    by_cases hlt : n ≤ 6
    · have HCm1 := Lib.hid (HCm.out wr (Below.tr Hb3.out Hb.out))
      have Hsm1 := Lib.hid (Hsm.out n hlt)
      have HP := Lib.hid (Hsl.out n hlt)
      have HM := Lib.hid (Hmem.out n)
      have HLn := Lib.hid (show ∀ p, p ∈ someF n (comN h 7) → p.length = n from fun p hp => some_len hp)
      have HF := Lib.hid (HcyK.out n)
      have HB := Lib.hid (Blk.keep HB3.out Hb.out)
      obtain ⟨P, hP⟩ : ∃ P, P = someF n (comN h 7) := ⟨_, rfl⟩
      rw [← hP] at Hsm1 HP HM HLn HF
      clear hP
      go_wp2_with fail
      refine HCm1.out.mono ?_
      rintro e w4 ⟨v4, rfl, ho4, hb4⟩
      have Hb4 := Lib.hid (Below.tr Hb.out hb4)
      have HB4 := Lib.hid (Blk.keep HB.out hb4)
      have Hs4 := Lib.hid (Hsm1.out v4 w4 ho4.ints)
      clear ho4 hb4 HCm1 Hsm1
      go_wp2_with fail
      refine Hs4.out.mono ?_
      rintro e w5 ⟨v5, rfl, ho5, hb5⟩
      have Hb5 := Lib.hid (Below.tr Hb4.out hb5)
      have HB5 := Lib.hid (Blk.keep HB4.out hb5)
      have hP5 := HP.out
      obtain ⟨a4, cap4, hv4⟩ := ho5.slice
      have hpl : (P.map castN).length = P.length := by rw [List.length_map]
      rw [hpl] at hv4
      subst hv4
      obtain ⟨a5, b5, off5, cap5, vs, hv5, hle5, ha5, hvl, hc5, hr5⟩ := Rows.get ho5.rows
      injection hv5 with e1 e2 e3
      subst e1 e3
      rw [hpl] at ha5 hvl hle5
      have hix5 := run_ix (P := Try.prog) (t := 82) (a := a4) (len := P.length) (cap := cap4) (b := b5) (off := off5) (s := 1) Try.underlying82 (by intro w; kernel_rfl) ha5
      simp only [Nat.mul_one] at hix5
      have Hix5 := Lib.hid hix5
      have Hc5 := Lib.hid hc5
      have Hvl := Lib.hid hvl
      have Hr5 := Lib.hid (show ∀ (i : Nat) (h : i < P.length) (h' : i < vs.length), Ints w5 vs[i] (castN P[i]) from fun i h h' => by
        have := hr5 i (by rw [hpl]; exact h) h'
        rw [List.getElem_map] at this
        exact this)
      clear ho5 hb5 hix5 hc5 hr5 hvl ha5 hle5 hpl e2 HB Hs4 Hb4 HB4
      go_wp2_with fail
      go_loopw [22] (fun vj wq => ∃ j : Nat, vj = .int .i64 j ∧ j ≤ P.length ∧ Below w5.heap.size w5 wq ∧ ∀ q (hq : q < P.length), q < j → goodB E P[q] = false) (fun vj _ => P.length - (intOf vj).toNat)
      case atStart => exact ⟨0, rfl, Nat.zero_le _, Below.refl _ _, fun q _ h => by omega⟩
      case round =>
        obtain ⟨j, rfl, hj, hb, hin⟩ := hrel
        have Hbq := Lib.hid hb
        have Hin := Lib.hid hin
        clear hb hin
        by_cases hjl : j < P.length
        · have hjv : j < vs.length := by rw [Hvl.out]; exact hjl
          have hcj := Below.keep Hbq.out (Hc5.out j hjv)
          have hixj := Hix5.out j
          have hpj := Hr5.out j hjl hjv
          have Hgo := Lib.hid (fun (e : goodB E P[j] = true) => HF.out.trans (find_at hjl e Hin.out))
          have Hbad := Lib.hid (fun (e : goodB E P[j] = false) => show ∀ q (hq : q < P.length), q < j + 1 → goodB E P[q] = false from fun q hq hqj => by
            by_cases e2 : q = j
            · subst e2; exact e
            · exact Hin.out q hq (by omega))
          have hpn := HLn.out _ (List.getElem_mem hjl)
          have hgt := good_to (E := E) hpn hn2
          have h7 := HM.out _ (List.getElem_mem hjl)
          rw [hgt] at Hgo Hbad
          obtain ⟨p, hp⟩ : ∃ p, p = P[j] := ⟨_, rfl⟩
          obtain ⟨vp, hvp⟩ : ∃ vp, vp = vs[j] := ⟨_, rfl⟩
          rw [← hp] at hpn h7 Hgo Hbad hpj
          rw [← hvp] at hcj hpj
          have Hpj := Lib.hid hpj
          obtain ⟨ap, bp, offp, capp, hvp2, _, hap, hcp⟩ := IntsN.get hpj
          rw [hpn] at hvp2 hap hcp
          subst hvp2
          have hixp := run_ix (P := Try.prog) (t := 24) (a := ap) (len := n) (cap := capp) (b := bp) (off := offp) (s := 1) Try.underlying24 (by intro w; kernel_rfl) hap
          simp only [Nat.mul_one] at hixp
          have Hixp := Lib.hid hixp
          have Hcp := Lib.hid hcp
          have H7 := Lib.hid h7
          have Hpn := Lib.hid hpn
          clear hixp hcp hap h7 hpn hpj hp hvp hgt hjv Hin
          go_wp2_with fail
          obtain ⟨wo, hwo⟩ : ∃ wo : World, wo = wr := ⟨_, rfl⟩
          clear hwo
          go_loopw [8, 28] (fun ok vi wx => ∃ i : Nat, vi = .int .i64 i ∧ i ≤ n ∧ ok = .bool (cyTo E p n i) ∧ Below w5.heap.size w5 wx) (fun _ vi _ => n - (intOf vi).toNat)
          case atStart => exact ⟨0, rfl, Nat.zero_le _, rfl, Hbq.out⟩
          case round =>
            obtain ⟨i, rfl, hi, rfl, hb⟩ := hrel
            have Hbx := Lib.hid hb
            clear hb
            by_cases hil : i < n
            · have hci := Below.keep Hbx.out (Hcp.out i hil)
              have hml : (i + 1) % n < n := Nat.mod_lt _ (by omega)
              have hcm := Below.keep Hbx.out (Hcp.out _ hml)
              have hixi := Hixp.out i
              have hixm := Hixp.out ((i + 1) % n)
              have hx7 := H7.out (p.getD i 0) (getD_mem (by rw [Hpn.out]; exact hil))
              have hy7 := H7.out (p.getD ((i + 1) % n) 0) (getD_mem (by rw [Hpn.out]; exact hml))
              have hmc := mat_at (E := E) (Blk.keep HB5.out Hbx.out) hx7 hy7
              have HS := Lib.hid (cyTo_succ E p n i)
              have hz66 := cells66
              obtain ⟨x, hx⟩ : ∃ x, x = p.getD i 0 := ⟨_, rfl⟩
              obtain ⟨y, hy⟩ : ∃ y, y = p.getD ((i + 1) % n) 0 := ⟨_, rfl⟩
              rw [← hx] at hci hx7 hmc HS
              rw [← hy] at hcm hy7 hmc HS
              have hrem : ((i : Int) + 1).tmod (n : Int) = (((i + 1) % n : Nat) : Int) := by
                rw [Int.tmod_eq_emod_of_nonneg (by omega)]
                exact (Int.natCast_emod (i + 1) n).symm
              have hwi : IntKind.i64.wrap ((i : Int) + 1) = (i : Int) + 1 := by rw [IntWalk.i64_in _ ⟨by omega, by omega⟩]
              obtain ⟨m, hm⟩ : ∃ m, m = (i + 1) % n := ⟨_, rfl⟩
              rw [← hm] at hml hcm hixm hrem
              have hwm : IntKind.i64.wrap (m : Int) = (m : Int) := by rw [IntWalk.i64_in _ ⟨by omega, by omega⟩]
              have hn0 : ((n : Int) == 0) = false := by rw [beq_eq_false_iff_ne]; omega
              obtain ⟨B, hB⟩ : ∃ B, B = cyTo E p n i := ⟨_, rfl⟩
              rw [← hB] at HS ⊢
              obtain ⟨wy, hwy⟩ : ∃ wy : World, wy = wr := ⟨_, rfl⟩
              subst hwy
              clear hx hy hm hB
              cases B with
              | false =>
                have HS2 := Lib.hid (show cyTo E p n (i + 1) = false from by rw [HS.out]; rfl)
                go_wp2_with fail
                go_quiet (fail)
                go_wp2_with fail
                go_roundw
                case rel => exact ⟨i + 1, by go_num, by omega, by rw [HS2.out], bdrewN Hbx.out _⟩
                case measure => simp [intOf]; omega
              | true =>
                have HS2 := Lib.hid (show cyTo E p n (i + 1) = E x y from by rw [HS.out]; rfl)
                go_wp2_with fail
                go_quiet (fail)
                go_wp2_with fail
                go_roundw
                case rel => exact ⟨i + 1, by go_num, by omega, by rw [HS2.out], bdrewN Hbx.out _⟩
                case measure => simp [intOf]; omega
            · obtain rfl : i = n := by omega
              cases hB : cyTo E p i i with
              | true =>
                have HR := Lib.hid (cycN_some Hno.out (Hgo.out hB))
                have HEz := Lib.hid (show C = 0 by rw [HCi.out, HR.out]; rfl)
                have HV := Lib.hid (Hpj.out.keep Hbx.out)
                clear hB
                go_wp2_with fail
                go_ret2
                exact ⟨_, by rw [HEz.out]; rfl, by rw [HR.out]; exact HV.out, Below.tr Hb3.out (Below.tr Hb5.out Hbx.out)⟩
              | false =>
                have HN := Lib.hid (Hbad.out hB)
                clear hB
                go_wp2_with fail
                go_roundw
                case rel => exact ⟨j + 1, by go_num, by omega, Hbx.out, HN.out⟩
                case measure => simp [intOf]; omega
        · obtain rfl : j = P.length := by omega
          have R := Lib.hid (HF.out.trans (List.find?_eq_none.2 fun p hp => by
            obtain ⟨j, hj, e⟩ := List.getElem_of_mem hp
            rw [← e, Hin.out j hj hj]
            simp))
          have HN := Lib.hid (show ∀ q, q < n + 1 → cyK h q = none from fun q hq => by
            by_cases e : q = n
            · subst e; exact R.out
            · exact Hno.out q (by omega))
          go_wp2_with fail
          go_roundw
          case rel => exact ⟨n + 1, by go_num, by omega, by omega, Below.tr Hb5.out Hbq.out, HN.out⟩
          case measure => simp [intOf]; omega
    · obtain rfl : n = 7 := by omega
      have HR := Lib.hid (Hall.out Hno.out)
      have HEz := Lib.hid (show C = 5 by rw [HCi.out, HR.out]; rfl)
      go_wp2_with fail
      go_ret2
      exact ⟨_, by rw [HEz.out]; rfl, by rw [HR.out]; exact ints_nil _, Below.tr Hb3.out Hb.out⟩
#print axioms cycleR_any
end Go.Proofs.Ytpehbffkplmfjaa
