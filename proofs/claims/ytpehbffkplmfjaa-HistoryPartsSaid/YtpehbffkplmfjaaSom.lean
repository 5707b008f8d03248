/- Contract of the reference's some. -/
import Derived.Test.YtpehbffkplmfjaaPms
namespace Go.Proofs.Ytpehbffkplmfjaa
open Go.RowKit
/-- the arrangements of n of a slice's elements, in order -/
def someF : Nat → List Nat → List (List Nat)
  | 0, _ => [[]]
  | n + 1, l => (List.range l.length).flatMap fun i => (someF n (l.eraseIdx i)).map (l.getD i 0 :: ·)
def someTo (n : Nat) (l : List Nat) (i : Nat) : List (List Nat) := (List.range i).flatMap fun i => (someF n (l.eraseIdx i)).map (l.getD i 0 :: ·)
theorem someTo_succ (n : Nat) (l : List Nat) (i : Nat) : someTo n l (i + 1) = someTo n l i ++ (someF n (l.eraseIdx i)).map (l.getD i 0 :: ·) := by
  unfold someTo
  rw [List.range_succ, List.flatMap_append]
  simp
theorem some_len : ∀ {n : Nat} {l p : List Nat}, p ∈ someF n l → p.length = n
  | 0, l, p, hp => by simp [someF] at hp; rw [hp]; rfl
  | n + 1, l, p, hp => by
    rw [someF] at hp
    obtain ⟨i, _, hp⟩ := List.mem_flatMap.1 hp
    obtain ⟨q, hq, rfl⟩ := List.mem_map.1 hp
    rw [List.length_cons, some_len hq]
theorem some_le : ∀ (n : Nat) (l : List Nat), l.length ≤ 7 → (someF n l).length ≤ 7 ^ n ∧ ∀ i, i ≤ l.length → (someTo n l i).length ≤ i * 7 ^ n
  | 0, l, hl => by
    refine ⟨by simp [someF], fun i => ?_⟩
    induction i with
    | zero => intro _; simp [someTo]
    | succ i ih =>
      intro hi
      rw [someTo_succ, List.length_append, List.length_map]
      have := ih (by omega)
      simp [someF]
      simp at this
      omega
  | n + 1, l, hl => by
    have h1 : ∀ l : List Nat, l.length ≤ 7 → (someF (n + 1) l).length ≤ 7 ^ (n + 1) := fun l hl => by
      have := (some_le n l hl).2 l.length (Nat.le_refl _)
      have h2 : l.length * 7 ^ n ≤ 7 * 7 ^ n := Nat.mul_le_mul_right _ hl
      rw [Nat.pow_succ, Nat.mul_comm (7 ^ n) 7]
      exact Nat.le_trans this h2
    refine ⟨h1 l hl, fun i => ?_⟩
    induction i with
    | zero => intro _; simp [someTo]
    | succ i ih =>
      intro hi
      rw [someTo_succ, List.length_append, List.length_map, Nat.succ_mul]
      have h2 := ih (by omega)
      have h3 := h1 (l.eraseIdx i) (by rw [List.length_eraseIdx_of_lt (by omega)]; omega)
      omega
theorem pow7 {n : Nat} (h : n ≤ 6) : 7 ^ n ≤ 117649 := by have := Nat.pow_le_pow_right (n := 7) (by decide) h; simpa using this
theorem some_length (n : Nat) (hn : n ≤ 6) (l : List Nat) (hl : l.length ≤ 7) : (someF n l).length ≤ 117649 := Nat.le_trans (some_le n l hl).1 (pow7 hn)
theorem someTo_length {n i : Nat} {l : List Nat} (hn : n ≤ 6) (hl : l.length ≤ 7) (hi : i ≤ l.length) : (someTo n l i).length ≤ i * 117649 := Nat.le_trans ((some_le n l hl).2 i hi) (Nat.mul_le_mul_left _ (pow7 hn))
set_option maxRecDepth 100000 in
set_option maxHeartbeats 8000000 in
theorem some_any : ∀ (n : Nat), n ≤ 6 → ∀ (l : List Nat), l.length ≤ 7 → ∀ (v : Value) (w : World), Ints w v (castN l) →
    Calls Try.prog 60 #[v, .int .i64 n] w fun e w' => ∃ v', e = .returned v' ∧ OwnRows w.heap.size w' v' ((someF n l).map castN) ∧ Below w.heap.size w w'
  | 0, _, l, _, v, w, hv => by
    obtain ⟨a, c, rfl⟩ := ints_slice hv
    clear hv
    go_enter Try.func60, Try.ntmps60
    go_wp2_with fail
    go_ret
    exact ⟨_, rfl, ⟨[.slice none 0 0], rfl, World.ownsRow_lit w #[.slice none 0 0] 1 (Nat.le_refl _) (by unfold maxLen; omega) rfl, fun i h h' => by
      match i, h with
      | 0, _ => exact ownInts_nil _ _⟩, below_alloc _ _⟩
  | n + 1, hn6, l, h7, v, w, hv => by
    obtain ⟨m, hn⟩ : ∃ m, l.length = m := ⟨_, rfl⟩
    rw [hn] at h7
    have HR := Lib.hid fun (i : Nat) (hi : i < m) => some_any n (by omega) (l.eraseIdx i) (by rw [List.length_eraseIdx_of_lt (by omega)]; omega)
    have HL := Lib.hid fun (i : Nat) (hi : i < m) => some_length n (by omega) (l.eraseIdx i) (by rw [List.length_eraseIdx_of_lt (by omega)]; omega)
    have HT := Lib.hid fun (i : Nat) (hi : i ≤ m) => someTo_length (l := l) (n := n) (i := i) (by omega) (by omega) (by omega)
    have Hfin := Lib.hid (show someF (n + 1) l = someTo n l m from by rw [← hn]; rfl)
    obtain ⟨a, b, off, cap, rfl, hle, ha, hc⟩ := IntsN.get hv
    have hix := run_ix (P := Try.prog) (t := 24) (a := a) (len := l.length) (cap := cap) (b := b) (off := off) (s := 1) Try.underlying24 (by intro w; kernel_rfl) ha
    simp only [Nat.mul_one] at hix
    have Hv := Lib.hid hv
    have Hn := Lib.hid hn
    rw [hn] at hix hle ha hc ⊢
    have Hc := Lib.hid hc
    have Hix := Lib.hid hix
    clear hv hc hix ha hle hn
    have hne0 : (((n : Int) + 1) == 0) = false := by rw [beq_eq_false_iff_ne]; omega
    have hsub1 : IntKind.i64.wrap ((n : Int) + 1 - 1) = (n : Int) := by rw [IntWalk.i64_in _ ⟨by omega, by omega⟩]; omega
    rw [show ((n + 1 : Nat) : Int) = (n : Int) + 1 from by omega]
    go_enter Try.func60, Try.ntmps60
    go_wp2_with fail
    go_loopw [5, 16] (fun o i wr => ∃ k : Nat, i = .int .i64 k ∧ k ≤ m ∧ Below w.heap.size w wr ∧ OwnRows w.heap.size wr o ((someTo n l k).map castN)) (fun _ i _ => m - (intOf i).toNat)
    case atStart => exact ⟨0, rfl, Nat.zero_le _, Below.refl _ _, ownRows_nil _ _⟩
    case round =>
      obtain ⟨k, rfl, hk, hb, hown⟩ := hrel
      obtain ⟨wA, hwA⟩ : ∃ wA : World, wA = wr := ⟨_, rfl⟩
      subst hwA
      have Hb := Lib.hid hb
      have Hown := Lib.hid hown
      clear hb hown
      by_cases hlt : k < m
      · have hck := Below.keep Hb.out (Hc.out k hlt)
        have hixk := Hix.out k
        have hkq : IntKind.i64.wrap ((k : Int) + 1) = ((k + 1 : Nat) : Int) := by rw [IntWalk.i64_in _ ⟨by omega, by omega⟩]; omega
        have hrd := Hv.out.keep Hb.out
        unfold Ints at hrd
        rw [castN_length, Hn.out] at hrd
        obtain ⟨u1, hu1, hs1⟩ := part_to (P := Try.prog) (t := 24) (k := k) Try.underlying24 (by intro w; kernel_rfl) hrd (by omega)
        obtain ⟨u2, hu2, hs2⟩ := part_from (P := Try.prog) (t := 24) (k := k + 1) Try.underlying24 (by intro w; kernel_rfl) hrd (by omega)
        rw [show ((k + 1 : Nat) : Int) = (k : Int) + 1 from by omega] at hu2 hkq
        have Hs1 := Lib.hid hs1
        have Hs2 := Lib.hid hs2
        have Hz := Lib.hid Hb.out.size
        have HRk := Lib.hid (HR.out k hlt)
        have HLk := Lib.hid (HL.out k hlt)
        have HTk := Lib.hid (HT.out k hk)
        have HSk := Lib.hid (someTo_succ n l k)
        obtain ⟨x, hx⟩ : ∃ x, x = l.getD k 0 := ⟨_, rfl⟩
        rw [← hx] at hck HSk
        clear hs1 hs2 hrd hx HR HL HT
        go_upto_region 7 with fail
        go_region_law (first
          | (refine step_append_src rfl (.tmp 21) (.tmp 24) 24 rfl elemInts (by rfl) (base := wA.heap.size) (n := 0) (xs := []) (by first | exact own_lit0 _ _ (Nat.le_refl _) | exact World.ownsRow.alloc (own_lit0 _ _ (Nat.le_refl _)) _) (by rfl) (Src.keep Hs1.out (by repeat (first | exact Below.refl _ _ | refine Below.drew ?_ | refine Below.alloc ?_ (by simp) _))) (by intro u hu; exact ints_oneCell _ u (List.mem_of_mem_take hu)) (by omega) (by simp; try omega) ?_; intro v7 w7 hown7 hb7 _; have HB7 := Lib.hid (show Below wA.heap.size wA w7 from Below.trans (by repeat (first | exact Below.refl _ _ | refine Below.drew ?_ | refine Below.alloc ?_ (by simp) _)) hb7); clear hb7)
          | (refine step_append_src rfl (.tmp 25) (.tmp 29) 24 rfl elemInts (by rfl) (base := wA.heap.size) (n := 0 + k) (by exact hown7) (by rfl) (Src.keep Hs2.out HB7.out) (by intro u hu; exact ints_oneCell _ u (List.mem_of_mem_drop hu)) (by omega) (by exact HB7.out.size) ?_; intro v9 w9 hown9 hb9 _; have HB9 := Lib.hid (Below.trans HB7.out hb9); clear hb9))
        all_goals
          have HO := Lib.hid (own_erased hown9 hlt Hn.out (Nat.le_refl _))
          clear hown9 hown7 hu1 hu2
          go_wp2_with fail
          have hz9 := HB9.out.size
          refine (HRk.out v9 w9 HO.out.ints).mono ?_
          rintro e w10 ⟨v10, rfl, ho10, hb10⟩
          have HB10 := Lib.hid (Below.tr HB9.out hb10)
          have HO10 := Lib.hid ho10
          clear HO HB9 HB7 hb10 ho10
          obtain ⟨P, hP⟩ : ∃ P, P = someF n (l.eraseIdx k) := ⟨_, rfl⟩
          have HPm := Lib.hid (show ∀ p, p ∈ P → p.length ≤ 7 from fun p hp => by
            rw [hP] at hp
            have := some_len hp
            omega)
          rw [← hP] at HO10 HLk HSk
          obtain ⟨T, hT⟩ : ∃ T, T = someTo n l k := ⟨_, rfl⟩
          rw [← hT] at HTk HSk Hown
          obtain ⟨F, hF⟩ : ∃ F, P.length = F := ⟨_, rfl⟩
          have hf : F ≤ 117649 := by have := HLk.out; omega
          have HLk := Lib.hid hF
          have hpl : (P.map castN).length = F := by rw [List.length_map]; exact HLk.out
          clear hF
          obtain ⟨a4, cap4, hv4⟩ := HO10.out.slice
          rw [hpl] at hv4
          subst hv4
          have Hpl := Lib.hid hpl
          have Hz10 := Lib.hid HB10.out.size
          have Hz9 := Lib.hid hz9
          have Hw10 := Lib.hid (Nat.le_trans Hz.out HB10.out.size)
          have Hob := Lib.hid (show ∀ g, u5.ownBlock = some g → g < w9.heap.size ∨ w10.heap.size ≤ g from fun g hg => by
            obtain ⟨vs, _, q2, _⟩ := Hown.out
            have := (own_lt q2 hg).2
            have := Hz9.out
            exact .inl (by omega))
          have Hown10 := Lib.hid (show OwnRows w.heap.size w10 u5 ((T ++ (P.take 0).map (x :: ·)).map castN) from by
            rw [List.take_zero, List.map_nil, List.append_nil]
            exact Hown.out.keep HB10.out)
          have Hb10 := Lib.hid (Below.tr Hb.out HB10.out)
          clear hP hT hpl hz9 Hown Hs1 Hs2 hck hixk
          go_wp2_with fail
          obtain ⟨wo, hwo⟩ : ∃ wo : World, wo = w10 := ⟨_, rfl⟩
          clear hwo
          go_loopw [5, 36] (fun o i wq => ∃ j : Nat, i = .int .i64 j ∧ j ≤ F ∧ Below w.heap.size w wq ∧ w10.heap.size ≤ wq.heap.size ∧ OwnRows w.heap.size wq o ((T ++ (P.take j).map (x :: ·)).map castN) ∧
            (∀ g, o.ownBlock = some g → g < w9.heap.size ∨ w10.heap.size ≤ g) ∧ ∀ g, w9.heap.size ≤ g → g < w10.heap.size → wq.heap[g]? = w10.heap[g]?) (fun _ i _ => F - (intOf i).toNat)
          case atStart => exact ⟨0, rfl, Nat.zero_le _, Hb10.out, Nat.le_refl _, Hown10.out, Hob.out, fun _ _ _ => rfl⟩
          case round =>
            obtain ⟨j, rfl, hj, hbq, hsq, hownq, hobq, hkq2⟩ := hrel
            have Hbq := Lib.hid hbq
            have Hsq := Lib.hid hsq
            have Hownq := Lib.hid hownq
            have Hobq := Lib.hid hobq
            have Hkq := Lib.hid hkq2
            clear hbq hsq hownq hobq hkq2 Hown10 Hob
            by_cases hjl : j < F
            · have HOq := Lib.hid (HO10.out.block Hkq.out)
              obtain ⟨a5, b5, off5, cap5, vs, hv5, hle5, ha5, hvl, hc5, hr5⟩ := Rows.get HOq.out.rows
              injection hv5 with e1 e2 e3
              subst e1 e3
              have hjv : j < vs.length := by rw [hvl, Hpl.out]; exact hjl
              have hcj := hc5 j hjv
              rw [Hpl.out] at ha5
              have hix5 := run_ix (P := Try.prog) (t := 82) (a := a4) (len := F) (cap := cap4) (b := b5) (off := off5) (s := 1) Try.underlying82 (by intro w; kernel_rfl) ha5
              simp only [Nat.mul_one] at hix5
              have hixj := hix5 j
              have Hpj := Lib.hid (show Ints wr vs[j] (castN (P.getD j [])) from by
                have hi : j < P.length := by rw [HLk.out]; exact hjl
                have := hr5 j (by rw [Hpl.out]; exact hjl) hjv
                rw [List.getElem_map] at this
                rw [List.getD_eq_getElem?_getD, List.getElem?_eq_getElem hi]
                exact this)
              have Hpn := Lib.hid (show (P.getD j []).length ≤ 1000 from by
                have hi : j < P.length := by rw [HLk.out]; exact hjl
                have hm : P.getD j [] ∈ P := by rw [List.getD_eq_getElem?_getD, List.getElem?_eq_getElem hi]; exact List.getElem_mem hi
                have := (HPm.out _ hm)
                omega)
              clear hix5 ha5 hc5 hr5 hle5 hvl e2 HOq
              have hSj : T ++ (P.take (j + 1)).map (x :: ·) = (T ++ (P.take j).map (x :: ·)) ++ [x :: P.getD j []] := by
                have hi : j < P.length := by rw [HLk.out]; exact hjl
                rw [List.take_add_one, List.map_append, List.append_assoc, List.getElem?_eq_getElem hi, List.getD_eq_getElem?_getD, List.getElem?_eq_getElem hi]
                rfl
              have HSj := Lib.hid hSj
              obtain ⟨p, hp⟩ : ∃ p, p = P.getD j [] := ⟨_, rfl⟩
              rw [← hp] at Hpj HSj Hpn
              obtain ⟨vp, hvp⟩ : ∃ vp, vp = vs[j] := ⟨_, rfl⟩
              rw [← hvp] at Hpj hcj
              have hTn : ((T ++ (P.take j).map (x :: ·)).map castN).length ≤ k * 117649 + j := by
                have := HTk.out; rw [List.length_map, List.length_append, List.length_map, List.length_take, HLk.out]; omega
              have HTn := Lib.hid hTn
              clear hSj hp hvp hjv hTn
              have hkF : k * 117649 + j ≤ 1000000 := by omega
              go_wp2_with (at_builtin; refine append_srcL rfl (.tmp 42) (.tmp 43) 24 rfl elemInts (base := wr.heap.size) (n := 1) (xs := [.int .i64 (x : Int)]) rfl ?c0 rfl (Rd.src (Ints.keep Hpj.out (below_alloc _ _))) ?c1 ?c2 ?c3 ?_)
              case c0 => exact own_lit1 _ _ _ (Nat.le_refl _)
              case c1 => intro a _; rfl
              case c2 => have := Hpn.out; rw [castN_length]; omega
              intro v11 w11 hown11 hb11 _
              rw [castN_length] at hown11
              have Hu11 := Lib.hid (own_consed rfl hown11)
              have HB11 := Lib.hid (show Below wr.heap.size wr w11 from (below_alloc wr _).trans hb11)
              clear hown11 hb11
              obtain ⟨vs', q1, q2, q3⟩ := Hownq.out.keep HB11.out
              have Q1 := Lib.hid q1
              have Q2 := Lib.hid q2
              have Q3 := Lib.hid q3
              clear q1 q2 q3
              obtain ⟨va, vn, vc, hv11⟩ : ∃ a n c, v11 = .slice a n c := by
                obtain ⟨a, c, e⟩ := own_slice Hu11.out
                exact ⟨a, _, c, e⟩
              subst hv11
              have HN := Lib.hid (show ((T ++ (P.take j).map (x :: ·)).map castN).length ≤ 1000000 from by have := HTn.out; omega)
              go_wp2_with (at_builtin; refine append_place rfl (.tmp 40) (.tmp 45) 82 rfl elemRows rfl (World.ownsRow.alloc Q2.out _) (y := .slice va vn vc) rfl (by rw [cell_new]; rfl) rfl HN.out (by have := Hbq.out.size; have := HB11.out.size; simp; omega) ?_)
              intro v13 w13 r1 r2 r3 r4
              have hu12 : OwnInts w.heap.size w11 (.slice va vn vc) (castN (x :: p)) := Hu11.out.base Hbq.out.size
              have hs11 := HB11.out.size
              have R2 := OwnRows.step Q1.out (World.ownsRow.alloc Q2.out _) (fun i h h' => World.ownsRow.alloc (Q3.out i h h') _) (World.ownsRow.alloc hu12 _) (by simp) r1 r3
              have HR2 := Lib.hid (show OwnRows w.heap.size w13 v13 ((T ++ (P.take (j + 1)).map (x :: ·)).map castN) from by
                rw [HSj.out, List.map_append]; exact R2)
              have HB13 := Lib.hid (show Below w.heap.size w w13 from (Hbq.out.trans (HB11.out.mono Hbq.out.size)).trans (((Below.refl _ _).alloc (by have := Hbq.out.size; omega) _).trans r2))
              have HS13 := Lib.hid (show w10.heap.size ≤ w13.heap.size from by
                have h4 := r2.size
                simp at h4
                have := Hsq.out
                omega)
              have HO13 := Lib.hid (show ∀ g, v13.ownBlock = some g → g < w9.heap.size ∨ w10.heap.size ≤ g from fun g hg => by
                rcases r4 with e | e
                · exact Hobq.out g (by rw [← e]; exact hg)
                · rw [e] at hg
                  have := Hsq.out
                  simp at hg
                  exact .inr (by omega))
              have HK13 := Lib.hid (show ∀ g, w9.heap.size ≤ g → g < w10.heap.size → w13.heap[g]? = w10.heap[g]? from fun g h1 h2 => by
                have hgs := Hsq.out
                rw [r3.block g (by simp; omega) (fun e => by
                  rcases Hobq.out g e.symm with h | h <;> omega)]
                rw [heap_alloc_old w11 _ (r := g) (by omega)]
                rw [HB11.out.block g (by omega)]
                exact Hkq.out g h1 h2)
              clear R2 r1 r2 r3 r4 hu12 Hu11 Q1 Q2 Q3 Hpj HSj hs11
              go_wp2_with fail
              go_roundw
              case rel => exact ⟨j + 1, by go_num, by omega, HB13.out, HS13.out, HR2.out, HO13.out, HK13.out⟩
              case measure => simp [intOf]; omega
            · obtain rfl : j = F := by omega
              have hEnd : (T ++ (P.take j).map (x :: ·)) = someTo n l (k + 1) := by
                rw [HSk.out, List.take_of_length_le (by have := HLk.out; omega)]
              have HE := Lib.hid (hEnd ▸ Hownq.out)
              have HB := Lib.hid Hbq.out
              clear hEnd Hownq
              go_wp2_with fail
              go_roundw
              case rel => exact ⟨k + 1, by go_num, by omega, HB.out, HE.out⟩
              case measure => simp [intOf]; omega
      · obtain rfl : k = m := by omega
        have R := Hown.out
        rw [← Hfin.out] at R
        have HO := Lib.hid R
        clear R Hown
        go_wp2_with fail
        go_ret
        exact ⟨_, rfl, HO.out, Hb.out⟩
termination_by n => n
#print axioms some_any
end Go.Proofs.Ytpehbffkplmfjaa
