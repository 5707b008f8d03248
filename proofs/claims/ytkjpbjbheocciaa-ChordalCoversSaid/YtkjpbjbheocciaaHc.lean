/- Contracts of Hole, CheckHole. -/
import Derived.Test.YtkjpbjbheocciaaHb
namespace Go.Proofs.Ytkjpbjbheocciaa
open Go.RowKit

def holeErr (r : Option (List Nat)) : Int := match r with | none => 5 | some _ => 0
def HoleE (g : List Nat) (w : World) (e : Ending) (w' : World) : Prop := ∃ v', e = .returned (.tuple #[v', .int .i64 (holeErr (hole g))]) ∧ Ints w' v' (castN ((hole g).getD [])) ∧ Below w.heap.size w w'
def FO (g : List Nat) (k : Nat) : Option (List Nat) := if 4 ≤ k then hk' g k else none
theorem hole_FO (g : List Nat) : hole g = ft (FO g) (g.length + 1) := rfl
theorem FO_four (g : List Nat) : ft (FO g) 4 = none := rfl
def FI (g : List Nat) (k : Nat) (s : Nat) : Option (List Nat) := hl g k (k - 1) [s]
theorem FO_ge {g : List Nat} {k : Nat} (h : 4 ≤ k) : FO g k = ft (FI g k) g.length := if_pos h
theorem holeE_bad {l : List Int} (h : ¬ GrI l) (v : Value) (w : World) (hv : Ints w v l) :
    Calls Try.prog 26 #[v] w fun e w' => e = .returned (.tuple #[.slice none 0 0, .int .i64 2]) ∧ w = w' := by
  have H := Lib.hid (valid_b (decide_eq_false h) v w hv)
  clear h hv
  go_enter Try.func26, Try.ntmps26
  go_wp2_with fail
  refine H.out.mono ?_
  rintro e w1 ⟨rfl, rfl⟩
  go_wp2_with fail
  go_ret2
  exact ⟨rfl, rfl⟩
set_option maxRecDepth 100000 in
set_option maxHeartbeats 4000000 in
theorem holeE_any {g : List Nat} (hg : Gr g) (v : Value) (w : World) (hv : Ints w v (castN g)) :
    Calls Try.prog 26 #[v] w (HoleE g w) := by
  have H := Lib.hid (valid_b (decide_eq_true (grI_of hg)) v w hv)
  have hgl := castN_length g
  obtain ⟨a, c, rfl⟩ := ints_slice hv
  rw [hgl] at hv H ⊢
  have hg12 := hg.le
  have Hv := Lib.hid hv
  have HG := Lib.hid hg
  have hneN := fun w' => run_neq_slice_nil_any (P := Try.prog) w' 22 3 none 0 0 0 0 Try.underlying22
  clear hv hg hgl
  go_enter Try.func26, Try.ntmps26
  go_wp2_with fail
  refine H.out.mono ?_
  rintro e w1 ⟨rfl, rfl⟩
  clear H
  go_wp2_with fail
  go_loopw [4] (fun i wr => ∃ s : Nat, i = .int .i64 s ∧ 4 ≤ s ∧ s ≤ 13 ∧ (s = 4 ∨ s ≤ g.length + 1) ∧ Below w.heap.size w wr ∧ ft (FO g) s = none) (fun i _ => 14 - (intOf i).toNat)
  case atStart => exact ⟨4, rfl, by omega, by omega, .inl rfl, Below.refl _ _, FO_four g⟩
  case round =>
    obtain ⟨s, rfl, hs4, hs13, hs, hb, hin⟩ := hrel
    have Hb := Lib.hid hb
    have Hin := Lib.hid hin
    have HS := Lib.hid hs
    clear hb hin hs
    by_cases hlt : s ≤ g.length
    · go_wp2_with fail
      obtain ⟨wo, rfl⟩ : ∃ wo : World, wo = wr := ⟨_, rfl⟩
      go_loopw [18] (fun i wr => ∃ x : Nat, i = .int .i64 x ∧ x ≤ g.length ∧ Below wo.heap.size wo wr ∧ ft (FI g s) x = none) (fun i _ => g.length - (intOf i).toNat)
      case atStart => exact ⟨0, rfl, Nat.zero_le _, Below.refl _ _, rfl⟩
      case round =>
        obtain ⟨x, rfl, hx, hbx, hinx⟩ := hrel
        have Hbx := Lib.hid (Below.tr Hb.out hbx)
        have Hbo := Lib.hid hbx
        have Hinx := Lib.hid hinx
        clear hbx hinx
        by_cases hltx : x < g.length
        · have H1 := Lib.hid (hw_one (k := s) hs4 hltx)
          have HFx := Lib.hid (show FI g s x = hl g s (s - 1) [x] from rfl)
          go_wp2_with fail
          refine (hole_any HG.out hs4 (by omega) (s - 1) [x] _ _ _ (by simp; omega) (by simp) H1.out (Ints.keep Hv.out (Below.tr Hbx.out (below_alloc _ _))) (ints_one _ _ _) ⟨_, _, _, rfl⟩).mono ?_
          rintro e w5 ⟨v5, rfl, hr5, hb5⟩
          have Hb5 := Lib.hid (Below.tr (Below.tr Hbx.out (below_alloc _ _)) hb5)
          have Hb5o := Lib.hid (Below.tr (Below.tr Hbo.out (below_alloc _ _)) hb5)
          clear hb5
          cases hres : hl g s (s - 1) [x] with
          | none =>
            rw [hres] at hr5
            have h5 : v5 = .slice none 0 0 := hr5
            subst h5
            have R := Lib.hid (show ft (FI g s) (x + 1) = none by rw [ft_none Hinx.out, HFx.out, hres])
            clear hres hr5
            go_wp2_with fail
            go_roundw
            case rel => exact ⟨x + 1, by go_num, by omega, Hb5o.out, R.out⟩
            case measure => simp [intOf]; omega
          | some r =>
            rw [hres] at hr5
            obtain ⟨⟨ra, rn, rc, rfl⟩, hri⟩ := hr5
            have Hri := Lib.hid hri
            have R := Lib.hid (show hole g = some r by
              rw [hole_FO]
              refine ft_hit Hin.out ?_ (by omega)
              rw [FO_ge hs4]
              exact ft_hit Hinx.out (by rw [HFx.out, hres]) hltx)
            have hneS := fun w' => run_neq_slice_nil_any (P := Try.prog) w' 22 3 (some ra) rn rc 0 0 Try.underlying22
            clear hres hri
            go_wp2_with fail
            go_ret2
            exact ⟨_, by rw [R.out]; rfl, by rw [R.out]; exact Hri.out, Hb5.out⟩
        · obtain rfl : x = g.length := by omega
          have R := Lib.hid (show ft (FO g) (s + 1) = none by rw [ft_none Hin.out, FO_ge hs4]; exact Hinx.out)
          go_wp2_with fail
          go_roundw
          case rel => exact ⟨s + 1, by go_num, by omega, by omega, .inr (by omega), Hbx.out, R.out⟩
          case measure => simp [intOf]; omega
    · have R := Lib.hid (show hole g = none by rw [hole_FO]; exact ft_le Hin.out (by omega))
      go_wp2_with fail
      go_ret2
      exact ⟨_, by rw [R.out]; rfl, by rw [R.out]; exact ints_nil _, Hb.out⟩

/-- a list of ints that is a hole -/
def nat' (l : List Int) : List Nat := l.map Int.toNat
def NodeI (g : List Nat) (l : List Int) : Prop := ∀ i, i < l.length → 0 ≤ gI l i ∧ gI l i < g.length
instance (g : List Nat) (l : List Int) : Decidable (NodeI g l) := inferInstanceAs (Decidable (∀ i, i < l.length → _))
def IsHoleI (g : List Nat) (l : List Int) : Prop := 4 ≤ l.length ∧ NodeI g l ∧ Hw g l.length (nat' l)
instance (g : List Nat) (l : List Int) : Decidable (IsHoleI g l) := inferInstanceAs (Decidable (_ ∧ _))
theorem nat_length (l : List Int) : (nat' l).length = l.length := by simp [nat']
theorem nat_take (l : List Int) (j : Nat) : nat' (l.take j) = (nat' l).take j := by simp [nat', List.map_take]
theorem castN_nat {g : List Nat} {l : List Int} (h : NodeI g l) : castN (nat' l) = l := by
  apply List.ext_getElem (by simp [castN, nat'])
  intro i h1 h2
  have := (h i h2).1
  rw [← gI_get h2] at this
  simp only [castN, nat', List.getElem_map]
  omega
theorem node_take {g : List Nat} {l : List Int} {j : Nat} (h : ∀ i, i < j → 0 ≤ gI l i ∧ gI l i < g.length) (hj : j ≤ l.length) : NodeI g (l.take j) := by
  intro i hi
  have hi' : i < j := by simp at hi; omega
  rw [show gI (l.take j) i = gI l i by simp [gI, List.getD, hi']]
  exact h i hi'
theorem hw_len_le {g : List Nat} {k : Nat} {l : List Nat} (h : Hw g k l) : l.length ≤ g.length := by
  have key : ∀ i, i ≤ l.length → cnt g.length (setN (l.take i)) = i := by
    intro i
    induction i with
    | zero => intro _; show cnt g.length 0 = 0; exact (cnt_zero_iff (Nat.two_pow_pos _)).2 rfl
    | succ i ih =>
      intro hi
      rw [setN_take (by omega), cnt_insert ((h.1 i (by omega)).1.1), ih (by omega)]
      rw [setN_bit]
      apply decide_eq_false
      intro hm
      obtain ⟨j, hj, e⟩ := mem_at.1 hm
      have hj' : j < i := by simp at hj; omega
      rw [at_take hj'] at e
      exact ((h.1 i (by omega)).2 j hj').1 e.symm
  have := key l.length (Nat.le_refl _)
  have h2 := cnt_le g.length (setN (l.take l.length))
  omega
theorem isHole_len {g : List Nat} {l : List Int} (h : IsHoleI g l) : l.length ≤ g.length := by
  have := hw_len_le h.2.2
  rwa [nat_length] at this
theorem checkHole_bad {l : List Int} (h : ¬ GrI l) (v u : Value) (w : World) (hv : Ints w v l) :
    Calls Try.prog 27 #[v, u] w fun e w' => e = .returned (.tuple #[.bool false, .int .i64 2]) ∧ w = w' := by
  have H := Lib.hid (valid_b (decide_eq_false h) v w hv)
  clear h hv
  go_enter Try.func27, Try.ntmps27
  go_wp2_with fail
  refine H.out.mono ?_
  rintro e w1 ⟨rfl, rfl⟩
  go_wp2_with fail
  go_ret2
  exact ⟨rfl, rfl⟩
set_option maxRecDepth 100000 in
set_option maxHeartbeats 4000000 in
theorem checkHole_any {g : List Nat} (hg : Gr g) (l : List Int) (v u : Value) (w : World) (hv : Ints w v (castN g)) (hu : Ints w u l) :
    Calls Try.prog 27 #[v, u] w fun e w' => e = .returned (.tuple #[.bool (decide (IsHoleI g l)), .int .i64 0]) ∧ ∃ q, w' = w.drewN q := by
  have H := Lib.hid (valid_b (decide_eq_true (grI_of hg)) v w hv)
  have hgl := castN_length g
  obtain ⟨a, c, rfl⟩ := ints_slice hv
  rw [hgl] at hv H ⊢
  have hg12 := hg.le
  have Hu0 := Lib.hid hu
  obtain ⟨a', b', off', cap', rfl, hle', ha', hc'⟩ := Ints.get hu
  have hix' := run_ix (P := Try.prog) (t := 22) (a := a') (len := l.length) (cap := cap') (b := b') (off := off') (s := 1) Try.underlying22 (by intro w; kernel_rfl) ha'
  simp only [Nat.mul_one] at hix'
  have hix0 : ∀ w, 0 < l.length → (Instr.indexAt 22 (.slice a' l.length cap') (.int .i64 0)).run Try.prog w = .ok (.pointer (some ⟨b', off', none⟩)) w := fun w h => by have := hix' 0 w h; simpa using this
  have hto := run_to (P := Try.prog) (t := 22) (a := a') (len := l.length) (cap := cap') (s := 1) Try.underlying22 (by intro w; kernel_rfl) (Ints.cap Hu0.out)
  have Hc' := Lib.hid (show ∀ i, i < l.length → w.cell? ⟨b', off' + i, none⟩ = some (.int .i64 (gI l i)) from fun i hi => by rw [hc' i hi, gI_get hi])
  have Hv := Lib.hid hv
  have HG := Lib.hid hg
  have Hix' := Lib.hid hix'
  have Hto := Lib.hid hto
  obtain ⟨E, hE⟩ : ∃ E, E = decide (IsHoleI g l) := ⟨_, rfl⟩
  rw [← hE]
  have HE := Lib.hid hE
  have Hno := Lib.hid (show ¬ IsHoleI g l → E = false from fun h => by rw [hE]; exact decide_eq_false h)
  clear hv hu hg ha' hc' hgl hix' hto hE
  by_cases h4 : 4 ≤ l.length
  · by_cases hln : l.length ≤ g.length
    · have hc0 := Hc'.out 0 (by omega)
      have hl0 : 0 < l.length := by omega
      rw [Nat.add_zero] at hc0
      obtain ⟨f, hf⟩ : ∃ f, f = gI l 0 := ⟨_, rfl⟩
      rw [← hf] at hc0
      by_cases hn0 : 0 ≤ f ∧ f < (g.length : Int)
      · have HN0 := Lib.hid (decide_eq_true hn0)
        have hb00 : ∀ i, i < 1 → 0 ≤ gI l i ∧ gI l i < (g.length : Int) := by
          intro i hi
          have e : i = 0 := by omega
          rw [e, ← hf]
          exact hn0
        have HB0 := Lib.hid hb00
        clear hb00
        have HW0 := Lib.hid (show Hw g l.length (nat' (l.take 1)) by
          rw [nat_take]
          have e : (nat' l).take 1 = [f.toNat] := by
            have h0 : 0 < (nat' l).length := by rw [nat_length]; omega
            rw [List.take_succ_eq_append_getElem h0]
            have h0' : 0 < l.length := by omega
            have : (nat' l)[0] = f.toNat := by simp only [nat', List.getElem_map]; rw [gI_get h0', ← hf]
            rw [this]; rfl
          rw [e]
          exact hw_one h4 (by omega))
        clear hn0 hf
        go_enter Try.func27, Try.ntmps27
        go_wp2_with fail
        refine H.out.mono ?_
        rintro e w1 ⟨rfl, rfl⟩
        clear H
        go_wp2_with fail
        refine (isNode_b _ _ _ _ true HN0.out _).mono ?_
        rintro e w' ⟨rfl, rfl⟩
        go_wp2_with fail
        go_loopw [6] (fun i wr => ∃ j : Nat, i = .int .i64 j ∧ 1 ≤ j ∧ j ≤ l.length ∧ (∃ q, wr = w.drewN q) ∧ (∀ i, i < j → 0 ≤ gI l i ∧ gI l i < g.length) ∧ Hw g l.length (nat' (l.take j))) (fun i _ => l.length - (intOf i).toNat)
        case atStart => exact ⟨1, rfl, by omega, by omega, ⟨0, rfl⟩, HB0.out, HW0.out⟩
        case round =>
          obtain ⟨j, rfl, hj1, hj, ⟨n0, hwr⟩, hnode, hw⟩ := hrel
          have Hwr := Lib.hid hwr
          have Hnode := Lib.hid hnode
          have Hw1 := Lib.hid hw
          have Hbr := Lib.hid (show Below w.heap.size w wr by rw [hwr]; exact bdrewN (Below.refl _ _) _)
          clear hwr hnode hw
          by_cases hlt : j < l.length
          · have hcj := Below.keep Hbr.out (Hc'.out j hlt)
            have hixj := Hix'.out j
            have htoj := fun w => Hto.out j w (by omega)
            obtain ⟨x, hx⟩ : ∃ x, x = gI l j := ⟨_, rfl⟩
            rw [← hx] at hcj
            by_cases hn : 0 ≤ x ∧ x < (g.length : Int)
            · have HN := Lib.hid (decide_eq_true hn)
              obtain ⟨y, rfl⟩ := Int.eq_ofNat_of_zero_le hn.1
              have hy : y < g.length := by omega
              have HTn := Lib.hid (show ∀ i, i < j + 1 → 0 ≤ gI l i ∧ gI l i < g.length from fun i hi => by
                by_cases e : i = j
                · subst e; rw [← hx]; exact hn
                · exact Hnode.out i (by omega))
              have HT := Lib.hid (show nat' (l.take (j + 1)) = nat' (l.take j) ++ [y] by
                rw [take_gI hlt, ← hx]; simp [nat'])
              have HL := Lib.hid (show (nat' (l.take j)).length = j by rw [nat_length]; simp; omega)
              have HI := Lib.hid (show Ints wr (.slice a' j cap') (castN (nat' (l.take j))) by
                rw [castN_nat (node_take Hnode.out hj)]
                exact (Ints.keep Hu0.out Hbr.out).to j hj)
              clear hn hx
              by_cases hnext : Hw g l.length (nat' (l.take j) ++ [y])
              · have Hnx := Lib.hid (decide_eq_true hnext)
                have Hmf := Lib.hid (fun n => mayFollow_b HG.out h4 (by omega) (nat' (l.take j)) (by rw [HL.out]; omega) (by rw [HL.out]; omega) Hw1.out y hy true Hnx.out _ _ (wr.drewN n) (Ints.keep Hv.out (bdrewN Hbr.out n)) (Ints.keep HI.out (bdrewN (Below.refl _ _) n)))
                have R := Lib.hid (show Hw g l.length (nat' (l.take (j + 1))) by rw [HT.out]; exact hnext)
                clear hnext
                go_wp2_with fail
                go_quiet ((first | (go_at_call 71; exact Calls.quiet_of (quiet_same (isNode_b _ _ _ _ true HN.out _))) | (go_at_call 77; exact Calls.quiet_of (Hmf.out _))))
                go_wp2_with fail
                go_roundw
                case rel => exact ⟨j + 1, by go_num, by omega, by omega, ⟨_, by rw [Hwr.out, World.drewN_drewN]⟩, HTn.out, R.out⟩
                case measure => simp [intOf]; omega
              · have Hnx := Lib.hid (decide_eq_false hnext)
                have Hmf := Lib.hid (fun n => mayFollow_b HG.out h4 (by omega) (nat' (l.take j)) (by rw [HL.out]; omega) (by rw [HL.out]; omega) Hw1.out y hy false Hnx.out _ _ (wr.drewN n) (Ints.keep Hv.out (bdrewN Hbr.out n)) (Ints.keep HI.out (bdrewN (Below.refl _ _) n)))
                have R := Lib.hid (Hno.out fun h => hnext (by
                  have := hw_take (g := g) (j := j + 1) (by rw [nat_length]; omega) (nat_length l) h4 h.2.2
                  rw [← nat_take, HT.out] at this
                  exact this))
                clear hnext
                go_wp2_with fail
                go_quiet ((first | (go_at_call 71; exact Calls.quiet_of (quiet_same (isNode_b _ _ _ _ true HN.out _))) | (go_at_call 77; exact Calls.quiet_of (Hmf.out _))))
                go_wp2_with fail
                go_ret2
                exact ⟨by rw [R.out]; rfl, _, by rw [Hwr.out, World.drewN_drewN]⟩
            · have HN := Lib.hid (decide_eq_false hn)
              have R := Lib.hid (Hno.out fun h => hn (by rw [hx]; exact h.2.1 j hlt))
              clear hn hx
              go_wp2_with fail
              go_quiet ((go_at_call 71; exact Calls.quiet_of (quiet_same (isNode_b _ _ _ _ false HN.out _))))
              go_wp2_with fail
              go_ret2
              exact ⟨by rw [R.out]; rfl, _, by rw [Hwr.out, World.drewN_drewN]⟩
          · obtain rfl : j = l.length := by omega
            have R := Lib.hid (show E = true by rw [HE.out]; exact decide_eq_true ⟨h4, Hnode.out, by have := Hw1.out; rwa [List.take_length] at this⟩)
            go_wp2_with fail
            go_ret2
            exact ⟨by rw [R.out]; rfl, _, Hwr.out⟩
      · have HN0 := Lib.hid (decide_eq_false hn0)
        have R := Lib.hid (Hno.out fun h => hn0 (by rw [hf]; exact h.2.1 0 (by omega)))
        clear hn0 hf
        go_enter Try.func27, Try.ntmps27
        go_wp2_with fail
        refine H.out.mono ?_
        rintro e w1 ⟨rfl, rfl⟩
        clear H
        go_wp2_with fail
        refine (isNode_b _ _ _ _ false HN0.out _).mono ?_
        rintro e w' ⟨rfl, rfl⟩
        go_wp2_with fail
        go_ret2
        exact ⟨by rw [R.out]; rfl, 0, rfl⟩
    · have R := Lib.hid (Hno.out fun h => hln (isHole_len h))
      go_enter Try.func27, Try.ntmps27
      go_wp2_with fail
      refine H.out.mono ?_
      rintro e w1 ⟨rfl, rfl⟩
      clear H
      go_wp2_with fail
      go_ret2
      exact ⟨by rw [R.out]; rfl, 0, rfl⟩
  · have R := Lib.hid (Hno.out fun h => h4 h.1)
    go_enter Try.func27, Try.ntmps27
    go_wp2_with fail
    refine H.out.mono ?_
    rintro e w1 ⟨rfl, rfl⟩
    clear H
    go_wp2_with fail
    go_ret2
    exact ⟨by rw [R.out]; rfl, 0, rfl⟩
#print axioms checkHole_any
end Go.Proofs.Ytkjpbjbheocciaa
