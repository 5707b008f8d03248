/- Contract of valid. -/
import Derived.Test.YthndplkjhbmfmaaRvb
namespace Go.Proofs.Ythndplkjhbmfmaa
open Go.RowKit
/-- the uses of relations in a rule, in rules, in facts -/
def UseR (r : RRule) : List (Int × Nat) := (r.1.1, r.1.2.length) :: r.2.map fun b => (b.2.1, b.2.2.length)
def UseL (l : List RRule) : List (Int × Nat) := l.flatMap UseR
def UseF (l : List RAt) : List (Int × Nat) := l.map fun f => (f.1, f.2.length)
def Consist (O : List (Int × Nat)) : Prop := ∀ o, o ∈ O → ∀ p, p ∈ O → o.1 = p.1 → o.2 = p.2
/-- valid rules and facts -/
structure ValR (l : List RRule) (fs : List RAt) : Prop where
  l10 : l.length ≤ 10
  f20 : fs.length ≤ 20
  ats : RuV l
  b3 : ∀ r, r ∈ l → r.2.length ≤ 3
  safe : ∀ r, r ∈ l → SafeR r
  fcs : ∀ f, f ∈ fs → FcR f
  con : Consist (UseL l ++ UseF fs)
theorem con_of {E : List Int} {O : List (Int × Nat)} (h : AInv E O) (hr : ∀ o, o ∈ O → 0 ≤ o.1 ∧ o.1 ≤ 5) : Consist O := fun o ho p hp e => by
  obtain ⟨a, b⟩ := hr o ho
  obtain ⟨k, hk⟩ : ∃ k : Nat, o.1 = k := ⟨o.1.toNat, by omega⟩
  rcases h.2 k (by omega) with ⟨_, h2⟩ | ⟨_, _, h3⟩
  · exact absurd hk (h2 o ho)
  · have a1 := h3 o ho hk
    have a2 := h3 p hp (by rw [← e]; exact hk)
    omega
theorem use_bad {O full : List (Int × Nat)} {f : RAt} (hO : ∀ o, o ∈ O → o ∈ full) (hf : (f.1, f.2.length) ∈ full) (ha : AtR f) (h : ¬ OkU f.1 f.2.length O) : ¬ Consist full := fun hc =>
  h ⟨ha.1, ha.2.1, fun o ho e => hc o (hO o ho) _ hf e⟩
theorem fc_at {f : RAt} (h : FcR f) : AtR f := ⟨h.1, h.2.1, fun x hx => by have := h.2.2 x hx; omega⟩
/-- what the walk of valid keeps -/
structure Vk (w wr : World) (g : Nat) (O : List (Int × Nat)) : Prop where
  b : Below w.heap.size w wr
  z : w.heap.size ≤ g
  e : ∃ E, ArB wr g E ∧ AInv E O
theorem Vk.keep {w wr w' : World} {g : Nat} {O : List (Int × Nat)} (h : Vk w wr g O) (hb : Below wr.heap.size wr w') : Vk w w' g O := ⟨Below.tr h.b hb, h.z, by
  obtain ⟨E, h1, h2⟩ := h.e
  exact ⟨E, h1.keep hb, h2⟩⟩
theorem ArB.lt {w : World} {g : Nat} {E : List Int} (h : ArB w g E) : g < w.heap.size := (Array.getElem?_eq_some_iff.1 h).1
theorem Vk.lt {w wr : World} {g : Nat} {O : List (Int × Nat)} (h : Vk w wr g O) : g < wr.heap.size := by
  obtain ⟨E, h1, _⟩ := h.e
  exact h1.lt
theorem Vk.grown {w wr w' : World} {g : Nat} {O : List (Int × Nat)} (h : Vk w wr g O) (hg : wr.grownBy w' (some g)) : Below w.heap.size w w' :=
  h.b.trans ((below_grown hg h.lt).mono h.z)
theorem blk_grown {w w' : World} {g b : Nat} {o : Obj} (h : w.heap[b]? = some o) (hg : w.grownBy w' (some g)) (hne : b ≠ g) : w'.heap[b]? = some o :=
  (hg.block b (Array.getElem?_eq_some_iff.1 h).1 (fun e => hne (by injection e))).trans h
set_option maxRecDepth 100000 in
set_option maxHeartbeats 16000000 in
theorem valid_any (l : List RRule) (fs : List RAt) (v u : Value) (w : World) (hv : Rules w v l) (hu : Atoms w u fs) (B : Bool) (hB : B = true ↔ ValR l fs) :
    Calls Try.prog 62 #[v, u] w fun e w' => e = .returned (.bool B) ∧ Below w.heap.size w w' := by
  obtain ⟨a, b, off, cap, rfl, hle, hia, _, hcs⟩ := Rules.get hv
  obtain ⟨a2, b2, off2, cap2, vs2, rfl, hle2, hia2, _, hcs2⟩ := Atoms.get hu
  obtain ⟨n, hn⟩ : ∃ x, x = l.length := ⟨_, rfl⟩
  obtain ⟨m, hm⟩ : ∃ x, x = fs.length := ⟨_, rfl⟩
  have Hn := Lib.hid hn
  have Hm := Lib.hid hm
  rw [← hn] at hle hia hcs ⊢
  rw [← hm] at hle2 hia2 hcs2 ⊢
  have Hix := Lib.hid (run_ix (P := Try.prog) (t := 27) (a := a) (len := n) (cap := cap) (b := b) (off := off) (s := 3) Try.underlying27 (by intro w; kernel_rfl) hia)
  have Hix2 := Lib.hid (run_ix (P := Try.prog) (t := 39) (a := a2) (len := m) (cap := cap2) (b := b2) (off := off2) (s := 2) Try.underlying39 (by intro w; kernel_rfl) hia2)
  have Hc := Lib.hid hcs
  have Hc2 := Lib.hid hcs2
  have HT := Lib.hid (fun h : ValR l fs => hB.2 h)
  have HF := Lib.hid (fun h : ¬ ValR l fs => show B = false from by
    cases B
    · rfl
    · exact absurd (hB.1 rfl) h)
  clear hv hu hia hia2 hcs hcs2 hn hm hB
  by_cases h10 : n ≤ 10
  · by_cases h20 : m ≤ 20
    · have q1 : ¬ (10 < (n : Int)) := by omega
      have q2 : ¬ (20 < (m : Int)) := by omega
      obtain ⟨w1, hw1⟩ : ∃ x, x = w.alloc (.cells #[.int .i64 0, .int .i64 0, .int .i64 0, .int .i64 0, .int .i64 0, .int .i64 0] 186) := ⟨_, rfl⟩
      obtain ⟨g, hg⟩ : ∃ x, x = w.heap.size := ⟨_, rfl⟩
      have HV := Lib.hid (show Vk w w1 g [] from ⟨by rw [hw1]; exact below_alloc _ _, by rw [hg]; exact Nat.le_refl _, [0, 0, 0, 0, 0, 0], by rw [hw1, hg]; exact heap_alloc_new _ _, aInv_0⟩)
      have Hw1 := Lib.hid hw1
      have Hg := Lib.hid hg
      clear hw1 hg
      go_enter Try.func62, Try.ntmps62
      go_upto_region 4 with fail
      rw [← Hw1.out, ← Hg.out]
      clear Hw1 Hg q1 q2
      go_wp2_with fail
      go_loopw [23] (fun vi wr => ∃ k : Nat, vi = .int .i64 k ∧ k ≤ n ∧ Vk w wr g (UseL (l.take k)) ∧ ∀ r, r ∈ l.take k → (AtR r.1 ∧ ∀ b, b ∈ r.2 → AtR b.2) ∧ r.2.length ≤ 3 ∧ SafeR r) (fun vi _ => n - (intOf vi).toNat)
      case atStart => exact ⟨0, rfl, Nat.zero_le _, HV.out, fun r hr => by rw [List.take_zero] at hr; cases hr⟩
      case round =>
        generalize wr = wx at *
        clear HV
        obtain ⟨k, rfl, hk, hV, hI⟩ := hrel
        have HV := Lib.hid hV
        have HI := Lib.hid hI
        clear hV hI
        by_cases hlt : k < n
        · obtain ⟨ua, uc, va, vc, hc0, hc1, hc2, hui, hvi⟩ := Hc.out k hlt
          have hc0 := Below.keep HV.out.b hc0
          have hc1 := Below.keep HV.out.b hc1
          have hc2 := Below.keep HV.out.b hc2
          have hixk := Hix.out k
          have hlt2 : k < l.length := by rw [← Hn.out]; exact hlt
          have HMr := Lib.hid (show rR l k ∈ l from by rw [rR_get hlt2]; exact List.getElem_mem hlt2)
          have HTk := Lib.hid (show l.take (k + 1) = l.take k ++ [rR l k] from by rw [List.take_succ_eq_append_getElem hlt2, rR_get hlt2])
          obtain ⟨⟨⟨hr, A⟩, bd⟩, hrr⟩ : ∃ x, x = rR l k := ⟨_, rfl⟩
          rw [← hrr] at hc0 hc1 hc2 hui hvi HMr HTk
          simp only at hc0 hc1 hc2 hui hvi
          obtain ⟨un, hun⟩ : ∃ x, x = A.length := ⟨_, rfl⟩
          obtain ⟨vn, hvn⟩ : ∃ x, x = bd.length := ⟨_, rfl⟩
          have Hun := Lib.hid hun
          have Hvn := Lib.hid hvn
          rw [← hun] at hc1 hui
          rw [← hvn] at hc2 hvi
          have Hui := Lib.hid hui
          have Hvi := Lib.hid hvi
          have HU := Lib.hid (show ∀ o, o ∈ UseR ((hr, A), bd) → o ∈ UseL l ++ UseF fs from fun o ho => List.mem_append.2 (.inl (List.mem_flatMap.2 ⟨_, HMr.out, ho⟩)))
          have HUk := Lib.hid (show ∀ o, o ∈ UseL (l.take k) → o ∈ UseL l ++ UseF fs from fun o ho => by
            obtain ⟨r, h1, h2⟩ := List.mem_flatMap.1 ho
            exact List.mem_append.2 (.inl (List.mem_flatMap.2 ⟨r, List.mem_of_mem_take h1, h2⟩)))
          obtain ⟨w3, hw3⟩ : ∃ x, x = wx.alloc (.cells #[.int .i64 hr, .slice ua un uc, .slice va vn vc] 98) := ⟨_, rfl⟩
          have hb3 : Below wx.heap.size wx w3 := by rw [hw3]; exact below_alloc _ _
          obtain ⟨bx, hbx⟩ : ∃ x, x = wx.heap.size := ⟨_, rfl⟩
          have HX := Lib.hid (show w3.heap[bx]? = some (.cells #[.int .i64 hr, .slice ua un uc, .slice va vn vc] 98 (0, 0)) from by rw [hw3, hbx]; exact heap_alloc_new _ _)
          have Hne := Lib.hid (show bx ≠ g from by have := HV.out.lt; omega)
          have HV3 := Lib.hid (HV.out.keep hb3)
          have Hw3 := Lib.hid hw3
          have Hbx := Lib.hid hbx
          clear hrr hun hvn hui hvi hw3 hb3 hbx hlt2
          go_upto_region 7 with fail
          rw [← Hw3.out, ← Hbx.out]
          clear Hw3 hc0 hc1 hc2 hixk
          have g0 := aCell HX.out 0 rfl
          have g1 := aCell HX.out 1 rfl
          have g2 := aCell HX.out 2 rfl
          obtain ⟨E, hE, hA⟩ := HV3.out.e
          have HC := Lib.hid (validAtom_any (hr, A) _ g E _ hA w3 (Hui.out.keep HV3.out.b) hE)
          clear hE hA
          go_wp2_with fail
          refine HC.out.mono ?_
          rintro e w4 ⟨C, rfl, hg4, hT, hF⟩
          have HX4 := Lib.hid (blk_grown HX.out hg4 Hne.out)
          have Hb4 := Lib.hid (HV3.out.grown hg4)
          have Hs4 := Lib.hid hg4.size
          clear g0 g1 g2 HC hg4
          have g0 := aCell HX4.out 0 rfl
          have g1 := aCell HX4.out 1 rfl
          have g2 := aCell HX4.out 2 rfl
          cases C
          · have R := Lib.hid (HF.out fun h => by
              refine hF rfl ⟨(h.ats _ HMr.out).1, ?_⟩
              exact Classical.byContradiction fun hc => use_bad (f := (hr, A)) HUk.out (HU.out _ (by simp [UseR])) (h.ats _ HMr.out).1 hc h.con)
            clear hT hF
            go_wp2_with fail
            go_ret
            exact ⟨by rw [R.out]; rfl, Hb4.out⟩
          · obtain ⟨hat, hok, E4, hE4, hA4⟩ := hT rfl
            have HAt := Lib.hid hat
            have HE4 := Lib.hid hE4
            have HA4 := Lib.hid hA4
            clear hT hF hat hok hE4 hA4
            by_cases h3 : vn ≤ 3
            · have q3 : ¬ (3 < (vn : Int)) := by omega
              have HV4 := Lib.hid (show Vk w w4 g (UseL (l.take k) ++ (hr, A.length) :: (bd.take 0).map fun b => (b.2.1, b.2.2.length)) from ⟨Hb4.out, HV3.out.z, E4, HE4.out, HA4.out⟩)
              go_wp2_with fail
              clear g0 g1 g2 q3
              obtain ⟨a5, b5, off5, cap5, he5, _, hia5, _, hcs5⟩ := Lits.get Hvi.out
              rw [← Hvn.out] at he5 hia5 hcs5
              injection he5 with e1 e2 e3
              subst e1 e3
              have Hix5 := Lib.hid (run_ix (P := Try.prog) (t := 96) (a := va) (len := vn) (cap := vc) (b := b5) (off := off5) (s := 3) Try.underlying96 (by intro w; kernel_rfl) hia5)
              have Hc5 := Lib.hid hcs5
              clear hia5 hcs5 e2 HE4 HA4
              go_loopw [41] (fun vi wr => ∃ j : Nat, vi = .int .i64 j ∧ j ≤ vn ∧ Vk w wr g (UseL (l.take k) ++ (hr, A.length) :: (bd.take j).map fun b => (b.2.1, b.2.2.length)) ∧ wr.heap[bx]? = some (.cells #[.int .i64 hr, .slice ua un uc, .slice va vn vc] 98 (0, 0)) ∧ ∀ b, b ∈ bd.take j → AtR b.2) (fun vi _ => vn - (intOf vi).toNat)
              case atStart => exact ⟨0, rfl, Nat.zero_le _, HV4.out, HX4.out, fun b hb => by rw [List.take_zero] at hb; cases hb⟩
              case round =>
                generalize wr = wy at *
                clear HV4 HX4
                obtain ⟨j, rfl, hj, hV, hX, hI5⟩ := hrel
                have HV5 := Lib.hid hV
                have HX5 := Lib.hid hX
                have HI5 := Lib.hid hI5
                clear hV hX hI5
                by_cases hlj : j < vn
                · obtain ⟨xa, xc, hd0, hd1, hd2, hxi⟩ := Hc5.out j hlj
                  have hd0 := Below.keep HV5.out.b hd0
                  have hd1 := Below.keep HV5.out.b hd1
                  have hd2 := Below.keep HV5.out.b hd2
                  have hixj := Hix5.out j
                  have hlj2 : j < bd.length := by rw [← Hvn.out]; exact hlj
                  have HMb := Lib.hid (show lL bd j ∈ bd from by rw [lL_get hlj2]; exact List.getElem_mem hlj2)
                  have HTj := Lib.hid (show bd.take (j + 1) = bd.take j ++ [lL bd j] from by rw [List.take_succ_eq_append_getElem hlj2, lL_get hlj2])
                  obtain ⟨⟨N, s, X⟩, hbb⟩ : ∃ x, x = lL bd j := ⟨_, rfl⟩
                  rw [← hbb] at hd0 hd1 hd2 hxi HMb HTj
                  simp only at hd0 hd1 hd2 hxi
                  obtain ⟨xn, hxn⟩ : ∃ x, x = X.length := ⟨_, rfl⟩
                  have Hxn := Lib.hid hxn
                  rw [← hxn] at hd2 hxi
                  have Hxi := Lib.hid hxi
                  obtain ⟨w5, hw5⟩ : ∃ x, x = wy.alloc (.cells #[.bool N, .int .i64 s, .slice xa xn xc] 100) := ⟨_, rfl⟩
                  have hb5 : Below wy.heap.size wy w5 := by rw [hw5]; exact below_alloc _ _
                  obtain ⟨bl, hbl⟩ : ∃ x, x = wy.heap.size := ⟨_, rfl⟩
                  have HL := Lib.hid (show w5.heap[bl]? = some (.cells #[.bool N, .int .i64 s, .slice xa xn xc] 100 (0, 0)) from by rw [hw5, hbl]; exact heap_alloc_new _ _)
                  have HV6 := Lib.hid (HV5.out.keep hb5)
                  have HX6 := Lib.hid (blk_keep2 HX5.out hb5)
                  have Hw5 := Lib.hid hw5
                  have Hbl := Lib.hid hbl
                  clear hbb hxn hxi hw5 hb5 hbl hlj2
                  go_upto_region 12 with fail
                  rw [← Hw5.out, ← Hbl.out]
                  clear Hw5 hd0 hd1 hd2 hixj
                  have g1 := aCell HL.out 1 rfl
                  have g2 := aCell HL.out 2 rfl
                  obtain ⟨E6, hE, hA⟩ := HV6.out.e
                  have HC := Lib.hid (validAtom_any (s, X) _ g E6 _ hA w5 (Hxi.out.keep HV6.out.b) hE)
                  clear hE hA
                  rw [← Hxn.out] at HC
                  go_wp2_with fail
                  refine HC.out.mono ?_
                  rintro e w6 ⟨D, rfl, hg6, hT, hF⟩
                  have HX7 := Lib.hid (blk_grown HX6.out hg6 Hne.out)
                  have Hb7 := Lib.hid (HV6.out.grown hg6)
                  clear g1 g2 HC hg6
                  cases D
                  · have R := Lib.hid (HF.out fun h => by
                      refine hF rfl ⟨(h.ats _ HMr.out).2 _ HMb.out, ?_⟩
                      rw [Hxn.out]
                      refine Classical.byContradiction fun hc => use_bad (f := (s, X)) (full := UseL l ++ UseF fs) (fun o ho => ?_) (HU.out _ (by unfold UseR; exact List.mem_cons_of_mem _ (List.mem_map.2 ⟨_, HMb.out, rfl⟩))) ((h.ats _ HMr.out).2 _ HMb.out) hc h.con
                      rcases List.mem_append.1 ho with ho | ho
                      · exact HUk.out o ho
                      · refine HU.out o ?_
                        unfold UseR
                        rcases List.mem_cons.1 ho with rfl | ho
                        · exact List.mem_cons_self
                        · obtain ⟨b, hb, rfl⟩ := List.mem_map.1 ho
                          exact List.mem_cons_of_mem _ (List.mem_map.2 ⟨b, List.mem_of_mem_take hb, rfl⟩))
                    clear hT hF
                    go_wp2_with fail
                    go_ret
                    exact ⟨by rw [R.out]; rfl, Hb7.out⟩
                  · obtain ⟨hat, hok, E7, hE7, hA7⟩ := hT rfl
                    have HV7 := Lib.hid (show Vk w w6 g (UseL (l.take k) ++ (hr, A.length) :: (bd.take (j + 1)).map fun b => (b.2.1, b.2.2.length)) from ⟨Hb7.out, HV6.out.z, E7, hE7, by
                      rw [HTj.out, List.map_append]
                      rw [Hxn.out, List.append_assoc] at hA7
                      exact hA7⟩)
                    have HI7 := Lib.hid (show ∀ b, b ∈ bd.take (j + 1) → AtR b.2 from fun b hb => by
                      rw [HTj.out] at hb
                      rcases List.mem_append.1 hb with hb | hb
                      · exact HI5.out b hb
                      · rw [List.mem_singleton.1 hb]; exact hat)
                    clear hT hF hat hok hE7 hA7
                    go_wp2_with fail
                    go_roundw
                    case rel => exact ⟨j + 1, by go_num, by omega, HV7.out, HX7.out, HI7.out⟩
                    case measure => simp [intOf]; omega
                · obtain rfl : j = vn := by omega
                  have g0 := aCell HX5.out 0 rfl
                  have g1 := aCell HX5.out 1 rfl
                  have g2 := aCell HX5.out 2 rfl
                  have HS := Lib.hid (fun B h => safe_any ((hr, A), bd) (.slice ua un uc) (.slice va j vc) wy (Hui.out.keep HV5.out.b) (Hvi.out.keep HV5.out.b) B h)
                  by_cases hs : SafeR ((hr, A), bd)
                  · have HS := Lib.hid (HS.out true ⟨fun _ => hs, fun _ => rfl⟩)
                    have Hs := Lib.hid hs
                    clear hs
                    go_wp2_with fail
                    refine HS.out.mono ?_
                    rintro e w6 ⟨rfl, hb⟩
                    have HV6 := Lib.hid (show Vk w w6 g (UseL (l.take (k + 1))) from by
                      have := HV5.out.keep hb
                      rw [HTk.out]
                      unfold UseL
                      rw [List.flatMap_append]
                      rw [Hvn.out, List.take_length] at this
                      unfold UseL at this
                      simpa [UseR] using this)
                    have HI6 := Lib.hid (show ∀ r, r ∈ l.take (k + 1) → (AtR r.1 ∧ ∀ b, b ∈ r.2 → AtR b.2) ∧ r.2.length ≤ 3 ∧ SafeR r from fun r hr2 => by
                      rw [HTk.out] at hr2
                      rcases List.mem_append.1 hr2 with hr2 | hr2
                      · exact HI.out r hr2
                      · rw [List.mem_singleton.1 hr2]
                        exact ⟨⟨HAt.out, fun b hb => HI5.out b (by rw [Hvn.out, List.take_length]; exact hb)⟩, by show bd.length ≤ 3; rw [← Hvn.out]; exact h3, Hs.out⟩)
                    clear hb g0 g1 g2
                    go_wp2_with fail
                    go_roundw
                    case rel => exact ⟨k + 1, by go_num, by omega, HV6.out, HI6.out⟩
                    case measure => simp [intOf]; omega
                  · have HS := Lib.hid (HS.out false ⟨fun h => (by cases h), fun h => absurd h hs⟩)
                    have R := Lib.hid (HF.out fun h => hs (h.safe _ HMr.out))
                    clear hs
                    go_wp2_with fail
                    refine HS.out.mono ?_
                    rintro e w6 ⟨rfl, hb⟩
                    have Hb6 := Lib.hid (Below.tr HV5.out.b hb)
                    clear hb
                    go_wp2_with fail
                    go_ret
                    exact ⟨by rw [R.out]; rfl, Hb6.out⟩
            · have q3 : 3 < (vn : Int) := by omega
              have R := Lib.hid (HF.out fun h => h3 (by rw [Hvn.out]; exact h.b3 _ HMr.out))
              go_wp2_with fail
              go_ret
              exact ⟨by rw [R.out]; rfl, Hb4.out⟩
        · obtain rfl : k = n := by omega
          have HI := Lib.hid (show ∀ r, r ∈ l → (AtR r.1 ∧ ∀ b, b ∈ r.2 → AtR b.2) ∧ r.2.length ≤ 3 ∧ SafeR r from fun r hr => HI.out r (by rw [Hn.out, List.take_length]; exact hr))
          have HV := Lib.hid (show Vk w wx g (UseL l ++ UseF (fs.take 0)) from by
            have := HV.out
            rw [Hn.out, List.take_length] at this
            rw [List.take_zero]
            show Vk w wx g (UseL l ++ [])
            rw [List.append_nil]; exact this)
          go_wp2_with fail
          go_loopw [57] (fun vi wr => ∃ k : Nat, vi = .int .i64 k ∧ k ≤ m ∧ Vk w wr g (UseL l ++ UseF (fs.take k)) ∧ ∀ f, f ∈ fs.take k → FcR f) (fun vi _ => m - (intOf vi).toNat)
          case atStart => exact ⟨0, rfl, Nat.zero_le _, HV.out, fun r hr => by rw [List.take_zero] at hr; cases hr⟩
          case round =>
            generalize wr = wy at *
            clear HV
            obtain ⟨j, rfl, hj, hV, hI2⟩ := hrel
            have HV := Lib.hid hV
            have HI2 := Lib.hid hI2
            clear hV hI2
            by_cases hlj : j < m
            · obtain ⟨hc0, hc1, hui⟩ := Hc2.out j hlj
              have hc0 := Below.keep HV.out.b hc0
              have hc1 := Below.keep HV.out.b hc1
              have hixj := Hix2.out j
              have hlj2 : j < fs.length := by rw [← Hm.out]; exact hlj
              have HMf := Lib.hid (show (aR fs j, aA fs j) ∈ fs from by rw [← at_get hlj2]; exact List.getElem_mem hlj2)
              have HTj := Lib.hid (show fs.take (j + 1) = fs.take j ++ [(aR fs j, aA fs j)] from by rw [List.take_succ_eq_append_getElem hlj2, at_get hlj2])
              obtain ⟨ua, uc, he⟩ := ints_slice hui
              rw [he] at hc1 hui
              clear he
              obtain ⟨fr, hfr⟩ : ∃ x, x = aR fs j := ⟨_, rfl⟩
              obtain ⟨A, hA⟩ : ∃ x, x = aA fs j := ⟨_, rfl⟩
              rw [← hfr, ← hA] at HMf HTj
              rw [← hfr] at hc0
              rw [← hA] at hc1 hui
              obtain ⟨un, hun⟩ : ∃ x, x = A.length := ⟨_, rfl⟩
              have Hun := Lib.hid hun
              rw [← hun] at hc1 hui
              have Hui := Lib.hid hui
              obtain ⟨w5, hw5⟩ : ∃ x, x = wy.alloc (.cells #[.int .i64 fr, .slice ua un uc] 50) := ⟨_, rfl⟩
              have hb5 : Below wy.heap.size wy w5 := by rw [hw5]; exact below_alloc _ _
              obtain ⟨bl, hbl⟩ : ∃ x, x = wy.heap.size := ⟨_, rfl⟩
              have HL := Lib.hid (show w5.heap[bl]? = some (.cells #[.int .i64 fr, .slice ua un uc] 50 (0, 0)) from by rw [hw5, hbl]; exact heap_alloc_new _ _)
              have HV6 := Lib.hid (HV.out.keep hb5)
              have Hw5 := Lib.hid hw5
              have Hbl := Lib.hid hbl
              have HCf := Lib.hid (fun B h => validFact_any (fr, A) _ w5 (Hui.out.keep HV6.out.b) B h)
              clear hfr hA hun hui hw5 hb5 hbl hlj2
              go_upto_region 21 with fail
              rw [← Hw5.out, ← Hbl.out]
              clear Hw5 hc0 hc1 hixj
              have g0 := aCell HL.out 0 rfl
              have g1 := aCell HL.out 1 rfl
              by_cases hf : FcR (fr, A)
              · have HCf := Lib.hid (HCf.out true (decide_eq_true hf))
                have Hf := Lib.hid hf
                clear hf
                go_wp2_with fail
                refine HCf.out.mono ?_
                rintro e w6 ⟨rfl, hb⟩
                have HL6 := Lib.hid (blk_keep2 HL.out hb)
                have HV7 := Lib.hid (HV6.out.keep hb)
                clear hb g0 g1 HCf
                have g0 := aCell HL6.out 0 rfl
                have g1 := aCell HL6.out 1 rfl
                obtain ⟨E, hE, hA⟩ := HV7.out.e
                have HC := Lib.hid (sameArity_any fr un g E _ hA w6 hE)
                clear hE hA
                go_wp2_with fail
                refine HC.out.mono ?_
                rintro e w7 ⟨D, rfl, hg7, hT, hF⟩
                have Hb7 := Lib.hid (HV7.out.grown hg7)
                clear g0 g1 HC hg7
                cases D
                · have R := Lib.hid (HF.out fun h => by
                    refine hF rfl ?_
                    rw [Hun.out]
                    refine Classical.byContradiction fun hc => use_bad (f := (fr, A)) (full := UseL l ++ UseF fs) (fun o ho => ?_) (List.mem_append.2 (.inr (List.mem_map.2 ⟨_, HMf.out, rfl⟩))) (fc_at Hf.out) hc h.con
                    rcases List.mem_append.1 ho with ho | ho
                    · exact List.mem_append.2 (.inl ho)
                    · obtain ⟨b, hb, rfl⟩ := List.mem_map.1 ho
                      exact List.mem_append.2 (.inr (List.mem_map.2 ⟨b, List.mem_of_mem_take hb, rfl⟩)))
                  clear hT hF
                  go_wp2_with fail
                  go_ret
                  exact ⟨by rw [R.out]; rfl, Hb7.out⟩
                · obtain ⟨hok, E7, hE7, hA7⟩ := hT rfl
                  have HV8 := Lib.hid (show Vk w w7 g (UseL l ++ UseF (fs.take (j + 1))) from ⟨Hb7.out, HV7.out.z, E7, hE7, by
                    rw [HTj.out]
                    unfold UseF
                    rw [List.map_append, ← List.append_assoc]
                    rw [Hun.out] at hA7
                    exact hA7⟩)
                  have HI8 := Lib.hid (show ∀ f, f ∈ fs.take (j + 1) → FcR f from fun f hf => by
                    rw [HTj.out] at hf
                    rcases List.mem_append.1 hf with hf | hf
                    · exact HI2.out f hf
                    · rw [List.mem_singleton.1 hf]; exact Hf.out)
                  clear hT hF hok hE7 hA7
                  go_wp2_with fail
                  go_roundw
                  case rel => exact ⟨j + 1, by go_num, by omega, HV8.out, HI8.out⟩
                  case measure => simp [intOf]; omega
              · have HCf := Lib.hid (HCf.out false (decide_eq_false hf))
                have R := Lib.hid (HF.out fun h => hf (h.fcs _ HMf.out))
                clear hf
                go_wp2_with fail
                refine HCf.out.mono ?_
                rintro e w6 ⟨rfl, hb⟩
                have Hb6 := Lib.hid (Below.tr HV6.out.b hb)
                clear hb
                go_wp2_with fail
                go_ret
                exact ⟨by rw [R.out]; rfl, Hb6.out⟩
            · obtain rfl : j = m := by omega
              have R := Lib.hid (HT.out ⟨by rw [← Hn.out]; exact h10, by rw [← Hm.out]; exact h20, fun r hr => (HI.out r hr).1, fun r hr => (HI.out r hr).2.1, fun r hr => (HI.out r hr).2.2, fun f hf => HI2.out f (by rw [Hm.out, List.take_length]; exact hf), by
                obtain ⟨E, hE, hA⟩ := HV.out.e
                have hA2 : AInv E (UseL l ++ UseF fs) := by have := hA; rw [Hm.out, List.take_length] at this; exact this
                refine con_of hA2 fun o ho => ?_
                rcases List.mem_append.1 ho with ho | ho
                · obtain ⟨r, hr, ho⟩ := List.mem_flatMap.1 ho
                  have h1 := (HI.out r hr).1
                  rcases List.mem_cons.1 ho with rfl | ho
                  · exact h1.1.1
                  · obtain ⟨b, hb, rfl⟩ := List.mem_map.1 ho
                    exact (h1.2 b hb).1
                · obtain ⟨f, hf, rfl⟩ := List.mem_map.1 ho
                  exact (HI2.out f (by rw [Hm.out, List.take_length]; exact hf)).1⟩)
              go_wp2_with fail
              go_ret
              exact ⟨by rw [R.out]; rfl, HV.out.b⟩
    · have R := Lib.hid (HF.out fun h => h20 (by rw [Hm.out]; exact h.f20))
      have q1 : ¬ (10 < (n : Int)) := by omega
      have q2 : 20 < (m : Int) := by omega
      go_enter Try.func62, Try.ntmps62
      go_wp2_with fail
      go_ret
      exact ⟨by rw [R.out]; rfl, Below.refl _ _⟩
  · have R := Lib.hid (HF.out fun h => h10 (by rw [Hn.out]; exact h.l10))
    have q1 : 10 < (n : Int) := by omega
    go_enter Try.func62, Try.ntmps62
    go_wp2_with fail
    go_ret
    exact ⟨by rw [R.out]; rfl, Below.refl _ _⟩
#print axioms valid_any
end Go.Proofs.Ythndplkjhbmfmaa
