/- Contract of the program's colours. -/
import Derived.Test.YtkjpbjbheocciaaCk
import Derived.Test.YtkjpbjbheocciaaCj
import Derived.Deep.RegionLaw
namespace Go.Proofs.Ytkjpbjbheocciaa
open Go.RowKit

def Seg (l : List Nat) : Prop := ∀ y ∈ l, ∀ z, z < y → z ∈ l
theorem seg_new {l : List Nat} (h : Seg l) {x : Nat} (hx : x ∉ l) : ∀ y ∈ l, y < x := fun y hy => by
  rcases Nat.lt_or_ge y x with h1 | h1
  · exact h1
  · rcases Nat.eq_or_lt_of_le h1 with h2 | h2
    · rw [← h2] at hy; exact absurd hy hx
    · exact absurd (h y hy x h2) hx
theorem seg_step {l : List Nat} (h : Seg l) {x : Nat} (hx : ∀ y, y < x → y ∈ l) : Seg (l ++ [x]) := fun y hy z hz => by
  rcases List.mem_append.1 hy with h1 | h1
  · exact List.mem_append_left _ (h y h1 z hz)
  · rw [List.mem_singleton.1 h1] at hz; exact List.mem_append_left _ (hx z hz)
theorem not_fit {g l : List Nat} {x : Nat} (h : ¬ FitTo g l x l.length) : x ∈ l := by
  refine Classical.byContradiction fun hn => h fun i hi hh => hn (mem_at.2 ⟨i, hi, hh.2.symm⟩)
def ColPost (r : Option (List Nat)) (B : Nat) (l : List Nat) (u : Value) (w : World) (e : Ending) (w' : World) : Prop := ∃ v', e = .returned v' ∧ HoleRes r w' v' ∧ w.grownBy w' u.ownBlock ∧ OwnInts B w' u (castN l)
theorem grown_of_below {w w' : World} {r : Option Nat} (h : Below w.heap.size w w') : w.grownBy w' r := ⟨h.os, h.tape, h.output, h.size, fun k hk _ => h.block k hk⟩
/-- what the loop keeps -/
structure ColLoop (w0 w : World) (l : List Nat) (u v : Value) (wr : World) : Prop where
  gr : w.grownBy wr u.ownBlock
  own : OwnInts w0.heap.size wr u (castN l)
  bg : wr.cell? ⟨w.heap.size, 0, none⟩ = some v
  bu : wr.cell? ⟨w.heap.size + 1, 0, none⟩ = some u
  bi : wr.cell? ⟨w.heap.size + 1 + 1, 0, none⟩ = some (.int .i64 (l.length : Nat))
theorem ColLoop.grow {w0 w : World} {l : List Nat} {u v : Value} {wr wx : World} (h : ColLoop w0 w l u v wr) (hlt : ∀ k, u.ownBlock = some k → w0.heap.size ≤ k ∧ k < w.heap.size) (hg : wr.grownBy wx u.ownBlock) (ho : OwnInts w0.heap.size wx u (castN l)) : ColLoop w0 w l u v wx :=
  ⟨grown_trans h.gr hg fun _ e => .inl e, ho,
    hg.cell h.bg fun e => by have := (hlt _ e.symm).2; exact absurd this (Nat.lt_irrefl _),
    hg.cell h.bu fun e => by have := (hlt _ e.symm).2; exact absurd (show w.heap.size + 1 < w.heap.size from this) (by omega),
    hg.cell h.bi fun e => by have := (hlt _ e.symm).2; exact absurd (show w.heap.size + 1 + 1 < w.heap.size from this) (by omega)⟩
theorem ColLoop.below {w0 w : World} {l : List Nat} {u v : Value} {wr wx : World} (h : ColLoop w0 w l u v wr) (hlt : ∀ k, u.ownBlock = some k → w0.heap.size ≤ k ∧ k < w.heap.size) (hb : Below wr.heap.size wr wx) : ColLoop w0 w l u v wx :=
  h.grow hlt (grown_of_below hb) (h.own.keep hb)
theorem ColLoop.toB0 {w0 w : World} {l : List Nat} {u v : Value} {wr : World} (h : ColLoop w0 w l u v wr) (hb : Below w0.heap.size w0 w) (hlt : ∀ k, u.ownBlock = some k → w0.heap.size ≤ k ∧ k < w.heap.size) : Below w0.heap.size w0 wr :=
  hb.trans ⟨h.gr.os, h.gr.tape, h.gr.output, h.gr.size, fun k hk => h.gr.block k (Nat.lt_of_lt_of_le hk hb.size) (fun e => by have := (hlt _ e.symm).1; omega)⟩
theorem colBelow {w0 w w3 w4 : World} {x : Nat} {r : Option Nat} (h : Below w0.heap.size w0 w3) (hg : (w3.drew.alloc (.cells #[.int .i64 x] 3)).grownBy w4 r) (hlt : ∀ k, r = some k → w0.heap.size ≤ k ∧ k < w.heap.size) (_ : w.heap.size ≤ w3.heap.size) : Below w0.heap.size w0 w4 :=
  (Below.tr (Below.trans h ((Below.refl _ _).drew)) (below_alloc _ _)).trans ⟨hg.os, hg.tape, hg.output, hg.size, fun k hk => hg.block k (by have := h.size; simp; omega) (fun e => by have := (hlt _ e.symm).1; omega)⟩
theorem colGrow {w3 w5 : World} {x : Nat} {r : Option Nat} (hg : (w3.drew.alloc (.cells #[.int .i64 x] 3)).grownBy w5 r) : w3.grownBy w5 r :=
  grown_trans (grown_of_below (r := r) (Below.tr ((Below.refl _ _).drew) (below_alloc w3.drew _))) hg fun _ e => .inl e
set_option maxRecDepth 100000 in
set_option maxHeartbeats 8000000 in
theorem coloursP_any {g : List Nat} (hg : Gr g) {k : Nat} (hk12 : k ≤ 12) {w0 : World} {v : Value} (hv0 : Ints w0 v (castN g)) : ∀ (m : Nat) (l : List Nat) (u : Value) (w : World), l.length + m = g.length → Beg g k l → Seg l → Below w0.heap.size w0 w → OwnInts w0.heap.size w u (castN l) →
    Calls Try.prog 81 #[v, u, .int .i64 k] w (ColPost (cf g k m l) w0.heap.size l u w) := by
  intro m
  induction m with
  | zero =>
    intro l u w hm hbeg hseg hb0 hu
    have hpos := hg.pos
    have Hu := Lib.hid hu
    obtain ⟨a, c, rfl⟩ := ints_slice hv0
    rw [castN_length] at hv0 ⊢
    obtain ⟨ua, uc, rfl⟩ := own_some hu (by rw [castN_length]; omega)
    rw [castN_length] at Hu ⊢
    have q : ((l.length : Int) == (g.length : Int)) = true := by rw [beq_iff_eq]; omega
    have hl12 : (castN l).length ≤ 12 := by rw [castN_length]; have := hg.le; omega
    have hl0 : 0 < (castN l).length := by rw [castN_length]; omega
    clear hv0 hu hb0 hbeg hseg hm
    go_enter Try.func81, Try.ntmps81
    go_wp2_with fail
    have hbA : Below w.heap.size w (((w.alloc (Obj.cells #[Value.slice a g.length c] 27)).alloc (Obj.cells #[Value.slice (some ua) l.length uc] 22)).alloc (Obj.cells #[Value.int IntKind.i64 l.length] 3)) := (((Below.refl _ _).alloc (Nat.le_refl _) _).alloc (by simp) _).alloc (by simp; omega) _
    refine (cloneI_any _ _ _ (by omega) (Ints.keep (OwnInts.ints Hu.out) hbA)).mono ?_
    rintro e w3 ⟨v3, rfl, ho3, hb3⟩
    obtain ⟨oa, oc, rfl⟩ := own_some ho3 hl0
    have Hb3 := Lib.hid (Below.tr hbA hb3)
    have Ho3 := Lib.hid ho3
    clear hbA hb3 ho3
    go_wp2_with fail
    go_ret
    exact ⟨_, rfl, ⟨⟨_, _, _, rfl⟩, OwnInts.ints Ho3.out⟩, grown_of_below Hb3.out, Hu.out.keep Hb3.out⟩
  | succ m ih =>
    intro l u w hm hbeg hseg hb0 hu
    have IH := Lib.hid ih
    have Hu := Lib.hid hu
    have Hb0 := Lib.hid hb0
    have Hbeg := Lib.hid hbeg
    have Hseg := Lib.hid hseg
    have Hm := Lib.hid hm
    have HG := Lib.hid hg
    have hg12 := hg.le
    have hlg : l.length < g.length := by omega
    have Hv0 := Lib.hid hv0
    obtain ⟨a, c, rfl⟩ := ints_slice hv0
    obtain ⟨ua, uc, rfl⟩ := ints_slice (OwnInts.ints hu)
    rw [castN_length g] at hv0 IH Hv0 ⊢
    rw [castN_length l] at Hu ⊢
    have q : ((l.length : Int) == (g.length : Int)) = false := by rw [beq_eq_false_iff_ne]; omega
    have Hlt := Lib.hid (World.ownsRow.lt Hu.out)
    obtain ⟨F, hF⟩ : ∃ F : Nat → Option (List Nat), F = fun c => if FitTo g l c l.length then cf g k m (l ++ [c]) else none := ⟨_, rfl⟩
    have HF := Lib.hid hF
    have HFl := Lib.hid (show cf g k (m + 1) l = ft F k by rw [hF]; rfl)
    have HFy := Lib.hid (show ∀ x, FitTo g l x l.length → F x = cf g k m (l ++ [x]) from fun x h => by rw [hF]; exact if_pos h)
    have HFn := Lib.hid (show ∀ x, ¬ FitTo g l x l.length → F x = none from fun x h => by rw [hF]; exact if_neg h)
    have hneN := fun w' => run_neq_slice_nil_any (P := Try.prog) w' 22 3 none 0 0 0 0 Try.underlying22
    clear hv0 hu hb0 hbeg hseg hm hg ih hF
    go_enter Try.func81, Try.ntmps81
    go_wp2_with fail
    have hbA : Below w.heap.size w (((w.alloc (Obj.cells #[Value.slice a g.length c] 27)).alloc (Obj.cells #[Value.slice ua l.length uc] 22)).alloc (Obj.cells #[Value.int IntKind.i64 l.length] 3)) := (((Below.refl _ _).alloc (Nat.le_refl _) _).alloc (by simp) _).alloc (by simp; omega) _
    have hg0 : (((w.alloc (Obj.cells #[Value.slice a g.length c] 27)).alloc (Obj.cells #[Value.slice ua l.length uc] 22)).alloc (Obj.cells #[Value.int IntKind.i64 l.length] 3)).cell? ⟨w.heap.size, 0, none⟩ = some (Value.slice a g.length c) := by go_simp
    have hu0 : (((w.alloc (Obj.cells #[Value.slice a g.length c] 27)).alloc (Obj.cells #[Value.slice ua l.length uc] 22)).alloc (Obj.cells #[Value.int IntKind.i64 l.length] 3)).cell? ⟨w.heap.size + 1, 0, none⟩ = some (Value.slice ua l.length uc) := by go_simp
    have hi0 : (((w.alloc (Obj.cells #[Value.slice a g.length c] 27)).alloc (Obj.cells #[Value.slice ua l.length uc] 22)).alloc (Obj.cells #[Value.int IntKind.i64 l.length] 3)).cell? ⟨w.heap.size + 1 + 1, 0, none⟩ = some (Value.int .i64 l.length) := by go_simp
    have h0 : ColLoop w0 w l (.slice ua l.length uc) (.slice a g.length c) (((w.alloc (Obj.cells #[Value.slice a g.length c] 27)).alloc (Obj.cells #[Value.slice ua l.length uc] 22)).alloc (Obj.cells #[Value.int IntKind.i64 l.length] 3)) := ⟨grown_of_below hbA, by exact Hu.out.keep hbA, hg0, hu0, hi0⟩
    have H0 := Lib.hid h0
    clear hbA hg0 hu0 hi0 h0
    go_loopw [20] (fun i wr => ∃ x : Nat, i = .int .i64 x ∧ x ≤ k ∧ ColLoop w0 w l (.slice ua l.length uc) (.slice a g.length c) wr ∧ ft F x = none ∧ ∀ y, y < x → y ∈ l) (fun i _ => k - (intOf i).toNat)
    case atStart => exact ⟨0, rfl, Nat.zero_le _, H0.out, rfl, fun y hy => by omega⟩
    case round =>
      clear H0
      obtain ⟨x, rfl, hx, hL, hin, hseen⟩ := hrel
      have HL := Lib.hid hL
      have Hin := Lib.hid hin
      have Hseen := Lib.hid hseen
      clear hL hin hseen
      by_cases hlt : x < k
      · have HL1 := Lib.hid (HL.out.below Hlt.out (below_alloc wr (.cells #[.int .i64 x] 3)))
        have hpi := HL1.out.bi
        go_wp2_with fail
        refine (upTo_any l.length (by omega) _).mono ?_
        rintro e w2 ⟨v2, rfl, hv2, hb2⟩
        have HL2 := Lib.hid (HL1.out.below Hlt.out hb2)
        have Hc2 := Lib.hid (show w2.cell? ⟨wr.heap.size, 0, none⟩ = some (.int .i64 x) from Below.keep hb2 (by go_simp))
        have Hv2 := Lib.hid hv2
        have HG2 := Lib.hid (show Ints w2 (.slice a g.length c) (castN g) from Ints.keep Hv0.out (HL2.out.toB0 Hb0.out Hlt.out))
        clear hv2 hb2 hpi
        by_cases hfit : FitTo g l x l.length
        · have Hfit := Lib.hid hfit
          have Hd := Lib.hid (show decide (FitTo g l x l.length) = !false from decide_eq_true hfit)
          have HF1 := Lib.hid (HFy.out x hfit)
          clear hfit
          go_wp2_with fail
          refine (containsFunc_any HG.out hlg (c := x) false Hd.out _ _ ⟨HL2.out.bg, HL2.out.bi, HL2.out.bu, Hc2.out, HG2.out, OwnInts.ints HL2.out.own⟩ Hv2.out).mono ?_
          rintro e w3 ⟨rfl, q3, hw3⟩
          have Hb3 := Lib.hid (show Below w2.heap.size w2 w3 by rw [hw3]; exact bdrewN (Below.refl _ _) _)
          have HL3 := Lib.hid (HL2.out.below Hlt.out Hb3.out)
          have Hc3 := Lib.hid (Below.keep Hb3.out Hc2.out)
          have hpg := HL3.out.bg
          have hpu := HL3.out.bu
          have hpc := Hc3.out
          have hsz3 : wr.heap.size < w3.heap.size := cell_lt Hc3.out
          have HB3 := Lib.hid (HL3.out.toB0 Hb0.out Hlt.out)
          have hB3 : w0.heap.size ≤ w3.heap.size := HB3.out.size
          have hl12 : (castN l).length ≤ 1000 := by rw [castN_length]; omega
          have HO3 := Lib.hid (show OwnInts w0.heap.size (w3.drew.alloc (.cells #[.int .i64 x] 3)) (.slice ua l.length uc) (castN l) from World.ownsRow.alloc (World.ownsRow.drew HL3.out.own) _)
          have Hbeg2 := Lib.hid (beg_step Hbeg.out hlt Hfit.out)
          have Hseg2 := Lib.hid (seg_step Hseg.out Hseen.out)
          have Hm2 := Lib.hid (show (l ++ [x]).length + m = g.length by simp; have := Hm.out; omega)
          have Hlt3 := Lib.hid (HL3.out.gr.size)
          have hpg3 : (w3.alloc (.cells #[.int .i64 x] 3)).cell? ⟨w.heap.size, 0, none⟩ = some (.slice a g.length c) := Below.keep (below_alloc _ _) hpg
          have hpu3 : (w3.alloc (.cells #[.int .i64 x] 3)).cell? ⟨w.heap.size + 1, 0, none⟩ = some (.slice ua l.length uc) := Below.keep (below_alloc _ _) hpu
          clear hw3
          go_upto_region 9 with fail
          go_cut [10] (fun z wx => HoleRes (cf g k m (l ++ [x])) wx z ∧ w3.grownBy wx (Value.slice ua l.length uc).ownBlock ∧ OwnInts w0.heap.size wx (.slice ua l.length uc) (castN l))
          case first =>
            go_region_law (first | (go_simp; go_at_call 81; refine (IH.out (l ++ [x]) _ w4 Hm2.out Hbeg2.out Hseg2.out Hb04.out (by rw [castN_append]; exact hO4)).mono ?_; rintro e w5 ⟨v5, rfl, hr5, hg5, ho5⟩; have hk5 := hback w5 hg5 (by rw [← show castN (l ++ [x]) = castN l ++ [(x : Int)] from castN_append l [x]]; exact ho5)) | (refine step_append_back (y := (x : Int)) (g := w3.heap.size) (c := 1) (l := castN l) (by rfl) (.tmp 29) (.tmp 31) 22 (by rfl) elemInts (by rfl) HO3.out (by rfl) (by go_simp) hl12 (by simp; omega) ?_; intro v' w4 hL; obtain ⟨hO4, hg4, ⟨na, nn, nc, rfl⟩, hback⟩ := hL; have hpg4 : w4.cell? ⟨w.heap.size, 0, none⟩ = some (.slice a g.length c) := hg4.cell (Below.keep (below_alloc _ _) hpg) (fun e => by have := (Hlt.out _ e.symm).2; exact absurd this (Nat.lt_irrefl _)); have Hb04 := Lib.hid (colBelow HB3.out hg4 Hlt.out Hlt3.out)))
            all_goals
              have HG3 := Lib.hid (colGrow (x := x) hk5.2)
              have HO5 := Lib.hid hk5.1
              have HR5 := Lib.hid hr5
              clear hk5 hr5 hg5 ho5 hback hO4 hg4 hpg4
              go_wp2_with fail
              go_meet
              exact ⟨HR5.out, HG3.out, HO5.out⟩
          case rest =>
            obtain ⟨hr5, hgr, hown⟩ := hcut
            have HL5 := Lib.hid (HL3.out.grow Hlt.out hgr hown)
            have hpc5 : wc.cell? ⟨wr.heap.size, 0, none⟩ = some (.int .i64 x) := hgr.cell hpc (fun e => by have h1 := (Hlt.out _ e.symm).2; have h2 := HL.out.gr.size; exact absurd (show wr.heap.size < w.heap.size from h1) (by omega))
            have hpu5 := HL5.out.bu
            clear hpg hpu hpc hpg3 hpu3 hgr hown
            cases hres : cf g k m (l ++ [x]) with
            | none =>
              rw [hres] at hr5
              have h5 : u10 = .slice none 0 0 := hr5
              subst h5
              by_cases hmem : x ∈ l
              · have R := Lib.hid (show ft F (x + 1) = none by rw [ft_none Hin.out, HF1.out, hres])
                have R2 := Lib.hid (show ∀ y, y < x + 1 → y ∈ l from fun y hy => by
                  by_cases e : y = x
                  · rw [e]; exact hmem
                  · exact Hseen.out y (by omega))
                have Hmem := Lib.hid (show decide ((x : Int) ∈ castN l) = true from decide_eq_true (mem_castN.2 hmem))
                clear hres hr5 hmem
                go_wp2_with fail
                refine (contains_b' _ _ true Hmem.out _ _ (OwnInts.ints HL5.out.own)).mono ?_
                rintro e w' ⟨rfl, rfl⟩
                go_wp2_with fail
                go_roundw
                case rel => exact ⟨x + 1, by go_num, by omega, HL5.out, R.out, R2.out⟩
                case measure => simp [intOf]; omega
              · have R := Lib.hid (show cf g k (m + 1) l = none from cf_stop HG.out Hm.out Hbeg.out hlt (seg_new Hseg.out hmem) hres (by have := Hin.out; rwa [HF.out] at this))
                have Hmem := Lib.hid (show decide ((x : Int) ∈ castN l) = false from decide_eq_false fun h => hmem (mem_castN.1 h))
                clear hres hr5 hmem
                go_wp2_with fail
                refine (contains_b' _ _ false Hmem.out _ _ (OwnInts.ints HL5.out.own)).mono ?_
                rintro e w' ⟨rfl, rfl⟩
                go_wp2_with fail
                go_ret
                exact ⟨_, rfl, by rw [R.out]; rfl, HL5.out.gr, HL5.out.own⟩
            | some r =>
              rw [hres] at hr5
              obtain ⟨⟨ra, rn, rc, rfl⟩, hri⟩ := hr5
              have Hri := Lib.hid hri
              have R := Lib.hid (show cf g k (m + 1) l = some r by rw [HFl.out]; exact ft_hit Hin.out (by rw [HF1.out, hres]) hlt)
              have hneS := fun w' => run_neq_slice_nil_any (P := Try.prog) w' 22 3 (some ra) rn rc 0 0 Try.underlying22
              clear hres hri
              go_wp2_with fail
              go_ret
              exact ⟨_, rfl, by rw [R.out]; exact ⟨⟨_, _, _, rfl⟩, Hri.out⟩, HL5.out.gr, HL5.out.own⟩
        · have Hd := Lib.hid (show decide (FitTo g l x l.length) = !true from decide_eq_false hfit)
          have R := Lib.hid (show ft F (x + 1) = none by rw [ft_none Hin.out, HFn.out x hfit])
          have R2 := Lib.hid (show ∀ y, y < x + 1 → y ∈ l from fun y hy => by
            by_cases e : y = x
            · rw [e]; exact not_fit hfit
            · exact Hseen.out y (by omega))
          clear hfit
          go_wp2_with fail
          refine (containsFunc_any HG.out hlg (c := x) true Hd.out _ _ ⟨HL2.out.bg, HL2.out.bi, HL2.out.bu, Hc2.out, HG2.out, OwnInts.ints HL2.out.own⟩ Hv2.out).mono ?_
          rintro e w3 ⟨rfl, q3, hw3⟩
          have Hb3 := Lib.hid (show Below w2.heap.size w2 w3 by rw [hw3]; exact bdrewN (Below.refl _ _) _)
          have HL3 := Lib.hid (HL2.out.below Hlt.out Hb3.out)
          clear hw3
          go_wp2_with fail
          go_roundw
          case rel => exact ⟨x + 1, by go_num, by omega, HL3.out, R.out, R2.out⟩
          case measure => simp [intOf]; omega
      · obtain rfl : x = k := by omega
        have R := Lib.hid (show cf g x (m + 1) l = none by rw [HFl.out]; exact Hin.out)
        go_wp2_with fail
        go_ret
        exact ⟨_, rfl, by rw [R.out]; rfl, HL.out.gr, HL.out.own⟩
theorem coloursAt {g : List Nat} (hg : Gr g) : ColoursAt g := fun v w hv => by
  have := coloursP_any hg (Nat.le_trans (om_le hg) hg.le) hv g.length [] (.slice none 0 0) w (by simp) (beg_nil g _) (fun y hy => by simp at hy) (Below.refl _ _) (ownInts_nil _ _)
  refine this.mono ?_
  rintro e w' ⟨v', he, hr, hgr, _⟩
  exact ⟨v', he, hr, ⟨hgr.os, hgr.tape, hgr.output, hgr.size, fun k hk => hgr.block k hk (by simp [Value.ownBlock])⟩⟩
#print axioms coloursAt
end Go.Proofs.Ytkjpbjbheocciaa
