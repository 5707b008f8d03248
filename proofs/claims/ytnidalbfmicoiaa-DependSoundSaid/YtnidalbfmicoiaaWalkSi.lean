/- Contract of Prove. -/
import Derived.Test.YtnidalbfmicoiaaWalkSh
namespace Go.Proofs.Ytnidalbfmicoiaa
open Go.RowKit

def lenV : Value → Nat | .slice _ n _ => n | _ => 0
theorem own_len {base : Nat} {w : World} {v : Value} {p : List Stp} (h : OwnSteps base w v p) : lenV v = p.length := by
  obtain ⟨a, b, off, cap, rfl, _⟩ := Steps.get h.steps
  rfl
theorem prove_bad (n s t : Int) (l : List (Int × Int)) (v : Value) (w : World) (hv : Deps w v l) (hbad : ¬ ValidP n l [s, t]) :
    Calls Try.prog 34 #[.int .i64 n, v, .agg #[.int .i64 s, .int .i64 t]] w fun e w' => e = .returned (.tuple #[.slice none 0 0, .int .i64 2]) ∧ Below w.heap.size w w' := by
  have Hv := Lib.hid hv
  have Hbad := Lib.hid hbad
  clear hv hbad
  go_enter Try.func34, Try.ntmps34
  go_wp2_with fail
  refine (valid_no (by exact Deps.keep Hv.out (Below.tr (below_alloc _ _) (below_alloc _ _))) (by exact ints_two _ s t _ _ (by simp)) Hbad.out).mono ?_
  rintro e w' ⟨rfl, hb⟩
  go_wp2_with fail
  go_ret2
  exact ⟨rfl, Below.tr (below_alloc _ _) (Below.tr (below_alloc _ _) hb)⟩
/-- what Prove returns of a dependency that follows -/
def ProveE (m : Nat) (l : List DepN) (s t : Nat) (w : World) (e : Ending) (w' : World) : Prop := ∃ v' p, e = .returned (.tuple #[v', .int .i64 0]) ∧ Steps w' v' p ∧ ProofOk m (castD l) p ∧ p.length ≤ 27 ∧ 1 ≤ p.length ∧ (stp p (p.length - 1)).2.2.2 = ((s : Int), (t : Int)) ∧ Below w.heap.size w w'
set_option maxRecDepth 100000 in
theorem prove_none {m s t : Nat} {l : List DepN} (h : Okl m l) (hs : s < 2 ^ m) (ht : t < 2 ^ m) (hno : ¬ Sub t (cl l s)) (v : Value) (w : World) (hv : Deps w v (castD l)) :
    Calls Try.prog 34 #[.int .i64 m, v, .agg #[.int .i64 s, .int .i64 t]] w fun e w' => e = .returned (.tuple #[.slice none 0 0, .int .i64 5]) ∧ Below w.heap.size w w' := by
  have hp := h.pow
  have hgood : ValidP m (castD l) [(s : Int), (t : Int)] := validP_nat h.h1 h.h8 h.h12 h.hl (t := [s, t]) (by simp; exact ⟨hs, ht⟩)
  have Hgood := Lib.hid hgood
  have Hv := Lib.hid hv
  have Hs := Lib.hid (show s < 256 by omega)
  have Ht := Lib.hid (show t < 256 by omega)
  have Hno := Lib.hid (decide_eq_false hno)
  have b0 := below_alloc w (.cells #[.int .i64 (s : Int), .int .i64 (t : Int)] 32)
  have c0 := cell_new w #[.int .i64 (s : Int), .int .i64 (t : Int)] 32 0
  have c1 := cell_new w #[.int .i64 (s : Int), .int .i64 (t : Int)] 32 1
  have C0 := Lib.hid (fun w2 h2 => Below.keep (w' := w2) h2 c0)
  have C1 := Lib.hid (fun w2 h2 => Below.keep (w' := w2) h2 c1)
  clear hv hgood hs ht hp c0 c1 hno
  go_enter Try.func34, Try.ntmps34
  go_wp2_with fail
  refine (valid_yes (by exact Deps.keep Hv.out (Below.tr b0 (below_alloc _ _))) (by exact ints_two _ _ _ _ _ (by simp)) Hgood.out).mono ?_
  rintro e w1 ⟨rfl, hb⟩
  have hb1 := Below.tr (below_alloc _ _) hb
  have k0 := C0.out _ hb1
  have k1 := C1.out _ hb1
  have Hb1 := Lib.hid (Below.tr b0 hb1)
  clear hb hb1 b0 C0 C1
  go_wp2_with fail
  refine (follows_any h.lt s t Hs.out Ht.out _ _ (Deps.keep Hv.out Hb1.out)).mono ?_
  rw [Hno.out]
  rintro e w2 ⟨rfl, hb2⟩
  go_wp2_with fail
  go_ret2
  exact ⟨rfl, Below.tr Hb1.out hb2⟩
set_option maxRecDepth 100000 in
set_option maxHeartbeats 4000000 in
theorem prove_yes {m s t : Nat} {l : List DepN} (h : Okl m l) (hs : s < 2 ^ m) (ht : t < 2 ^ m) (hyes : Sub t (cl l s)) (v : Value) (w : World) (hv : Deps w v (castD l)) :
    Calls Try.prog 34 #[.int .i64 m, v, .agg #[.int .i64 s, .int .i64 t]] w (ProveE m l s t w) := by
  have hp := h.pow
  have hgood : ValidP m (castD l) [(s : Int), (t : Int)] := validP_nat h.h1 h.h8 h.h12 h.hl (t := [s, t]) (by simp; exact ⟨hs, ht⟩)
  have Hgood := Lib.hid hgood
  have Hv := Lib.hid hv
  have hs256 : s < 256 := by omega
  have ht256 : t < 256 := by omega
  have Hs2 := Lib.hid hs
  have Ht2 := Lib.hid ht
  have Hyes := Lib.hid hyes
  have Hy := Lib.hid (decide_eq_true hyes)
  have HL := Lib.hid h.lt
  have HLm := Lib.hid h.hl
  have hm8 := h.h8
  have hl12 := h.h12
  have e0 : (castD l).length = l.length := by simp [castD]
  obtain ⟨a, b, off, cap, rfl, hle, ha, hc⟩ := Deps.get hv
  have hix := run_ix (P := Try.prog) (t := 28) (a := a) (len := (castD l).length) (cap := cap) (b := b) (off := off) (s := 2) Try.underlying28 (by intro w; kernel_rfl) ha
  rw [e0] at hix
  have Hc := Lib.hid (show ∀ i (h : i < l.length), w.cell? ⟨b, off + i * 2, none⟩ = some (.int .i64 ((l[i].1 : Nat) : Int)) ∧ w.cell? ⟨b, off + i * 2 + 1, none⟩ = some (.int .i64 ((l[i].2 : Nat) : Int)) from fun i hi => by
    have := hc i (by omega)
    simpa [castD] using this)
  rw [e0] at Hv ⊢
  have Hix := Lib.hid hix
  have b0 := below_alloc w (.cells #[.int .i64 (s : Int), .int .i64 (t : Int)] 32)
  have c0 := cell_new w #[.int .i64 (s : Int), .int .i64 (t : Int)] 32 0
  have c1 := cell_new w #[.int .i64 (s : Int), .int .i64 (t : Int)] 32 1
  have C0 := Lib.hid (fun w2 h2 => Below.keep (w' := w2) h2 c0)
  have C1 := Lib.hid (fun w2 h2 => Below.keep (w' := w2) h2 c1)
  clear hv hgood hs ht hp c0 c1 hyes ha hc hix e0 hle
  go_enter Try.func34, Try.ntmps34
  go_wp2_with fail
  refine (valid_yes (by exact Deps.keep Hv.out (Below.tr b0 (below_alloc _ _))) (by exact ints_two _ _ _ _ _ (by simp)) Hgood.out).mono ?_
  rintro e w1 ⟨rfl, hb⟩
  have hb1 := Below.tr (below_alloc _ _) hb
  have k0 := C0.out _ hb1
  have k1 := C1.out _ hb1
  have Hb1 := Lib.hid (Below.tr b0 hb1)
  have HC := Lib.hid (show ∀ w2, Below w1.heap.size w1 w2 → w2.cell? ⟨w.heap.size, 0, none⟩ = some (.int .i64 (s : Int)) ∧ w2.cell? ⟨w.heap.size, 1, none⟩ = some (.int .i64 (t : Int)) from fun w2 h2 => ⟨C0.out _ (Below.tr hb1 h2), C1.out _ (Below.tr hb1 h2)⟩)
  clear hb hb1 b0 C0 C1
  go_wp2_with fail
  refine (follows_any HL.out s t hs256 ht256 _ _ (Deps.keep Hv.out Hb1.out)).mono ?_
  rw [Hy.out]
  rintro e w2 ⟨rfl, hb2⟩
  have k0 := (HC.out _ hb2).1
  have k1 := (HC.out _ hb2).2
  have HC2 := Lib.hid (show ∀ w3, Below w2.heap.size w2 w3 → w3.cell? ⟨w.heap.size, 0, none⟩ = some (.int .i64 (s : Int)) ∧ w3.cell? ⟨w.heap.size, 1, none⟩ = some (.int .i64 (t : Int)) from fun w3 h3 => HC.out _ (Below.tr hb2 h3))
  have Hb2 := Lib.hid (Below.tr Hb1.out hb2)
  clear hb2 HC
  have Hp0 := Lib.hid (Path.start (l := l) hm8 Hs2.out)
  have Hrow := Lib.hid (show OwnSteps w2.heap.size (w2.alloc (.cells #[.int .i64 1, .int .i64 0, .int .i64 0, .int .i64 (s : Int), .int .i64 (s : Int)] 53)) (.slice (some ⟨w2.heap.size, 0, none⟩) 1 1) [(1, 0, 0, (s : Int), (s : Int))] from
    World.ownsRow_lit w2 #[.int .i64 1, .int .i64 0, .int .i64 0, .int .i64 (s : Int), .int .i64 (s : Int)] 1 (Nat.le_refl _) (by unfold maxLen; omega) rfl)
  go_wp2_with fail
  go_loopw [8, 9] (fun pv c wr => ∃ (p : List Stp) (S q : Nat) (c' : Bool), c = .bool c' ∧ Path m l s S p q ∧ Grows l s S ∧ OwnSteps w2.heap.size wr pv p ∧ Below w2.heap.size w2 wr ∧ (c' = false → Clsd l S)) (fun pv c _ => 2 * (30 - lenV pv) + (isTrue c).toNat)
  case atStart => exact ⟨_, s, 0, true, rfl, Hp0.out, Grows.start hs256, Hrow.out, below_alloc _ _, fun h => by cases h⟩
  case round =>
    obtain ⟨p, S, q, c', rfl, hpath, hgr, hown, hb, hcl⟩ := hrel
    have Hpath := Lib.hid hpath
    have Hgr := Lib.hid hgr
    have Hown := Lib.hid hown
    have Hb := Lib.hid hb
    have Hcl := Lib.hid hcl
    have hlen0 := own_len hown
    have hq25 : p.length ≤ 25 := by have := hpath.short; have := bcnt_le 8 S; omega
    clear hpath hgr hown hb hcl
    cases c' with
    | false =>
      have k0 := (HC2.out _ Hb.out).1
      have k1 := (HC2.out _ Hb.out).2
      have HS := Lib.hid (Hgr.out.done HL.out hs256 (Hcl.out rfl))
      have HF := Lib.hid (Hpath.out.finish hm8 Ht2.out (by rw [HS.out]; exact Hyes.out))
      have HFl := Lib.hid (finL_len (p := p) (q := q) (s := s) (S := S) (t := t) hq25)
      obtain ⟨pa, pb, poff, pc, hpv, -, -, -, -⟩ := Steps.get (OwnSteps.steps Hown.out)
      subst hpv
      clear hlen0 hq25
      go_wp2_with fail
      refine (finish_any Hpath.out hm8 t w2.heap.size _ _ Hb.out.size Hown.out).mono ?_
      rintro e w3 ⟨v3, rfl, ho3, hb3⟩
      obtain ⟨va, vb, voff, vc, hv3, -, -, -, -⟩ := Steps.get (OwnSteps.steps ho3)
      subst hv3
      have Ho3 := Lib.hid (OwnSteps.steps ho3)
      have Hb3 := Lib.hid (Below.tr Hb2.out (Hb.out.trans hb3))
      clear ho3 hb3
      go_wp2_with fail
      go_ret2
      exact ⟨_, _, rfl, Ho3.out, HF.out.1, HFl.out, HF.out.2.1, HF.out.2.2, Hb3.out⟩
    | true =>
      have Hlen0 := Lib.hid hlen0
      obtain ⟨n0, hn0⟩ : ∃ n0, n0 = p.length := ⟨_, rfl⟩
      have Hn0 := Lib.hid hn0
      have HI := Lib.hid (show Inner l s S S 0 false from ⟨Hgr.out, rfl, fun i h h' => by omega⟩)
      clear hlen0 hn0 hq25
      go_wp2_with fail
      go_loopw [8, 9, 36] (fun pv c i wr => ∃ (p' : List Stp) (S' q' : Nat) (c' : Bool) (k : Nat), c = .bool c' ∧ i = .int .i64 k ∧ k ≤ l.length ∧ Path m l s S' p' q' ∧ OwnSteps w2.heap.size wr pv p' ∧ Below w2.heap.size w2 wr ∧ Inner l s S S' k c' ∧ (c' = true → n0 < p'.length) ∧ (c' = false → p'.length = n0)) (fun _ _ i _ => l.length - (intOf i).toNat)
      case atStart => exact ⟨p, S, q, false, 0, rfl, rfl, Nat.zero_le _, Hpath.out, Hown.out, Hb.out, HI.out, fun h => (by cases h), fun _ => Hn0.out.symm⟩
      case round =>
        obtain ⟨p', S', q', c', k, rfl, rfl, hk, hpath', hown', hb', hin, hlt1, hlt2⟩ := hrel
        have Hpath' := Lib.hid hpath'
        have Hown' := Lib.hid hown'
        have Hb' := Lib.hid hb'
        have Hin := Lib.hid hin
        have Hlt1 := Lib.hid hlt1
        have Hlt2 := Lib.hid hlt2
        have hpl := hpath'.len
        have hq25 : q' < 25 := by have := hpath'.short; have := bcnt_le 8 S'; omega
        have hlast := hpath'.last
        have hS256 := hin.1.2.1
        obtain ⟨pa, pb, poff, pc, hpv, hple, hpa, hpcap, hpc⟩ := Steps.get (OwnSteps.steps hown')
        subst hpv
        have hixp := run_ix (P := Try.prog) (t := 46) (a := pa) (len := p'.length) (cap := pc) (b := pb) (off := poff) (s := 5) Try.underlying46 (by intro w; kernel_rfl) hpa q'
        obtain ⟨-, -, -, -, hp5⟩ := hpc q' (by omega)
        rw [stp_get (by omega), show (stp p' q').2.2.2.2 = (S' : Int) from congrArg (·.2) hlast] at hp5
        have hpb := cell_lt hp5
        rw [hpl] at hixp
        have Hown' := Lib.hid (show OwnSteps w2.heap.size wr (.slice pa (q' + 1) pc) p' by rw [← hpl]; exact hown')
        rw [hpl]
        have Hpl := Lib.hid hpl
        clear hpath' hown' hb' hin hlt1 hlt2 hlast hpa hpc hple hpcap hpl
        by_cases hlt : k < l.length
        · have hc1 := Below.keep (Below.tr Hb2.out Hb'.out) (Hc.out k hlt).1
          have hc2 := Below.keep (Below.tr Hb2.out Hb'.out) (Hc.out k hlt).2
          have hixk := Hix.out k
          have hlk := HL.out _ (List.getElem_mem hlt)
          have hkm : l[k] ∈ l := List.getElem_mem hlt
          obtain ⟨g, hg⟩ : ∃ g, g = l[k] := ⟨_, rfl⟩
          rw [← hg] at hc1 hc2 hlk hkm
          have Hg := Lib.hid hg
          clear hg
          by_cases h1 : Sub g.1 S'
          · by_cases h2 : Sub g.2 S'
            · have R := Lib.hid (Hin.out.kept hlt (fun _ => by rw [← Hg.out]; exact h2))
              have D1 := Lib.hid (decide_eq_true h1)
              have D2 := Lib.hid (decide_eq_true h2)
              clear h1 h2 hkm
              go_wp2_with fail
              refine (contains_any _ _ (by omega) (by omega) _).mono ?_
              rw [D1.out]
              rintro e w' ⟨rfl, rfl⟩
              go_wp2_with fail
              refine (contains_any _ _ (by omega) (by omega) _).mono ?_
              rw [D2.out]
              rintro e w' ⟨rfl, rfl⟩
              go_wp2_with fail
              go_roundw
              case rel => exact ⟨p', S', q', c', k + 1, rfl, by go_num, by omega, Hpath'.out, OwnSteps.keep Hown'.out (below_alloc _ _), Hb'.out.alloc Hb'.out.size _, R.out, Hlt1.out, Hlt2.out⟩
              case measure => simp [intOf]; omega
            · have R := Lib.hid (Hin.out.changed hkm HL.out h1 h2 (k := k + 1))
              have HX := Lib.hid (show Path m l s (S' ||| g.2) (p' ++ more3 q' k s S' g) (q' + 3) by
                have := Hpath'.out.extend hm8 hlt HLm.out (by rw [← Hg.out]; exact h1) (by rw [← Hg.out]; exact h2)
                rwa [← Hg.out] at this)
              have HY := Lib.hid (show n0 < (p' ++ more3 q' k s S' g).length by
                rw [List.length_append]
                cases c' with
                | true => have := Hlt1.out rfl; omega
                | false => have := Hlt2.out rfl; simp [more3]; omega)
              have D1 := Lib.hid (decide_eq_true h1)
              have D2 := Lib.hid (decide_eq_false h2)
              clear h1 h2 hkm
              go_wp2_with fail
              refine (contains_any _ _ (by omega) (by omega) _).mono ?_
              rw [D1.out]
              rintro e w' ⟨rfl, rfl⟩
              go_wp2_with fail
              refine (contains_any _ _ (by omega) (by omega) _).mono ?_
              rw [D2.out]
              rintro e w' ⟨rfl, rfl⟩
              go_wp2_with fail
              refine (extend_any Hpath'.out hm8 k g (by omega) w2.heap.size _ _ (by have := Hb'.out.size; simp; omega) (OwnSteps.keep Hown'.out (below_alloc _ _))).mono ?_
              rintro e w4 ⟨v4, rfl, ho4, hb4⟩
              have Ho4 := Lib.hid ho4
              have Hb4 := Lib.hid ((Hb'.out.alloc Hb'.out.size _).trans hb4)
              clear ho4 hb4
              go_wp2_with fail
              go_roundw
              case rel => exact ⟨_, _, _, true, k + 1, rfl, by go_num, by omega, HX.out, Ho4.out, Hb4.out, R.out, fun _ => HY.out, fun h => by cases h⟩
              case measure => simp [intOf]; omega
          · have R := Lib.hid (Hin.out.kept hlt (fun h => absurd (by rw [Hg.out]; exact h) h1))
            have D1 := Lib.hid (decide_eq_false h1)
            clear h1 hkm
            go_wp2_with fail
            refine (contains_any _ _ (by omega) (by omega) _).mono ?_
            rw [D1.out]
            rintro e w' ⟨rfl, rfl⟩
            go_wp2_with fail
            go_roundw
            case rel => exact ⟨p', S', q', c', k + 1, rfl, by go_num, by omega, Hpath'.out, OwnSteps.keep Hown'.out (below_alloc _ _), Hb'.out.alloc Hb'.out.size _, R.out, Hlt1.out, Hlt2.out⟩
            case measure => simp [intOf]; omega
        · obtain rfl : k = l.length := by omega
          have R := Lib.hid Hin.out.ended
          have HM := Lib.hid (show 2 * (30 - (q' + 1)) + c'.toNat < 2 * (30 - n0) + 1 by
            cases c' with
            | true => have := Hlt1.out rfl; have := Hpl.out; simp; omega
            | false => have := Hlt2.out rfl; have := Hpl.out; simp; omega)
          have HQ := Lib.hid (show lenV u8 = n0 by rw [Hlen0.out, Hn0.out])
          clear hixp
          go_wp2_with fail
          go_roundw
          case rel => exact ⟨p', S', q', c', rfl, Hpath'.out, Hin.out.1, Hown'.out, Hb'.out, R.out.1⟩
          case measure => rw [HQ.out]; exact HM.out
#print axioms prove_yes
end Go.Proofs.Ytnidalbfmicoiaa
