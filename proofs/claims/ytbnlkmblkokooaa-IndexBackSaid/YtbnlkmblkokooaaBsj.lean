/- The sort of bytes: pdqsort. -/
import Derived.Test.YtbnlkmblkokooaaBsi
import Derived.Test.YtbnlkmblkokooaaBsb
import Derived.Sort.LotD2
namespace Go.Proofs.Ytbnlkmblkokooaa
open Go.RowKit
open Go.Sort (PermIn SortedIn swp permIn_trans permIn_mono permIn_all)
/-- what is sorted in a part is sorted in the whole -/
def Kp (a b a' b' : Nat) (d dk : Array Int) : Prop := ∀ R, PermIn a' b' dk R → SortedIn ltI a' b' R → PermIn a b d R ∧ SortedIn ltI a b R
theorem Kp.perm {a b a' b' : Nat} {d dk d1 : Array Int} (h : Kp a b a' b' d dk) (hp : PermIn a' b' dk d1) : Kp a b a' b' d d1 := fun R h1 h2 => h R (permIn_trans _ _ _ _ _ hp h1) h2
theorem Kp.eq {a b a' b' mid : Nat} {d d3 d4 : Array Int} {x : Int} (h : Kp a b a' b' d d3) (hp : PermIn a' b' d3 d4) (hb : b' ≤ d3.size) (h1 : a' < mid) (h2 : mid ≤ b')
    (hge : ∀ t, a' ≤ t → t < b' → ltI d3[t]! x = false) (hle : ∀ t, a' ≤ t → t < mid → ltI x d4[t]! = false) (hgt : ∀ t, mid ≤ t → t < b' → ltI x d4[t]! = true) :
    Go.Sort.Below ltI mid b' d4 ∧ Kp a b mid b' d d4 := by
  have hb4 : b' ≤ d4.size := by rw [hp.1]; exact hb
  have hge4 := permIn_all d3 d4 a' b' (fun y => ltI y x = false) hb hp hge
  refine ⟨Or.inr fun i hi hi' => ?_, fun R hR hs => h R (permIn_trans _ _ _ a' b' hp (permIn_mono _ _ mid b' a' b' (by omega) (Nat.le_refl _) hb4 hR)) ?_⟩
  · cases hc : ltI d4[i]! d4[mid - 1]! with
    | false => rfl
    | true => have := swoI.trans _ _ _ (hgt i hi hi') hc; rw [hle (mid - 1) (by omega) (by omega)] at this; cases this
  · refine Go.Sort.sorted_glue_eq swoI x hs (fun i hi hi' => ?_) (fun i hi hi' => ?_) (permIn_all d4 R mid b' (fun y => ltI x y = true) hb4 hR hgt)
    · rw [hR.2.1 i (Or.inl hi')]; exact hle i hi hi'
    · rw [hR.2.1 i (Or.inl hi')]; exact hge4 i hi (by omega)
theorem glue_lr {a b mid : Nat} {d L R : Array Int} (h1 : a ≤ mid) (h2 : mid < b) (hb : b ≤ d.size) (hlo : ∀ t, a ≤ t → t < mid → ltI d[t]! d[mid]! = true) (hhi : ∀ t, mid < t → t < b → ltI d[t]! d[mid]! = false)
    (hL : PermIn a mid d L) (hsL : SortedIn ltI a mid L) (hR : PermIn (mid + 1) b L R) (hsR : SortedIn ltI (mid + 1) b R) : PermIn a b d R ∧ SortedIn ltI a b R := by
  have hbL : b ≤ L.size := by rw [hL.1]; exact hb
  have eL : ∀ i, mid ≤ i → L[i]! = d[i]! := fun i hi => hL.2.1 i (Or.inr hi)
  have eR : ∀ i, i ≤ mid → R[i]! = L[i]! := fun i hi => hR.2.1 i (Or.inl (by omega))
  refine ⟨permIn_trans _ _ _ a b (permIn_mono _ _ a mid a b (Nat.le_refl _) (by omega) hb hL) (permIn_mono _ _ (mid + 1) b a b (by omega) (Nat.le_refl _) hbL hR), ?_⟩
  refine Go.Sort.sorted_glue swoI (hsL.congr fun i _ hi' => eR i (by omega)) hsR (fun i hi hi' => ?_) (fun i hi hi' => ?_)
  · rw [eR i (by omega), eR mid (Nat.le_refl _), eL mid (Nat.le_refl _)]
    exact permIn_all d L a mid (fun x => ltI x d[mid]! = true) (by omega) hL hlo i hi hi'
  · rw [eR mid (Nat.le_refl _), eL mid (Nat.le_refl _)]
    exact permIn_all L R (mid + 1) b (fun x => ltI x d[mid]! = false) hbL hR (fun k hk hk' => by rw [eL k (by omega)]; exact hhi k (by omega) hk') i (by omega) hi'
theorem glue_rl {a b mid : Nat} {d L R : Array Int} (h1 : a ≤ mid) (h2 : mid < b) (hb : b ≤ d.size) (hlo : ∀ t, a ≤ t → t < mid → ltI d[t]! d[mid]! = true) (hhi : ∀ t, mid < t → t < b → ltI d[t]! d[mid]! = false)
    (hL : PermIn (mid + 1) b d L) (hsL : SortedIn ltI (mid + 1) b L) (hR : PermIn a mid L R) (hsR : SortedIn ltI a mid R) : PermIn a b d R ∧ SortedIn ltI a b R := by
  have hbL : b ≤ L.size := by rw [hL.1]; exact hb
  have eL : ∀ i, i ≤ mid → L[i]! = d[i]! := fun i hi => hL.2.1 i (Or.inl (by omega))
  have eR : ∀ i, mid ≤ i → R[i]! = L[i]! := fun i hi => hR.2.1 i (Or.inr hi)
  refine ⟨permIn_trans _ _ _ a b (permIn_mono _ _ (mid + 1) b a b (by omega) (Nat.le_refl _) hb hL) (permIn_mono _ _ a mid a b (Nat.le_refl _) (by omega) hbL hR), ?_⟩
  refine Go.Sort.sorted_glue swoI hsR (hsL.congr fun i hi _ => eR i (by omega)) (fun i hi hi' => ?_) (fun i hi hi' => ?_)
  · rw [eR mid (Nat.le_refl _), eL mid (Nat.le_refl _)]
    exact permIn_all L R a mid (fun x => ltI x d[mid]! = true) (by omega) hR (fun k hk hk' => by rw [eL k (by omega)]; exact hlo k hk hk') i hi hi'
  · rw [eR i (by omega), eR mid (Nat.le_refl _), eL mid (Nat.le_refl _)]
    exact permIn_all d L (mid + 1) b (fun x => ltI x d[mid]! = false) hb hL (fun k hk hk' => hhi k (by omega) hk') i (by omega) hi'
theorem below_left {a b mid : Nat} {d : Array Int} (h : Go.Sort.Below ltI a b d) (hm : mid ≤ b) : Go.Sort.Below ltI a mid d := h.mono hm
theorem below_right {b mid : Nat} {d : Array Int} (hhi : ∀ t, mid < t → t < b → ltI d[t]! d[mid]! = false) : Go.Sort.Below ltI (mid + 1) b d :=
  Or.inr fun i hi hi' => by rw [Nat.add_sub_cancel]; exact hhi i (by omega) hi'
theorem below_after {a b mid : Nat} {d L : Array Int} (hhi : ∀ t, mid < t → t < b → ltI d[t]! d[mid]! = false) (hL : PermIn a mid d L) : Go.Sort.Below ltI (mid + 1) b L :=
  below_right fun t ht ht' => by rw [hL.2.1 t (Or.inr (by omega)), hL.2.1 mid (Or.inr (Nat.le_refl _))]; exact hhi t ht ht'
theorem below_before {a b mid : Nat} {d L : Array Int} (h1 : a ≤ mid) (h : Go.Sort.Below ltI a mid d) (hL : PermIn (mid + 1) b d L) : Go.Sort.Below ltI a mid L := by
  rcases h with h0 | h
  · exact Or.inl h0
  · exact Or.inr fun i hi hi' => by rw [hL.2.1 i (Or.inl (by omega)), hL.2.1 (a - 1) (Or.inl (by omega))]; exact h i hi hi'
set_option maxHeartbeats 16000000 in
set_option maxRecDepth 100000 in
theorem pdq_b : ∀ (n blk off cap a b limit : Nat) (d : Array Int) (w : World), b - a < n → RowAt w blk off d → a ≤ b → b ≤ d.size → limit < 1000000 → Go.Sort.Below ltI a b d →
    Calls Try.prog 71 #[.slice (some ⟨blk, off, none⟩) d.size cap, .int .i64 a, .int .i64 b, .int .i64 limit] w (SPost w blk off a b d (.tuple #[]) (SortedIn ltI a b)) := by
  intro n
  induction n with
  | zero => intro _ _ _ _ _ _ _ _ h; exact absurd h (Nat.not_lt_zero _)
  | succ n ih =>
    intro blk off cap a b limit d w hn hR hab hb hlim hB
    obtain ⟨N, hN⟩ : ∃ N, N = d.size := ⟨_, rfl⟩
    have HR := Lib.hid hR
    have HN := Lib.hid hN
    have IH := Lib.hid ih
    have HB0 := Lib.hid hB
    have hN1 : N < 1000000 := by rw [hN]; exact hR.2.2
    rw [← hN] at hb
    rw [← hN]
    clear hR hN ih hB
    go_enter Try.func71, Try.ntmps71
    go_wp2
    go_loopw [1, 2, 3, 8, 9] (fun v1 v2 v3 v8 v9 wr => ∃ (a' b' lim : Nat) (wb wp : Bool) (dk : Array Int), v1 = .int .i64 a' ∧ v2 = .int .i64 b' ∧ v3 = .int .i64 lim ∧ v8 = .bool wb ∧ v9 = .bool wp ∧
      a' ≤ b' ∧ b' ≤ N ∧ b' - a' < n + 1 ∧ lim < 1000000 ∧ dk.size = N ∧ Go.Sort.Below ltI a' b' dk ∧ Rw w blk off dk wr ∧ Kp a b a' b' d dk) (fun v1 v2 _ _ _ _ => (intOf v2).toNat - (intOf v1).toNat)
    case atStart => exact ⟨a, b, limit, true, true, d, rfl, rfl, rfl, rfl, rfl, hab, hb, hn, hlim, HN.out.symm, HB0.out, Rw.start HR.out, fun R h1 h2 => ⟨h1, h2⟩⟩
    case round =>
      clear HB0
      obtain ⟨a', b', lim, wb, wp, dk, rfl, rfl, rfl, rfl, rfl, hab', hb', hn', hlim', hz, hB, hrw, hK⟩ := hrel
      have hrow := Rw.row HR.out hrw (by rw [hz, HN.out])
      have HW := Lib.hid hrw
      have HB := Lib.hid hB
      have HK := Lib.hid hK
      have HZ := Lib.hid hz
      by_cases h12 : b' - a' ≤ 12
      · have h12z : (b' : Int) - (a' : Int) ≤ 12 := by omega
        have HC := Lib.hid (insertion_b blk off cap a' b' dk wr hrow hab' (by omega))
        rw [HZ.out] at HC
        clear hrw hB hK hz hrow
        go_wp2_with fail
        refine HC.out.mono ?_
        rintro e w1 ⟨rfl, d1, h1, h2, h3⟩
        have HW1 := Lib.hid (Rw.trans HR.out HW.out h1 h2.1)
        have H2 := Lib.hid h2
        have H3 := Lib.hid h3
        clear h1 h2 h3
        go_wp2_with fail
        (try simp only [Exit.inBlock, Exit.then]); refine bodyPost_ret (results_none rfl _ _ _) rfl ?_
        exact ⟨rfl, d1, HW1.out, HK.out d1 H2.out H3.out⟩
      · have h12z : ¬ ((b' : Int) - (a' : Int) ≤ 12) := by omega
        by_cases hl0 : lim = 0
        · subst hl0
          have HC := Lib.hid (heap_b blk off cap a' b' dk wr hrow (by omega) (by omega))
          rw [HZ.out] at HC
          clear hrw hB hK hz hrow
          go_wp2_with fail
          refine HC.out.mono ?_
          rintro e w1 ⟨rfl, d1, h1, h2, h3⟩
          have HW1 := Lib.hid (Rw.trans HR.out HW.out h1 h2.1)
          have H2 := Lib.hid h2
          have H3 := Lib.hid h3
          clear h1 h2 h3
          go_wp2_with fail
          (try simp only [Exit.inBlock, Exit.then]); refine bodyPost_ret (results_none rfl _ _ _) rfl ?_
          exact ⟨rfl, d1, HW1.out, HK.out d1 H2.out H3.out⟩
        · have hl0z : ¬ ((lim : Int) = 0) := by omega
          obtain ⟨L, hL⟩ : ∃ L, a' + L = b' := ⟨b' - a', by omega⟩
          have HBr := Lib.hid (break_b blk off cap a' L dk wr hrow (by omega) (by omega) b' (by rw [hL]))
          rw [HZ.out] at HBr
          clear hrw hB hK hz hrow
          go_upto_if 35 with fail
          go_cut [3] (fun v3 wc => ∃ (lim : Nat) (d1 : Array Int), v3 = .int .i64 lim ∧ lim < 1000000 ∧ Rw w blk off d1 wc ∧ PermIn a' b' dk d1)
          case first =>
            cases wb
            · go_wp2_with fail
              refine HBr.out.mono ?_
              rintro e w1 ⟨rfl, d1, h1, h2, -⟩
              have HW1 := Lib.hid (Rw.trans HR.out HW.out h1 h2.1)
              have H2 := Lib.hid h2
              clear h1 h2
              go_wp2_with fail
              go_meet
              case rel => exact ⟨lim - 1, d1, by congr 1; omega, by omega, HW1.out, hL ▸ H2.out⟩
            · go_wp2_with fail
              go_meet
              case rel => exact ⟨lim, dk, rfl, hlim', HW.out, Go.Sort.permIn_refl _ _ _⟩
          case rest =>
            obtain ⟨lim1, d1, rfl, hlim1, hrw, hp⟩ := hcut
            have hz1 : d1.size = N := by rw [hp.1, HZ.out]
            have hrow := Rw.row HR.out hrw (by rw [hz1, HN.out])
            have HPv := Lib.hid (pivot_b wc blk off cap a' L d1 hrow (by omega) (by omega) wc (Rw.start hrow))
            rw [hz1, hL] at HPv
            have HW1 := Lib.hid hrw
            have HB1 := Lib.hid (HB.out.perm (by rw [HZ.out]; exact hb') hp)
            have HK1 := Lib.hid (HK.out.perm hp)
            have HZ1 := Lib.hid hz1
            clear hrw hp hz1 hrow HW HB HK HZ HBr
            go_upto_if 50 with fail
            refine HPv.out.mono ?_
            rintro e w2 ⟨pv, hint, rfl, hpa, hpb, hrw2⟩
            have HW2 := Lib.hid (Rw.trans HR.out HW1.out hrw2 rfl)
            have hrow := Rw.row HR.out HW2.out (by rw [HZ1.out, HN.out])
            have HRv := Lib.hid (reverse_b blk off cap a' b' d1 w2 hrow hab' (by rw [HZ1.out]; exact hb'))
            rw [HZ1.out] at HRv
            clear hrw2 hrow
            go_upto_if 50 with fail
            go_cut [11, 12] (fun v11 v12 wc => ∃ (pv hint : Nat) (d2 : Array Int), v11 = .int .i64 pv ∧ v12 = .int .i64 hint ∧ a' ≤ pv ∧ pv < b' ∧ Rw w blk off d2 wc ∧ PermIn a' b' d1 d2)
            case first =>
              by_cases hh : hint = 2
              · subst hh
                go_wp2_with fail
                refine HRv.out.mono ?_
                rintro e w3 ⟨rfl, d2, h1, h2, -⟩
                have HW3 := Lib.hid (Rw.trans HR.out HW2.out h1 h2.1)
                have H2 := Lib.hid h2
                clear h1 h2
                go_wp2_with fail
                go_meet
                case rel => exact ⟨b' - 1 - (pv - a'), 1, d2, by congr 1; omega, rfl, by omega, by omega, HW3.out, H2.out⟩
              · have hhz : ¬ ((hint : Int) = 2) := by omega
                have hhb : ((hint : Int) == 2) = false := by simpa using hhz
                go_wp2_with fail
                go_meet
                case rel => exact ⟨pv, hint, d1, rfl, rfl, hpa, hpb, HW2.out, Go.Sort.permIn_refl _ _ _⟩
            case rest =>
              clear hpa hpb pv hint
              obtain ⟨pv, hint, d2, rfl, rfl, hpa, hpb, hrw, hp⟩ := hcut
              have hz2 : d2.size = N := by rw [hp.1, HZ1.out]
              have hrow := Rw.row HR.out hrw (by rw [hz2, HN.out])
              have HB2 := Lib.hid (HB1.out.perm (by rw [HZ1.out]; exact hb') hp)
              have HK2 := Lib.hid (HK1.out.perm hp)
              have HPar := Lib.hid (partial_b blk off cap a' b' d2 wc hrow (by omega) (by rw [hz2]; exact hb') HB2.out)
              rw [hz2] at HPar
              have HZ2 := Lib.hid hz2
              have HW3 := Lib.hid hrw
              clear hrw hp hz2 hrow HW1 HB1 HK1 HZ1 HPv HRv HW2
              go_upto_region 15 with fail
              go_cut [12, 68] (fun v12 v68 wx => ∃ (hint : Nat) (c : Bool), v12 = .int .i64 hint ∧ v68 = .bool c ∧ wx = wc)
              case first =>
                cases wb <;> cases wp <;> by_cases hh : hint = 1
                all_goals
                  (first | (subst hh) | (have hhb : ((hint : Int) == 1) = false := by simpa using (show ¬ ((hint : Int) = 1) by omega)))
                  go_wp2_with fail
                  go_meet
                  exact ⟨_, _, rfl, rfl, rfl⟩
              case rest =>
                obtain ⟨hint2, c, rfl, rfl, hwx⟩ := hcut
                subst hwx
                go_upto_if 68 with fail
                go_cut [] (fun wx => ∃ d3, Rw w blk off d3 wx ∧ PermIn a' b' d2 d3)
                case first =>
                  cases c
                  · go_wp2_with fail
                    go_meet
                    case rel => exact ⟨d2, HW3.out, Go.Sort.permIn_refl _ _ _⟩
                  · go_wp2_with fail
                    refine HPar.out.mono ?_
                    rintro e w4 ⟨r, rfl, d3, h1, h2, h3⟩
                    have HW4 := Lib.hid (Rw.trans HR.out HW3.out h1 h2.1)
                    have H2 := Lib.hid h2
                    have H3 := Lib.hid h3
                    clear h1 h2 h3
                    cases r
                    · go_wp2_with fail
                      go_meet
                      case rel => exact ⟨d3, HW4.out, H2.out⟩
                    · go_wp2_with fail
                      (try simp only [Exit.inBlock, Exit.then]); refine bodyPost_ret (results_none rfl _ _ _) rfl ?_
                      exact ⟨rfl, d3, HW4.out, HK2.out d3 H2.out (H3.out (by trivial))⟩
                case rest =>
                  obtain ⟨d3, hrw, hp⟩ := hcut
                  have hz3 : d3.size = N := by rw [hp.1, HZ2.out]
                  have hrow := Rw.row HR.out hrw (by rw [hz3, HN.out])
                  have HB3 := Lib.hid (HB2.out.perm (by rw [HZ2.out]; exact hb') hp)
                  have HK3 := Lib.hid (HK2.out.perm hp)
                  have HW4 := Lib.hid hrw
                  have HZ3 := Lib.hid hz3
                  obtain ⟨G, hG⟩ : ∃ G : Nat → Int, ∀ t, G t = d3[t]! := ⟨fun t => d3[t]!, fun _ => rfl⟩
                  have hcw : ∀ t, t < N → wc.cell? ⟨blk, off + t, none⟩ = some (.int .u8 (G t)) := fun t ht => by rw [hG]; exact hrow.cell (by omega)
                  have HG := Lib.hid hG
                  clear hrw hp hz3 hrow hG HB2 HK2 HPar HZ2 HW3
                  go_upto_region 17 with fail
                  go_cut [87] (fun v87 wx => ∃ c : Bool, v87 = .bool c ∧ Rw w blk off d3 wx ∧ (c = true → 0 < a' ∧ ltI d3[a' - 1]! d3[pv]! = false))
                  case first =>
                    rcases Nat.eq_zero_or_pos a' with ha0 | ha0
                    · have ha0z : decide ((a' : Int) > 0) = false := decide_eq_false (by omega)
                      have ha1 : decide ((0 : Int) < (a' : Int)) = false := decide_eq_false (by omega)
                      go_wp2_with fail
                      go_quiet (first | (go_at_call 96; refine Calls.quiet_of_same (less_b _ _ _)))
                      go_wp2_with fail
                      go_meet
                      case rel => exact ⟨false, rfl, HW4.out.drewN nq, fun h => Bool.noConfusion h⟩
                    · go_wp2_with fail
                      go_quiet (first | (go_at_call 96; refine Calls.quiet_of_same (less_b _ _ _)))
                      go_wp2_with fail
                      go_meet
                      case rel => exact ⟨_, rfl, HW4.out.drewN nq, fun h => ⟨ha0, by rw [← HG.out, ← HG.out]; simpa using h⟩⟩
                  case rest =>
                    obtain ⟨c, rfl, hrw, hc⟩ := hcut
                    have hrow := Rw.row HR.out hrw (by rw [HZ3.out, HN.out])
                    have HW5 := Lib.hid hrw
                    have HC := Lib.hid hc
                    have HPt := Lib.hid (partition_b blk off cap a' b' pv d3 wc hrow hpa hpb (by rw [HZ3.out]; exact hb'))
                    have HPe := Lib.hid (partEq_b blk off cap a' b' pv d3 wc hrow hpa hpb (by rw [HZ3.out]; exact hb'))
                    rw [HZ3.out] at HPt HPe
                    clear hrw hc hrow hcw HW4
                    cases c
                    · go_upto_if 113 with fail
                      refine HPt.out.mono ?_
                      rintro e w7 ⟨mid, ap, rfl, hm1, hm2, d4, hrw4, hp4, hlo4, hhi4⟩
                      have HW7 := Lib.hid (Rw.trans HR.out HW5.out hrw4 hp4.1)
                      have H4 := Lib.hid hp4
                      have HLo := Lib.hid hlo4
                      have HHi := Lib.hid hhi4
                      have hz4 : d4.size = N := by rw [hp4.1, HZ3.out]
                      have hrow7 := Rw.row HR.out HW7.out (by rw [hz4, HN.out])
                      have HB4 := Lib.hid (HB3.out.perm (by rw [HZ3.out]; exact hb') hp4)
                      have HZ4 := Lib.hid hz4
                      have HIl := Lib.hid (fun (hx : mid - a' < b' - mid) => IH.out blk off cap a' mid lim1 d4 w7 (by omega) hrow7 hm1 (by rw [hz4]; omega) hlim1 (below_left HB4.out (by omega)))
                      have HIr := Lib.hid (fun (hx : ¬ (mid - a' < b' - mid)) => IH.out blk off cap (mid + 1) b' lim1 d4 w7 (by omega) hrow7 (by omega) (by rw [hz4]; exact hb') hlim1 (below_right hhi4))
                      rw [hz4] at HIl HIr
                      have HKm := Lib.hid (HK3.out.perm hp4)
                      clear hrw4 hp4 hlo4 hhi4 hz4 hrow7
                      go_upto_if 113 with fail
                      by_cases h4 : mid - a' < b' - mid
                      · have h4z : (mid : Int) - (a' : Int) < (b' : Int) - (mid : Int) := by omega
                        have HI := Lib.hid (HIl.out h4)
                        clear HIl HIr
                        go_wp2_with fail
                        refine HI.out.mono ?_
                        rintro e w8 ⟨rfl, d5, h1, h2, h3⟩
                        have HW8 := Lib.hid (Rw.trans HR.out HW7.out h1 h2.1)
                        have H5 := Lib.hid h2
                        have HS5 := Lib.hid h3
                        clear h1 h2 h3
                        go_wp2_with fail
                        go_roundw
                        case rel =>
                          exact ⟨mid + 1, b', lim1, _, ap, d5, by go_num, rfl, rfl, rfl, rfl, by omega, hb', by omega, hlim1, by rw [H5.out.1, HZ4.out], below_after HHi.out H5.out, HW8.out,
                            fun R hR hs => (fun g => HKm.out R g.1 g.2) (glue_lr hm1 hm2 (by rw [HZ4.out]; exact hb') HLo.out HHi.out H5.out HS5.out hR hs)⟩
                        case measure => simp [intOf] <;> omega
                      · have h4z : ¬ ((mid : Int) - (a' : Int) < (b' : Int) - (mid : Int)) := by omega
                        have HI := Lib.hid (HIr.out h4)
                        have hmz : ((mid + 1 : Nat) : Int) = (mid : Int) + 1 := by omega
                        rw [hmz] at HI
                        clear HIl HIr hmz
                        go_wp2_with fail
                        refine HI.out.mono ?_
                        rintro e w8 ⟨rfl, d5, h1, h2, h3⟩
                        have HW8 := Lib.hid (Rw.trans HR.out HW7.out h1 h2.1)
                        have H5 := Lib.hid h2
                        have HS5 := Lib.hid h3
                        clear h1 h2 h3
                        go_wp2_with fail
                        go_roundw
                        case rel =>
                          exact ⟨a', mid, lim1, _, ap, d5, rfl, rfl, rfl, rfl, rfl, by omega, by omega, by omega, hlim1, by rw [H5.out.1, HZ4.out], below_before hm1 (below_left HB4.out (by omega)) H5.out, HW8.out,
                            fun R hR hs => (fun g => HKm.out R g.1 g.2) (glue_rl hm1 hm2 (by rw [HZ4.out]; exact hb') HLo.out HHi.out H5.out HS5.out hR hs)⟩
                        case measure => simp [intOf] <;> omega
                    · have hc2 : 0 < a' ∧ ltI d3[a' - 1]! d3[pv]! = false := HC.out (by trivial)
                      have HC2 := Lib.hid hc2
                      clear HC hc2
                      go_wp2_with fail
                      refine HPe.out.mono ?_
                      rintro e w7 ⟨mid, rfl, hm1, hm2, d4, hrw4, hp4, hlo4, hhi4⟩
                      have HW7 := Lib.hid (Rw.trans HR.out HW5.out hrw4 hp4.1)
                      have hge : ∀ t, a' ≤ t → t < b' → ltI d3[t]! d3[pv]! = false := fun t h1 h2 => by
                        rcases HB3.out with h0 | h0
                        · have := HC2.out.1; omega
                        · exact swoI.ntrans _ _ _ (h0 t h1 h2) HC2.out.2
                      have HE := Lib.hid (Kp.eq HK3.out hp4 (by rw [HZ3.out]; exact hb') hm1 hm2 hge hlo4 hhi4)
                      have HZ4 := Lib.hid (show d4.size = N by rw [hp4.1, HZ3.out])
                      clear hrw4 hp4 hlo4 hhi4 hge
                      go_wp2_with fail
                      go_roundw
                      case rel => exact ⟨mid, b', lim1, wb, wp, d4, rfl, rfl, rfl, rfl, rfl, hm2, hb', by omega, hlim1, HZ4.out, HE.out.1, HW7.out, HE.out.2⟩
                      case measure => simp [intOf] <;> omega
#print axioms pdq_b
end Go.Proofs.Ytbnlkmblkokooaa
