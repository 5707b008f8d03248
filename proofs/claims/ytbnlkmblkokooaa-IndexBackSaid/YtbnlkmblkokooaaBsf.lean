/- The sort of bytes: the partitions. -/
import Derived.Test.YtbnlkmblkokooaaBse
import Derived.Deep.CutBlock
namespace Go.Proofs.Ytbnlkmblkokooaa
open Go.RowKit
open Go.Sort (PermIn SortedIn swp)
def lowP (x y : Int) : Prop := ltI y x = true
def highP (x y : Int) : Prop := ltI y x = false
/-- the row under a partition: what is left of i has p, what is right of j has q, beside what stands at a -/
def PaW (w : World) (blk off a b i j : Nat) (d : Array Int) (p q : Int → Int → Prop) (W : World) : Prop :=
  ∃ dk, Rw w blk off dk W ∧ PermIn a b d dk ∧ (∀ t, a < t → t < i → p dk[a]! dk[t]!) ∧ (∀ t, j < t → t < b → q dk[a]! dk[t]!)
/-- what a partition returns -/
def PartPost (w : World) (blk off a b : Nat) (d : Array Int) (e : Ending) (w' : World) : Prop :=
  ∃ (mid : Nat) (ap : Bool), e = .returned (.tuple #[.int .i64 mid, .bool ap]) ∧ a ≤ mid ∧ mid < b ∧ ∃ d', Rw w blk off d' w' ∧ PermIn a b d d' ∧
    (∀ t, a ≤ t → t < mid → ltI d'[t]! d'[mid]! = true) ∧ (∀ t, mid < t → t < b → ltI d'[t]! d'[mid]! = false)
theorem pa_swap {a b i j : Nat} {d dk : Array Int} {p q : Int → Int → Prop} (hp : PermIn a b d dk) (hb : b ≤ d.size) (hai : a < i) (hij : i < j) (hjb : j < b) (h1 : ∀ t, a < t → t < i → p dk[a]! dk[t]!) (h2 : ∀ t, j < t → t < b → q dk[a]! dk[t]!) (hj : p dk[a]! dk[j]!) (hi : q dk[a]! dk[i]!) :
    PermIn a b d (swp dk i j) ∧ (∀ t, a < t → t < i + 1 → p (swp dk i j)[a]! (swp dk i j)[t]!) ∧ (∀ t, j - 1 < t → t < b → q (swp dk i j)[a]! (swp dk i j)[t]!) := by
  have hs : dk.size = d.size := hp.1
  have ea : (swp dk i j)[a]! = dk[a]! := Go.Sort.swp_other _ _ _ _ (by omega) (by omega)
  refine ⟨perm_swp hp (by omega) (by omega) (by omega) hjb hb, fun t h3 h4 => ?_, fun t h3 h4 => ?_⟩
  · rw [ea]
    by_cases ht : t = i
    · rw [ht, Go.Sort.swp_left _ _ _ (by omega) (by omega)]; exact hj
    · rw [Go.Sort.swp_other _ _ _ _ ht (by omega)]; exact h1 t h3 (by omega)
  · rw [ea]
    by_cases ht : t = j
    · rw [ht, Go.Sort.swp_right _ _ _ (by omega)]; exact hi
    · rw [Go.Sort.swp_other _ _ _ _ (by omega) ht]; exact h2 t (by omega) h4
theorem pa_end {a b j : Nat} {d dk : Array Int} (hp : PermIn a b d dk) (hb : b ≤ d.size) (haj : a ≤ j) (hjb : j < b) (h1 : ∀ t, a < t → t < j + 1 → lowP dk[a]! dk[t]!) (h2 : ∀ t, j < t → t < b → highP dk[a]! dk[t]!) :
    PermIn a b d (swp dk j a) ∧ (∀ t, a ≤ t → t < j → ltI (swp dk j a)[t]! (swp dk j a)[j]! = true) ∧ (∀ t, j < t → t < b → ltI (swp dk j a)[t]! (swp dk j a)[j]! = false) := by
  have hs : dk.size = d.size := hp.1
  have g := Go.Sort.swp_get dk (show j < dk.size by omega) (show a < dk.size by omega)
  have ej : (swp dk j a)[j]! = dk[a]! := by
    rw [g]
    by_cases e : j = a
    · rw [if_pos e, e]
    · rw [if_neg e, if_pos rfl]
  refine ⟨perm_swp hp haj hjb (Nat.le_refl _) (by omega) hb, fun t h3 h4 => ?_, fun t h3 h4 => ?_⟩
  · rw [ej, g]
    by_cases e : t = a
    · rw [if_pos e]; exact h1 j (by omega) (by omega)
    · rw [if_neg e, if_neg (by omega)]; exact h1 t (by omega) (by omega)
  · rw [ej, g, if_neg (by omega), if_neg (by omega)]
    exact h2 t h3 h4
set_option maxHeartbeats 16000000 in
set_option maxRecDepth 100000 in
theorem partition_b (blk off cap a b pivot : Nat) (d : Array Int) (w : World) (hR : RowAt w blk off d) (hap : a ≤ pivot) (hpb : pivot < b) (hb : b ≤ d.size) :
    Calls Try.prog 98 #[.slice (some ⟨blk, off, none⟩) d.size cap, .int .i64 a, .int .i64 b, .int .i64 pivot] w (PartPost w blk off a b d) := by
  obtain ⟨N, hN⟩ : ∃ N, N = d.size := ⟨_, rfl⟩
  have HR := Lib.hid hR
  have HN := Lib.hid hN
  have hN1 : N < 1000000 := by rw [hN]; exact hR.2.2
  rw [← hN] at hb
  rw [← hN]
  obtain ⟨G, hG⟩ : ∃ G : Nat → Int, ∀ t, G t = d[t]! := ⟨fun t => d[t]!, fun _ => rfl⟩
  have hcw : ∀ t, t < N → w.cell? ⟨blk, off + t, none⟩ = some (.int .u8 (G t)) := fun t ht => by rw [hG]; exact hR.cell (by omega)
  have hfw : ∀ t, t < N → w.frozen? ⟨blk, off + t, none⟩ = false := fun t ht => hR.frozen (by omega)
  have HG := Lib.hid hG
  clear hR hN hG
  obtain ⟨J, hJ⟩ : ∃ J, J + 1 = b := ⟨b - 1, by omega⟩
  obtain ⟨I, hI⟩ : ∃ I, I = a + 1 := ⟨_, rfl⟩
  have hJz : (b : Int) - 1 = (J : Int) := by omega
  have hIz : (a : Int) + 1 = (I : Int) := by omega
  have h1 : a < I := by omega
  have h2 : I ≤ J + 1 := by omega
  have h3 : J < b := by omega
  have h4 : b ≤ J + 1 := by omega
  have h5 : I ≤ a + 1 := by omega
  clear hJ hI
  obtain ⟨v3, hy3⟩ := cell?_setCell_some (w := w) (p := ⟨blk, off + a, none⟩) (x := .int .u8 (G pivot)) (q := ⟨blk, off + pivot, none⟩) (hcw pivot (by omega))
  go_enter Try.func98, Try.ntmps98
  go_wp2_with fail
  go_region
  have h := (Rw.swap HR.out (Rw.start HR.out) (i := a) (j := pivot) (by rw [← HN.out]; omega) (by rw [← HN.out]; omega)).drew
  rw [← HG.out, ← HG.out] at h
  have HW := Lib.hid h
  have HP := Lib.hid (perm_swp (Go.Sort.permIn_refl d a b) (i := a) (j := pivot) (Nat.le_refl _) (by omega) hap hpb (by rw [← HN.out]; exact hb))
  have HPa := Lib.hid (show (swp d a pivot)[a]! = d[pivot]! from by
    rw [Go.Sort.swp_get d (by rw [← HN.out]; omega) (by rw [← HN.out]; omega)]
    by_cases e : a = pivot
    · rw [if_pos e, e]
    · rw [if_neg e, if_pos rfl])
  clear h hcw hfw hy3 HG
  obtain ⟨dk, hdk⟩ : ∃ dk, dk = swp d a pivot := ⟨_, rfl⟩
  rw [← hdk] at HW HP HPa
  clear hdk
  obtain ⟨G, hG⟩ : ∃ G : Nat → Int, ∀ t, G t = dk[t]! := ⟨fun t => dk[t]!, fun _ => rfl⟩
  have HG := Lib.hid hG
  have HZ := Lib.hid HP.out.1
  clear hG
  have HL := Lib.hid (show ∀ t, a < t → t < I → lowP dk[a]! dk[t]! from fun t q1 q2 => by omega)
  have HH := Lib.hid (show ∀ t, J < t → t < b → highP dk[a]! dk[t]! from fun t q1 q2 => by omega)
  go_upto_block 0 with fail
  go_cut [10] (fun v wc => ∃ i : Nat, v = .int .i64 i ∧ a < i ∧ I ≤ i ∧ i ≤ J + 1 ∧ Rw w blk off dk wc ∧ (∀ t, a < t → t < i → lowP dk[a]! dk[t]!) ∧ (i ≤ J → highP dk[a]! dk[i]!))
  case first =>
    go_wp2_with fail
    go_loopw [10] (fun v wr => ∃ i : Nat, v = .int .i64 i ∧ a < i ∧ I ≤ i ∧ i ≤ J + 1 ∧ Rw w blk off dk wr ∧ (∀ t, a < t → t < i → lowP dk[a]! dk[t]!)) (fun v _ => J + 1 - (intOf v).toNat)
    case atStart => exact ⟨I, rfl, h1, Nat.le_refl _, h2, HW.out, HL.out⟩
    case round =>
      obtain ⟨i, rfl, hai, hIi, hij, hrw, hlo⟩ := hrel
      have HL2 := Lib.hid hlo
      clear hlo
      have hrow := Rw.row HR.out hrw HZ.out
      have hcw : ∀ t, t < N → wr.cell? ⟨blk, off + t, none⟩ = some (.int .u8 (G t)) := fun t ht => by rw [HG.out]; exact hrow.cell (by rw [HZ.out, ← HN.out]; exact ht)
      have HW2 := Lib.hid hrw
      clear hrw hrow
      by_cases hlt : i ≤ J
      · go_wp2_with fail
        go_quiet (first | (go_at_call 96; refine Calls.quiet_of_same (less_b _ _ _)))
        go_wp2_with fail
        · have hl : ltI (G i) (G a) = true := by assumption
          go_roundw
          case rel => exact ⟨i + 1, by go_num, by omega, by omega, by omega, HW2.out.drewN nq, fun t q1 q2 => by
            by_cases e : t = i
            · rw [e]; show ltI dk[i]! dk[a]! = true; rw [← HG.out, ← HG.out]; exact hl
            · exact HL2.out t q1 (by omega)⟩
          case measure => simp [intOf] <;> omega
        · have hl : ltI (G i) (G a) = false := by assumption
          go_meet
          case rel => exact ⟨i, rfl, hai, hIi, hij, HW2.out.drewN nq, HL2.out, fun _ => by show ltI dk[i]! dk[a]! = false; rw [← HG.out, ← HG.out]; exact hl⟩
      · have hd : decide ((i : Int) ≤ (J : Int)) = false := decide_eq_false (by omega)
        go_wp2_with fail
        go_quiet (first | (go_at_call 96; refine Calls.quiet_of_same (less_b _ _ _)))
        go_wp2_with fail
        go_meet
        case rel => exact ⟨i, rfl, hai, hIi, hij, HW2.out.drewN nq, HL2.out, fun h => absurd h hlt⟩
  case rest =>
    obtain ⟨i, rfl, hai, hIi, hij, hrw, hlo, hhi1⟩ := hcut
    clear HW HL
    have HW := Lib.hid hrw
    have HL := Lib.hid hlo
    have HI := Lib.hid hhi1
    clear hrw hlo hhi1
    go_upto_block 2 with fail
    go_cut [11] (fun v wc => ∃ j : Nat, v = .int .i64 j ∧ a ≤ j ∧ i ≤ j + 1 ∧ j ≤ J ∧ Rw w blk off dk wc ∧ (∀ t, j < t → t < b → highP dk[a]! dk[t]!) ∧ (i ≤ j → lowP dk[a]! dk[j]!))
    case first =>
      go_wp2_with fail
      go_loopw [11] (fun v wr => ∃ j : Nat, v = .int .i64 j ∧ a ≤ j ∧ i ≤ j + 1 ∧ j ≤ J ∧ Rw w blk off dk wr ∧ (∀ t, j < t → t < b → highP dk[a]! dk[t]!)) (fun v _ => (intOf v).toNat)
      case atStart => exact ⟨J, rfl, by omega, hij, Nat.le_refl _, HW.out, HH.out⟩
      case round =>
        obtain ⟨j, rfl, haj, hij2, hjJ, hrw, hhi⟩ := hrel
        have HH2 := Lib.hid hhi
        clear hhi
        have hrow := Rw.row HR.out hrw HZ.out
        have hcw : ∀ t, t < N → wr.cell? ⟨blk, off + t, none⟩ = some (.int .u8 (G t)) := fun t ht => by rw [HG.out]; exact hrow.cell (by rw [HZ.out, ← HN.out]; exact ht)
        have HW2 := Lib.hid hrw
        clear hrw hrow
        by_cases hlt : i ≤ j
        · go_wp2_with fail
          go_quiet (first | (go_at_call 96; refine Calls.quiet_of_same (less_b _ _ _)))
          go_wp2_with fail
          · have hl : ltI (G j) (G a) = false := by 
              have h : (!ltI (G j) (G a)) = true := by assumption
              simpa using h
            go_roundw
            case rel => exact ⟨j - 1, by congr 1; omega, by omega, by omega, by omega, HW2.out.drewN nq, fun t q1 q2 => by
              by_cases e : t = j
              · rw [e]; show ltI dk[j]! dk[a]! = false; rw [← HG.out, ← HG.out]; exact hl
              · exact HH2.out t (by omega) q2⟩
            case measure => simp [intOf] <;> omega
          · have hl : ltI (G j) (G a) = true := by 
              have h : (!ltI (G j) (G a)) = false := by assumption
              simpa using h
            go_meet
            case rel => exact ⟨j, rfl, haj, hij2, hjJ, HW2.out.drewN nq, HH2.out, fun _ => by show ltI dk[j]! dk[a]! = true; rw [← HG.out, ← HG.out]; exact hl⟩
        · have hd : decide ((i : Int) ≤ (j : Int)) = false := decide_eq_false (by omega)
          go_wp2_with fail
          go_quiet (first | (go_at_call 96; refine Calls.quiet_of_same (less_b _ _ _)))
          go_wp2_with fail
          go_meet
          case rel => exact ⟨j, rfl, haj, hij2, hjJ, HW2.out.drewN nq, HH2.out, fun h => absurd h hlt⟩
    case rest =>
      obtain ⟨j, rfl, haj, hij2, hjJ, hrw, hhi, hlo1⟩ := hcut
      clear HW HH
      have HW := Lib.hid hrw
      have HH := Lib.hid hhi
      have HJ := Lib.hid hlo1
      clear hrw hhi hlo1
      by_cases hgt : j < i
      · have hgtz : (j : Int) < (i : Int) := by omega
        obtain rfl : i = j + 1 := by omega
        have HE := Lib.hid (pa_end HP.out (by rw [← HN.out]; exact hb) haj (by omega) HL.out HH.out)
        obtain ⟨wq, hwq⟩ : ∃ wq : World, wq = wc := ⟨_, rfl⟩
        subst hwq
        have hrow := Rw.row HR.out HW.out HZ.out
        have hcw : ∀ t, t < N → wq.cell? ⟨blk, off + t, none⟩ = some (.int .u8 (G t)) := fun t ht => by rw [HG.out]; exact hrow.cell (by rw [HZ.out, ← HN.out]; exact ht)
        have hfw : ∀ t, t < N → wq.frozen? ⟨blk, off + t, none⟩ = false := fun t ht => hrow.frozen (by rw [HZ.out, ← HN.out]; exact ht)
        clear hrow
        obtain ⟨v3, hy3⟩ := cell?_setCell_some (w := wq) (p := ⟨blk, off + j, none⟩) (x := .int .u8 (G a)) (q := ⟨blk, off + a, none⟩) (hcw a (by omega))
        go_wp2_with fail
        go_region
        all_goals go_wp2_with fail
        have h := (Rw.swap HR.out HW.out (i := j) (j := a) (by rw [HZ.out, ← HN.out]; omega) (by rw [HZ.out, ← HN.out]; omega)).drew
        rw [← HG.out, ← HG.out] at h
        go_ret2
        exact ⟨j, true, rfl, haj, by omega, swp dk j a, h, HE.out.1, HE.out.2.1, HE.out.2.2⟩
      · have hij3 : i < j := by
          rcases Nat.lt_or_ge i j with h | h
          · exact h
          · obtain rfl : i = j := by omega
            have e1 := HI.out (by omega)
            have e2 := HJ.out (by omega)
            unfold lowP at e2
            unfold highP at e1
            rw [e1] at e2
            cases e2
        have hgtz : ¬ ((j : Int) < (i : Int)) := by omega
        have HS := Lib.hid (pa_swap HP.out (by rw [← HN.out]; exact hb) hai hij3 (by omega) HL.out HH.out (HJ.out (by omega)) (HI.out (by omega)))
        obtain ⟨wq, hwq⟩ : ∃ wq : World, wq = wc := ⟨_, rfl⟩
        subst hwq
        have hrow := Rw.row HR.out HW.out HZ.out
        have hcw : ∀ t, t < N → wq.cell? ⟨blk, off + t, none⟩ = some (.int .u8 (G t)) := fun t ht => by rw [HG.out]; exact hrow.cell (by rw [HZ.out, ← HN.out]; exact ht)
        have hfw : ∀ t, t < N → wq.frozen? ⟨blk, off + t, none⟩ = false := fun t ht => hrow.frozen (by rw [HZ.out, ← HN.out]; exact ht)
        clear hrow
        go_wp2_with fail
        go_region
        all_goals go_wp2_with fail
        have h := (Rw.swap HR.out HW.out (i := i) (j := j) (by rw [HZ.out, ← HN.out]; omega) (by rw [HZ.out, ← HN.out]; omega)).drew
        rw [← HG.out, ← HG.out] at h
        have HW3 := Lib.hid h
        clear h
        go_loopw [10, 11] (fun vi vj wr => ∃ i j : Nat, vi = .int .i64 i ∧ vj = .int .i64 j ∧ a < i ∧ i ≤ j + 1 ∧ j < b ∧ PaW w blk off a b i j d lowP highP wr) (fun vi vj _ => (intOf vj).toNat + 1 - (intOf vi).toNat)
        case atStart => exact ⟨i + 1, j - 1, by go_num, by congr 1; omega, by omega, by omega, by omega, swp dk i j, HW3.out, HS.out.1, HS.out.2.1, HS.out.2.2⟩
        case round =>
          clear HW3 HS HW HP HL HH HI HJ HG HZ HPa hcw hfw
          obtain ⟨I, J, rfl, rfl, h1, h2, h3, dk, hrw, hp, hlo, hhi⟩ := hrel
          obtain ⟨G, hG⟩ : ∃ G : Nat → Int, ∀ t, G t = dk[t]! := ⟨fun t => dk[t]!, fun _ => rfl⟩
          have HG := Lib.hid hG
          have HZ := Lib.hid hp.1
          have HW := Lib.hid hrw
          have HP := Lib.hid hp
          have HL := Lib.hid hlo
          have HH := Lib.hid hhi
          clear hG hrw hp hlo hhi
          go_upto_block 6 with fail
          go_cut [10] (fun v wc => ∃ i : Nat, v = .int .i64 i ∧ a < i ∧ I ≤ i ∧ i ≤ J + 1 ∧ Rw w blk off dk wc ∧ (∀ t, a < t → t < i → lowP dk[a]! dk[t]!) ∧ (i ≤ J → highP dk[a]! dk[i]!))
          case first =>
            go_wp2_with fail
            go_loopw [10] (fun v wr => ∃ i : Nat, v = .int .i64 i ∧ a < i ∧ I ≤ i ∧ i ≤ J + 1 ∧ Rw w blk off dk wr ∧ (∀ t, a < t → t < i → lowP dk[a]! dk[t]!)) (fun v _ => J + 1 - (intOf v).toNat)
            case atStart => exact ⟨I, rfl, h1, Nat.le_refl _, h2, HW.out, HL.out⟩
            case round =>
              obtain ⟨i, rfl, hai, hIi, hij, hrw, hlo⟩ := hrel
              have HL2 := Lib.hid hlo
              clear hlo
              have hrow := Rw.row HR.out hrw HZ.out
              have hcw : ∀ t, t < N → wr.cell? ⟨blk, off + t, none⟩ = some (.int .u8 (G t)) := fun t ht => by rw [HG.out]; exact hrow.cell (by rw [HZ.out, ← HN.out]; exact ht)
              have HW2 := Lib.hid hrw
              clear hrw hrow
              by_cases hlt : i ≤ J
              · go_wp2_with fail
                go_quiet (first | (go_at_call 96; refine Calls.quiet_of_same (less_b _ _ _)))
                go_wp2_with fail
                · have hl : ltI (G i) (G a) = true := by assumption
                  go_roundw
                  case rel => exact ⟨i + 1, by go_num, by omega, by omega, by omega, HW2.out.drewN nq, fun t q1 q2 => by
                    by_cases e : t = i
                    · rw [e]; show ltI dk[i]! dk[a]! = true; rw [← HG.out, ← HG.out]; exact hl
                    · exact HL2.out t q1 (by omega)⟩
                  case measure => simp [intOf] <;> omega
                · have hl : ltI (G i) (G a) = false := by assumption
                  go_meet
                  case rel => exact ⟨i, rfl, hai, hIi, hij, HW2.out.drewN nq, HL2.out, fun _ => by show ltI dk[i]! dk[a]! = false; rw [← HG.out, ← HG.out]; exact hl⟩
              · have hd : decide ((i : Int) ≤ (J : Int)) = false := decide_eq_false (by omega)
                go_wp2_with fail
                go_quiet (first | (go_at_call 96; refine Calls.quiet_of_same (less_b _ _ _)))
                go_wp2_with fail
                go_meet
                case rel => exact ⟨i, rfl, hai, hIi, hij, HW2.out.drewN nq, HL2.out, fun h => absurd h hlt⟩
          case rest =>
            obtain ⟨i, rfl, hai, hIi, hij, hrw, hlo, hhi1⟩ := hcut
            clear HW HL
            have HW := Lib.hid hrw
            have HL := Lib.hid hlo
            have HI := Lib.hid hhi1
            clear hrw hlo hhi1
            go_upto_block 8 with fail
            go_cut [11] (fun v wc => ∃ j : Nat, v = .int .i64 j ∧ a ≤ j ∧ i ≤ j + 1 ∧ j ≤ J ∧ Rw w blk off dk wc ∧ (∀ t, j < t → t < b → highP dk[a]! dk[t]!) ∧ (i ≤ j → lowP dk[a]! dk[j]!))
            case first =>
              go_wp2_with fail
              go_loopw [11] (fun v wr => ∃ j : Nat, v = .int .i64 j ∧ a ≤ j ∧ i ≤ j + 1 ∧ j ≤ J ∧ Rw w blk off dk wr ∧ (∀ t, j < t → t < b → highP dk[a]! dk[t]!)) (fun v _ => (intOf v).toNat)
              case atStart => exact ⟨J, rfl, by omega, hij, Nat.le_refl _, HW.out, HH.out⟩
              case round =>
                obtain ⟨j, rfl, haj, hij2, hjJ, hrw, hhi⟩ := hrel
                have HH2 := Lib.hid hhi
                clear hhi
                have hrow := Rw.row HR.out hrw HZ.out
                have hcw : ∀ t, t < N → wr.cell? ⟨blk, off + t, none⟩ = some (.int .u8 (G t)) := fun t ht => by rw [HG.out]; exact hrow.cell (by rw [HZ.out, ← HN.out]; exact ht)
                have HW2 := Lib.hid hrw
                clear hrw hrow
                by_cases hlt : i ≤ j
                · go_wp2_with fail
                  go_quiet (first | (go_at_call 96; refine Calls.quiet_of_same (less_b _ _ _)))
                  go_wp2_with fail
                  · have hl : ltI (G j) (G a) = false := by 
                      have h : (!ltI (G j) (G a)) = true := by assumption
                      simpa using h
                    go_roundw
                    case rel => exact ⟨j - 1, by congr 1; omega, by omega, by omega, by omega, HW2.out.drewN nq, fun t q1 q2 => by
                      by_cases e : t = j
                      · rw [e]; show ltI dk[j]! dk[a]! = false; rw [← HG.out, ← HG.out]; exact hl
                      · exact HH2.out t (by omega) q2⟩
                    case measure => simp [intOf] <;> omega
                  · have hl : ltI (G j) (G a) = true := by 
                      have h : (!ltI (G j) (G a)) = false := by assumption
                      simpa using h
                    go_meet
                    case rel => exact ⟨j, rfl, haj, hij2, hjJ, HW2.out.drewN nq, HH2.out, fun _ => by show ltI dk[j]! dk[a]! = true; rw [← HG.out, ← HG.out]; exact hl⟩
                · have hd : decide ((i : Int) ≤ (j : Int)) = false := decide_eq_false (by omega)
                  go_wp2_with fail
                  go_quiet (first | (go_at_call 96; refine Calls.quiet_of_same (less_b _ _ _)))
                  go_wp2_with fail
                  go_meet
                  case rel => exact ⟨j, rfl, haj, hij2, hjJ, HW2.out.drewN nq, HH2.out, fun h => absurd h hlt⟩
            case rest =>
              obtain ⟨j, rfl, haj, hij2, hjJ, hrw, hhi, hlo1⟩ := hcut
              clear HW HH
              have HW := Lib.hid hrw
              have HH := Lib.hid hhi
              have HJ := Lib.hid hlo1
              clear hrw hhi hlo1
              by_cases hgt : j < i
              · have hgtz : (j : Int) < (i : Int) := by omega
                obtain rfl : i = j + 1 := by omega
                have HE := Lib.hid (pa_end HP.out (by rw [← HN.out]; exact hb) haj (by omega) HL.out HH.out)
                obtain ⟨wq, hwq⟩ : ∃ wq : World, wq = wc := ⟨_, rfl⟩
                subst hwq
                have hrow := Rw.row HR.out HW.out HZ.out
                have hcw : ∀ t, t < N → wq.cell? ⟨blk, off + t, none⟩ = some (.int .u8 (G t)) := fun t ht => by rw [HG.out]; exact hrow.cell (by rw [HZ.out, ← HN.out]; exact ht)
                have hfw : ∀ t, t < N → wq.frozen? ⟨blk, off + t, none⟩ = false := fun t ht => hrow.frozen (by rw [HZ.out, ← HN.out]; exact ht)
                clear hrow
                obtain ⟨v3, hy3⟩ := cell?_setCell_some (w := wq) (p := ⟨blk, off + j, none⟩) (x := .int .u8 (G a)) (q := ⟨blk, off + a, none⟩) (hcw a (by omega))
                go_wp2_with fail
                go_region
                all_goals go_wp2_with fail
                have h := (Rw.swap HR.out HW.out (i := j) (j := a) (by rw [HZ.out, ← HN.out]; omega) (by rw [HZ.out, ← HN.out]; omega)).drew
                rw [← HG.out, ← HG.out] at h
                go_ret2
                exact ⟨j, false, rfl, haj, by omega, swp dk j a, h, HE.out.1, HE.out.2.1, HE.out.2.2⟩
              · have hij3 : i < j := by
                  rcases Nat.lt_or_ge i j with h | h
                  · exact h
                  · obtain rfl : i = j := by omega
                    have e1 := HI.out (by omega)
                    have e2 := HJ.out (by omega)
                    unfold lowP at e2
                    unfold highP at e1
                    rw [e1] at e2
                    cases e2
                have hgtz : ¬ ((j : Int) < (i : Int)) := by omega
                have HS := Lib.hid (pa_swap HP.out (by rw [← HN.out]; exact hb) hai hij3 (by omega) HL.out HH.out (HJ.out (by omega)) (HI.out (by omega)))
                obtain ⟨wq, hwq⟩ : ∃ wq : World, wq = wc := ⟨_, rfl⟩
                subst hwq
                have hrow := Rw.row HR.out HW.out HZ.out
                have hcw : ∀ t, t < N → wq.cell? ⟨blk, off + t, none⟩ = some (.int .u8 (G t)) := fun t ht => by rw [HG.out]; exact hrow.cell (by rw [HZ.out, ← HN.out]; exact ht)
                have hfw : ∀ t, t < N → wq.frozen? ⟨blk, off + t, none⟩ = false := fun t ht => hrow.frozen (by rw [HZ.out, ← HN.out]; exact ht)
                clear hrow
                go_wp2_with fail
                go_region
                all_goals go_wp2_with fail
                have h := (Rw.swap HR.out HW.out (i := i) (j := j) (by rw [HZ.out, ← HN.out]; omega) (by rw [HZ.out, ← HN.out]; omega)).drew
                rw [← HG.out, ← HG.out] at h
                go_roundw
                case rel => exact ⟨i + 1, j - 1, by go_num, by congr 1; omega, by omega, by omega, by omega, swp dk i j, h, HS.out.1, HS.out.2.1, HS.out.2.2⟩
                case measure => simp [intOf] <;> omega
#print axioms partition_b
end Go.Proofs.Ytbnlkmblkokooaa
