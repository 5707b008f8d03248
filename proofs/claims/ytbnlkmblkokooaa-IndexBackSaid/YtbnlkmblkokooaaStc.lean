/- The stable sort: rotation, insertion. -/
import Derived.Test.YtbnlkmblkokooaaStb
namespace Go.Proofs.Ytbnlkmblkokooaa
open Go.RowKit
open Go.Sort (PermIn SortedIn swp Ins SWO permIn_trans permIn_mono permIn_all permIn_refl swp_get swp_size swp_permIn)
/-- what an exchange does -/
def ExPost (w : World) (blk off : Nat) (lo hi : Nat) (d : Array Int) (f : Nat → Int) (e : Ending) (w' : World) : Prop :=
  e = .returned (.tuple #[]) ∧ ∃ d', Rn w blk off d' w' ∧ PermIn lo hi d d' ∧ ∀ t, t < d.size → d'[t]! = f t
set_option maxHeartbeats 4000000 in
set_option maxRecDepth 100000 in
theorem rotate_n (fv : Value) (blk off cap a m b : Nat) (d : Array Int) (w : World) (hR : RowN w blk off d) (ham : a < m) (hmb : m < b) (hb : b ≤ d.size) :
    Calls Try.prog 149 #[.slice (some ⟨blk, off, none⟩) d.size cap, .int .i64 a, .int .i64 m, .int .i64 b, fv] w (ExPost w blk off a b d (rotF a (m - a) (b - m) (fun t => d[t]!))) := by
  obtain ⟨N, hN⟩ : ∃ N, N = d.size := ⟨_, rfl⟩
  have HR := Lib.hid hR
  have HN := Lib.hid hN
  have hN1 : N < 1000000 := by rw [hN]; exact hR.2.2
  unfold ExPost
  rw [← hN] at hb
  rw [← hN]
  have HSw := Lib.hid (show ∀ (x y n : Nat) (dk : Array Int) (wr : World), dk.size = N → Rn w blk off dk wr → x + n ≤ y → y + n ≤ N → Calls Try.prog 153 #[.slice (some ⟨blk, off, none⟩) N cap, .int .i64 x, .int .i64 y, .int .i64 n, fv] wr fun e w' => e = .returned (.tuple #[]) ∧ ∃ d', Rn w blk off d' w' ∧ (∀ p q, p ≤ x → y + n ≤ q → q ≤ N → PermIn p q dk d') ∧ d'.size = N ∧ ∀ t, t < N → d'[t]! = swF x y n (fun t => dk[t]!) t from fun x y n dk wr hz hw h1 h2 => by
    have h := swapR_n fv blk off cap x y n dk wr (Rn.row hR hw (by rw [hz]; exact hN)) h1 (by rw [hz]; exact h2)
    rw [hz] at h
    refine h.mono ?_
    rintro e w' ⟨he, d', g1, g2, g3⟩
    have hp := g2 x (y + n) (Nat.le_refl _) (Nat.le_refl _) h2
    exact ⟨he, d', Rn.trans hR hw g1 hp.1, g2, hp.1.trans hz, g3⟩)
  clear hR hN
  obtain ⟨I, hI⟩ : ∃ I, I = m - a := ⟨_, rfl⟩
  obtain ⟨J, hJ⟩ : ∃ J, J = b - m := ⟨_, rfl⟩
  have hw1 : IntKind.i64.wrap ((m : Int) - (a : Int)) = (I : Int) := by rw [IntWalk.i64_in _ ⟨by omega, by omega⟩]; omega
  have hw2 : IntKind.i64.wrap ((b : Int) - (m : Int)) = (J : Int) := by rw [IntWalk.i64_in _ ⟨by omega, by omega⟩]; omega
  have hz1 : (m : Int) - (a : Int) = (I : Int) := by omega
  have hz2 : (b : Int) - (m : Int) = (J : Int) := by omega
  rw [← hI, ← hJ]
  have hI0 : 0 < I := by omega
  have hJ0 : 0 < J := by omega
  have hIa : a + I = m := by omega
  have hJb : m + J = b := by omega
  clear hI hJ
  go_enter Try.func149, Try.ntmps149
  go_wp2_with fail
  go_loopw [10, 11] (fun vi vj wr => ∃ (i j : Nat) (dk : Array Int), vi = .int .i64 i ∧ vj = .int .i64 j ∧ 0 < i ∧ 0 < j ∧ i ≤ I ∧ j ≤ J ∧ Rn w blk off dk wr ∧ PermIn a b d dk ∧ dk.size = N ∧ ∀ t, t < N → rotF a I J (fun t => d[t]!) t = rotF (m - i) i j (fun t => dk[t]!) t) (fun vi vj _ => (intOf vi).toNat + (intOf vj).toNat)
  case atStart => exact ⟨I, J, d, rfl, rfl, hI0, hJ0, Nat.le_refl _, Nat.le_refl _, Rn.start HR.out, permIn_refl _ _ _, HN.out.symm, fun t ht => by rw [show m - I = a by omega]⟩
  case round =>
    obtain ⟨i, j, dk, rfl, rfl, hi0, hj0, hi, hj, hrw, hp, hsz, hin⟩ := hrel
    have HW := Lib.hid hrw
    have HZ := Lib.hid hsz
    have HP := Lib.hid hp
    have HI := Lib.hid hin
    clear hrw hsz hin hp
    obtain ⟨x, hx⟩ : ∃ x, x = m - i := ⟨_, rfl⟩
    have hxm : x + i = m := by omega
    have hw3 : IntKind.i64.wrap ((m : Int) - (i : Int)) = (x : Int) := by rw [IntWalk.i64_in _ ⟨by omega, by omega⟩]; omega
    have hz3 : (m : Int) - (i : Int) = (x : Int) := by omega
    rw [← hx] at HI
    have hxa : a ≤ x := by omega
    clear hx
    by_cases heq : i = j
    · subst heq
      have HC := Lib.hid (HSw.out x m i dk wr HZ.out HW.out (by omega) (by omega))
      have hmi : m + i ≤ b := by omega
      go_wp2_with fail
      refine HC.out.mono ?_
      rintro e w' ⟨rfl, d', g1, g2, g3, g4⟩
      have G1 := Lib.hid g1
      have G2 := Lib.hid (g2 a b hxa hmi hb)
      have G4 := Lib.hid g4
      clear g1 g2 g3 g4
      go_wp2_with fail
      go_end0
      refine ⟨rfl, d', G1.out, permIn_trans _ _ _ _ _ HP.out G2.out, fun t ht => ?_⟩
      rw [HI.out t ht, rot_eq, hxm]
      exact G4.out t ht
    · have hij : ((i : Int) != (j : Int)) = true := by simp; omega
      by_cases hgt : j < i
      · have HC := Lib.hid (HSw.out x m j dk wr HZ.out HW.out (by omega) (by omega))
        obtain ⟨i2, hi2⟩ : ∃ i2, i2 = i - j := ⟨_, rfl⟩
        have hw4 : IntKind.i64.wrap ((i : Int) - (j : Int)) = (i2 : Int) := by rw [IntWalk.i64_in _ ⟨by omega, by omega⟩]; omega
        have hz4 : (i : Int) - (j : Int) = (i2 : Int) := by omega
        have hi2p : i2 + j = i := by omega
        have hgz : (j : Int) < (i : Int) := by omega
        have HE := Lib.hid (show ∀ f : Nat → Int, rotF x i j f = rotF (m - i2) i2 j (swF x m j f) from fun f => by rw [rot_gt hgt, hxm, ← hi2, show m - i2 = x + j by omega])
        clear hi2
        go_wp2_with fail
        refine HC.out.mono ?_
        rintro e w' ⟨rfl, d', g1, g2, g3, g4⟩
        have G1 := Lib.hid g1
        have G2 := Lib.hid (g2 a b hxa (by omega) hb)
        have G3 := Lib.hid g3
        have G4 := Lib.hid g4
        clear g1 g2 g3 g4
        go_wp2_with fail
        go_roundw
        case rel =>
          refine ⟨i2, j, d', rfl, rfl, by omega, hj0, by omega, hj, G1.out, permIn_trans _ _ _ _ _ HP.out G2.out, G3.out, fun t ht => ?_⟩
          rw [HI.out t ht, HE.out]
          unfold rotF
          repeat' split
          all_goals first | rfl | (exact (G4.out _ (by omega)).symm)
        case measure => simp [intOf] <;> omega
      · have hlt : i < j := by omega
        obtain ⟨j2, hj2⟩ : ∃ j2, j2 = j - i := ⟨_, rfl⟩
        obtain ⟨y, hy⟩ : ∃ y, y = m + j - i := ⟨_, rfl⟩
        obtain ⟨z, hz⟩ : ∃ z, z = m + j := ⟨_, rfl⟩
        have HC := Lib.hid (HSw.out x y i dk wr HZ.out HW.out (by omega) (by omega))
        have hw4 : IntKind.i64.wrap ((j : Int) - (i : Int)) = (j2 : Int) := by rw [IntWalk.i64_in _ ⟨by omega, by omega⟩]; omega
        have hz4 : (j : Int) - (i : Int) = (j2 : Int) := by omega
        have hw5 : IntKind.i64.wrap ((m : Int) + (j : Int)) = (z : Int) := by rw [IntWalk.i64_in _ ⟨by omega, by omega⟩]; omega
        have hz5 : (m : Int) + (j : Int) = (z : Int) := by omega
        have hw6 : IntKind.i64.wrap ((z : Int) - (i : Int)) = (y : Int) := by rw [IntWalk.i64_in _ ⟨by omega, by omega⟩]; omega
        have hz6 : (z : Int) - (i : Int) = (y : Int) := by omega
        have hj2p : j2 + i = j := by omega
        have hyi : y + i ≤ b := by omega
        have hgz : ¬ ((j : Int) < (i : Int)) := by omega
        have HE := Lib.hid (show ∀ f : Nat → Int, rotF x i j f = rotF (m - i) i j2 (swF x y i f) from fun f => by rw [rot_lt hlt, ← hj2, show x + j = y by omega, show m - i = x by omega])
        clear hj2 hy hz
        go_wp2_with fail
        refine HC.out.mono ?_
        rintro e w' ⟨rfl, d', g1, g2, g3, g4⟩
        have G1 := Lib.hid g1
        have G2 := Lib.hid (g2 a b hxa hyi hb)
        have G3 := Lib.hid g3
        have G4 := Lib.hid g4
        clear g1 g2 g3 g4
        go_wp2_with fail
        go_roundw
        case rel =>
          refine ⟨i, j2, d', rfl, rfl, hi0, by omega, hi, by omega, G1.out, permIn_trans _ _ _ _ _ HP.out G2.out, G3.out, fun t ht => ?_⟩
          rw [HI.out t ht, HE.out]
          unfold rotF
          repeat' split
          all_goals first | rfl | (exact (G4.out _ (by omega)).symm)
        case measure => simp [intOf] <;> omega
#print axioms rotate_n
theorem ins_startR {K : Int → Int} {a i : Nat} {d : Array Int} (h : SortedIn (ltR K) a i d) : Ins (ltR K) a i i d := ⟨fun p q hp hpq hq hpj hqj => h p q hp hpq (by omega), fun q h1 h2 => by omega⟩
/-- what sorts a range -/
def StPost (K : Int → Int) (w : World) (blk off a b : Nat) (d : Array Int) (e : Ending) (w' : World) : Prop :=
  e = .returned (.tuple #[]) ∧ ∃ d', Rn w blk off d' w' ∧ Mrg K a b d d'
set_option maxHeartbeats 4000000 in
set_option maxRecDepth 100000 in
theorem insertion_n (s : ByteArray) (fv : Value) (blk off cap a b : Nat) (d : Array Int) (w : World) (hR : RowN w blk off d) (hF : Cmpf s fv w) (hFb : ∀ g x y, fv = .func x y #[.pointer (some ⟨g, 0, none⟩)] → g ≠ blk) (hab : a ≤ b) (hb : b ≤ d.size) (hbs : b ≤ s.size) (hid : ∀ t, a ≤ t → t < b → d[t]! = (t : Int)) :
    Calls Try.prog 128 #[.slice (some ⟨blk, off, none⟩) d.size cap, .int .i64 a, .int .i64 b, fv] w (StPost (keyS s) w blk off a b d) := by
  obtain ⟨N, hN⟩ : ∃ N, N = d.size := ⟨_, rfl⟩
  obtain ⟨g, rfl, hg, hcell⟩ := hF
  have hgb := hFb g _ _ rfl
  have HR := Lib.hid hR
  have HN := Lib.hid hN
  have hN1 : N < 1000000 := by rw [hN]; exact hR.2.2
  have HC := Lib.hid (show ∀ (dk : Array Int) (wr : World) (x y : Int), Rn w blk off dk wr → 0 ≤ x → x < s.size → 0 ≤ y → y < s.size → Calls Try.prog 83 #[.int .i64 x, .int .i64 y, .pointer (some ⟨g, 0, none⟩)] wr fun e w' => e = .returned (.int .i64 (keyS s x - keyS s y)) ∧ ∃ q, w' = wr.drewN q from fun dk wr x y hw h1 h2 h3 h4 => cmp_any s g x y wr (by rw [hw.other hg hgb]; exact hcell) h1 h2 h3 h4)
  unfold StPost
  rw [← hN] at hb
  rw [← hN]
  have HId := Lib.hid hid
  clear hR hN hFb hcell hid
  go_enter Try.func128, Try.ntmps128
  go_wp2
  go_loopw [8] (fun vi wr => ∃ (i : Nat) (dk : Array Int), vi = .int .i64 i ∧ a < i ∧ i ≤ b + 1 ∧ Rn w blk off dk wr ∧ PermIn a b d dk ∧ (i ≤ b ∨ b = a) ∧ SortedIn (ltR (keyS s)) a i dk ∧ (∀ t, a ≤ t → t < i → t < b → (a : Int) ≤ dk[t]! ∧ dk[t]! < (i : Int)) ∧ ∀ t, i ≤ t → t < b → dk[t]! = (t : Int)) (fun vi _ => b + 1 - (intOf vi).toNat)
  case atStart => exact ⟨a + 1, d, by go_num, by omega, by omega, Rn.start HR.out, permIn_refl _ _ _, by omega, fun i j h1 h2 h3 => by omega, fun t h1 h2 h3 => by rw [HId.out t h1 h3]; omega, fun t h1 h2 => HId.out t (by omega) h2⟩
  case round =>
    obtain ⟨i, dk, rfl, hai, hib, hrw, hp, hib2, hso, hlo, hup⟩ := hrel
    have HW := Lib.hid hrw
    have HP := Lib.hid hp
    have HS := Lib.hid hso
    have HLo := Lib.hid hlo
    have HUp := Lib.hid hup
    clear hrw hp hso hlo hup
    by_cases hlt : i < b
    · go_wp2_with fail
      go_loopw [9] (fun vj wr2 => ∃ (j : Nat) (dj : Array Int), vj = .int .i64 j ∧ a ≤ j ∧ j ≤ i ∧ Rn w blk off dj wr2 ∧ PermIn a b d dj ∧ Ins (ltR (keyS s)) a j i dj ∧ dj[j]! = (i : Int) ∧ (∀ t, a ≤ t → t ≤ i → t ≠ j → (a : Int) ≤ dj[t]! ∧ dj[t]! < (i : Int)) ∧ ∀ t, i < t → t < b → dj[t]! = (t : Int)) (fun vj _ => (intOf vj).toNat)
      case atStart => exact ⟨i, dk, rfl, by omega, Nat.le_refl _, HW.out, HP.out, ins_startR HS.out, HUp.out i (Nat.le_refl _) hlt, fun t h1 h2 h3 => HLo.out t h1 (by omega) (by omega), fun t h1 h2 => HUp.out t (by omega) h2⟩
      case round =>
        obtain ⟨j, dj, rfl, haj, hji, hrw, hp, hins, hji2, hoth, hupj⟩ := hrel
        obtain ⟨G, hG⟩ : ∃ G : Nat → Int, ∀ t, G t = dj[t]! := ⟨fun t => dj[t]!, fun _ => rfl⟩
        have hsz : dj.size = N := by rw [hp.1, HN.out]
        have hrow := Rn.row HR.out hrw (by rw [hp.1])
        have hcw : ∀ t, t < N → wr.cell? ⟨blk, off + t, none⟩ = some (.int .i64 (G t)) := fun t ht => by rw [hG]; exact hrow.cell (by omega)
        have hfw : ∀ t, t < N → wr.frozen? ⟨blk, off + t, none⟩ = false := fun t ht => hrow.frozen (by omega)
        have HW2 := Lib.hid hrw
        have HP2 := Lib.hid hp
        have HI := Lib.hid hins
        have HG := Lib.hid hG
        have HZ := Lib.hid hsz
        have HJ := Lib.hid hji2
        have HOt := Lib.hid hoth
        have HUj := Lib.hid hupj
        clear hrw hp hins hG hrow hsz hji2 hoth hupj
        have HNext := Lib.hid (show ∀ nq, (j ≤ a ∨ ltR (keyS s) dj[j]! dj[j - 1]! = false) → ∃ (i' : Nat) (dk : Array Int), (Value.int .i64 ((i : Int) + 1)) = .int .i64 i' ∧ a < i' ∧ i' ≤ b + 1 ∧ Rn w blk off dk (wr.drewN nq) ∧ PermIn a b d dk ∧ (i' ≤ b ∨ b = a) ∧ SortedIn (ltR (keyS s)) a i' dk ∧ (∀ t, a ≤ t → t < i' → t < b → (a : Int) ≤ dk[t]! ∧ dk[t]! < (i' : Int)) ∧ ∀ t, i' ≤ t → t < b → dk[t]! = (t : Int) from fun nq hst =>
          ⟨i + 1, dj, by congr 1, by omega, by omega, HW2.out.drewN nq, HP2.out, by omega, Ins.stop (swoR _) HI.out hst, fun t h1 h2 h3 => by
            by_cases e : t = j
            · rw [e, HJ.out]; omega
            · have := HOt.out t h1 (by omega) e; omega, fun t h1 h2 => HUj.out t (by omega) h2⟩)
        by_cases hja : a < j
        · obtain ⟨j', rfl⟩ : ∃ j', j = j' + 1 := ⟨j - 1, by omega⟩
          have hjz : ((j' + 1 : Nat) : Int) - 1 = (j' : Int) := by omega
          have hwj : IntKind.i64.wrap (((j' + 1 : Nat) : Int) - 1) = (j' : Int) := by rw [IntWalk.i64_in _ ⟨by omega, by omega⟩]; omega
          have h1 := HOt.out j' (by omega) (by omega) (by omega)
          have hGj : G (j' + 1) = (i : Int) := by rw [HG.out]; exact HJ.out
          have hGj' : G j' = dj[j']! := HG.out j'
          rw [← hGj'] at h1
          have HCj := Lib.hid (fun q => HC.out dj (wr.drewN q) (G (j' + 1)) (G j') (HW2.out.drewN q) (by omega) (by omega) (by omega) (by omega))
          have hk1 := keyS_le s (G (j' + 1))
          have hk2 := keyS_le s (G j')
          have HKey := Lib.hid (show keyS s (G (j' + 1)) - keyS s (G j') < 0 ↔ ltR (keyS s) (G (j' + 1)) (G j') = true from by
            have := key_iff (keyS s) (l := G j') (r := G (j' + 1)) (fun _ => by omega) (by omega) (by omega) (by omega) (by omega)
            unfold ltR
            rw [decide_eq_true_eq, ← this]
            omega)
          obtain ⟨X, hX⟩ : ∃ X, X = keyS s (G (j' + 1)) - keyS s (G j') := ⟨_, rfl⟩
          rw [← hX] at HCj HKey
          have hjN : j' + 1 < N := by omega
          have hj'N : j' < N := by omega
          have hc1 := hcw (j' + 1) hjN
          have hc2 := hcw j' hj'N
          have hf1 := hfw (j' + 1) hjN
          have hf2 := hfw j' hj'N
          have hajz : decide ((a : Int) < (j' : Int) + 1) = true := decide_eq_true (by omega)
          have hajn : decide (a < j' + 1) = true := decide_eq_true (by omega)
          clear hk1 hk2 hX h1 hGj hGj' hcw hfw
          by_cases hX0 : X < 0
          · have hl := (HKey.out.1 hX0)
            have hXd : decide (X < 0) = true := decide_eq_true hX0
            go_wp2_with fail
            go_quiet ((go_at_call 83; exact Calls.quiet_of (HCj.out _)))
            go_wp2_with fail
            go_region
            all_goals go_wp2_with fail
            go_roundw
            case rel =>
              refine ⟨j', swp dj (j' + 1) j', by go_num, by omega, by omega, ?_, permIn_trans _ _ _ _ _ HP2.out (swp_permIn _ _ _ _ _ (by omega) (by omega) (by omega) (by omega) (by rw [HZ.out]; exact hb)), ?_, ?_, ?_, ?_⟩
              · have h := (Rn.swap HR.out (HW2.out.drewN nq) (i := j' + 1) (j := j') (by rw [HZ.out]; omega) (by rw [HZ.out]; omega)).drew
                rw [← HG.out, ← HG.out] at h
                exact h
              · exact Ins.step HI.out (by rw [← HG.out, ← HG.out]; exact hl) (by omega) (by rw [HZ.out]; omega)
              · rw [swp_get dj (by rw [HZ.out]; omega) (by rw [HZ.out]; omega), if_pos rfl]; exact HJ.out
              · intro t h1 h2 h3
                rw [swp_get dj (by rw [HZ.out]; omega) (by rw [HZ.out]; omega), if_neg h3]
                by_cases e : t = j' + 1
                · rw [if_pos e]; exact HOt.out j' (by omega) (by omega) (by omega)
                · rw [if_neg e]; exact HOt.out t h1 h2 e
              · intro t h1 h2
                rw [swp_get dj (by rw [HZ.out]; omega) (by rw [HZ.out]; omega), if_neg (by omega), if_neg (by omega)]
                exact HUj.out t h1 h2
            case measure => simp [intOf] <;> omega
          · have hl : ltR (keyS s) (G (j' + 1)) (G j') = false := by
              cases h : ltR (keyS s) (G (j' + 1)) (G j') with
              | false => rfl
              | true => exact absurd (HKey.out.2 h) hX0
            have hXd : decide (X < 0) = false := decide_eq_false hX0
            have HNx := Lib.hid (fun nq => HNext.out nq (Or.inr (by rw [← HG.out, show j' + 1 - 1 = j' by omega, ← HG.out]; exact hl)))
            go_wp2_with fail
            go_quiet ((go_at_call 83; exact Calls.quiet_of (HCj.out _)))
            go_wp2_with fail
            go_roundw
            case rel => exact HNx.out nq
            case measure => simp [intOf] <;> omega
        · have hajz : decide ((a : Int) < (j : Int)) = false := decide_eq_false (by omega)
          have hajn : decide (a < j) = false := decide_eq_false (by omega)
          have HNx := Lib.hid (fun nq => HNext.out nq (Or.inl (by omega)))
          go_wp2_with fail
          go_quiet (fail)
          go_wp2_with fail
          go_roundw
          case rel => exact HNx.out nq
          case measure => simp [intOf] <;> omega
    · go_wp2_with fail
      go_end0
      refine ⟨rfl, dk, HW.out, HP.out, srt_of ?_⟩
      rcases hib2 with h | h
      · have : i = b := by omega
        exact this ▸ HS.out
      · exact fun p q h1 h2 h3 => by omega
#print axioms insertion_n
end Go.Proofs.Ytbnlkmblkokooaa
