/- Contracts of the reference's Free, Independent, Covers. -/
import Derived.Test.YtkjpbjbheocciaaVb
import Derived.Test.YtkjpbjbheocciaaCd
namespace Go.Proofs.Ytkjpbjbheocciaa
open Go.RowKit

set_option maxHeartbeats 2000000 in
theorem freeR_any {g : List Nat} (hg : Gr g) (s : Nat) (hs : s < 4096) (v : Value) (w : World) (hv : Ints w v (castN g)) :
    Calls Try.prog 87 #[v, .int .i64 s] w fun e w' => e = .returned (.bool (decide (Indep g s))) ∧ w = w' := by
  obtain ⟨a, b, off, cap, rfl, hle, ha, hc⟩ := Ints.graph hv
  have hix := run_ix (P := Try.prog) (t := 23) (a := a) (len := g.length) (cap := cap) (b := b) (off := off) (s := 1) Try.underlying23 (by intro w; kernel_rfl) ha
  simp only [Nat.mul_one] at hix
  have Hc := Lib.hid hc
  have HG := Lib.hid hg
  have Hix := Lib.hid hix
  have hn12 := hg.le
  clear ha hv hc hg hix
  go_enter Try.func87, Try.ntmps87
  go_wp2
  go_loopw [8] (fun i wr => ∃ k : Nat, i = .int .i64 k ∧ k ≤ g.length ∧ wr = w ∧ ∀ q, q < k → s.testBit q = true → nb g q &&& s = 0) (fun i _ => g.length - (intOf i).toNat)
  case atStart => exact ⟨0, rfl, Nat.zero_le _, rfl, fun q hq => by omega⟩
  case round =>
    obtain ⟨k, rfl, hk, hwr, hin⟩ := hrel
    subst hwr
    have Hin := Lib.hid hin
    clear hin
    by_cases hlt : k < g.length
    · have hc1 := Hc.out k hlt
      have hixk := Hix.out k
      have hnb := lt63 (HG.out.lt k hlt) hn12
      have hi1 : (0 : Int) ≤ (k : Int) := by omega
      have hi2 : (k : Int) < 64 := by omega
      obtain ⟨x, hx⟩ : ∃ x, x = nb g k := ⟨_, rfl⟩
      rw [← hx] at hc1 hnb
      cases hb : s.testBit k with
      | false =>
        have R := Lib.hid (show ∀ q, q < k + 1 → s.testBit q = true → nb g q &&& s = 0 from fun q hq h => by
          by_cases e : q = k
          · subst e; simp [hb] at h
          · exact Hin.out q (by omega) h)
        have t1 := hasB_0 (s := s) (i := k) (by rw [hasB_nat]; exact hb)
        clear hb hx
        go_wp2_with fail
        go_roundw
        case rel => exact ⟨k + 1, by go_num, by omega, trivial, R.out⟩
        case measure => simp [intOf]; omega
      | true =>
        have t1 := hasB_1 (s := s) (i := k) (by rw [hasB_nat]; exact hb)
        have e1 := bits_and_nat s x (by omega) (by omega)
        by_cases h0 : s &&& x = 0
        · have R := Lib.hid (show ∀ q, q < k + 1 → s.testBit q = true → nb g q &&& s = 0 from fun q hq h => by
            by_cases e : q = k
            · subst e; rw [← hx, Nat.and_comm]; exact h0
            · exact Hin.out q (by omega) h)
          rw [h0] at e1
          clear hb h0 hx
          go_wp2_with fail
          go_roundw
          case rel => exact ⟨k + 1, by go_num, by omega, trivial, R.out⟩
          case measure => simp [intOf]; omega
        · have R := Lib.hid (indep_no (g := g) hlt hb (by rw [← hx, Nat.and_comm]; exact h0))
          obtain ⟨y, hy⟩ : ∃ y, y = s &&& x := ⟨_, rfl⟩
          rw [← hy] at e1 h0
          have q0 := bnez h0
          clear hb hx hy h0
          go_wp2_with fail
          go_ret
          exact ⟨congrArg (fun b => Ending.returned (.bool b)) R.out.symm, rfl⟩
    · obtain rfl : k = g.length := by omega
      have R := Lib.hid (show decide (Indep g s) = true from decide_eq_true fun i hi h => Hin.out i hi h)
      go_wp2
      go_ret
      exact ⟨congrArg (fun b => Ending.returned (.bool b)) R.out.symm, rfl⟩
theorem freeR_b {g : List Nat} (hg : Gr g) (s : Nat) (b : Bool) (h : decide (Indep g s) = b) (hs : s < 4096) (v : Value) (w : World) (hv : Ints w v (castN g)) :
    Calls Try.prog 87 #[v, .int .i64 s] w fun e w' => e = .returned (.bool b) ∧ ∃ q, w' = w.drewN q := by
  subst h; exact (freeR_any hg s hs v w hv).mono fun e w' h => ⟨h.1, 0, h.2.symm⟩
set_option maxRecDepth 100000 in
set_option maxHeartbeats 4000000 in
theorem indepR_best {g : List Nat} (hg : Gr g) (v : Value) (w : World) (hv : Ints w v (castN g)) :
    Calls Try.prog 39 #[v] w fun e w' => e = .returned (.int .i64 (bestTo (isI g) (2 ^ g.length) : Nat)) ∧ ∃ q, w' = w.drewN q := by
  obtain ⟨a, c, rfl⟩ := ints_slice hv
  rw [castN_length] at hv ⊢
  have Hv := Lib.hid hv
  have HG := Lib.hid hg
  have hn12 := hg.le
  obtain ⟨F, hF, f1, f2, f3⟩ := pow_name g.length hn12
  rw [← hF]
  have hl1 : (0 : Int) ≤ (g.length : Int) := by omega
  have hl2 : (g.length : Int) < 64 := by omega
  clear hv hg hF
  go_enter Try.func39, Try.ntmps39
  go_wp2_with fail
  go_loopw [3, 8] (fun m i wr => ∃ k M : Nat, i = .int .i64 k ∧ m = .int .i64 M ∧ k ≤ F ∧ (∃ q, wr = w.drewN q) ∧ M = bestTo (isI g) k) (fun _ i _ => F - (intOf i).toNat)
  case atStart => exact ⟨0, 0, rfl, rfl, Nat.zero_le _, ⟨0, rfl⟩, rfl⟩
  case round =>
    obtain ⟨k, M, rfl, rfl, hk, ⟨q0, hwr⟩, hM⟩ := hrel
    have hMk : M ≤ k := by rw [hM]; exact bestTo_le _ _
    have HM := Lib.hid hM
    have Hwr := Lib.hid hwr
    have Hb := Lib.hid (show Below w.heap.size w wr by rw [hwr]; exact bdrewN (Below.refl _ _) _)
    clear hM hwr
    by_cases hlt : k < F
    · have hk4 : k < 4096 := by omega
      have hM4 : M < 4096 := by omega
      have hp1 := pop_le k
      have hp2 := pop_le M
      obtain ⟨x, hx⟩ : ∃ x, x = pop k := ⟨_, rfl⟩
      obtain ⟨y, hy⟩ : ∃ y, y = pop M := ⟨_, rfl⟩
      rw [← hx] at hp1
      rw [← hy] at hp2
      have Hx := Lib.hid (fun w => (hx ▸ size_any k hk4 w : Calls Try.prog 83 #[.int .i64 k] w fun e w' => e = .returned (.int .i64 x) ∧ w = w'))
      have Hy := Lib.hid (fun w => (hy ▸ size_any M hM4 w : Calls Try.prog 83 #[.int .i64 M] w fun e w' => e = .returned (.int .i64 y) ∧ w = w'))
      cases hq : isI g k with
      | true =>
        have Hq := Lib.hid (show decide (Indep g k) = true from hq)
        by_cases hpop : x > y
        · have R := Lib.hid (best_hit (by rw [← HM.out, ← hx, ← hy]; exact hpop) hq).symm
          clear hx hy hq
          go_wp2_with fail
          refine (freeR_b HG.out k true Hq.out hk4 _ _ (Ints.keep Hv.out Hb.out)).mono ?_
          rintro e w1 ⟨rfl, q1, hw1⟩
          have Hw1 := Lib.hid hw1
          clear hw1
          go_wp2_with fail
          refine (Hx.out _).mono ?_
          rintro e w' ⟨rfl, rfl⟩
          go_wp2_with fail
          refine (Hy.out _).mono ?_
          rintro e w' ⟨rfl, rfl⟩
          go_wp2_with fail
          go_roundw
          case rel => exact ⟨k + 1, k, by go_num, rfl, by omega, ⟨_, by rw [Hw1.out, Hwr.out, World.drewN_drewN]⟩, R.out⟩
          case measure => simp [intOf]; omega
        · have R := Lib.hid (show M = bestTo (isI g) (k + 1) by rw [best_miss (fun h => hpop (by have := h.1; rwa [← HM.out, ← hx, ← hy] at this))]; exact HM.out)
          clear hx hy hq
          go_wp2_with fail
          refine (freeR_b HG.out k true Hq.out hk4 _ _ (Ints.keep Hv.out Hb.out)).mono ?_
          rintro e w1 ⟨rfl, q1, hw1⟩
          have Hw1 := Lib.hid hw1
          clear hw1
          go_wp2_with fail
          refine (Hx.out _).mono ?_
          rintro e w' ⟨rfl, rfl⟩
          go_wp2_with fail
          refine (Hy.out _).mono ?_
          rintro e w' ⟨rfl, rfl⟩
          go_wp2_with fail
          go_roundw
          case rel => exact ⟨k + 1, M, by go_num, rfl, by omega, ⟨_, by rw [Hw1.out, Hwr.out, World.drewN_drewN]⟩, R.out⟩
          case measure => simp [intOf]; omega
      | false =>
        have R := Lib.hid (show M = bestTo (isI g) (k + 1) by rw [best_miss (fun h => by rw [hq] at h; simp at h)]; exact HM.out)
        have Hq := Lib.hid (show decide (Indep g k) = false from hq)
        clear hx hy hq
        go_wp2_with fail
        refine (freeR_b HG.out k false Hq.out hk4 _ _ (Ints.keep Hv.out Hb.out)).mono ?_
        rintro e w1 ⟨rfl, q1, hw1⟩
        have Hw1 := Lib.hid hw1
        clear hw1
        go_wp2_with fail
        go_roundw
        case rel => exact ⟨k + 1, M, by go_num, rfl, by omega, ⟨_, by rw [Hw1.out, Hwr.out, World.drewN_drewN]⟩, R.out⟩
        case measure => simp [intOf]; omega
    · obtain rfl : k = F := by omega
      go_wp2_with fail
      go_ret
      exact ⟨by rw [← HM.out]; rfl, _, Hwr.out⟩

/-- the sets before k together -/
def orTo (L : List Nat) (k : Nat) : Nat := (L.take k).foldl (· ||| ·) 0
theorem orTo_step {L : List Nat} {k : Nat} (h : k < L.length) : orTo L (k + 1) = orTo L k ||| at' L k := by
  unfold orTo
  rw [List.take_succ_eq_append_getElem h, List.foldl_append, at_get h]; rfl
theorem foldl_or_bit (L : List Nat) : ∀ (s i : Nat), (L.foldl (· ||| ·) s).testBit i = (s.testBit i || L.any fun c => c.testBit i) := by
  induction L with
  | nil => intro s i; simp
  | cons c L ih => intro s i; rw [List.foldl_cons, ih, Nat.testBit_or, List.any_cons, Bool.or_assoc]
theorem orTo_bit {L : List Nat} {k i : Nat} : (orTo L k).testBit i = true ↔ ∃ c ∈ L.take k, c.testBit i = true := by
  unfold orTo
  rw [foldl_or_bit, Nat.zero_testBit, Bool.false_or, List.any_eq_true]
/-- rising cliques that have each node once -/
structure IsCover (g L : List Nat) : Prop where
  row : ∀ i, i < L.length → (1 ≤ at' L i ∧ at' L i < 2 ^ g.length) ∧ Cliq g (at' L i) ∧ orTo L i &&& at' L i = 0 ∧ (0 < i → at' L (i - 1) < at' L i)
  all : orTo L L.length = 2 ^ g.length - 1
theorem orTo_lt {g L : List Nat} (h : IsCover g L) : ∀ k, k ≤ L.length → orTo L k < 2 ^ g.length
  | 0, _ => Nat.two_pow_pos _
  | k + 1, hk => by
    rw [orTo_step (by omega)]
    exact Nat.or_lt_two_pow (orTo_lt h k (by omega)) (h.row k (by omega)).1.2
set_option maxRecDepth 100000 in
set_option maxHeartbeats 4000000 in
theorem coversR_any {g : List Nat} (hg : Gr g) {L : List Nat} (hL : IsCover g L) (v u : Value) (w : World) (hv : Ints w v (castN g)) (hu : Ints w u (castN L)) :
    Calls Try.prog 40 #[v, u] w fun e w' => e = .returned (.bool true) ∧ ∃ q, w' = w.drewN q := by
  have Hv := Lib.hid hv
  obtain ⟨a, c, rfl⟩ := ints_slice hv
  rw [castN_length] at Hv ⊢
  have hg12 := hg.le
  have HG := Lib.hid hg
  obtain ⟨a', b', off', cap', rfl, hle', ha', hc'⟩ := Ints.way hu
  have hix' := run_ix (P := Try.prog) (t := 22) (a := a') (len := L.length) (cap := cap') (b := b') (off := off') (s := 1) Try.underlying22 (by intro w; kernel_rfl) ha'
  simp only [Nat.mul_one] at hix'
  have Hc' := Lib.hid hc'
  have Hix' := Lib.hid hix'
  have HL := Lib.hid hL
  have hl1 : (0 : Int) ≤ (g.length : Int) := by omega
  have hl2 : (g.length : Int) < 64 := by omega
  have Hlt := Lib.hid (fun k hk => lt63 (orTo_lt hL k hk) hg12)
  have Hall := Lib.hid hL.all
  have Hrow := Lib.hid hL.row
  obtain ⟨F, hF, f1, f2, f3⟩ := pow_name g.length hg12
  rw [← hF] at Hall Hrow
  clear hv hu hc' hix' ha' hL hg hF
  go_enter Try.func40, Try.ntmps40
  go_wp2_with fail
  go_loopw [5, 10] (fun s i wr => ∃ k U : Nat, i = .int .i64 k ∧ s = .int .i64 U ∧ k ≤ L.length ∧ (∃ q, wr = w.drewN q) ∧ U = orTo L k) (fun _ i _ => L.length - (intOf i).toNat)
  case atStart => exact ⟨0, 0, rfl, rfl, Nat.zero_le _, ⟨0, rfl⟩, rfl⟩
  case round =>
    obtain ⟨k, U, rfl, rfl, hk, ⟨n0, hwr⟩, hU⟩ := hrel
    have hU4 : U < 4096 := by rw [hU]; exact Hlt.out k hk
    have HU := Lib.hid hU
    have Hwr := Lib.hid hwr
    have Hb := Lib.hid (show Below w.heap.size w wr by rw [hwr]; exact bdrewN (Below.refl _ _) _)
    clear hU hwr
    by_cases hlt : k < L.length
    · have hck := Below.keep Hb.out (Hc'.out k hlt)
      have hixk := Hix'.out k
      have hr := Hrow.out k hlt
      have R := Lib.hid (show U ||| at' L k = orTo L (k + 1) by rw [orTo_step hlt, HU.out])
      rw [← HU.out] at hr
      have Hprev := Lib.hid (show 0 < k → wr.cell? ⟨b', off' + (k - 1), none⟩ = some (.int .i64 (at' L (k - 1) : Nat)) from fun h => Below.keep Hb.out (Hc'.out (k - 1) (by omega)))
      obtain ⟨x, hx⟩ : ∃ x, x = at' L k := ⟨_, rfl⟩
      rw [← hx] at hck hr R
      obtain ⟨⟨h1, h2⟩, h3, h4, h5⟩ := hr
      have hx4 : x < 4096 := by omega
      have hcl := Lib.hid (fun v w hv => isCliqueR_b HG.out x true (decide_eq_true h3) hx4 v w hv)
      have hand := bits_and_nat U x (by omega) (by omega)
      rw [h4] at hand
      have hor := bits_or_nat U x (by omega) (by omega)
      have hx1 : ¬ (x : Int) < 1 := by omega
      have hx2 : ¬ (x : Int) ≥ (F : Int) := by omega
      have H5 := Lib.hid h5
      clear hx h1 h2 h3 h4 h5
      by_cases h0 : 0 < k
      · have hp := Hprev.out h0
        have hixp := Hix'.out (k - 1)
        obtain ⟨y, hy⟩ : ∃ y, y = at' L (k - 1) := ⟨_, rfl⟩
        have hxy : y < x := by rw [hy]; exact H5.out h0
        rw [← hy] at hp
        have hk1 : IntKind.i64.wrap ((k : Int) - 1) = ((k - 1 : Nat) : Int) := by rw [IntWalk.i64_in _ ⟨by omega, by omega⟩]; omega
        have hk2 : k - 1 < L.length := by omega
        have hk3 : (k : Int) > 0 := by omega
        have hyx : ¬ (y : Int) ≥ (x : Int) := by omega
        clear hy
        go_wp2_with fail
        refine (hcl.out _ _ (Ints.keep Hv.out Hb.out)).mono ?_
        rintro e w1 ⟨rfl, q1, hw1⟩
        have Hw1 := Lib.hid hw1
        have hck1 := Below.keep (show Below wr.heap.size wr w1 by rw [hw1]; exact bdrewN (Below.refl _ _) _) hck
        have hp1 := Below.keep (show Below wr.heap.size wr w1 by rw [hw1]; exact bdrewN (Below.refl _ _) _) hp
        clear hw1
        go_wp2_with fail
        go_roundw
        case rel => exact ⟨k + 1, U ||| x, by go_num, rfl, by omega, ⟨_, by rw [Hw1.out, Hwr.out, World.drewN_drewN]⟩, R.out⟩
        case measure => simp [intOf]; omega
      · obtain rfl : k = 0 := by omega
        have hix0 : ∀ w, (Instr.indexAt 22 (.slice a' L.length cap') (.int .i64 0)).run Try.prog w = .ok (.pointer (some ⟨b', off', none⟩)) w := fun w => by have := Hix'.out 0 w hlt; simpa using this
        simp only [Nat.add_zero] at hck
        clear hixk
        go_wp2_with fail
        refine (hcl.out _ _ (Ints.keep Hv.out Hb.out)).mono ?_
        rintro e w1 ⟨rfl, q1, hw1⟩
        have Hw1 := Lib.hid hw1
        clear hw1
        go_wp2_with fail
        go_roundw
        case rel => exact ⟨0 + 1, U ||| x, by go_num, rfl, by omega, ⟨_, by rw [Hw1.out, Hwr.out, World.drewN_drewN]⟩, R.out⟩
        case measure => simp [intOf]; omega
    · obtain rfl : k = L.length := by omega
      have R := Lib.hid (show U = F - 1 by rw [HU.out]; exact Hall.out)
      have q : ((U : Int) == (F : Int) - 1) = true := by rw [beq_iff_eq]; have := R.out; omega
      go_wp2_with fail
      go_ret
      exact ⟨rfl, _, Hwr.out⟩
#print axioms coversR_any
#print axioms indepR_best
end Go.Proofs.Ytkjpbjbheocciaa
