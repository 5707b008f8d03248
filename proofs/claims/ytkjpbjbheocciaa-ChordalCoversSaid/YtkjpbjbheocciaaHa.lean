/- Contracts of setOf, slices.Index, slices.Contains, mayFollow. -/
import Derived.Test.YtkjpbjbheocciaaHole
import Derived.Test.YtkjpbjbheocciaaGf
namespace Go.Proofs.Ytkjpbjbheocciaa
open Go.RowKit

/-- a way in memory -/
theorem Ints.way {w : World} {v : Value} {l : List Nat} (h : Ints w v (castN l)) : ∃ a b off cap, v = .slice a l.length cap ∧ l.length ≤ 9223372036854775807 ∧ (0 < l.length → a = some ⟨b, off, none⟩) ∧
    ∀ i, i < l.length → w.cell? ⟨b, off + i, none⟩ = some (.int .i64 (at' l i : Nat)) := by
  obtain ⟨a, b, off, cap, h1, h2, h3, h4⟩ := Ints.graph h
  exact ⟨a, b, off, cap, h1, h2, h3, fun i hi => h4 i hi⟩
theorem setN_take {l : List Nat} {k : Nat} (h : k < l.length) : setN (l.take (k + 1)) = setN (l.take k) ||| 2 ^ at' l k := by
  rw [List.take_succ_eq_append_getElem h, setN_snoc, at_get h]
set_option maxHeartbeats 1000000 in
theorem setOf_any (l : List Nat) (hl : ∀ x ∈ l, x < 12) (v : Value) (w : World) (hv : Ints w v (castN l)) :
    Calls Try.prog 108 #[v] w fun e w' => e = .returned (.int .i64 (setN l : Nat)) ∧ w = w' := by
  obtain ⟨a, b, off, cap, rfl, hle, ha, hc⟩ := Ints.way hv
  have hix := run_ix (P := Try.prog) (t := 22) (a := a) (len := l.length) (cap := cap) (b := b) (off := off) (s := 1) Try.underlying22 (by intro w; kernel_rfl) ha
  simp only [Nat.mul_one] at hix
  have Hc := Lib.hid hc
  have Hl := Lib.hid hl
  clear ha hv hc hl
  go_enter Try.func108, Try.ntmps108
  go_wp2
  go_loopw [3, 8] (fun s i wr => ∃ k S : Nat, i = .int .i64 k ∧ s = .int .i64 S ∧ k ≤ l.length ∧ wr = w ∧ S = setN (l.take k)) (fun _ i _ => l.length - (intOf i).toNat)
  case atStart => exact ⟨0, 0, rfl, rfl, Nat.zero_le _, rfl, rfl⟩
  case round =>
    obtain ⟨k, S, rfl, rfl, hk, hwr, hS⟩ := hrel
    subst hwr
    have hS4 : S < 4096 := by rw [hS]; exact setN_lt (n := 12) (fun x hx => Hl.out x (List.mem_of_mem_take hx))
    have HS := Lib.hid hS
    clear hS
    by_cases hlt : k < l.length
    · have hc1 := Hc.out k hlt
      have hx12 : at' l k < 12 := by rw [← at_get hlt]; exact Hl.out _ (List.getElem_mem hlt)
      have HT := Lib.hid (setN_take hlt)
      obtain ⟨x, hx⟩ : ∃ x, x = at' l k := ⟨_, rfl⟩
      rw [← hx] at hc1 hx12
      obtain ⟨P, hP, p1, p2, p3⟩ := pow_name x (by omega)
      have R := Lib.hid (show S ||| P = setN (l.take (k + 1)) by rw [HT.out, ← HS.out, hP, hx])
      have hor := bits_or_nat S P (by omega) (by omega)
      have hi1 : (0 : Int) ≤ (x : Int) := by omega
      have hi2 : (x : Int) < 64 := by omega
      clear hP hx
      go_wp2
      go_roundw
      case rel => exact ⟨k + 1, S ||| P, by go_num, rfl, by omega, trivial, R.out⟩
      case measure => simp [intOf]; omega
    · obtain rfl : k = l.length := by omega
      have R := Lib.hid (show S = setN l by rw [HS.out, List.take_length])
      go_wp2
      go_ret
      exact ⟨by rw [← R.out]; rfl, rfl⟩
/-- the place of x, or -1 -/
theorem index_any (x : Int) (l : List Int) (v : Value) (w : World) (hv : Ints w v l) :
    Calls Try.prog 117 #[v, .int .i64 x] w fun e w' => ∃ i : Int, e = .returned (.int .i64 i) ∧ (0 ≤ i ↔ x ∈ l) ∧ w = w' := by
  obtain ⟨a, b, off, cap, rfl, hle, ha, hc⟩ := Ints.get hv
  have hix := run_ix (P := Try.prog) (t := 22) (a := a) (len := l.length) (cap := cap) (b := b) (off := off) (s := 1) Try.underlying22 (by intro w; kernel_rfl) ha
  simp only [Nat.mul_one] at hix
  have Hc := Lib.hid (show ∀ i, i < l.length → w.cell? ⟨b, off + i, none⟩ = some (.int .i64 (gI l i)) from fun i hi => by rw [hc i hi, gI_get hi])
  clear ha hv hc
  go_enter Try.func117, Try.ntmps117
  go_wp2
  go_loopw [8] (fun i wr => ∃ k : Nat, i = .int .i64 k ∧ k ≤ l.length ∧ wr = w ∧ ∀ q, q < k → gI l q ≠ x) (fun i _ => l.length - (intOf i).toNat)
  case atStart => exact ⟨0, rfl, Nat.zero_le _, rfl, fun q hq => by omega⟩
  case round =>
    obtain ⟨k, rfl, hk, hwr, hin⟩ := hrel
    subst hwr
    have Hin := Lib.hid hin
    clear hin
    by_cases hlt : k < l.length
    · have hc1 := Hc.out k hlt
      obtain ⟨y, hy⟩ : ∃ y, y = gI l k := ⟨_, rfl⟩
      rw [← hy] at hc1
      by_cases e : x = y
      · have R := Lib.hid (show (0 ≤ (k : Int) ↔ x ∈ l) from ⟨fun _ => by rw [e, hy, ← gI_get hlt]; exact List.getElem_mem hlt, fun _ => by omega⟩)
        have q : (x == y) = true := by simpa using e
        clear e hy
        go_wp2
        go_ret
        exact ⟨_, rfl, R.out, rfl⟩
      · have R := Lib.hid (show ∀ q, q < k + 1 → gI l q ≠ x from fun q hq h => by
          by_cases e2 : q = k
          · subst e2; exact e (by rw [hy, h])
          · exact Hin.out q (by omega) h)
        have q : (x == y) = false := by simpa using e
        clear e hy
        go_wp2
        go_roundw
        case rel => exact ⟨k + 1, by go_num, by omega, trivial, R.out⟩
        case measure => simp [intOf]; omega
    · obtain rfl : k = l.length := by omega
      have R := Lib.hid (show (0 ≤ (-1 : Int) ↔ x ∈ l) from ⟨fun h => by omega, fun h => by
        obtain ⟨i, hi, e⟩ := List.getElem_of_mem h
        rw [gI_get hi] at e
        exact absurd e (Hin.out i hi)⟩)
      go_wp2
      go_ret
      exact ⟨_, rfl, R.out, rfl⟩
theorem contains_b' (x : Int) (l : List Int) (b : Bool) (hb : decide (x ∈ l) = b) (v : Value) (w : World) (hv : Ints w v l) :
    Calls Try.prog 107 #[v, .int .i64 x] w fun e w' => e = .returned (.bool b) ∧ w = w' := by
  subst hb
  have H := Lib.hid (index_any x l v w hv)
  clear hv
  go_enter Try.func107, Try.ntmps107
  go_wp2_with fail
  refine H.out.mono ?_
  rintro e w' ⟨i, rfl, hi, rfl⟩
  have Hi := Lib.hid (show decide (0 ≤ i) = decide (x ∈ l) from decide_eq_decide.2 hi)
  clear hi H
  go_wp2_with fail
  go_ret
  exact ⟨congrArg (fun b => Ending.returned (.bool b)) Hi.out, rfl⟩
theorem mem_castN {x : Nat} {l : List Nat} : (x : Int) ∈ castN l ↔ x ∈ l := by
  unfold castN
  rw [List.mem_map]
  constructor
  · rintro ⟨a, ha, e⟩; have : a = x := by omega
    rw [← this]; exact ha
  · intro h; exact ⟨x, h, rfl⟩
theorem quiet_same {P : Program} {n : Nat} {args : Array Value} {w : World} {v : Value} (h : Calls P n args w fun e w' => e = .returned v ∧ w = w') : Calls P n args w fun e w' => e = .returned v ∧ ∃ q, w' = w.drewN q :=
  h.mono fun _ _ ⟨h1, h2⟩ => ⟨h1, 0, h2.symm⟩

set_option maxRecDepth 100000 in
set_option maxHeartbeats 4000000 in
theorem mayFollow_any {g : List Nat} (hg : Gr g) {k : Nat} (h4 : 4 ≤ k) (hk12 : k ≤ 12) (l : List Nat) (h1 : 1 ≤ l.length) (hlk : l.length < k) (hl : ∀ x ∈ l, x < g.length) (x : Nat) (hx : x < g.length) (v u : Value) (w : World) (hv : Ints w v (castN g)) (hu : Ints w u (castN l)) :
    Calls Try.prog 77 #[v, u, .int .i64 x, .int .i64 k] w fun e w' => e = .returned (.bool (decide (May g k l x))) ∧ ∃ q, w' = w.drewN q := by
  have hn12 := hg.le
  have Hset := Lib.hid (fun w hu => quiet_same (setOf_any l (fun x hx => by have := hl x hx; omega) u w hu))
  have hS4 : setN l < 4096 := by have := setN_lt hl; have := Nat.pow_le_pow_right (n := 2) (by decide) hn12; omega
  have Hu := Lib.hid hu
  have hat : ∀ i, i < l.length → at' l i < 12 := fun i hi => by have := hl _ (mem_at.2 ⟨i, hi, rfl⟩); omega
  have hnb := lt63 (hg.lt x hx) hn12
  obtain ⟨M, hM⟩ : ∃ M, l.length = M + 1 := ⟨l.length - 1, by omega⟩
  obtain ⟨a, b, off, cap, rfl, hle, ha, hc⟩ := Ints.graph hv
  obtain ⟨a', b', off', cap', rfl, hle', ha', hc'⟩ := Ints.way hu
  have hix := run_ix (P := Try.prog) (t := 27) (a := a) (len := g.length) (cap := cap) (b := b) (off := off) (s := 1) Try.underlying27 (by intro w; kernel_rfl) ha
  have hix' := run_ix (P := Try.prog) (t := 22) (a := a') (len := l.length) (cap := cap') (b := b') (off := off') (s := 1) Try.underlying22 (by intro w; kernel_rfl) ha'
  simp only [Nat.mul_one] at hix hix'
  rw [hM] at hix'
  have hix0 : ∀ w, 0 < M + 1 → (Instr.indexAt 22 (.slice a' (M + 1) cap') (.int .i64 0)).run Try.prog w = .ok (.pointer (some ⟨b', off', none⟩)) w := fun w h => by have := hix' 0 w h; simpa using this
  have hix1 : ∀ w, 1 < M + 1 → (Instr.indexAt 22 (.slice a' (M + 1) cap') (.int .i64 1)).run Try.prog w = .ok (.pointer (some ⟨b', off' + 1, none⟩)) w := fun w h => by have := hix' 1 w h; simpa using this
  have hixM := hix' M
  have hixx := hix x
  have hc0 := hc' 0 (by omega)
  rw [Nat.add_zero] at hc0
  have hcM := hc' M (by omega)
  have hcx := hc x hx
  have a0 := hat 0 (by omega)
  have aM := hat M (by omega)
  have HC1 := Lib.hid (hc' 1)
  obtain ⟨f0, hf0⟩ : ∃ f, f = at' l 0 := ⟨_, rfl⟩
  obtain ⟨fM, hfM⟩ : ∃ f, f = at' l M := ⟨_, rfl⟩
  obtain ⟨z, hz⟩ : ∃ z, z = nb g x := ⟨_, rfl⟩
  obtain ⟨S, hS⟩ : ∃ S, S = setN l := ⟨_, rfl⟩
  obtain ⟨E, hE⟩ : ∃ E, E = decide (May g k l x) := ⟨_, rfl⟩
  rw [← hf0] at hc0 a0
  rw [← hfM] at hcM aM
  rw [← hz] at hcx hnb
  rw [← hS] at hS4 Hset
  rw [← hE]
  obtain ⟨P0, hP0, p01, p02, p03⟩ := pow_name f0 (by omega)
  obtain ⟨PM, hPM, pM1, pM2, pM3⟩ := pow_name fM (by omega)
  have hand := bits_and_nat z S (by omega) (by omega)
  have hor := bits_or_nat PM P0 (by omega) (by omega)
  have i01 : (0 : Int) ≤ (f0 : Int) := by omega
  have i02 : (f0 : Int) < 64 := by omega
  have iM1 : (0 : Int) ≤ (fM : Int) := by omega
  have iM2 : (fM : Int) < 64 := by omega
  have Hf0 := Lib.hid hf0
  have HE := Lib.hid hE
  have Hcn := Lib.hid (fun b hb w hv => contains_b' (x : Int) (castN l) b hb (.slice a' (M + 1) cap') w hv)
  have HM := Lib.hid hM
  have Hu := Lib.hid (show Ints w (.slice a' (M + 1) cap') (castN l) by rw [← hM]; exact Hu.out)
  have Hset := Lib.hid (show ∀ w, Ints w (.slice a' (M + 1) cap') (castN l) → Calls Try.prog 108 #[.slice a' (M + 1) cap'] w fun e w' => e = .returned (.int .i64 (S : Nat)) ∧ ∃ q, w' = w.drewN q by rw [← hM]; exact Hset.out)
  have Hnear := Lib.hid (show nearM k l = if M + 1 = k - 1 then PM ||| P0 else PM by unfold nearM; rw [hM, Nat.add_sub_cancel, ← hfM, ← hf0, ← hP0, ← hPM])
  have Hmay := Lib.hid (show f0 < x → x ∉ l → (M + 1 = k - 1 → at' l 1 ≤ x) → E = decide (z &&& S = nearM k l) from fun h1 h2 h3 => by
    rw [hE]
    apply decide_eq_decide.2
    constructor
    · intro h; have := h.2.2.2; rwa [← hz, ← hS] at this
    · intro h; exact ⟨by omega, h2, fun e => h3 (by omega), by rw [← hz, ← hS]; exact h⟩)
  have Hno := Lib.hid (show ¬ (f0 < x ∧ x ∉ l ∧ (M + 1 = k - 1 → at' l 1 ≤ x)) → E = false from fun h => by
    rw [hE]; exact decide_eq_false fun hm => h ⟨by have := hm.1; omega, hm.2.1, fun e => hm.2.2.1 (by omega)⟩)
  have HP0 := Lib.hid hP0
  have hM12 : M < 12 := by omega
  have hMk : M + 1 < k := by omega
  rw [hM]
  clear hP0 hPM hf0 hfM hz hS hE ha hv hc ha' hu hc' hix hix' hg hat hl hM HP0 hle'
  by_cases hx0 : x ≤ f0
  · have R := Lib.hid (Hno.out fun h => by omega)
    go_enter Try.func77, Try.ntmps77
    go_wp2_with fail
    go_ret
    exact ⟨by rw [R.out]; rfl, 0, rfl⟩
  · by_cases hm : x ∈ l
    · have R := Lib.hid (Hno.out fun h => h.2.1 hm)
      have Hm := Lib.hid (decide_eq_true (mem_castN.2 hm))
      clear hm
      go_enter Try.func77, Try.ntmps77
      go_wp2_with fail
      refine (Hcn.out true Hm.out _ Hu.out).mono ?_
      rintro e w' ⟨rfl, rfl⟩
      go_wp2_with fail
      go_ret
      exact ⟨by rw [R.out]; rfl, 0, rfl⟩
    · have Hm := Lib.hid (decide_eq_false (fun h => hm (mem_castN.1 h)))
      have Hm2 := Lib.hid hm
      clear hm
      by_cases hk1 : M + 1 = k - 1
      · have hc1 := HC1.out (by have := HM.out; omega)
        obtain ⟨f1, hf1⟩ : ∃ f, f = at' l 1 := ⟨_, rfl⟩
        rw [← hf1] at hc1
        have Hf1 := Lib.hid hf1
        have qk : (((M : Int) + 1) == ((k : Int) - 1)) = true := by rw [beq_iff_eq]; omega
        have hM1 : 1 < M + 1 := by omega
        by_cases hx1 : x < f1
        · have R := Lib.hid (Hno.out fun h => by have := h.2.2 hk1; rw [← hf1] at this; omega)
          clear hf1 hk1
          go_enter Try.func77, Try.ntmps77
          go_wp2_with fail
          refine (Hcn.out false Hm.out _ Hu.out).mono ?_
          rintro e w' ⟨rfl, rfl⟩
          go_wp2_with fail
          go_ret
          exact ⟨by rw [R.out]; rfl, 0, rfl⟩
        · have R := Lib.hid (show E = decide (z &&& S = PM ||| P0) by rw [Hmay.out (by omega) Hm2.out (fun _ => by rw [← hf1]; omega), Hnear.out, if_pos hk1])
          obtain ⟨B, hB⟩ : ∃ B, B = decide (z &&& S = PM ||| P0) := ⟨_, rfl⟩
          have qz : (((z &&& S : Nat) : Int) == ((PM ||| P0 : Nat) : Int)) = B := by
            rw [hB, Bool.eq_iff_iff, beq_iff_eq, decide_eq_true_iff]; omega
          have HB := Lib.hid hB
          clear hf1 hk1 hB
          go_enter Try.func77, Try.ntmps77
          go_wp2_with fail
          refine (Hcn.out false Hm.out _ Hu.out).mono ?_
          rintro e w' ⟨rfl, rfl⟩
          go_wp2_with fail
          go_quiet ((go_at_call 108; exact Calls.quiet_of (Hset.out _ Hu.out)))
          go_wp2_with fail
          go_ret
          exact ⟨by rw [R.out, ← HB.out]; rfl, _, rfl⟩
      · have qk : (((M : Int) + 1) == ((k : Int) - 1)) = false := by rw [beq_eq_false_iff_ne]; omega
        have R := Lib.hid (show E = decide (z &&& S = PM) by rw [Hmay.out (by omega) Hm2.out (fun e => absurd e hk1), Hnear.out, if_neg hk1])
        obtain ⟨B, hB⟩ : ∃ B, B = decide (z &&& S = PM) := ⟨_, rfl⟩
        have qz : (((z &&& S : Nat) : Int) == ((PM : Nat) : Int)) = B := by
          rw [hB, Bool.eq_iff_iff, beq_iff_eq, decide_eq_true_iff]; omega
        have HB := Lib.hid hB
        clear hk1 hB
        go_enter Try.func77, Try.ntmps77
        go_wp2_with fail
        refine (Hcn.out false Hm.out _ Hu.out).mono ?_
        rintro e w' ⟨rfl, rfl⟩
        go_wp2_with fail
        go_quiet ((go_at_call 108; exact Calls.quiet_of (Hset.out _ Hu.out)))
        go_wp2_with fail
        go_ret
        exact ⟨by rw [R.out, ← HB.out]; rfl, _, rfl⟩
#print axioms mayFollow_any
end Go.Proofs.Ytkjpbjbheocciaa
