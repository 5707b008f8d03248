/- Contract of Mine; what follows from its base. -/
import Derived.Test.YtnidalbfmicoiaaWalkI
namespace Go.Proofs.Ytnidalbfmicoiaa
open Go.RowKit

/-- the closure that a table has -/
def tcl (R : List (List Int)) (F s : Nat) : Nat := mcl (agrs R R.length) (F - 1) s

theorem testBit_mclTo {A : List Nat} {F1 s i : Nat} : ∀ k, k ≤ A.length → ((mclTo A F1 s k).testBit i = true ↔ F1.testBit i = true ∧ ∀ j (h : j < A.length), j < k → Sub s A[j] → A[j].testBit i = true)
  | 0, _ => by simp [mclTo_zero]
  | k + 1, h => by
    have ih := testBit_mclTo (A := A) (F1 := F1) (s := s) (i := i) k (by omega)
    rw [mclTo_succ (by omega)]
    by_cases hS : Sub s A[k]
    · rw [if_pos hS, Nat.testBit_and, Bool.and_eq_true, ih]
      constructor
      · rintro ⟨⟨a, b⟩, c⟩
        refine ⟨a, fun j hj hjk hs => ?_⟩
        by_cases e : j = k
        · subst e; exact c
        · exact b j hj (by omega) hs
      · rintro ⟨a, b⟩
        exact ⟨⟨a, fun j hj hjk => b j hj (by omega)⟩, b k (by omega) (by omega) hS⟩
    · rw [if_neg hS, ih]
      constructor
      · rintro ⟨a, b⟩
        refine ⟨a, fun j hj hjk hs => ?_⟩
        by_cases e : j = k
        · subst e; exact absurd hs hS
        · exact b j hj (by omega) hs
      · rintro ⟨a, b⟩
        exact ⟨a, fun j hj hjk => b j hj (by omega)⟩
theorem testBit_mcl {A : List Nat} {F1 s i : Nat} : (mcl A F1 s).testBit i = true ↔ F1.testBit i = true ∧ ∀ e ∈ A, Sub s e → e.testBit i = true := by
  unfold mcl
  rw [testBit_mclTo _ (Nat.le_refl _)]
  constructor
  · rintro ⟨a, b⟩
    refine ⟨a, fun e he hs => ?_⟩
    obtain ⟨j, hj, rfl⟩ := List.getElem_of_mem he
    exact b j hj hj hs
  · rintro ⟨a, b⟩
    exact ⟨a, fun j hj _ hs => b _ (List.getElem_mem hj) hs⟩

set_option maxRecDepth 100000 in
theorem mine_F {m F : Nat} (h1 : 1 ≤ m) (h8 : m ≤ 8) (hF : F = 2 ^ m) (R : List (List Int)) (hR : TableP (m : Int) R) (v : Value) (w : World) (hv : Rows w v R) :
    Calls Try.prog 48 #[.int .i64 m, v] w fun e w' => ∃ v', e = .returned (.tuple #[v', .int .i64 0]) ∧ Deps w' v' (castD (critTo (tcl R F) F)) ∧ Below w.heap.size w w' := by
  have Hv := Lib.hid hv
  have hp := pow_small m h8
  have hp1 := Nat.two_pow_pos m
  rw [← hF] at hp hp1
  have H1 := Lib.hid (show ValidP m [] [] from validP_nat (l := []) h1 h8 (by simp) (fun d hd => by simp at hd) (t := []) (by simp))
  have H2 := Lib.hid (decide_eq_true hR)
  obtain ⟨h60, hlen⟩ := hR.nat
  have Hlen := Lib.hid hlen
  have Halt := Lib.hid (fun e he => agr_lt (R := R) (n := m) (e := e) hlen he)
  have Htc := Lib.hid (show ∀ k, k < F → tcl R F k < F from fun k _ => by have := mcl_le (agrs R R.length) (F - 1) k; unfold tcl; omega)
  have HF := Lib.hid hF
  have hb0 := below_alloc w (.cells #[.int .i64 (m : Int)] 3)
  have c0 := cell_new w #[.int .i64 (m : Int)] 3 0
  clear hv hR hlen hF
  go_enter Try.func48, Try.ntmps48
  go_wp2_with fail
  generalize w.alloc (.cells #[.int .i64 (m : Int)] 3) = w0 at *
  have Hb0 := Lib.hid hb0
  have C0 := Lib.hid c0
  clear hb0
  refine (valid_yes (by exact deps_nil _) (by exact ints_nil _) H1.out).mono ?_
  rintro e w1 ⟨rfl, hb1⟩
  have Hb1 := Lib.hid hb1
  replace c0 := Below.keep hb1 C0.out
  clear hb1
  go_wp2_with fail
  refine (validTable_any m R v _ (Rows.keep Hv.out (Below.tr Hb0.out Hb1.out))).mono ?_
  rintro e w2 ⟨rfl, rfl⟩
  rw [H2.out]
  go_wp2_with fail
  refine (agreements_any R m h8 Hlen.out h60 v _ (Rows.keep Hv.out (Below.tr Hb0.out Hb1.out))).mono ?_
  rintro e w3 ⟨u, rfl, hu, hb3⟩
  have Hb3 := Lib.hid (Below.tr Hb1.out hb3)
  have hu' := hu.ints
  obtain ⟨a, b, off, cap, rfl, -⟩ := Ints.get hu'
  have Hu := Lib.hid hu'
  replace c0 := Below.keep Hb3.out C0.out
  have e0 : (List.map (fun x : Nat => (x : Int)) (agrs R R.length)).length = (agrs R R.length).length := by simp
  rw [e0] at Hu
  have cA : (w3.alloc (.cells #[.slice a (agrs R R.length).length cap] 56)).cell? ⟨w.heap.size, 0, none⟩ = some (.int .i64 (m : Int)) := Below.keep (below_alloc _ _) c0
  have cB : (w3.alloc (.cells #[.slice a (agrs R R.length).length cap] 56)).cell? ⟨w3.heap.size, 0, none⟩ = some (.slice a (agrs R R.length).length cap) := cell_new _ _ _ _
  have Hfn := Lib.hid (show ClosFn2 85 (.pointer (some ⟨w.heap.size, 0, none⟩)) (.pointer (some ⟨w3.heap.size, 0, none⟩)) (tcl R F) F (w3.alloc (.cells #[.slice a (agrs R R.length).length cap] 56)) from
    fun k hk w' hb => mine1_any HF.out h8 hp (agrs R R.length) (fun e he => by have := Halt.out e he; have := HF.out; omega) k _ _ (by omega) _ w' (Below.keep hb cA) (Below.keep hb cB) (Ints.keep Hu.out (Below.tr (below_alloc _ _) hb)))
  clear hb3 hu hu' e0 cB
  go_wp2_with fail
  refine (critical_any2 _ _ (tcl R F) m F h8 HF.out hp hp1 Htc.out _ Hfn.out).mono ?_
  rintro e w4 ⟨v', rfl, hd, hb4⟩
  go_wp2_with fail
  go_ret2
  exact ⟨_, rfl, hd, Below.tr Hb0.out (Below.tr Hb3.out (Below.tr (below_alloc _ _) hb4))⟩
theorem mine_bad (n : Int) (R : List (List Int)) (v : Value) (w : World) (hv : Rows w v R) (hbad : ¬ TblP n R) :
    Calls Try.prog 48 #[.int .i64 n, v] w fun e w' => e = .returned (.tuple #[.slice none 0 0, .int .i64 2]) ∧ Below w.heap.size w w' := by
  have Hv := Lib.hid hv
  by_cases h1 : ValidP n [] []
  · have H1 := Lib.hid h1
    have H2 := Lib.hid (show decide (TableP n R) = false from decide_eq_false fun h => hbad ⟨⟨h1.1.1, h1.1.2.1⟩, h⟩)
    have c0 := cell_new w #[.int .i64 n] 3 0
    clear hv hbad h1
    go_enter Try.func48, Try.ntmps48
    go_wp2_with fail
    refine (valid_yes (by exact deps_nil _) (by exact ints_nil _) H1.out).mono ?_
    rintro e w1 ⟨rfl, hb1⟩
    have Hb1 := Lib.hid (Below.tr (below_alloc _ _) hb1)
    replace c0 := Below.keep hb1 c0
    clear hb1
    go_wp2_with fail
    refine (validTable_any n R v _ (Rows.keep Hv.out Hb1.out)).mono ?_
    rintro e w2 ⟨rfl, rfl⟩
    rw [H2.out]
    go_wp2_with fail
    go_ret2
    exact ⟨rfl, Hb1.out⟩
  · have H1 := Lib.hid h1
    clear hv hbad h1
    go_enter Try.func48, Try.ntmps48
    go_wp2_with fail
    refine (valid_no (by exact deps_nil _) (by exact ints_nil _) H1.out).mono ?_
    rintro e w1 ⟨rfl, hb1⟩
    have Hb1 := Lib.hid (Below.tr (below_alloc _ _) hb1)
    clear hb1
    go_wp2_with fail
    go_ret2
    exact ⟨rfl, Hb1.out⟩

/-- a closure on the sets below F -/
structure IsCl (c : Nat → Nat) (F : Nat) : Prop where
  lt : ∀ k, k < F → c k < F
  ext : ∀ k, k < F → Sub k (c k)
  mono : ∀ k j, k < F → j < F → Sub k j → Sub (c k) (c j)
  idem : ∀ k, k < F → c (c k) = c k
theorem critTo_mono {c : Nat → Nat} : ∀ {k j : Nat} {d : DepN}, j ≤ k → d ∈ critTo c j → d ∈ critTo c k
  | 0, j, d, hj, h => by obtain rfl : j = 0 := by omega
                         exact h
  | k + 1, j, d, hj, h => by
    by_cases e : j = k + 1
    · subst e; exact h
    · have := critTo_mono (k := k) (by omega) h
      rw [critTo]
      split
      · exact List.mem_append_left _ this
      · exact this
theorem critTo_form {c : Nat → Nat} : ∀ {k : Nat} {d : DepN}, d ∈ critTo c k → d.1 < k ∧ d.2 = c d.1
  | 0, d, h => by simp [critTo] at h
  | k + 1, d, h => by
    rw [critTo] at h
    split at h
    · rcases List.mem_append.1 h with h | h
      · have := critTo_form h; exact ⟨by omega, this.2⟩
      · simp at h; subst h; exact ⟨by show k < k + 1; omega, rfl⟩
    · have := critTo_form h; exact ⟨by omega, this.2⟩
/-- what follows from the base is what the closure says -/
theorem cl_critTo {c : Nat → Nat} {F s m : Nat} (hm : F = 2 ^ m) (hF : F ≤ 256) (hc : IsCl c F) (hs : s < F) : cl (critTo c F) s = c s := by
  have hlt := hc.lt s hs
  have hal : AllLt (critTo c F) 256 := fun d hd => by have := critTo_lt hc.lt F (Nat.le_refl _) d hd; omega
  symm
  refine cl_unique hal (by omega) (hc.ext s hs) ?_ ?_ (by omega)
  · intro d hd h
    have hd' := critTo_form hd
    have := hc.mono d.1 (c s) hd'.1 hlt h
    rw [hc.idem s hs, ← hd'.2] at this
    exact this
  · intro t hst hcl
    -- t is closed under the base: then so is every part of it that is ..
    have key : ∀ u, u < F → Clsd (critTo c F) u → c u = u := fun u hu hcu => by
      by_cases e : c u = u
      · exact e
      · have hcr : IsCrit c (critTo c u) u := ⟨e, fun d hd h => hcu d (critTo_mono (by omega) hd) h⟩
        have hm : (u, c u) ∈ critTo c F := critTo_mono (j := u + 1) (by omega) (by rw [critTo, if_pos hcr]; simp)
        exact (hcu _ hm (Sub.refl u)).antisymm (hc.ext u hu)
    have hp := Nat.two_pow_pos m
    have subF : ∀ x, x < F → Sub x (F - 1) := fun x hx => by rw [hm]; exact sub_full (by omega)
    have andl : Sub (t &&& (F - 1)) t := sub_iff.2 fun i hi => by rw [Nat.testBit_and, Bool.and_eq_true] at hi; exact hi.1
    have into : ∀ x, Sub x t → x < F → Sub x (t &&& (F - 1)) := fun x hx hxF => sub_iff.2 fun i hi => by
      rw [Nat.testBit_and, sub_iff.1 hx i hi, sub_iff.1 (subF x hxF) i hi]; rfl
    have hu : t &&& (F - 1) < F := by have := Nat.and_le_right (n := t) (m := F - 1); omega
    have hcu : Clsd (critTo c F) (t &&& (F - 1)) := fun d hd h => into d.2 (hcl d hd (h.trans andl)) (critTo_lt hc.lt F (Nat.le_refl _) d hd).2
    have h1 := hc.mono s _ hs hu (into s hst hs)
    rw [key _ hu hcu] at h1
    exact h1.trans andl

/-- the closure of a table is one -/
theorem tcl_isCl {R : List (List Int)} {m F : Nat} (hF : F = 2 ^ m) : IsCl (tcl R F) F := by
  have hp := Nat.two_pow_pos m
  have full : ∀ x i, x < F → x.testBit i = true → (F - 1).testBit i = true := fun x i hx hi => by
    have : Sub x (F - 1) := by rw [hF]; exact sub_full (by omega)
    exact sub_iff.1 this i hi
  have ext : ∀ k, k < F → Sub k (tcl R F k) := fun k hk => sub_iff.2 fun i hi => testBit_mcl.2 ⟨full k i hk hi, fun e _ hs => sub_iff.1 hs i hi⟩
  have lt : ∀ k, k < F → tcl R F k < F := fun k _ => by have := mcl_le (agrs R R.length) (F - 1) k; unfold tcl; omega
  refine ⟨lt, ext, fun k j _ _ h => sub_iff.2 fun i hi => ?_, fun k hk => ?_⟩
  · have hi := testBit_mcl.1 hi
    exact testBit_mcl.2 ⟨hi.1, fun e he hs => hi.2 e he (h.trans hs)⟩
  · refine Sub.antisymm (sub_iff.2 fun i hi => ?_) (ext _ (lt k hk))
    have hi := testBit_mcl.1 hi
    exact testBit_mcl.2 ⟨hi.1, fun e he hs => hi.2 e he (sub_iff.2 fun q hq => (testBit_mcl.1 hq).2 e he hs)⟩
/-- a dependency holds in a table exactly if the closure says so -/
theorem holdsR_tcl {R : List (List Int)} {F s t m : Nat} (hF : F = 2 ^ m) (ht : t < F) : HoldsR R s t ↔ Sub t (tcl R F s) := by
  have hp := Nat.two_pow_pos m
  have full : Sub t (F - 1) := by rw [hF]; exact sub_full (by omega)
  constructor
  · intro h
    exact sub_iff.2 fun i hi => testBit_mcl.2 ⟨sub_iff.1 full i hi, fun e he hs => sub_iff.1 (h e he hs) i hi⟩
  · intro h e he hs
    exact sub_iff.2 fun i hi => (testBit_mcl.1 (sub_iff.1 h i hi)).2 e he hs
end Go.Proofs.Ytnidalbfmicoiaa
