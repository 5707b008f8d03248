/- Contract of Danger. -/
import Derived.Test.YtpehbffkplmfjaaSnw
import Derived.Test.YtpehbffkplmfjaaSnh
namespace Go.Proofs.Ytpehbffkplmfjaa
open Go.RowKit
set_option maxRecDepth 100000 in
set_option maxHeartbeats 4000000 in
theorem danger_bad {l : List HOp} (hn : ¬ ValidH l) (v : Value) (w : World) (hv : Ops w v l) :
    Calls Try.prog 34 #[v] w fun e w' => e = .returned (.tuple #[.slice none 0 0, .int .i64 2]) ∧ Below w.heap.size w w' := by
  have HV := Lib.hid (valid_any l v w hv)
  rw [decide_eq_false hn] at HV
  obtain ⟨a, c, rfl⟩ := ops_slice hv
  clear hv hn
  go_enter Try.func34, Try.ntmps34
  go_wp2_with fail
  refine HV.out.mono ?_
  rintro e w1 ⟨rfl, hb1⟩
  have Hb1 := Lib.hid hb1
  clear hb1
  go_wp2_with fail
  go_ret2
  exact ⟨rfl, Hb1.out⟩
theorem dgX_nil {h : List NOp} (i : Nat) : dgX h [] i = [] := by simp [dgX]
theorem dgY_nil {h : List NOp} (x j : Nat) : dgY h [] x j = [] := by simp [dgY]
theorem dgY_zero {h : List NOp} (l : List Nat) (x : Nat) : dgY h l x 0 = [] := by simp [dgY]
/-- what the pairs keep -/
def DgI (h : List NOp) (l : List Nat) (w4 : World) (i j : Nat) (w' : World) : Prop := (i < l.length ∨ j = 0) ∧ ∃ v, Dk w4 w' v (dgX h l i ++ dgY h l (l.getD i 0) j)
theorem dgI_inv {w4 : World} {b ps : Nat} {h : List NOp} {l : List Nat} {u : Value} (s : SnB w4 b h (snW h h.length) (snR h h.length) u) (hin : Ints w4 u (castN l)) (hp : w4.cell? ⟨ps, 0, none⟩ = some (.pointer (some ⟨b, 0, none⟩)))
    (h7 : ∀ x, x ∈ l → x < 7) (hl : l.length ≤ 7) (hW : ∀ x, snW h h.length x < 128) (hF : ∀ x, snR h h.length x < 128) :
    Inv 70 (.pointer (some ⟨ps, 0, none⟩)) (.pointer (some ⟨w4.heap.size, 0, none⟩)) b u l (DgI h l w4) :=
    { ent := fun x y w => entDg _ _ x y w
      step := fun i j w' hI hi hj hne => by
        obtain ⟨_, v, hk⟩ := hI
        have h1 := dgX_le (h := h) (i := i) hl
        have h2 := dgY_le (h := h) (x := l.getD i 0) (j := j) hl
        refine (danger1_any s hin hp h7 hl hW hF hk (by rw [List.length_append]; omega) (getD_mem hi) (getD_mem hj) hne).mono ?_
        rintro e w'' ⟨rfl, v', hk'⟩
        refine ⟨rfl, .inl hi, v', ?_⟩
        rw [dgY_step hj, ← List.append_assoc]; exact hk'
      skip := fun i j w' hI hi hj he => by
        obtain ⟨_, v, hk⟩ := hI
        refine ⟨.inl hi, v, ?_⟩
        rw [dgY_step hj, dgZ_no (by rw [he]; exact fun q => q.1.1 rfl), List.append_nil]; exact hk
      next := fun i w' hI => by
        obtain ⟨h1, v, hk⟩ := hI
        refine ⟨.inr rfl, v, ?_⟩
        rw [dgY_zero, List.append_nil]
        by_cases e : i < l.length
        · rw [dgX_step e]; exact hk
        · have : l = [] := List.eq_nil_of_length_eq_zero (by omega)
          subst this
          rw [dgX_nil, dgY_nil] at hk
          rw [dgX_nil]; exact hk
      list := fun i j w' hI => by
        obtain ⟨_, v, hk⟩ := hI
        exact ⟨(show SnB w' b h _ _ u from Blk.keep s hk.b).li, hin.keep hk.b⟩ }
set_option maxRecDepth 100000 in
set_option maxHeartbeats 8000000 in
theorem danger_not {h : List NOp} (hh : VH h) (hP : ¬ AllP h) (v : Value) (w : World) (hv : Ops w v (castO h)) :
    Calls Try.prog 34 #[v] w fun e w' => e = .returned (.tuple #[.slice none 0 0, .int .i64 7]) ∧ Below w.heap.size w w' := by
  have HV := Lib.hid (valid_any (castO h) v w hv)
  rw [decide_eq_true (valid_of hh)] at HV
  have HS := Lib.hid (fun (w' : World) (hb : Below w.heap.size w w') => snapshotsOf_any hh v w' (Ops.keep hv hb))
  have HW := Lib.hid (snW_lt hh h.length (Nat.le_refl _))
  have Hl := Lib.hid (comN_le h 7)
  obtain ⟨a, c, rfl⟩ := ops_slice hv
  clear hv hh
  go_enter Try.func34, Try.ntmps34
  go_wp2_with fail
  refine HV.out.mono ?_
  rintro e w1 ⟨rfl, hb1⟩
  have Hb1 := Lib.hid hb1
  have HS1 := Lib.hid (HS.out w1 hb1)
  clear hb1 HV HS
  go_wp2_with fail
  refine HS1.out.mono ?_
  rintro e w2 ⟨b, u, rfl, _, hs, hi, hb2⟩
  have HA := Lib.hid (fun w' (hb : Below w2.heap.size w2 w') => allowed_any (show SnB w' b h _ _ u from Blk.keep hs hb) (hi.keep hb) (fun x hx => comN_lt hx) Hl.out HW.out)
  have Hb2 := Lib.hid (Below.tr Hb1.out hb2)
  clear hs hi hb2 HS1
  go_wp2_with fail
  refine (HA.out _ (below_alloc _ _)).mono ?_
  rintro e w3 ⟨B, rfl, hB, hb3⟩
  have HB := Lib.hid hB
  have Hb3 := Lib.hid (Below.tr Hb2.out (Below.tr (below_alloc _ _) hb3))
  clear hB hb3 HA
  cases B with
  | true => exact absurd (HB.out.1 rfl) hP
  | false =>
    go_wp2_with fail
    go_ret2
    exact ⟨rfl, Hb3.out⟩
set_option maxRecDepth 100000 in
set_option maxHeartbeats 8000000 in
theorem danger_all {h : List NOp} (hh : VH h) (hP : AllP h) (v : Value) (w : World) (hv : Ops w v (castO h)) :
    Calls Try.prog 34 #[v] w fun e w' => ∃ v', e = .returned (.tuple #[v', .int .i64 0]) ∧ Ops w' v' (castO (dgN h)) ∧ Below w.heap.size w w' := by
  have HV := Lib.hid (valid_any (castO h) v w hv)
  rw [decide_eq_true (valid_of hh)] at HV
  have HS := Lib.hid (fun (w' : World) (hb : Below w.heap.size w w') => snapshotsOf_any hh v w' (Ops.keep hv hb))
  have HW := Lib.hid (snW_lt hh h.length (Nat.le_refl _))
  have HR := Lib.hid (snR_lt hh h.length (Nat.le_refl _))
  have Hl := Lib.hid (comN_le h 7)
  obtain ⟨a, c, rfl⟩ := ops_slice hv
  clear hv hh
  go_enter Try.func34, Try.ntmps34
  go_wp2_with fail
  refine HV.out.mono ?_
  rintro e w1 ⟨rfl, hb1⟩
  have Hb1 := Lib.hid hb1
  have HS1 := Lib.hid (HS.out w1 hb1)
  clear hb1 HV HS
  go_wp2_with fail
  refine HS1.out.mono ?_
  rintro e w2 ⟨b, u, rfl, _, hs, hi, hb2⟩
  have HA := Lib.hid (fun w' (hb : Below w2.heap.size w2 w') => allowed_any (show SnB w' b h _ _ u from Blk.keep hs hb) (hi.keep hb) (fun x hx => comN_lt hx) Hl.out HW.out)
  have Hb2 := Lib.hid (Below.tr Hb1.out hb2)
  have Hs := Lib.hid hs
  have Hi := Lib.hid hi
  clear hs hi hb2 HS1
  go_wp2_with fail
  refine (HA.out _ (below_alloc _ _)).mono ?_
  rintro e w4 ⟨B, rfl, hB, hb4⟩
  have HB := Lib.hid hB
  have Hp4 := Lib.hid (show w4.cell? ⟨w2.heap.size, 0, none⟩ = some (.pointer (some ⟨b, 0, none⟩)) from Below.keep hb4 (cell_new w2 #[.pointer (some ⟨b, 0, none⟩)] 93 0))
  have hb24 := Below.tr (below_alloc w2 (.cells #[.pointer (some ⟨b, 0, none⟩)] 93)) hb4
  have Hb4 := Lib.hid (Below.tr Hb2.out hb24)
  have HInv := Lib.hid (dgI_inv (show SnB w4 b h _ _ u from Blk.keep Hs.out hb24) (Hi.out.keep hb24) Hp4.out (fun x hx => comN_lt hx) Hl.out HW.out HR.out)
  have HP := Lib.hid (pairs_any HInv.out Hl.out (w4.alloc (.cells #[.slice none 0 0] 43)) ⟨.inr rfl, .slice none 0 0, below_alloc _ _, blk_new w4 43 1 (fun _ => .slice none 0 0), by
    rw [dgY_zero]; exact ownOps_nil _ _ _⟩)
  have hp5 : (w4.alloc (.cells #[.slice none 0 0] 43)).cell? ⟨w2.heap.size, 0, none⟩ = some (.pointer (some ⟨b, 0, none⟩)) := Below.keep (below_alloc _ _) Hp4.out
  clear hB hb4 hb24 HA HInv Hs Hi Hp4
  cases B with
  | false => exact absurd (HB.out.2 hP) (by decide)
  | true =>
    clear hP HB
    go_wp2_with fail
    refine HP.out.mono ?_
    rintro e w6 ⟨rfl, _, v6, hk6⟩
    rw [dgY_zero, List.append_nil] at hk6
    obtain ⟨va, vc, rfl⟩ := own_slice hk6.o
    have hbx := Blk.at hk6.k (show 0 < 1 by omega)
    have Hf := Lib.hid hk6.o.ops
    have Hb6 := Lib.hid (Below.tr Hb4.out hk6.b)
    clear hk6 hp5
    go_wp2_with fail
    go_ret2
    exact ⟨_, rfl, by exact Hf.out, Hb6.out⟩
#print axioms danger_all
end Go.Proofs.Ytpehbffkplmfjaa
