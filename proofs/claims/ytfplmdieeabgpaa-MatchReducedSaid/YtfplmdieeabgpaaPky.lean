/- Contract of the reference's Put: a list of rows in their order, with one more. Contract of the reference's Key. -/
import Derived.Test.YtfplmdieeabgpaaBef
import Derived.Test.YtfplmdieeabgpaaRws
import Derived.Test.YtfplmdieeabgpaaSrc
import Derived.Test.YtfplmdieeabgpaaHeld
import Derived.Test.YtfplmdieeabgpaaFas
import Derived.Deep.DeepCutAuto
namespace Go.Proofs.Ytfplmdieeabgpaa
open Go.RowKit
theorem rows_of {w : World} {v : Value} {ps : List (Value × List Int)} {n : Nat} (hn : n = ps.length) (h : Rd w v 1 n (ps.map (·.1))) (hi : ∀ p, p ∈ ps → Ints w p.1 p.2) : Rows w v (ps.map (·.2)) := by
  subst hn
  refine ⟨ps.map (·.1), by simp, by rw [List.length_map]; exact h, fun i a b => ?_⟩
  rw [List.getElem_map, List.getElem_map]
  exact hi _ (List.getElem_mem _)
/-- what Put returns -/
def PutR (L : List (List Int)) (X : List Int) (R : List (List Int)) : Prop := Strict R ∧ ∀ z, z ∈ R ↔ z ∈ L ∨ z = X
theorem strict_at {L : List (List Int)} (h : Strict L) {i j : Nat} (hij : i < j) (hj : j < L.length) : cmpL (L.getD i []) (L.getD j []) < 0 := by
  rw [List.getD_eq_getElem?_getD, List.getElem?_eq_getElem (by omega), List.getD_eq_getElem?_getD, List.getElem?_eq_getElem hj]
  exact List.pairwise_iff_getElem.1 h i j (by omega) hj hij
theorem putR_new {L : List (List Int)} {X : List Int} (h : Strict L) {k : Nat} (hk : k ≤ L.length) (h1 : ∀ i, i < k → cmpL (L.getD i []) X < 0) (h2 : ∀ i, k ≤ i → i < L.length → 0 ≤ cmpL (L.getD i []) X) (h3 : k < L.length → L.getD k [] ≠ X) : PutR L X (L.take k ++ [X] ++ L.drop k) := by
  have gd : ∀ i (hi : i < L.length), L[i] = L.getD i [] := fun i hi => by rw [List.getD_eq_getElem?_getD, List.getElem?_eq_getElem hi]; rfl
  have a1 : ∀ z, z ∈ L.take k → cmpL z X < 0 := fun z hz => by
    obtain ⟨i, hi, rfl⟩ := List.getElem_of_mem hz
    rw [List.length_take] at hi
    rw [List.getElem_take, gd i (by omega)]
    exact h1 i (by omega)
  have a2 : ∀ z, z ∈ L.drop k → cmpL X z < 0 := fun z hz => by
    obtain ⟨i, hi, rfl⟩ := List.getElem_of_mem hz
    rw [List.length_drop] at hi
    rw [List.getElem_drop, gd _ (by omega)]
    have n1 := h2 (k + i) (by omega) (by omega)
    have n2 : L.getD (k + i) [] ≠ X := fun e => by
      by_cases c : i = 0
      · subst c; exact h3 (by omega) e
      · have := strict_at h (show k < k + i by omega) (by omega)
        rw [e] at this
        have := h2 k (Nat.le_refl _) (by omega); omega
    have n3 : cmpL (L.getD (k + i) []) X ≠ 0 := fun e => n2 (cmpL_eq e)
    rw [cmpL_swap (L.getD (k + i) []) X]; omega
  refine ⟨?_, fun z => ?_⟩
  · unfold Strict
    rw [List.append_assoc, List.pairwise_append]
    refine ⟨List.Pairwise.sublist (List.take_sublist _ _) h, ?_, fun a ha b hb => ?_⟩
    · rw [List.singleton_append, List.pairwise_cons]
      exact ⟨a2, List.Pairwise.sublist (List.drop_sublist _ _) h⟩
    · rw [List.singleton_append, List.mem_cons] at hb
      rcases hb with rfl | hb
      · exact a1 a ha
      · exact cmpL_trans (a1 a ha) (a2 b hb)
  · have e : z ∈ L ↔ z ∈ L.take k ∨ z ∈ L.drop k := by rw [← List.mem_append, List.take_append_drop]
    rw [e, List.append_assoc, List.mem_append, List.mem_append, List.mem_singleton]
    exact ⟨fun h => h.elim (fun h => .inl (.inl h)) fun h => h.elim .inr fun h => .inl (.inr h), fun h => h.elim (fun h => h.elim .inl fun h => .inr (.inr h)) fun h => .inr (.inl h)⟩
theorem src_lit {w : World} {b : Nat} {x : Value} {t : TypeId} {fr : Nat × Nat} (h : w.heap[b]? = some (.cells #[x] t fr)) : Src w (.slice (some ⟨b, 0, none⟩) 1 1) 1 1 [x] := by
  refine ⟨rfl, .inr ⟨⟨b, 0, none⟩, 1, rfl, fun j y hj => ?_⟩⟩
  rcases j with _ | j
  · obtain rfl : x = y := by simpa using hj
    rw [Addr.add_lit]
    exact aCell h 0 rfl
  · simp at hj
theorem put_end {w wd : World} {L : List (List Int)} {X : List Int} {lo n N : Nat} {vs : List Value} {u x : Value} (h : wd.ownsRow w.heap.size 22 1 u N ([] ++ vs.take lo ++ [x] ++ vs.drop lo)) (hb : Below w.heap.size w wd) (hl : vs.length = L.length) (hI : ∀ i (h : i < L.length) (h' : i < vs.length), Ints w vs[i] L[i]) (hx : Ints w x X) (hP : PutR L X (L.take lo ++ [X] ++ L.drop lo)) (hn : n = L.length) :
    ∃ a m k, Ending.returned u = .returned (.slice a m k) ∧ (∃ R, Rows wd (.slice a m k) R ∧ PutR L X R) ∧ Below w.heap.size w wd := by
  have hps1 : (vs.zip L).map (·.1) = vs := List.map_fst_zip (by omega)
  have hps2 : (vs.zip L).map (·.2) = L := List.map_snd_zip (by omega)
  have hR := owns_rd h
  obtain ⟨a, m, k, rfl⟩ : ∃ a m k, u = .slice a m k := by
    obtain ⟨_, _, a, b, off, cap, e, _⟩ := hR
    exact ⟨_, _, _, e⟩
  refine ⟨a, m, k, rfl, ⟨_, ?_, hP⟩, hb⟩
  have e1 : [] ++ vs.take lo ++ [x] ++ vs.drop lo = ((vs.zip L).take lo ++ [(x, X)] ++ (vs.zip L).drop lo).map (·.1) := by
    rw [List.map_append, List.map_append, List.map_take, List.map_drop, hps1]; rfl
  have e2 : L.take lo ++ [X] ++ L.drop lo = ((vs.zip L).take lo ++ [(x, X)] ++ (vs.zip L).drop lo).map (·.2) := by
    rw [List.map_append, List.map_append, List.map_take, List.map_drop, hps2]; rfl
  rw [e1] at hR
  rw [e2]
  refine rows_of (by have := hR.1; rw [List.length_map] at this; omega) hR fun p hp => ?_
  have hz : ∀ p, p ∈ vs.zip L → Ints wd p.1 p.2 := fun p hp => by
    obtain ⟨i, hi, rfl⟩ := List.getElem_of_mem hp
    rw [List.length_zip] at hi
    rw [List.getElem_zip]
    exact (hI i (by omega) (by omega)).keep hb
  rcases List.mem_append.1 hp with hp | hp
  · rcases List.mem_append.1 hp with hp | hp
    · exact hz p (List.mem_of_mem_take hp)
    · rw [List.mem_singleton.1 hp]; exact hx.keep hb
  · exact hz p (List.mem_of_mem_drop hp)
set_option maxRecDepth 100000 in
set_option maxHeartbeats 16000000 in
theorem put_any (L : List (List Int)) (X : List Int) (hs : Strict L) (hl : L.length ≤ 1000000) (u v : Value) (w : World) (hu : Rows w u L) (hv : Ints w v X) :
    Calls Try.prog 71 #[u, v] w fun e w' => ∃ a n k, e = .returned (.slice a n k) ∧ (∃ R, Rows w' (.slice a n k) R ∧ PutR L X R) ∧ Below w.heap.size w w' := by
  have HRows := Lib.hid hu
  obtain ⟨a, b, off, cap, vs, rfl, hle, hia, hvs, hcs, hrs⟩ := hu.get
  have Hix := Lib.hid (run_ix (P := Try.prog) (t := 27) (a := a) (len := L.length) (cap := cap) (b := b) (off := off) (s := 1) Try.underlying27 (by intro w; kernel_rfl) hia)
  simp only [Nat.mul_one] at Hix
  have Hc := Lib.hid (show ∀ i, i < L.length → w.cell? ⟨b, off + i, none⟩ = some (vs.getD i (.bool false)) ∧ Ints w (vs.getD i (.bool false)) (L.getD i []) from fun i hi => by
    rw [List.getD_eq_getElem?_getD, List.getElem?_eq_getElem (by omega : i < vs.length), List.getD_eq_getElem?_getD, List.getElem?_eq_getElem hi]
    exact ⟨hcs i (by omega), hrs i hi (by omega)⟩)
  obtain ⟨xa, xc, rfl⟩ := ints_slice hv
  obtain ⟨xn, hxn⟩ : ∃ x, x = X.length := ⟨_, rfl⟩
  rw [← hxn] at hv ⊢
  have HX := Lib.hid hv
  have Hs := Lib.hid hs
  obtain ⟨n, hn⟩ : ∃ x, x = L.length := ⟨_, rfl⟩
  have Hn := Lib.hid hn
  rw [← hn] at Hix Hc HRows hl ⊢
  clear hu hv hxn hs hn hia hvs hcs hrs hle
  go_enter Try.func71, Try.ntmps71
  go_wp2_with fail
  go_loopw [5, 6] (fun vl vh wr => ∃ lo hi : Nat, vl = .int .i64 lo ∧ vh = .int .i64 hi ∧ lo ≤ hi ∧ hi ≤ n ∧ wr = w ∧ (∀ i, i < lo → cmpL (L.getD i []) X < 0) ∧ ∀ i, hi ≤ i → i < n → 0 ≤ cmpL (L.getD i []) X) (fun vl vh _ => (intOf vh).toNat - (intOf vl).toNat)
  case atStart => exact ⟨0, n, rfl, rfl, Nat.zero_le _, Nat.le_refl _, rfl, fun i hi => by omega, fun i h1 h2 => by omega⟩
  case round =>
    obtain ⟨lo, hi, rfl, rfl, hlh, hhn, rfl, hlo, hhi⟩ := hrel
    have Hlo := Lib.hid hlo
    have Hhi := Lib.hid hhi
    clear hlo hhi
    by_cases hlt : lo < hi
    · obtain ⟨s, hs⟩ : ∃ s, s = lo + hi := ⟨_, rfl⟩
      obtain ⟨m, hm⟩ : ∃ m, m = s / 2 := ⟨_, rfl⟩
      have hadd : IntKind.i64.wrap ((lo : Int) + hi) = (s : Int) := by rw [show (lo : Int) + hi = (s : Int) by omega]; exact IntWalk.i64_in _ ⟨by omega, by omega⟩
      have hq : (s : Int).tdiv 2 = (m : Int) := by rw [Int.tdiv_eq_ediv_of_nonneg (by omega)]; omega
      have hwm : IntKind.i64.wrap (m : Int) = (m : Int) := IntWalk.i64_in _ ⟨by omega, by omega⟩
      have hw1 : IntKind.i64.wrap ((m : Int) + 1) = (m : Int) + 1 := IntWalk.i64_in _ ⟨by omega, by omega⟩
      have Hm := Lib.hid (show lo ≤ m ∧ m < hi from ⟨by omega, by omega⟩)
      have hck := (Hc.out m (by omega)).1
      have Hik := Lib.hid (Hc.out m (by omega)).2
      have hixm := Hix.out m
      have hmn : m < n := by omega
      clear hs hm
      obtain ⟨Y, hY⟩ : ∃ x, x = L.getD m [] := ⟨_, rfl⟩
      have HY := Lib.hid hY
      rw [← hY] at Hik
      obtain ⟨ya, yc, hys⟩ := ints_slice Hik.out
      rw [hys] at hck Hik
      obtain ⟨yn, hyn⟩ : ∃ x, x = Y.length := ⟨_, rfl⟩
      rw [← hyn] at hck Hik
      clear hys hY hyn
      go_wp2_with fail
      refine (before_any Y X _ _ _ Hik.out HX.out).mono ?_
      rintro e w1 ⟨rfl, rfl⟩
      by_cases hb : cmpL Y X < 0
      · rw [decide_eq_true hb]
        have HR := Lib.hid (show ∀ i, i < m + 1 → cmpL (L.getD i []) X < 0 from fun i hi => by
          rcases Nat.lt_or_ge i m with h | h
          · exact cmpL_trans (strict_at Hs.out h (by rw [← Hn.out]; exact hmn)) (by rw [← HY.out]; exact hb)
          · rw [show i = m by omega, ← HY.out]; exact hb)
        clear hck hb
        go_wp2_with fail
        go_roundw
        case rel => exact ⟨m + 1, hi, by go_num, rfl, by have := Hm.out; omega, hhn, by first | rfl | trivial, HR.out, Hhi.out⟩
        case measure => have := Hm.out; simp [intOf]; omega
      · rw [decide_eq_false hb]
        have HR := Lib.hid (show ∀ i, m ≤ i → i < n → 0 ≤ cmpL (L.getD i []) X from fun i h1 h2 => Int.not_lt.1 fun h3 => by
          rcases Nat.lt_or_ge m i with h | h
          · exact hb (by rw [HY.out]; exact cmpL_trans (strict_at Hs.out h (by rw [← Hn.out]; exact h2)) h3)
          · rw [show i = m by omega, ← HY.out] at h3; exact hb h3)
        clear hck hb
        go_wp2_with fail
        go_roundw
        case rel => exact ⟨lo, m, rfl, rfl, Hm.out.1, by omega, by first | rfl | trivial, Hlo.out, HR.out⟩
        case measure => have := Hm.out; simp [intOf]; omega
    · obtain rfl : lo = hi := by omega
      by_cases hn : lo < n
      · have hck := (Hc.out lo hn).1
        have Hik := Lib.hid (Hc.out lo hn).2
        have hixm := Hix.out lo
        obtain ⟨Y, hY⟩ : ∃ x, x = L.getD lo [] := ⟨_, rfl⟩
        have HY := Lib.hid hY
        rw [← hY] at Hik
        obtain ⟨ya, yc, hys⟩ := ints_slice Hik.out
        rw [hys] at hck Hik
        obtain ⟨yn, hyn⟩ : ∃ x, x = Y.length := ⟨_, rfl⟩
        rw [← hyn] at hck Hik
        clear hys hY hyn
        go_wp2_with fail
        refine (equalQ_any Y X _ _ _ Hik.out HX.out).mono ?_
        rintro e w1 ⟨rfl, rfl⟩
        by_cases he : Y = X
        · rw [decide_eq_true he]
          go_wp2_with fail
          go_ret
          exact ⟨a, n, cap, rfl, ⟨L, by have := HRows.out; exact this, Hs.out, fun z => ⟨.inl, fun h => h.elim id fun e => by rw [e, ← he, HY.out, List.getD_eq_getElem?_getD, List.getElem?_eq_getElem (by rw [← Hn.out]; exact hn)]; exact List.getElem_mem _⟩⟩, Below.refl _ _⟩
        · rw [decide_eq_false he]
          have HP := Lib.hid (putR_new Hs.out (k := lo) (by rw [← Hn.out]; omega) Hlo.out (fun i h1 h2 => Hhi.out i h1 (by rw [Hn.out]; exact h2)) (fun _ => by rw [← HY.out]; exact he))
          clear hck hixm he Hik HY
          go_upto_region 9 with fail
          obtain ⟨vs, hl, hRd, hI⟩ := HRows.out
          have HI := Lib.hid hI
          have Hvl := Lib.hid hl
          rw [← Hn.out] at hRd
          obtain ⟨u1, hp1, hs1⟩ := part_to (P := Try.prog) (t := 27) (k := lo) Try.underlying27 (by intro w; kernel_rfl) hRd hhn
          obtain ⟨u2, hp2, hs2⟩ := part_from (P := Try.prog) (t := 27) (k := lo) Try.underlying27 (by intro w; kernel_rfl) hRd hhn
          simp only [Nat.mul_one] at hs1 hs2
          have HS1 := Lib.hid hs1
          have HS2 := Lib.hid hs2
          have HO1 := Lib.hid (show ∀ u, u ∈ vs → u.oneCell' = true from fun u hu => by
            obtain ⟨i, hi, rfl⟩ := List.getElem_of_mem hu
            obtain ⟨_, _, h⟩ := ints_slice (hI i (by omega) hi)
            rw [h]; rfl)
          have HW0 := Lib.hid (show Below wr.heap.size wr wr.drew from (Below.refl _ _).drew)
          have HS0 := Lib.hid (trivial : True)
          clear hs1 hs2 hl hRd hI
          refine wp_region_held (S := fun _ => True) wideK ?_
          change wpAnyH _ _ _ _ _ _ _ _ (World.drew _)
          generalize wr.drew = wd0 at *
          refine wpAnyH_take (i := 1) (v := ?_) rfl (by kernel_rfl) (by kernel_rfl) (by kernel_rfl) (fun _ _ _ h => h) (Or.inl ⟨by rfl, ?_⟩) HS0.out ?_
          rotate_left
          focus (intro w hS; clear hS; first | (go_simp; done) | (go_simp; with_reducible rfl))
          simp only [Act.put, List.getElem_toArray, List.getElem_cons_zero, List.getElem_cons_succ, List.setIfInBounds_toArray, List.set_cons_zero, List.set_cons_succ]
          refine wpAnyH_take (i := 2) (v := ?_) rfl (by kernel_rfl) (by kernel_rfl) (by kernel_rfl) (fun _ _ _ h => h) (Or.inl ⟨by rfl, ?_⟩) HS0.out ?_
          rotate_left
          focus (intro w hS; clear hS; first | (go_simp; done) | (go_simp; with_reducible rfl))
          simp only [Act.put, List.getElem_toArray, List.getElem_cons_zero, List.getElem_cons_succ, List.setIfInBounds_toArray, List.set_cons_zero, List.set_cons_succ]
          refine wpAnyH_take (i := 3) (v := ?_) rfl (by kernel_rfl) (by kernel_rfl) (by kernel_rfl) (fun _ _ _ h => h) (Or.inl ⟨by rfl, ?_⟩) HS0.out ?_
          rotate_left
          focus (intro w hS; clear hS; first | (go_simp; done) | (go_simp; with_reducible rfl))
          simp only [Act.put, List.getElem_toArray, List.getElem_cons_zero, List.getElem_cons_succ, List.setIfInBounds_toArray, List.set_cons_zero, List.set_cons_succ]
          refine wpAnyH_take (i := 5) (v := ?_) rfl (by kernel_rfl) (by kernel_rfl) (by kernel_rfl) (fun _ _ _ h => h) (Or.inl ⟨by rfl, ?_⟩) HS0.out ?_
          rotate_left
          focus (intro w hS; clear hS; first | (go_simp; done) | (go_simp; with_reducible rfl))
          simp only [Act.put, List.getElem_toArray, List.getElem_cons_zero, List.getElem_cons_succ, List.setIfInBounds_toArray, List.set_cons_zero, List.set_cons_succ]
          refine wpAnyH_take (i := 8) (v := ?_) rfl (by kernel_rfl) (by kernel_rfl) (by kernel_rfl) (fun _ _ _ h => h) (Or.inl ⟨by rfl, ?_⟩) HS0.out ?_
          rotate_left
          focus (intro w hS; clear hS; first | (go_simp; done) | (go_simp; with_reducible rfl))
          simp only [Act.put, List.getElem_toArray, List.getElem_cons_zero, List.getElem_cons_succ, List.setIfInBounds_toArray, List.set_cons_zero, List.set_cons_succ]
          refine wpAnyH_take (i := 9) (v := ?_) rfl (by kernel_rfl) (by kernel_rfl) (by kernel_rfl) (fun _ _ _ h => h) (Or.inl ⟨by rfl, ?_⟩) HS0.out ?_
          rotate_left
          focus (intro w hS; clear hS; first | (go_simp; done) | (go_simp; with_reducible rfl))
          simp only [Act.put, List.getElem_toArray, List.getElem_cons_zero, List.getElem_cons_succ, List.setIfInBounds_toArray, List.set_cons_zero, List.set_cons_succ]
          refine wpAnyH_take (i := 10) (v := ?_) rfl (by kernel_rfl) (by kernel_rfl) (by kernel_rfl) (fun _ _ _ h => h) (Or.inl ⟨by rfl, ?_⟩) HS0.out ?_
          rotate_left
          focus (intro w hS; clear hS; first | (go_simp; done) | (go_simp; with_reducible rfl))
          simp only [Act.put, List.getElem_toArray, List.getElem_cons_zero, List.getElem_cons_succ, List.setIfInBounds_toArray, List.set_cons_zero, List.set_cons_succ]
          refine wpAnyH_ready (rs := [0, 6]) (by kernel_rfl) (by simp) ?_
          refine RdyH.cons rfl (fun K2 hK => ?_) ?_
          · obtain ⟨wd1, hwd⟩ : ∃ x, x = wd0.alloc (.cells #[] 22) := ⟨_, rfl⟩
            have hb : Below wd0.heap.size wd0 wd1 := by rw [hwd]; exact below_alloc _ _
            obtain ⟨g0, hg0⟩ : ∃ x, x = wd0.heap.size := ⟨_, rfl⟩
            have HR := Lib.hid (show wd1.ownsRow wr.heap.size 22 1 (.slice (some ⟨g0, 0, none⟩) 0 0) 0 [] from by
              rw [hwd, hg0]; exact World.ownsRow_lit wd0 #[] 0 HW0.out.size (by unfold maxLen; omega) rfl)
            have HW1 := Lib.hid (Below.tr HW0.out hb)
            go_simp
            rw [← hwd, ← hg0]
            clear hb hwd hg0
            refine hK _ _ trivial ?_
            clear hK K2
            refine wpAnyH_ready (rs := [4, 6]) (by kernel_rfl) (by simp) ?_
            refine RdyH.cons rfl (fun K2 hK => ?_) ?_
            · refine step_append_src rfl (.tmp 39) (.tmp 42) 27 rfl elemRows rfl HR.out rfl (HS1.out.keep HW1.out) (fun u hu => HO1.out u (List.mem_of_mem_take hu)) (by omega) HW1.out.size ?_
              intro v1 wd2 h1 h2 hg
              have HR' := Lib.hid h1
              have HW2 := Lib.hid (HW1.out.trans h2)
              clear HR h1 h2 hg
              have HR := HR'
              clear HR'
              go_simp
              refine hK _ _ trivial ?_
              clear hK K2
              refine wpAnyH_ready (rs := [6]) (by kernel_rfl) (by simp) ?_
              refine RdyH.cons rfl (fun K2 hK => ?_) RdyH.nil
              obtain ⟨wd3, hwd⟩ : ∃ x, x = wd2.alloc (.cells #[.slice xa xn xc] 22) := ⟨_, rfl⟩
              have hb : Below wd2.heap.size wd2 wd3 := by rw [hwd]; exact below_alloc _ _
              obtain ⟨lb, hlb⟩ : ∃ x, x = wd2.heap.size := ⟨_, rfl⟩
              have HL := Lib.hid (show wd3.heap[lb]? = some (.cells #[.slice xa xn xc] 22 (0, 0)) from by rw [hwd, hlb]; exact heap_alloc_new _ _)
              have HR := Lib.hid (owns_keep HR.out hb)
              have HW3 := Lib.hid (Below.tr HW2.out hb)
              go_simp
              rw [← hwd, ← hlb]
              clear hb hwd hlb
              refine hK _ _ trivial ?_
              clear hK K2
              refine wpAnyH_ready (rs := [7]) (by kernel_rfl) (by simp) ?_
              refine RdyH.cons rfl (fun K2 hK => ?_) RdyH.nil
              refine step_append_src rfl (.tmp 43) (.tmp 45) 27 rfl elemRows rfl HR.out rfl (src_lit HL.out) (fun u hu => by rw [List.mem_singleton.1 hu]; rfl) (by omega) HW3.out.size ?_
              intro v2 wd4 h1 h2 hg
              have HR' := Lib.hid h1
              have HW4 := Lib.hid (HW3.out.trans h2)
              clear HR h1 h2 hg
              have HR := HR'
              clear HR'
              go_simp
              refine hK _ _ trivial ?_
              clear hK K2
              refine wpAnyH_ready (rs := [11]) (by kernel_rfl) (by simp) ?_
              refine RdyH.cons rfl (fun K2 hK => ?_) RdyH.nil
              refine step_append_src rfl (.tmp 46) (.tmp 49) 27 rfl elemRows rfl HR.out rfl (HS2.out.keep HW4.out) (fun u hu => HO1.out u (List.mem_of_mem_drop hu)) (by omega) HW4.out.size ?_
              intro v3 wd5 h1 h2 hg
              have HR' := Lib.hid h1
              have HW5 := Lib.hid (HW4.out.trans h2)
              clear HR h1 h2 hg
              have HR := HR'
              clear HR'
              go_simp
              refine hK _ _ trivial ?_
              clear hK K2
              refine wpAnyH_take (i := 12) (v := ?_) rfl (by kernel_rfl) (by kernel_rfl) (by kernel_rfl) (fun _ _ _ h => h) (Or.inl ⟨by rfl, ?_⟩) HS0.out ?_
              rotate_left
              focus (intro w hS; clear hS; first | (go_simp; done) | (go_simp; with_reducible rfl))
              simp only [Act.put, List.getElem_toArray, List.getElem_cons_zero, List.getElem_cons_succ, List.setIfInBounds_toArray, List.set_cons_zero, List.set_cons_succ]
              refine wpAnyH_done (by kernel_rfl) ?_ _
              clear hp1 hp2
              go_wp2_with fail
              go_ret
              exact put_end HR.out HW5.out Hvl.out HI.out HX.out HP.out Hn.out
            · refine RdyH.cons rfl (fun K2 hK => ?_) RdyH.nil
              obtain ⟨wd2, hwd⟩ : ∃ x, x = wd1.alloc (.cells #[.slice xa xn xc] 22) := ⟨_, rfl⟩
              have hb : Below wd1.heap.size wd1 wd2 := by rw [hwd]; exact below_alloc _ _
              obtain ⟨lb, hlb⟩ : ∃ x, x = wd1.heap.size := ⟨_, rfl⟩
              have HL := Lib.hid (show wd2.heap[lb]? = some (.cells #[.slice xa xn xc] 22 (0, 0)) from by rw [hwd, hlb]; exact heap_alloc_new _ _)
              have Hne := Lib.hid (show lb ≠ g0 from by rw [hlb]; exact Nat.ne_of_gt (own_lt HR.out rfl).2)
              have HR := Lib.hid (owns_keep HR.out hb)
              have HW2 := Lib.hid (Below.tr HW1.out hb)
              go_simp
              rw [← hwd, ← hlb]
              clear hb hwd hlb
              refine hK _ _ trivial ?_
              clear hK K2
              refine wpAnyH_ready (rs := [4]) (by kernel_rfl) (by simp) ?_
              refine RdyH.cons rfl (fun K2 hK => ?_) RdyH.nil
              refine step_append_src rfl (.tmp 39) (.tmp 42) 27 rfl elemRows rfl HR.out rfl (HS1.out.keep HW2.out) (fun u hu => HO1.out u (List.mem_of_mem_take hu)) (by omega) HW2.out.size ?_
              intro v1 wd3 h1 h2 hg
              have HR' := Lib.hid h1
              have HL := Lib.hid ((hg.block lb (Array.getElem?_eq_some_iff.1 HL.out).1 (fun e => Hne.out (Option.some.inj e))).trans HL.out)
              have HW3 := Lib.hid (HW2.out.trans h2)
              clear HR h1 h2 hg
              have HR := HR'
              clear HR'
              go_simp
              refine hK _ _ trivial ?_
              clear hK K2
              refine wpAnyH_ready (rs := [7]) (by kernel_rfl) (by simp) ?_
              refine RdyH.cons rfl (fun K2 hK => ?_) RdyH.nil
              refine step_append_src rfl (.tmp 43) (.tmp 45) 27 rfl elemRows rfl HR.out rfl (src_lit HL.out) (fun u hu => by rw [List.mem_singleton.1 hu]; rfl) (by omega) HW3.out.size ?_
              intro v2 wd4 h1 h2 hg
              have HR' := Lib.hid h1
              have HW4 := Lib.hid (HW3.out.trans h2)
              clear HR h1 h2 hg
              have HR := HR'
              clear HR'
              go_simp
              refine hK _ _ trivial ?_
              clear hK K2
              refine wpAnyH_ready (rs := [11]) (by kernel_rfl) (by simp) ?_
              refine RdyH.cons rfl (fun K2 hK => ?_) RdyH.nil
              refine step_append_src rfl (.tmp 46) (.tmp 49) 27 rfl elemRows rfl HR.out rfl (HS2.out.keep HW4.out) (fun u hu => HO1.out u (List.mem_of_mem_drop hu)) (by omega) HW4.out.size ?_
              intro v3 wd5 h1 h2 hg
              have HR' := Lib.hid h1
              have HW5 := Lib.hid (HW4.out.trans h2)
              clear HR h1 h2 hg
              have HR := HR'
              clear HR'
              go_simp
              refine hK _ _ trivial ?_
              clear hK K2
              refine wpAnyH_take (i := 12) (v := ?_) rfl (by kernel_rfl) (by kernel_rfl) (by kernel_rfl) (fun _ _ _ h => h) (Or.inl ⟨by rfl, ?_⟩) HS0.out ?_
              rotate_left
              focus (intro w hS; clear hS; first | (go_simp; done) | (go_simp; with_reducible rfl))
              simp only [Act.put, List.getElem_toArray, List.getElem_cons_zero, List.getElem_cons_succ, List.setIfInBounds_toArray, List.set_cons_zero, List.set_cons_succ]
              refine wpAnyH_done (by kernel_rfl) ?_ _
              clear hp1 hp2
              go_wp2_with fail
              go_ret
              exact put_end HR.out HW5.out Hvl.out HI.out HX.out HP.out Hn.out
          · refine RdyH.cons rfl (fun K2 hK => ?_) RdyH.nil
            obtain ⟨wd1, hwd⟩ : ∃ x, x = wd0.alloc (.cells #[.slice xa xn xc] 22) := ⟨_, rfl⟩
            have hb : Below wd0.heap.size wd0 wd1 := by rw [hwd]; exact below_alloc _ _
            obtain ⟨lb, hlb⟩ : ∃ x, x = wd0.heap.size := ⟨_, rfl⟩
            have HL := Lib.hid (show wd1.heap[lb]? = some (.cells #[.slice xa xn xc] 22 (0, 0)) from by rw [hwd, hlb]; exact heap_alloc_new _ _)
            have HW1 := Lib.hid (Below.tr HW0.out hb)
            go_simp
            rw [← hwd, ← hlb]
            clear hb hwd hlb
            refine hK _ _ trivial ?_
            clear hK K2
            refine wpAnyH_ready (rs := [0]) (by kernel_rfl) (by simp) ?_
            refine RdyH.cons rfl (fun K2 hK => ?_) RdyH.nil
            obtain ⟨wd2, hwd⟩ : ∃ x, x = wd1.alloc (.cells #[] 22) := ⟨_, rfl⟩
            have hb : Below wd1.heap.size wd1 wd2 := by rw [hwd]; exact below_alloc _ _
            obtain ⟨g0, hg0⟩ : ∃ x, x = wd1.heap.size := ⟨_, rfl⟩
            have HR := Lib.hid (show wd2.ownsRow wr.heap.size 22 1 (.slice (some ⟨g0, 0, none⟩) 0 0) 0 [] from by
              rw [hwd, hg0]; exact World.ownsRow_lit wd1 #[] 0 HW1.out.size (by unfold maxLen; omega) rfl)
            have Hne := Lib.hid (show lb ≠ g0 from by rw [hg0]; exact Nat.ne_of_lt (Array.getElem?_eq_some_iff.1 HL.out).1)
            have HL := Lib.hid (blk_keep2 HL.out hb)
            have HW2 := Lib.hid (Below.tr HW1.out hb)
            go_simp
            rw [← hwd, ← hg0]
            clear hb hwd hg0
            refine hK _ _ trivial ?_
            clear hK K2
            refine wpAnyH_ready (rs := [4]) (by kernel_rfl) (by simp) ?_
            refine RdyH.cons rfl (fun K2 hK => ?_) RdyH.nil
            refine step_append_src rfl (.tmp 39) (.tmp 42) 27 rfl elemRows rfl HR.out rfl (HS1.out.keep HW2.out) (fun u hu => HO1.out u (List.mem_of_mem_take hu)) (by omega) HW2.out.size ?_
            intro v1 wd3 h1 h2 hg
            have HR' := Lib.hid h1
            have HL := Lib.hid ((hg.block lb (Array.getElem?_eq_some_iff.1 HL.out).1 (fun e => Hne.out (Option.some.inj e))).trans HL.out)
            have HW3 := Lib.hid (HW2.out.trans h2)
            clear HR h1 h2 hg
            have HR := HR'
            clear HR'
            go_simp
            refine hK _ _ trivial ?_
            clear hK K2
            refine wpAnyH_ready (rs := [7]) (by kernel_rfl) (by simp) ?_
            refine RdyH.cons rfl (fun K2 hK => ?_) RdyH.nil
            refine step_append_src rfl (.tmp 43) (.tmp 45) 27 rfl elemRows rfl HR.out rfl (src_lit HL.out) (fun u hu => by rw [List.mem_singleton.1 hu]; rfl) (by omega) HW3.out.size ?_
            intro v2 wd4 h1 h2 hg
            have HR' := Lib.hid h1
            have HW4 := Lib.hid (HW3.out.trans h2)
            clear HR h1 h2 hg
            have HR := HR'
            clear HR'
            go_simp
            refine hK _ _ trivial ?_
            clear hK K2
            refine wpAnyH_ready (rs := [11]) (by kernel_rfl) (by simp) ?_
            refine RdyH.cons rfl (fun K2 hK => ?_) RdyH.nil
            refine step_append_src rfl (.tmp 46) (.tmp 49) 27 rfl elemRows rfl HR.out rfl (HS2.out.keep HW4.out) (fun u hu => HO1.out u (List.mem_of_mem_drop hu)) (by omega) HW4.out.size ?_
            intro v3 wd5 h1 h2 hg
            have HR' := Lib.hid h1
            have HW5 := Lib.hid (HW4.out.trans h2)
            clear HR h1 h2 hg
            have HR := HR'
            clear HR'
            go_simp
            refine hK _ _ trivial ?_
            clear hK K2
            refine wpAnyH_take (i := 12) (v := ?_) rfl (by kernel_rfl) (by kernel_rfl) (by kernel_rfl) (fun _ _ _ h => h) (Or.inl ⟨by rfl, ?_⟩) HS0.out ?_
            rotate_left
            focus (intro w hS; clear hS; first | (go_simp; done) | (go_simp; with_reducible rfl))
            simp only [Act.put, List.getElem_toArray, List.getElem_cons_zero, List.getElem_cons_succ, List.setIfInBounds_toArray, List.set_cons_zero, List.set_cons_succ]
            refine wpAnyH_done (by kernel_rfl) ?_ _
            clear hp1 hp2
            go_wp2_with fail
            go_ret
            exact put_end HR.out HW5.out Hvl.out HI.out HX.out HP.out Hn.out
      · have HP := Lib.hid (putR_new Hs.out (k := lo) (by rw [← Hn.out]; omega) Hlo.out (fun i h1 h2 => Hhi.out i h1 (by rw [Hn.out]; exact h2)) (fun h => by rw [← Hn.out] at h; exact absurd h hn))
        go_upto_region 9 with fail
        obtain ⟨vs, hl, hRd, hI⟩ := HRows.out
        have HI := Lib.hid hI
        have Hvl := Lib.hid hl
        rw [← Hn.out] at hRd
        obtain ⟨u1, hp1, hs1⟩ := part_to (P := Try.prog) (t := 27) (k := lo) Try.underlying27 (by intro w; kernel_rfl) hRd hhn
        obtain ⟨u2, hp2, hs2⟩ := part_from (P := Try.prog) (t := 27) (k := lo) Try.underlying27 (by intro w; kernel_rfl) hRd hhn
        simp only [Nat.mul_one] at hs1 hs2
        have HS1 := Lib.hid hs1
        have HS2 := Lib.hid hs2
        have HO1 := Lib.hid (show ∀ u, u ∈ vs → u.oneCell' = true from fun u hu => by
          obtain ⟨i, hi, rfl⟩ := List.getElem_of_mem hu
          obtain ⟨_, _, h⟩ := ints_slice (hI i (by omega) hi)
          rw [h]; rfl)
        have HW0 := Lib.hid (show Below wr.heap.size wr wr.drew from (Below.refl _ _).drew)
        have HS0 := Lib.hid (trivial : True)
        clear hs1 hs2 hl hRd hI
        refine wp_region_held (S := fun _ => True) wideK ?_
        change wpAnyH _ _ _ _ _ _ _ _ (World.drew _)
        generalize wr.drew = wd0 at *
        refine wpAnyH_take (i := 1) (v := ?_) rfl (by kernel_rfl) (by kernel_rfl) (by kernel_rfl) (fun _ _ _ h => h) (Or.inl ⟨by rfl, ?_⟩) HS0.out ?_
        rotate_left
        focus (intro w hS; clear hS; first | (go_simp; done) | (go_simp; with_reducible rfl))
        simp only [Act.put, List.getElem_toArray, List.getElem_cons_zero, List.getElem_cons_succ, List.setIfInBounds_toArray, List.set_cons_zero, List.set_cons_succ]
        refine wpAnyH_take (i := 2) (v := ?_) rfl (by kernel_rfl) (by kernel_rfl) (by kernel_rfl) (fun _ _ _ h => h) (Or.inl ⟨by rfl, ?_⟩) HS0.out ?_
        rotate_left
        focus (intro w hS; clear hS; first | (go_simp; done) | (go_simp; with_reducible rfl))
        simp only [Act.put, List.getElem_toArray, List.getElem_cons_zero, List.getElem_cons_succ, List.setIfInBounds_toArray, List.set_cons_zero, List.set_cons_succ]
        refine wpAnyH_take (i := 3) (v := ?_) rfl (by kernel_rfl) (by kernel_rfl) (by kernel_rfl) (fun _ _ _ h => h) (Or.inl ⟨by rfl, ?_⟩) HS0.out ?_
        rotate_left
        focus (intro w hS; clear hS; first | (go_simp; done) | (go_simp; with_reducible rfl))
        simp only [Act.put, List.getElem_toArray, List.getElem_cons_zero, List.getElem_cons_succ, List.setIfInBounds_toArray, List.set_cons_zero, List.set_cons_succ]
        refine wpAnyH_take (i := 5) (v := ?_) rfl (by kernel_rfl) (by kernel_rfl) (by kernel_rfl) (fun _ _ _ h => h) (Or.inl ⟨by rfl, ?_⟩) HS0.out ?_
        rotate_left
        focus (intro w hS; clear hS; first | (go_simp; done) | (go_simp; with_reducible rfl))
        simp only [Act.put, List.getElem_toArray, List.getElem_cons_zero, List.getElem_cons_succ, List.setIfInBounds_toArray, List.set_cons_zero, List.set_cons_succ]
        refine wpAnyH_take (i := 8) (v := ?_) rfl (by kernel_rfl) (by kernel_rfl) (by kernel_rfl) (fun _ _ _ h => h) (Or.inl ⟨by rfl, ?_⟩) HS0.out ?_
        rotate_left
        focus (intro w hS; clear hS; first | (go_simp; done) | (go_simp; with_reducible rfl))
        simp only [Act.put, List.getElem_toArray, List.getElem_cons_zero, List.getElem_cons_succ, List.setIfInBounds_toArray, List.set_cons_zero, List.set_cons_succ]
        refine wpAnyH_take (i := 9) (v := ?_) rfl (by kernel_rfl) (by kernel_rfl) (by kernel_rfl) (fun _ _ _ h => h) (Or.inl ⟨by rfl, ?_⟩) HS0.out ?_
        rotate_left
        focus (intro w hS; clear hS; first | (go_simp; done) | (go_simp; with_reducible rfl))
        simp only [Act.put, List.getElem_toArray, List.getElem_cons_zero, List.getElem_cons_succ, List.setIfInBounds_toArray, List.set_cons_zero, List.set_cons_succ]
        refine wpAnyH_take (i := 10) (v := ?_) rfl (by kernel_rfl) (by kernel_rfl) (by kernel_rfl) (fun _ _ _ h => h) (Or.inl ⟨by rfl, ?_⟩) HS0.out ?_
        rotate_left
        focus (intro w hS; clear hS; first | (go_simp; done) | (go_simp; with_reducible rfl))
        simp only [Act.put, List.getElem_toArray, List.getElem_cons_zero, List.getElem_cons_succ, List.setIfInBounds_toArray, List.set_cons_zero, List.set_cons_succ]
        refine wpAnyH_ready (rs := [0, 6]) (by kernel_rfl) (by simp) ?_
        refine RdyH.cons rfl (fun K2 hK => ?_) ?_
        · obtain ⟨wd1, hwd⟩ : ∃ x, x = wd0.alloc (.cells #[] 22) := ⟨_, rfl⟩
          have hb : Below wd0.heap.size wd0 wd1 := by rw [hwd]; exact below_alloc _ _
          obtain ⟨g0, hg0⟩ : ∃ x, x = wd0.heap.size := ⟨_, rfl⟩
          have HR := Lib.hid (show wd1.ownsRow wr.heap.size 22 1 (.slice (some ⟨g0, 0, none⟩) 0 0) 0 [] from by
            rw [hwd, hg0]; exact World.ownsRow_lit wd0 #[] 0 HW0.out.size (by unfold maxLen; omega) rfl)
          have HW1 := Lib.hid (Below.tr HW0.out hb)
          go_simp
          rw [← hwd, ← hg0]
          clear hb hwd hg0
          refine hK _ _ trivial ?_
          clear hK K2
          refine wpAnyH_ready (rs := [4, 6]) (by kernel_rfl) (by simp) ?_
          refine RdyH.cons rfl (fun K2 hK => ?_) ?_
          · refine step_append_src rfl (.tmp 39) (.tmp 42) 27 rfl elemRows rfl HR.out rfl (HS1.out.keep HW1.out) (fun u hu => HO1.out u (List.mem_of_mem_take hu)) (by omega) HW1.out.size ?_
            intro v1 wd2 h1 h2 hg
            have HR' := Lib.hid h1
            have HW2 := Lib.hid (HW1.out.trans h2)
            clear HR h1 h2 hg
            have HR := HR'
            clear HR'
            go_simp
            refine hK _ _ trivial ?_
            clear hK K2
            refine wpAnyH_ready (rs := [6]) (by kernel_rfl) (by simp) ?_
            refine RdyH.cons rfl (fun K2 hK => ?_) RdyH.nil
            obtain ⟨wd3, hwd⟩ : ∃ x, x = wd2.alloc (.cells #[.slice xa xn xc] 22) := ⟨_, rfl⟩
            have hb : Below wd2.heap.size wd2 wd3 := by rw [hwd]; exact below_alloc _ _
            obtain ⟨lb, hlb⟩ : ∃ x, x = wd2.heap.size := ⟨_, rfl⟩
            have HL := Lib.hid (show wd3.heap[lb]? = some (.cells #[.slice xa xn xc] 22 (0, 0)) from by rw [hwd, hlb]; exact heap_alloc_new _ _)
            have HR := Lib.hid (owns_keep HR.out hb)
            have HW3 := Lib.hid (Below.tr HW2.out hb)
            go_simp
            rw [← hwd, ← hlb]
            clear hb hwd hlb
            refine hK _ _ trivial ?_
            clear hK K2
            refine wpAnyH_ready (rs := [7]) (by kernel_rfl) (by simp) ?_
            refine RdyH.cons rfl (fun K2 hK => ?_) RdyH.nil
            refine step_append_src rfl (.tmp 43) (.tmp 45) 27 rfl elemRows rfl HR.out rfl (src_lit HL.out) (fun u hu => by rw [List.mem_singleton.1 hu]; rfl) (by omega) HW3.out.size ?_
            intro v2 wd4 h1 h2 hg
            have HR' := Lib.hid h1
            have HW4 := Lib.hid (HW3.out.trans h2)
            clear HR h1 h2 hg
            have HR := HR'
            clear HR'
            go_simp
            refine hK _ _ trivial ?_
            clear hK K2
            refine wpAnyH_ready (rs := [11]) (by kernel_rfl) (by simp) ?_
            refine RdyH.cons rfl (fun K2 hK => ?_) RdyH.nil
            refine step_append_src rfl (.tmp 46) (.tmp 49) 27 rfl elemRows rfl HR.out rfl (HS2.out.keep HW4.out) (fun u hu => HO1.out u (List.mem_of_mem_drop hu)) (by omega) HW4.out.size ?_
            intro v3 wd5 h1 h2 hg
            have HR' := Lib.hid h1
            have HW5 := Lib.hid (HW4.out.trans h2)
            clear HR h1 h2 hg
            have HR := HR'
            clear HR'
            go_simp
            refine hK _ _ trivial ?_
            clear hK K2
            refine wpAnyH_take (i := 12) (v := ?_) rfl (by kernel_rfl) (by kernel_rfl) (by kernel_rfl) (fun _ _ _ h => h) (Or.inl ⟨by rfl, ?_⟩) HS0.out ?_
            rotate_left
            focus (intro w hS; clear hS; first | (go_simp; done) | (go_simp; with_reducible rfl))
            simp only [Act.put, List.getElem_toArray, List.getElem_cons_zero, List.getElem_cons_succ, List.setIfInBounds_toArray, List.set_cons_zero, List.set_cons_succ]
            refine wpAnyH_done (by kernel_rfl) ?_ _
            clear hp1 hp2
            go_wp2_with fail
            go_ret
            exact put_end HR.out HW5.out Hvl.out HI.out HX.out HP.out Hn.out
          · refine RdyH.cons rfl (fun K2 hK => ?_) RdyH.nil
            obtain ⟨wd2, hwd⟩ : ∃ x, x = wd1.alloc (.cells #[.slice xa xn xc] 22) := ⟨_, rfl⟩
            have hb : Below wd1.heap.size wd1 wd2 := by rw [hwd]; exact below_alloc _ _
            obtain ⟨lb, hlb⟩ : ∃ x, x = wd1.heap.size := ⟨_, rfl⟩
            have HL := Lib.hid (show wd2.heap[lb]? = some (.cells #[.slice xa xn xc] 22 (0, 0)) from by rw [hwd, hlb]; exact heap_alloc_new _ _)
            have Hne := Lib.hid (show lb ≠ g0 from by rw [hlb]; exact Nat.ne_of_gt (own_lt HR.out rfl).2)
            have HR := Lib.hid (owns_keep HR.out hb)
            have HW2 := Lib.hid (Below.tr HW1.out hb)
            go_simp
            rw [← hwd, ← hlb]
            clear hb hwd hlb
            refine hK _ _ trivial ?_
            clear hK K2
            refine wpAnyH_ready (rs := [4]) (by kernel_rfl) (by simp) ?_
            refine RdyH.cons rfl (fun K2 hK => ?_) RdyH.nil
            refine step_append_src rfl (.tmp 39) (.tmp 42) 27 rfl elemRows rfl HR.out rfl (HS1.out.keep HW2.out) (fun u hu => HO1.out u (List.mem_of_mem_take hu)) (by omega) HW2.out.size ?_
            intro v1 wd3 h1 h2 hg
            have HR' := Lib.hid h1
            have HL := Lib.hid ((hg.block lb (Array.getElem?_eq_some_iff.1 HL.out).1 (fun e => Hne.out (Option.some.inj e))).trans HL.out)
            have HW3 := Lib.hid (HW2.out.trans h2)
            clear HR h1 h2 hg
            have HR := HR'
            clear HR'
            go_simp
            refine hK _ _ trivial ?_
            clear hK K2
            refine wpAnyH_ready (rs := [7]) (by kernel_rfl) (by simp) ?_
            refine RdyH.cons rfl (fun K2 hK => ?_) RdyH.nil
            refine step_append_src rfl (.tmp 43) (.tmp 45) 27 rfl elemRows rfl HR.out rfl (src_lit HL.out) (fun u hu => by rw [List.mem_singleton.1 hu]; rfl) (by omega) HW3.out.size ?_
            intro v2 wd4 h1 h2 hg
            have HR' := Lib.hid h1
            have HW4 := Lib.hid (HW3.out.trans h2)
            clear HR h1 h2 hg
            have HR := HR'
            clear HR'
            go_simp
            refine hK _ _ trivial ?_
            clear hK K2
            refine wpAnyH_ready (rs := [11]) (by kernel_rfl) (by simp) ?_
            refine RdyH.cons rfl (fun K2 hK => ?_) RdyH.nil
            refine step_append_src rfl (.tmp 46) (.tmp 49) 27 rfl elemRows rfl HR.out rfl (HS2.out.keep HW4.out) (fun u hu => HO1.out u (List.mem_of_mem_drop hu)) (by omega) HW4.out.size ?_
            intro v3 wd5 h1 h2 hg
            have HR' := Lib.hid h1
            have HW5 := Lib.hid (HW4.out.trans h2)
            clear HR h1 h2 hg
            have HR := HR'
            clear HR'
            go_simp
            refine hK _ _ trivial ?_
            clear hK K2
            refine wpAnyH_take (i := 12) (v := ?_) rfl (by kernel_rfl) (by kernel_rfl) (by kernel_rfl) (fun _ _ _ h => h) (Or.inl ⟨by rfl, ?_⟩) HS0.out ?_
            rotate_left
            focus (intro w hS; clear hS; first | (go_simp; done) | (go_simp; with_reducible rfl))
            simp only [Act.put, List.getElem_toArray, List.getElem_cons_zero, List.getElem_cons_succ, List.setIfInBounds_toArray, List.set_cons_zero, List.set_cons_succ]
            refine wpAnyH_done (by kernel_rfl) ?_ _
            clear hp1 hp2
            go_wp2_with fail
            go_ret
            exact put_end HR.out HW5.out Hvl.out HI.out HX.out HP.out Hn.out
        · refine RdyH.cons rfl (fun K2 hK => ?_) RdyH.nil
          obtain ⟨wd1, hwd⟩ : ∃ x, x = wd0.alloc (.cells #[.slice xa xn xc] 22) := ⟨_, rfl⟩
          have hb : Below wd0.heap.size wd0 wd1 := by rw [hwd]; exact below_alloc _ _
          obtain ⟨lb, hlb⟩ : ∃ x, x = wd0.heap.size := ⟨_, rfl⟩
          have HL := Lib.hid (show wd1.heap[lb]? = some (.cells #[.slice xa xn xc] 22 (0, 0)) from by rw [hwd, hlb]; exact heap_alloc_new _ _)
          have HW1 := Lib.hid (Below.tr HW0.out hb)
          go_simp
          rw [← hwd, ← hlb]
          clear hb hwd hlb
          refine hK _ _ trivial ?_
          clear hK K2
          refine wpAnyH_ready (rs := [0]) (by kernel_rfl) (by simp) ?_
          refine RdyH.cons rfl (fun K2 hK => ?_) RdyH.nil
          obtain ⟨wd2, hwd⟩ : ∃ x, x = wd1.alloc (.cells #[] 22) := ⟨_, rfl⟩
          have hb : Below wd1.heap.size wd1 wd2 := by rw [hwd]; exact below_alloc _ _
          obtain ⟨g0, hg0⟩ : ∃ x, x = wd1.heap.size := ⟨_, rfl⟩
          have HR := Lib.hid (show wd2.ownsRow wr.heap.size 22 1 (.slice (some ⟨g0, 0, none⟩) 0 0) 0 [] from by
            rw [hwd, hg0]; exact World.ownsRow_lit wd1 #[] 0 HW1.out.size (by unfold maxLen; omega) rfl)
          have Hne := Lib.hid (show lb ≠ g0 from by rw [hg0]; exact Nat.ne_of_lt (Array.getElem?_eq_some_iff.1 HL.out).1)
          have HL := Lib.hid (blk_keep2 HL.out hb)
          have HW2 := Lib.hid (Below.tr HW1.out hb)
          go_simp
          rw [← hwd, ← hg0]
          clear hb hwd hg0
          refine hK _ _ trivial ?_
          clear hK K2
          refine wpAnyH_ready (rs := [4]) (by kernel_rfl) (by simp) ?_
          refine RdyH.cons rfl (fun K2 hK => ?_) RdyH.nil
          refine step_append_src rfl (.tmp 39) (.tmp 42) 27 rfl elemRows rfl HR.out rfl (HS1.out.keep HW2.out) (fun u hu => HO1.out u (List.mem_of_mem_take hu)) (by omega) HW2.out.size ?_
          intro v1 wd3 h1 h2 hg
          have HR' := Lib.hid h1
          have HL := Lib.hid ((hg.block lb (Array.getElem?_eq_some_iff.1 HL.out).1 (fun e => Hne.out (Option.some.inj e))).trans HL.out)
          have HW3 := Lib.hid (HW2.out.trans h2)
          clear HR h1 h2 hg
          have HR := HR'
          clear HR'
          go_simp
          refine hK _ _ trivial ?_
          clear hK K2
          refine wpAnyH_ready (rs := [7]) (by kernel_rfl) (by simp) ?_
          refine RdyH.cons rfl (fun K2 hK => ?_) RdyH.nil
          refine step_append_src rfl (.tmp 43) (.tmp 45) 27 rfl elemRows rfl HR.out rfl (src_lit HL.out) (fun u hu => by rw [List.mem_singleton.1 hu]; rfl) (by omega) HW3.out.size ?_
          intro v2 wd4 h1 h2 hg
          have HR' := Lib.hid h1
          have HW4 := Lib.hid (HW3.out.trans h2)
          clear HR h1 h2 hg
          have HR := HR'
          clear HR'
          go_simp
          refine hK _ _ trivial ?_
          clear hK K2
          refine wpAnyH_ready (rs := [11]) (by kernel_rfl) (by simp) ?_
          refine RdyH.cons rfl (fun K2 hK => ?_) RdyH.nil
          refine step_append_src rfl (.tmp 46) (.tmp 49) 27 rfl elemRows rfl HR.out rfl (HS2.out.keep HW4.out) (fun u hu => HO1.out u (List.mem_of_mem_drop hu)) (by omega) HW4.out.size ?_
          intro v3 wd5 h1 h2 hg
          have HR' := Lib.hid h1
          have HW5 := Lib.hid (HW4.out.trans h2)
          clear HR h1 h2 hg
          have HR := HR'
          clear HR'
          go_simp
          refine hK _ _ trivial ?_
          clear hK K2
          refine wpAnyH_take (i := 12) (v := ?_) rfl (by kernel_rfl) (by kernel_rfl) (by kernel_rfl) (fun _ _ _ h => h) (Or.inl ⟨by rfl, ?_⟩) HS0.out ?_
          rotate_left
          focus (intro w hS; clear hS; first | (go_simp; done) | (go_simp; with_reducible rfl))
          simp only [Act.put, List.getElem_toArray, List.getElem_cons_zero, List.getElem_cons_succ, List.setIfInBounds_toArray, List.set_cons_zero, List.set_cons_succ]
          refine wpAnyH_done (by kernel_rfl) ?_ _
          clear hp1 hp2
          go_wp2_with fail
          go_ret
          exact put_end HR.out HW5.out Hvl.out HI.out HX.out HP.out Hn.out
#print axioms put_any
theorem append_srcL {P : Program} {ops : Array Oper} {rest : List Oper} {o : Oper} {a : Act} {Q : Exit → Act → World → Prop} {w : World} (hgd : o.guard = none) (s x : Operand) (t : TypeId)
    (ho : o.op = .call { callee := .builtin .append, args := #[s, x], argTypes := #[t, t] }) {e : TypeId} {size bytes : Nat} (he : Elem P t e size bytes)
    {base n : Nat} {v : Value} {xs : List Value} (hs : a.eval s = v) (hown : w.ownsRow base e size v n xs)
    {u : Value} {m : Nat} {news : List Value} (hx : a.eval x = u) (hu : Src w u size m news) (h1 : ∀ u ∈ news, u.oneCell' = true)
    (hn : n + m ≤ 100000000000) (hbase : base ≤ w.heap.size)
    (h : ∀ v' w', w'.ownsRow base e size v' (n + m) (xs ++ news) → Below base w w' → w.grownBy w' v.ownBlock → wpList P ops Q rest (a.put o.dst v') w') : wpList P ops Q (o :: rest) a w :=
  wpList_plain hgd fun _ hK => wp_append_src s x t ho he hs hown hx hu h1 hn hbase fun v' w' h5 h6 h7 => hK _ _ (h v' w' h5 h6 h7)
set_option maxRecDepth 100000 in
set_option maxHeartbeats 2000000 in
theorem key_any (r : Int) (A : List Int) (hA : A.length ≤ 1000000) (u : Value) (w : World) (hu : Ints w u A) :
    Calls Try.prog 107 #[.agg #[.int .i64 r, u]] w fun e w' => ∃ a n k, e = .returned (.slice a n k) ∧ OwnInts w.heap.size w' (.slice a n k) (r :: A) ∧ Below w.heap.size w w' := by
  obtain ⟨ua, uc, rfl⟩ := ints_slice hu
  obtain ⟨un, hun⟩ : ∃ x, x = A.length := ⟨_, rfl⟩
  have Hun := Lib.hid hun
  rw [← hun] at hu hA ⊢
  obtain ⟨w1, hw1⟩ : ∃ x, x = w.alloc (.cells #[.int .i64 r, .slice ua un uc] 77) := ⟨_, rfl⟩
  have hb1 : Below w.heap.size w w1 := by rw [hw1]; exact below_alloc _ _
  have HG := Lib.hid (show w1.heap[w.heap.size]? = some (.cells #[.int .i64 r, .slice ua un uc] 77 (0, 0)) from by rw [hw1]; exact heap_alloc_new _ _)
  obtain ⟨w2, hw2⟩ : ∃ x, x = w1.alloc (.cells #[.int .i64 r] 3) := ⟨_, rfl⟩
  have hb2 : Below w1.heap.size w1 w2 := by rw [hw2]; exact below_alloc _ _
  obtain ⟨g, hg⟩ : ∃ x, x = w1.heap.size := ⟨_, rfl⟩
  have HR := Lib.hid (show w2.ownsRow w.heap.size 3 1 (.slice (some ⟨g, 0, none⟩) 1 1) 1 [.int .i64 r] from by
    rw [hw2, hg]; exact World.ownsRow_lit w1 #[.int .i64 r] 1 hb1.size (by unfold maxLen; omega) rfl)
  have HU := Lib.hid ((hu.keep hb1).keep hb2)
  have Hb := Lib.hid (Below.tr hb1 hb2)
  obtain ⟨ob, hob⟩ : ∃ x, x = w.heap.size := ⟨_, rfl⟩
  rw [← hob] at HG
  have g0 := aCell HG.out 0 rfl
  have g1 := aCell HG.out 1 rfl
  have g1' : (w1.alloc (.cells #[.int .i64 r] 3)).cell? ⟨ob, 1, none⟩ = some (.slice ua un uc) := by rw [← hw2]; exact Below.keep hb2 g1
  have Hw1 := Lib.hid hw1
  have Hw2 := Lib.hid hw2
  have Hob := Lib.hid hob
  have Hg := Lib.hid hg
  clear hu hb1 hb2 hw1 hw2 hun hob hg HG
  go_enter Try.func107, Try.ntmps107
  go_upto_region 1 with fail
  rw [← Hw1.out, ← Hob.out]
  go_wp2_with (first | (at_builtin; rw [← Hw2.out, ← Hg.out]; refine append_srcL rfl (.tmp 5) (.tmp 7) 22 rfl elemInts rfl HR.out rfl (Rd.src HU.out) (ints_oneCell A) (by rw [← Hun.out]; omega) Hb.out.size ?_; intro v' w3 h1 h2 h3))
  have HO := Lib.hid (show OwnInts w.heap.size w3 v' (r :: A) from by
    unfold OwnInts
    rw [List.length_cons, Nat.add_comm]; exact h1)
  have HB := Lib.hid (Hb.out.trans h2)
  obtain ⟨va, vn, vk, rfl⟩ := own_slice HO.out
  clear h1 h2 h3
  go_wp2_with fail
  go_ret
  exact ⟨va, vn, vk, rfl, HO.out, HB.out⟩
#print axioms key_any
end Go.Proofs.Ytfplmdieeabgpaa
