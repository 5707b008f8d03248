/- Contract of the reference's Cover. -/
import Derived.Test.YtkjpbjbheocciaaVe
namespace Go.Proofs.Ytkjpbjbheocciaa
open Go.RowKit

theorem sub_half {p s : Nat} (h : Sub p s) : Sub (p / 2) (s / 2) ∧ p % 2 ≤ s % 2 := by
  refine ⟨sub_iff.2 fun i hi => ?_, ?_⟩
  · rw [Nat.testBit_div_two] at hi ⊢
    exact sub_iff.1 h _ hi
  · have := sub_iff.1 h 0
    rw [Nat.testBit_zero, Nat.testBit_zero, decide_eq_true_iff, decide_eq_true_iff] at this
    omega
theorem and_halves (x y : Nat) : (x &&& y) / 2 = (x / 2) &&& (y / 2) ∧ ((x &&& y) % 2 = 1 ↔ x % 2 = 1 ∧ y % 2 = 1) := by
  constructor
  · apply Nat.eq_of_testBit_eq
    intro i
    rw [Nat.testBit_and, Nat.testBit_div_two, Nat.testBit_div_two, Nat.testBit_div_two, Nat.testBit_and]
  · have h : (x &&& y).testBit 0 = (x.testBit 0 && y.testBit 0) := Nat.testBit_and ..
    rw [Nat.testBit_zero, Nat.testBit_zero, Nat.testBit_zero, Bool.eq_iff_iff, Bool.and_eq_true, decide_eq_true_iff, decide_eq_true_iff, decide_eq_true_iff] at h
    exact h
/-- (p - 1) & s is the greatest part of s below p -/
theorem sub_pred : ∀ (s p q : Nat), Sub p s → Sub q s → q < p → q ≤ (p - 1) &&& s
  | 0, p, q, hp, _, h => by
    have := hp.le; omega
  | s + 1, p, q, hp, hq, h => by
    have h1 := sub_half hp
    have h2 := sub_half hq
    have e := and_halves (p - 1) (s + 1)
    have hlt : (s + 1) / 2 < s + 1 := by omega
    by_cases hodd : p % 2 = 1
    · have e1 : (p - 1) / 2 = p / 2 := by omega
      rw [e1, h1.1.and_eq] at e
      omega
    · have e1 : (p - 1) / 2 = p / 2 - 1 := by omega
      have ih := sub_pred ((s + 1) / 2) (p / 2) (q / 2) h1.1 h2.1 (by omega)
      rw [e1] at e
      have e2 := e.2
      omega
theorem sub_and (p s : Nat) : Sub (p &&& s) s := sub_iff.2 fun i hi => by rw [Nat.testBit_and, Bool.and_eq_true] at hi; exact hi.2
theorem ndiff_part_lt {p s : Nat} (h : Sub p s) (h0 : p ≠ 0) : ndiff s p < s := by
  refine Nat.lt_of_le_of_ne (ndiff_le s p) fun e => ?_
  obtain ⟨i, hi⟩ := ex_bit h0
  have h1 := sub_iff.1 h i hi
  have := testBit_ndiff s p i
  rw [e, h1, hi] at this
  cases this
/-- m is the least number of cliques that have each node of s once -/
def Few (g : List Nat) (s m : Nat) : Prop := (∀ t, Sub t s → Indep g t → cnt g.length t ≤ m) ∧ ∀ L, Parts L s → (∀ c ∈ L, Cliq g c) → m ≤ L.length
theorem few_zero (g : List Nat) : Few g 0 0 := ⟨fun t ht _ => by
  have : t = 0 := by have := ht.le; omega
  rw [this, (cnt_zero_iff (Nat.two_pow_pos _)).2 rfl]; exact Nat.le_refl _, fun L _ _ => Nat.zero_le _⟩
/-- what the inner loop knows -/
structure Dp (g vals : List Nat) (s p m : Nat) : Prop where
  lo : ∀ t, Sub t s → Indep g t → cnt g.length t ≤ m
  le : m ≤ 99
  up : ∀ q, p < q → Sub q s → Cliq g q → m ≤ at' vals (ndiff s q) + 1
theorem dp_start {g : List Nat} (hg : Gr g) (vals : List Nat) (s : Nat) : Dp g vals s s 99 :=
  ⟨fun t _ _ => by have := cnt_le g.length t; have := hg.le; omega, Nat.le_refl _, fun q hq hs _ => by have := hs.le; omega⟩
theorem dp_no {g vals : List Nat} {s p m : Nat} (h : Dp g vals s p m) (hp : Sub p s) (hn : ¬ Cliq g p) : Dp g vals s ((p - 1) &&& s) m :=
  ⟨h.lo, h.le, fun q hq hs hc => by
    rcases Nat.lt_trichotomy q p with h1 | h1 | h1
    · have := sub_pred s p q hp hs h1; omega
    · rw [h1] at hc; exact absurd hc hn
    · exact h.up q h1 hs hc⟩
theorem dp_yes {g vals : List Nat} {s p m : Nat} (hs : s < 2 ^ g.length) (h : Dp g vals s p m) (hp : Sub p s) (h0 : p ≠ 0) (hc : Cliq g p) (hf : ∀ i, i < s → Few g i (at' vals i)) : Dp g vals s ((p - 1) &&& s) (min m (at' vals (ndiff s p) + 1)) := by
  have hlt := ndiff_part_lt hp h0
  refine ⟨fun t ht hi => ?_, by have := h.le; omega, fun q hq hs2 hc2 => ?_⟩
  · have h1 := h.lo t ht hi
    have htl := Nat.lt_of_le_of_lt ht.le hs
    have h2 := cnt_cliq htl hi (Nat.lt_of_le_of_lt hp.le hs) hc
    have h3 := (hf _ hlt).1 (ndiff t p) (sub_iff.2 fun i hi2 => by
      rw [testBit_ndiff, Bool.and_eq_true] at hi2 ⊢
      exact ⟨sub_iff.1 ht i hi2.1, hi2.2⟩) (indep_sub htl hi (sub_ndiff t p))
    omega
  · rcases Nat.lt_trichotomy q p with h1 | h1 | h1
    · have := sub_pred s p q hp hs2 h1; omega
    · subst h1; omega
    · have := h.up q h1 hs2 hc2; omega
theorem dp_end {g vals : List Nat} {s m : Nat} (h0 : s ≠ 0) (h : Dp g vals s 0 m) (hf : ∀ i, i < s → Few g i (at' vals i)) : Few g s m := by
  refine ⟨h.lo, fun L hL hc => ?_⟩
  cases L with
  | nil =>
    obtain ⟨i, hi⟩ := ex_bit h0
    obtain ⟨c, hc2, _⟩ := (hL.2.2 i).1 hi
    cases hc2
  | cons c L =>
    have hcs : Sub c s := sub_iff.2 fun i hi => (hL.2.2 i).2 ⟨c, by simp, hi⟩
    have hc0 := hL.1 c (by simp)
    have h1 := h.up c (by omega) hcs (hc c (by simp))
    have hp := List.pairwise_cons.1 hL.2.1
    have h2 := (hf _ (ndiff_part_lt hcs hc0)).2 L ⟨fun d hd => hL.1 d (by simp [hd]), hp.2, fun i => by
      rw [testBit_ndiff, Bool.and_eq_true, Bool.not_eq_true']
      constructor
      · rintro ⟨h3, h4⟩
        obtain ⟨d, hd, hdi⟩ := (hL.2.2 i).1 h3
        rcases List.mem_cons.1 hd with rfl | hd
        · rw [h4] at hdi; cases hdi
        · exact ⟨d, hd, hdi⟩
      · rintro ⟨d, hd, hdi⟩
        refine ⟨(hL.2.2 i).2 ⟨d, by simp [hd], hdi⟩, ?_⟩
        cases hci : c.testBit i with
        | false => rfl
        | true => exact absurd ⟨hci, hdi⟩ (and_zero_iff.1 (hp.1 d hd) i)⟩ (fun d hd => hc d (by simp [hd]))
    simp only [List.length_cons]; omega
theorem few_al {g : List Nat} (hg : Gr g) (hc : Chordal g) {m : Nat} (h : Few g (2 ^ g.length - 1) m) : m = al g := by
  obtain ⟨t, t1, t2, t3⟩ := al_ex hg
  have h1 := h.1 t (sub_iff.2 fun i hi => full_bit.2 (bit_lt t1 hi)) t2
  have h2 := h.2 (cov g) (cov_parts hg hc) (fun c hcm => (cov_cl hg hc c hcm).2)
  rw [cov_al hg hc] at h2
  omega
def DpRow (w : World) (base blk F : Nat) (vals : List Nat) : Prop := w.ownsRow base 3 1 (.slice (some ⟨blk, 0, none⟩) F F) F ((castN vals).map (Value.int .i64))
theorem castN_set (l : List Nat) (i x : Nat) : castN (l.set i x) = (castN l).set i (x : Int) := by simp [castN, List.map_set]
theorem at_set {l : List Nat} {i x j : Nat} (hi : i < l.length) : at' (l.set i x) j = if j = i then x else at' l j := by
  unfold at'
  by_cases e : j = i
  · subst e; simp [List.getD, hi]
  · simp [List.getD, e, show ¬ i = j from fun h => e h.symm]
theorem DpRow.at {w : World} {base blk F : Nat} {vals : List Nat} (h : DpRow w base blk F vals) (hl : vals.length = F) {i : Nat} (hi : i < F) : w.cell? ⟨blk, i, none⟩ = some (.int .i64 (at' vals i : Nat)) := by
  have := World.ownsRow.cellAt h i (by omega)
  rw [this]
  simp [castN, at', hl, hi]
theorem DpRow.put {w : World} {base blk F : Nat} {vals : List Nat} (h : DpRow w base blk F vals) (i x : Nat) : DpRow (w.setCell ⟨blk, i, none⟩ (.int .i64 x)) base blk F (vals.set i x) := by
  unfold DpRow; rw [castN_set, List.map_set]; exact (World.ownsRow.stored h i (.int .i64 x)).1
set_option maxRecDepth 100000 in
set_option maxHeartbeats 4000000 in
theorem coverR_any {g : List Nat} (hg : Gr g) (v : Value) (w : World) (hv : Ints w v (castN g)) :
    Calls Try.prog 41 #[v] w fun e w' => (∃ m : Nat, e = .returned (.int .i64 m) ∧ Few g (2 ^ g.length - 1) m) ∧ Below w.heap.size w w' := by
  obtain ⟨a, c, rfl⟩ := ints_slice hv
  have Hv := Lib.hid hv
  rw [castN_length] at Hv ⊢
  have HG := Lib.hid hg
  have hn12 := hg.le
  obtain ⟨F, hF, f1, f2, f3⟩ := pow_name g.length hn12
  have HF := Lib.hid hF
  rw [← hF]
  have hl1 : (0 : Int) ≤ (g.length : Int) := by omega
  have hl2 : (g.length : Int) < 64 := by omega
  obtain ⟨i0, hi, hz⟩ : ∃ i0, Try.prog.info? 3 = some i0 ∧ (i0.zero, i0.size, i0.bytes) = (some (.int .i64 0), 1, 8) := by
    have := infoInt
    cases h : Try.prog.info? 3 with
    | none => rw [h] at this; cases this
    | some i0 => rw [h] at this; exact ⟨i0, rfl, by simpa using this⟩
  simp only [Prod.mk.injEq] at hz
  have Hi := Lib.hid hi
  have Hz0 := Lib.hid hz.1
  have Hz1 := Lib.hid hz.2.1
  have Hby := Lib.hid (show i0.bytes * F ≤ 281474976710656 by rw [hz.2.2]; omega)
  have hF2 : 2 ≤ F := by
    rw [hF]
    have := Nat.pow_le_pow_right (n := 2) (by decide) hg.pos
    omega
  clear hi hz hv hg hF
  go_enter Try.func41, Try.ntmps41
  go_wp2_with (refine wpList_make_full _ rfl (.tmp 8) (.tmp 8) 22 rfl w.heap.size 3 i0 (.int .i64 0) 1 Try.underlying22 Hi.out Hz0.out Hz1.out .i64 .i64 _ _ F rfl rfl rfl rfl Hby.out (by unfold maxLen; omega) (Nat.le_refl _) ?_; intro w3 hown hgr)
  have hrow : DpRow w3 w.heap.size w.heap.size F (List.replicate F 0) := by
    have e : (madeCells (Value.int IntKind.i64 0).cells (F * 1)).toList = (castN (List.replicate F 0)).map (Value.int .i64) := by
      rw [Nat.mul_one]
      show (madeCells #[Value.int .i64 0] F).toList = _
      rw [toList_madeCells_one, castN, List.map_replicate, List.map_replicate]; rfl
    rw [e] at hown
    exact hown
  have Hrow := Lib.hid hrow
  have Hb3 := Lib.hid (show Below w.heap.size w w3 from ⟨hgr.os, hgr.tape, hgr.output, hgr.size, fun k hk => hgr.block k hk (by simp)⟩)
  have hix' := run_ix (P := Try.prog) (t := 22) (a := some ⟨w.heap.size, 0, none⟩) (len := F) (cap := F) (b := w.heap.size) (off := 0) (s := 1) Try.underlying22 (by intro w; kernel_rfl) (fun _ => rfl)
  simp only [Nat.mul_one, Nat.zero_add] at hix'
  have Hix' := Lib.hid hix'
  clear hown hgr hrow hix'
  go_wp2_with fail
  go_loopw [4] (fun i wr => ∃ (s : Nat) (vals : List Nat), i = .int .i64 s ∧ 1 ≤ s ∧ s ≤ F ∧ Below w.heap.size w wr ∧ DpRow wr w.heap.size w.heap.size F vals ∧ vals.length = F ∧ (∀ i, i < s → Few g i (at' vals i)) ∧ ∀ i, at' vals i ≤ 99) (fun i _ => F - (intOf i).toNat)
  case atStart =>
    exact ⟨1, _, rfl, Nat.le_refl _, f3, Hb3.out, Hrow.out, by simp, fun i hi => by
      obtain rfl : i = 0 := by omega
      have : at' (List.replicate F 0) 0 = 0 := by simp [at', List.getD, show 0 < F by omega]
      rw [this]; exact few_zero g, fun i => by
        unfold at' List.getD
        rw [List.getElem?_replicate]; split <;> simp⟩
  case round =>
    clear Hrow Hb3
    obtain ⟨s, vals, rfl, hs1, hsF, hb, hrow, hvl, hfew, h99⟩ := hrel
    have Hb := Lib.hid hb
    have Hrow := Lib.hid hrow
    have Hvl := Lib.hid hvl
    have Hfew := Lib.hid hfew
    have H99 := Lib.hid h99
    clear hb hrow hvl hfew h99
    by_cases hlt : s < F
    · have hixs := Hix'.out s
      have hfz := World.ownsRow.frozenAt Hrow.out s
      have hcell := World.ownsRow.cellAt Hrow.out s (by omega)
      rw [List.getElem?_eq_getElem (by rw [List.length_map, castN_length, Hvl.out]; exact hlt)] at hcell
      have HR := Lib.hid (show DpRow (wr.setCell ⟨w.heap.size, s, none⟩ (.int .i64 99)) w.heap.size w.heap.size F (vals.set s 99) by
        unfold DpRow; rw [castN_set, List.map_set]; exact (World.ownsRow.stored Hrow.out s (.int .i64 (99 : Nat))).1)
      have Hb2 := Lib.hid (show Below w.heap.size w (wr.setCell ⟨w.heap.size, s, none⟩ (.int .i64 99)) from Hb.out.setCell (Nat.le_refl _) _)
      have HD := Lib.hid (dp_start HG.out vals s)
      have Hs2 := Lib.hid (show s < 2 ^ g.length by rw [← HF.out]; exact hlt)
      go_wp2_with fail
      generalize wr.setCell ⟨w.heap.size, s, none⟩ (.int .i64 99) = w4 at *
      clear hfz hcell hixs
      go_loopw [5] (fun i wr => ∃ (p m : Nat), i = .int .i64 p ∧ p ≤ s ∧ Sub p s ∧ Below w.heap.size w wr ∧ DpRow wr w.heap.size w.heap.size F (vals.set s m) ∧ Dp g vals s p m) (fun i _ => (intOf i).toNat)
      case atStart => exact ⟨s, 99, rfl, Nat.le_refl _, Sub.refl s, Hb2.out, HR.out, HD.out⟩
      case round =>
        clear HR Hb2 HD
        obtain ⟨p, m, rfl, hps, hsub, hb, hrow, hdp⟩ := hrel
        have hm99 := hdp.le
        have Hb := Lib.hid hb
        have Hrow := Lib.hid hrow
        have Hdp := Lib.hid hdp
        have Hsub := Lib.hid hsub
        clear hb hrow hdp hsub
        by_cases hp0 : 0 < p
        · have hp1 : (p : Int) > 0 := by omega
          have hw : IntKind.i64.wrap ((p : Int) - 1) = ((p - 1 : Nat) : Int) := by rw [IntWalk.i64_in _ ⟨by omega, by omega⟩]; omega
          have hand := bits_and_nat (p - 1) s (by omega) (by omega)
          have Hn := Lib.hid (show (p - 1) &&& s < p from by have := Nat.and_le_left (n := p - 1) (m := s); omega)
          have Hn2 := Lib.hid (sub_and (p - 1) s)
          obtain ⟨y, hy⟩ : ∃ y, y = (p - 1) &&& s := ⟨_, rfl⟩
          rw [← hy] at hand Hn Hn2
          have hyp := Hn.out
          have hp4 : p < 4096 := by omega
          by_cases hc : Cliq g p
          · have Hcl := Lib.hid (fun v w hv => isCliqueR_b HG.out p true (decide_eq_true hc) hp4 v w hv)
            have HD := Lib.hid (dp_yes Hs2.out Hdp.out Hsub.out (by omega) hc Hfew.out)
            rw [← hy] at HD
            have hnd := bits_andNot_nat s p (by omega) (by omega)
            have hns := ndiff_part_lt Hsub.out (by omega)
            obtain ⟨d, hd⟩ : ∃ d, d = ndiff s p := ⟨_, rfl⟩
            rw [← hd] at hnd hns HD
            have hx99 := H99.out d
            obtain ⟨x, hx⟩ : ∃ x, x = at' vals d := ⟨_, rfl⟩
            have Hx := Lib.hid (show at' (vals.set s m) d = x by rw [at_set (by rw [Hvl.out]; exact hlt), if_neg (by omega), hx])
            have Hm := Lib.hid (show at' (vals.set s m) s = m by rw [at_set (by rw [Hvl.out]; exact hlt), if_pos rfl])
            rw [← hx] at HD hx99
            clear hy hc hd hx
            go_wp2_with fail
            refine (Hcl.out _ _ (Ints.keep Hv.out Hb.out)).mono ?_
            rintro e w5 ⟨rfl, q5, hw5⟩
            have hbb := (show Below wr.heap.size wr w5 by rw [hw5]; exact bdrewN (Below.refl _ _) _)
            have Hb5 := Lib.hid (Below.tr Hb.out hbb)
            have Hrow5 := Lib.hid (show DpRow w5 w.heap.size w.heap.size F (vals.set s m) from owns_keep Hrow.out hbb)
            clear hbb hw5
            have hixs := Hix'.out s
            have hixd := Hix'.out d
            have hdF : d < F := by omega
            have hfz := World.ownsRow.frozenAt Hrow5.out s
            have hcs := Hrow5.out.at (by rw [List.length_set]; exact Hvl.out) hlt
            have hcd := Hrow5.out.at (by rw [List.length_set]; exact Hvl.out) hdF
            rw [Hm.out] at hcs
            rw [Hx.out] at hcd
            have hwx : IntKind.i64.wrap ((x : Int) + 1) = ((x + 1 : Nat) : Int) := by rw [IntWalk.i64_in _ ⟨by omega, by omega⟩]; omega
            have HR := Lib.hid (show DpRow (w5.setCell ⟨w.heap.size, s, none⟩ (.int .i64 (min (m : Int) ((x : Int) + 1)))).drew w.heap.size w.heap.size F (vals.set s (min m (x + 1))) by
              have h1 := Hrow5.out.put s (min m (x + 1))
              rw [List.set_set, show ((min m (x + 1) : Nat) : Int) = min (m : Int) ((x : Int) + 1) by omega] at h1
              exact World.ownsRow.drew h1)
            have HB := Lib.hid (show Below w.heap.size w (w5.setCell ⟨w.heap.size, s, none⟩ (.int .i64 (min (m : Int) ((x : Int) + 1)))).drew from (Hb5.out.setCell (Nat.le_refl _) _).drew)
            go_wp2_with fail
            go_region
            generalize (w5.setCell ⟨w.heap.size, s, none⟩ (.int .i64 (min (m : Int) ((x : Int) + 1)))).drew = w6 at *
            clear hcs hcd hfz hixs hixd
            go_wp2_with fail
            go_roundw
            case rel => exact ⟨y, min m (x + 1), rfl, by omega, Hn2.out, HB.out, HR.out, HD.out⟩
            case measure => simp [intOf]; omega
          · have Hcl := Lib.hid (fun v w hv => isCliqueR_b HG.out p false (decide_eq_false hc) hp4 v w hv)
            have HD := Lib.hid (dp_no Hdp.out Hsub.out hc)
            rw [← hy] at HD
            clear hy hc
            go_wp2_with fail
            refine (Hcl.out _ _ (Ints.keep Hv.out Hb.out)).mono ?_
            rintro e w5 ⟨rfl, q5, hw5⟩
            have hbb := (show Below wr.heap.size wr w5 by rw [hw5]; exact bdrewN (Below.refl _ _) _)
            have Hb5 := Lib.hid (Below.tr Hb.out hbb)
            have Hrow5 := Lib.hid (show DpRow w5 w.heap.size w.heap.size F (vals.set s m) from owns_keep Hrow.out hbb)
            clear hbb hw5
            go_wp2_with fail
            go_roundw
            case rel => exact ⟨y, m, rfl, by omega, Hn2.out, Hb5.out, Hrow5.out, HD.out⟩
            case measure => simp [intOf]; omega
        · obtain rfl : p = 0 := by omega
          have R1 := Lib.hid (dp_end (by omega) Hdp.out Hfew.out)
          have R2 := Lib.hid (show ∀ i, i < s + 1 → Few g i (at' (vals.set s m) i) from fun i hi => by
            rw [at_set (by rw [Hvl.out]; exact hlt)]
            by_cases e : i = s
            · subst e; rw [if_pos rfl]; exact R1.out
            · rw [if_neg e]; exact Hfew.out i (by omega))
          have R3 := Lib.hid (show ∀ i, at' (vals.set s m) i ≤ 99 from fun i => by
            rw [at_set (by rw [Hvl.out]; exact hlt)]
            split
            · exact hm99
            · exact H99.out i)
          have R4 := Lib.hid (show (vals.set s m).length = F by rw [List.length_set]; exact Hvl.out)
          go_wp2_with fail
          go_roundw
          case rel => exact ⟨s + 1, _, by go_num, by omega, by omega, Hb.out, Hrow.out, R4.out, R2.out, R3.out⟩
          case measure => simp [intOf]; omega
    · obtain rfl : s = F := by omega
      have hix1 := Hix'.out (s - 1)
      have hs1' : s - 1 < s := by omega
      have hc1 := Hrow.out.at Hvl.out hs1'
      have hs2 : ((s : Int) - 1) = ((s - 1 : Nat) : Int) := by omega
      have hw1 : IntKind.i64.wrap ((s : Int) - 1) = ((s - 1 : Nat) : Int) := by rw [IntWalk.i64_in _ ⟨by omega, by omega⟩]; omega
      have R := Lib.hid (show Few g (s - 1) (at' vals (s - 1)) from Hfew.out _ (by omega))
      go_wp2_with fail
      go_ret
      exact ⟨⟨_, rfl, R.out⟩, Hb.out⟩
#print axioms coverR_any
end Go.Proofs.Ytkjpbjbheocciaa
