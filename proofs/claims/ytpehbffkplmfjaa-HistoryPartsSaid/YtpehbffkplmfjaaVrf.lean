/- Contract of the reference's view: what each read reads, transaction by transaction, and the last writers. -/
import Derived.Test.YtpehbffkplmfjaaSer
import Derived.Test.YtpehbffkplmfjaaFrr
import Derived.Test.YtpehbffkplmfjaaPms
namespace Go.Proofs.Ytpehbffkplmfjaa
open Go.RowKit
/-- what the reads of transaction t among the first k operations read -/
def rdT (g : List NOp) (t k : Nat) : List Int := ((List.range k).filter fun i => decide (tT g i = t ∧ tK g i = 0)).map (frm g)
def rdN (g : List NOp) (m : Nat) : List Int := (List.range m).flatMap fun s => rdT g (s + 1) g.length
/-- the last writers after the first k operations -/
def lsN (g : List NOp) : Nat → Nat → Nat
  | 0 => fun _ => 0
  | k + 1 => if tK g k = 1 then fun x => if x = tI g k then tT g k else lsN g k x else lsN g k
def vrN (g : List NOp) : List Int := rdN g 6 ++ (List.range 6).map fun x => ((lsN g g.length x : Nat) : Int)
theorem rdT_step (g : List NOp) (t k : Nat) : rdT g t (k + 1) = if tT g k = t ∧ tK g k = 0 then rdT g t k ++ [frm g k] else rdT g t k := by
  unfold rdT
  rw [List.range_succ, List.filter_append, List.map_append]
  by_cases e : tT g k = t ∧ tK g k = 0
  · rw [if_pos e]; simp [e]
  · rw [if_neg e]; simp [e]
theorem rdT_le (g : List NOp) (t k : Nat) : (rdT g t k).length ≤ k := by
  unfold rdT
  rw [List.length_map]
  have := List.length_filter_le (fun i => decide (tT g i = t ∧ tK g i = 0)) (List.range k)
  rwa [List.length_range] at this
theorem rdN_step (g : List NOp) (m : Nat) : rdN g (m + 1) = rdN g m ++ rdT g (m + 1) g.length := by
  unfold rdN
  rw [List.range_succ, List.flatMap_append]; simp
theorem rdN_le (g : List NOp) : ∀ m, (rdN g m).length ≤ m * g.length
  | 0 => by simp [rdN]
  | m + 1 => by
    have h1 := rdN_le g m
    have h2 := rdT_le g (m + 1) g.length
    rw [rdN_step, List.length_append, Nat.succ_mul]; omega
theorem froms_at {g : List NOp} {i : Nat} (hi : i < g.length) : (froms g)[i]? = some (frm g i) := by
  unfold froms; simp [hi]
theorem lsB_put {w : World} {b : Nat} {f : Nat → Nat} (h : Blk w b 86 6 fun j => .int .i64 (f j : Nat)) (x t : Nat) : Blk (w.setCell ⟨b, x, none⟩ (.int .i64 (t : Nat))) b 86 6 fun j => .int .i64 ((if j = x then t else f j : Nat) : Nat) := by
  refine Blk.congr (Blk.put h x (.int .i64 (t : Nat))) fun j _ => ?_
  by_cases e : j = x
  · simp only [e, if_true]
  · simp only [e, if_false]
theorem slice_six (b : Nat) (w : World) : (Instr.sliceAt 86 (.pointer (some ⟨b, 0, none⟩)) none none none).run Try.prog w = .ok (.slice (some ⟨b, 0, none⟩) 6 6) w := by
  have h6 : Try.prog.arrayLen 86 = 6 := by kernel_rfl
  have hs : ∀ w, (sizeOf (Try.prog.elem 86)).run Try.prog w = .ok 1 w := by intro w; kernel_rfl
  rw [run_sliceAt_array_all w 86 ⟨b, 0, none⟩ (by kernel_rfl), hs, h6]
  rfl
set_option maxRecDepth 100000 in
set_option maxHeartbeats 8000000 in
theorem viewR_any {g : List NOp} (hh : VH g) (v : Value) (w : World) (hv : Ops w v (castO g)) :
    Calls Try.prog 97 #[v] w fun e w' => ∃ v', e = .returned v' ∧ OwnInts w.heap.size w' v' (vrN g) ∧ Below w.heap.size w w' := by
  have HFr := Lib.hid (fromR_any hh v w hv)
  obtain ⟨a, b, off, cap, rfl, hle, ha, hcap, hc⟩ := Ops.nat hv
  have hix := run_ix (P := Try.prog) (t := 23) (a := a) (len := g.length) (cap := cap) (b := b) (off := off) (s := 3) Try.underlying23 (by intro w; kernel_rfl) ha
  have h40 := hh.le
  have Hc := Lib.hid hc
  have Hix := Lib.hid hix
  have HH := Lib.hid hh
  have Hrs := Lib.hid (rdT_step g)
  have Hrl := Lib.hid (rdT_le g)
  have Hns := Lib.hid (rdN_step g)
  have Hnl := Lib.hid (rdN_le g)
  have H0 := Lib.hid (show ∀ t, rdT g t 0 = [] from fun t => rfl)
  have Hls := Lib.hid (show ∀ k, lsN g (k + 1) = if tK g k = 1 then fun x => if x = tI g k then tT g k else lsN g k x else lsN g k from fun k => rfl)
  have Hfl := Lib.hid (show (froms g).length = g.length from by simp [froms])
  have Hfa := Lib.hid (fun (i : Nat) (hi : i < g.length) => froms_at hi)
  obtain ⟨fl, hfl⟩ : ∃ fl, fl = froms g := ⟨_, rfl⟩
  rw [← hfl] at HFr Hfl Hfa
  clear ha hv hc hix hcap hh hle hfl
  go_enter Try.func97, Try.ntmps97
  go_wp2_with fail
  refine HFr.out.mono ?_
  rintro e w1 ⟨v1, rfl, ho1, hb1⟩
  obtain ⟨a1, b1, off1, cap1, rfl, hle1, ha1, hc1⟩ := Ints.get ho1.ints
  have hix1 := run_ix (P := Try.prog) (t := 24) (a := a1) (len := fl.length) (cap := cap1) (b := b1) (off := off1) (s := 1) Try.underlying24 (by intro w; kernel_rfl) ha1
  simp only [Nat.mul_one] at hix1
  have Hc1 := Lib.hid hc1
  have Hix1 := Lib.hid hix1
  have Hb1 := Lib.hid hb1
  clear ho1 hb1 hc1 hix1 ha1 hle1 HFr
  go_wp2_with fail
  go_loopw [4, 5] (fun o vt wr => ∃ t : Nat, vt = .int .i64 t ∧ 1 ≤ t ∧ t ≤ 7 ∧ Below w1.heap.size w1 wr ∧ OwnInts w1.heap.size wr o (rdN g (t - 1))) (fun _ vt _ => 7 - (intOf vt).toNat)
  case atStart => exact ⟨1, rfl, Nat.le_refl _, by omega, Below.refl _ _, ownInts_nil _ _⟩
  case round =>
    obtain ⟨t, rfl, ht1, ht7, hb, hown⟩ := hrel
    have Hbt := Lib.hid hb
    have Hownt := Lib.hid hown
    clear hb hown
    by_cases htl : t ≤ 6
    · have HNt := Lib.hid (show rdN g (t + 1 - 1) = rdN g (t - 1) ++ rdT g t g.length from by
        have := Hns.out (t - 1)
        rwa [show t - 1 + 1 = t by omega] at this)
      have HLt := Lib.hid (show (rdN g (t - 1)).length ≤ 240 from by
        have h1 := Hnl.out (t - 1)
        have h2 : (t - 1) * g.length ≤ 6 * 40 := Nat.mul_le_mul (by omega) h40
        omega)
      obtain ⟨S, hS⟩ : ∃ S, S = rdN g (t - 1) := ⟨_, rfl⟩
      rw [← hS] at HNt HLt Hownt
      have htd : decide ((t : Int) ≤ 6) = true := decide_eq_true (by omega)
      clear hS
      go_wp2_with fail
      obtain ⟨wo, hwo⟩ : ∃ wo : World, wo = wr := ⟨_, rfl⟩
      clear hwo
      go_loopw [4, 19] (fun o vk wr => ∃ k : Nat, vk = .int .i64 k ∧ k ≤ g.length ∧ Below w1.heap.size w1 wr ∧ OwnInts w1.heap.size wr o (S ++ rdT g t k)) (fun _ vk _ => g.length - (intOf vk).toNat)
      case atStart => exact ⟨0, rfl, Nat.zero_le _, Hbt.out, by rw [H0.out, List.append_nil]; exact Hownt.out⟩
      case round =>
        clear Hownt
        obtain ⟨k, rfl, hk, hb, hown⟩ := hrel
        obtain ⟨wA, hwA⟩ : ∃ wA : World, wA = wr := ⟨_, rfl⟩
        subst hwA
        have Hb := Lib.hid hb
        have Hown := Lib.hid hown
        clear hb hown
        by_cases hlt : k < g.length
        · have hc1 := Below.keep (Below.tr Hb1.out Hb.out) (Hc.out k hlt).1
          have hc2 := Below.keep (Below.tr Hb1.out Hb.out) (Hc.out k hlt).2.1
          have hc3 := Below.keep (Below.tr Hb1.out Hb.out) (Hc.out k hlt).2.2
          have hixk := Hix.out k
          have hkf : k < fl.length := by rw [Hfl.out]; exact hlt
          have hix1 := Hix1.out k
          have HS1 := Lib.hid (Hrs.out t k)
          have HL1 := Lib.hid (Hrl.out t k)
          have hfk : fl[k] = frm g k := by
            have := Hfa.out k hlt
            rw [List.getElem?_eq_getElem hkf] at this
            exact Option.some.inj this
          have hf1 := Hc1.out k hkf
          rw [hfk] at hf1
          obtain ⟨z, hz⟩ : ∃ z, z = frm g k := ⟨_, rfl⟩
          rw [← hz] at hf1 HS1
          obtain ⟨s, hs⟩ : ∃ s, s = tT g k := ⟨_, rfl⟩
          obtain ⟨q, hq⟩ : ∃ r, r = tK g k := ⟨_, rfl⟩
          obtain ⟨x, hx⟩ : ∃ x, x = tI g k := ⟨_, rfl⟩
          rw [← hs] at hc1 HS1
          rw [← hq] at hc2 HS1
          rw [← hx] at hc3
          clear hs hq hx hz hfk
          have hbn := below_alloc wA (.cells #[.int .i64 s, .int .i64 q, .int .i64 x] 55)
          have hf2 := Below.keep (Below.tr Hb.out hbn) hf1
          have Hb2 := Lib.hid (Below.tr Hb.out hbn)
          have Hown1 := Lib.hid (Hown.out.keep hbn)
          have g0 : (wA.alloc (.cells #[.int .i64 s, .int .i64 q, .int .i64 x] 55)).cell? ⟨wA.heap.size, 0, none⟩ = some (.int .i64 s) := cell_new wA _ _ 0
          have g1 : (wA.alloc (.cells #[.int .i64 s, .int .i64 q, .int .i64 x] 55)).cell? ⟨wA.heap.size, 1, none⟩ = some (.int .i64 q) := cell_new wA _ _ 1
          have g2 : (wA.alloc (.cells #[.int .i64 s, .int .i64 q, .int .i64 x] 55)).cell? ⟨wA.heap.size, 2, none⟩ = some (.int .i64 x) := cell_new wA _ _ 2
          clear hbn hf1
          by_cases e1 : s = t
          · have q1 : ((s : Int) == (t : Int)) = true := by rw [beq_iff_eq]; omega
            by_cases e2 : q = 0
            · have R := Lib.hid (HS1.out.trans (if_pos ⟨e1, e2⟩))
              have q2 : ((q : Int) == 0) = true := by rw [beq_iff_eq]; omega
              clear e1 e2
              obtain ⟨Q, hQ⟩ : ∃ Q, Q = S ++ rdT g t k := ⟨_, rfl⟩
              have HQl := Lib.hid (show Q.length ≤ 300 from by rw [hQ, List.length_append]; have := HL1.out; have := HLt.out; omega)
              have R2 := Lib.hid (show S ++ rdT g t (k + 1) = Q ++ [z] from by rw [R.out, hQ, List.append_assoc])
              rw [← hQ] at Hown1
              clear hQ R Hown HS1
              go_wp2_with (at_builtin; refine append_own rfl (.tmp 33) (.tmp 38) 24 rfl elemInts rfl (World.ownsRow.alloc Hown1.out _) [.int .i64 z] rfl rfl ?c1 ?c2 ?c3 ?c4 ?_)
              case c1 => intro j u hj; go_simp
              case c2 => intro u hu; simp at hu; subst hu; rfl
              case c3 => have := HQl.out; omega
              case c4 => have := Hb2.out.size; simp at this; simp; omega
              intro v2 w2 r1 r2 _
              have HO := Lib.hid (show OwnInts w1.heap.size w2 v2 (S ++ rdT g t (k + 1)) from by
                rw [R2.out]
                exact OwnInts.snoc r1)
              have HB := Lib.hid (show Below w1.heap.size w1 w2 from (Below.tr Hb2.out (below_alloc _ _)).trans r2)
              clear r1 r2
              go_wp2_with fail
              go_roundw
              case rel => exact ⟨k + 1, by go_num, by omega, HB.out, HO.out⟩
              case measure => simp [intOf]; omega
            · have R := Lib.hid (HS1.out.trans (if_neg (fun e => e2 e.2)))
              have q2 : ((q : Int) == 0) = false := by rw [beq_eq_false_iff_ne]; omega
              clear e1 e2
              go_wp2_with fail
              go_roundw
              case rel => exact ⟨k + 1, by go_num, by omega, Hb2.out, by rw [R.out]; exact Hown1.out⟩
              case measure => simp [intOf]; omega
          · have R := Lib.hid (HS1.out.trans (if_neg (fun e => e1 e.1)))
            have q1 : ((s : Int) == (t : Int)) = false := by rw [beq_eq_false_iff_ne]; omega
            clear e1
            go_wp2_with fail
            go_roundw
            case rel => exact ⟨k + 1, by go_num, by omega, Hb2.out, by rw [R.out]; exact Hown1.out⟩
            case measure => simp [intOf]; omega
        · obtain rfl : k = g.length := by omega
          have HO := Lib.hid (show OwnInts w1.heap.size wA u4 (rdN g (t + 1 - 1)) from by rw [HNt.out]; exact Hown.out)
          go_wp2_with fail
          go_roundw
          case rel => exact ⟨t + 1, by go_num, by omega, by omega, Hb.out, HO.out⟩
          case measure => simp [intOf]; omega
    · obtain rfl : t = 7 := by omega
      have HL6 := Lib.hid (show (rdN g 6).length ≤ 240 from by
        have h1 := Hnl.out 6
        have h2 : 6 * g.length ≤ 6 * 40 := Nat.mul_le_mul (Nat.le_refl _) h40
        omega)
      have Hown6 := Lib.hid (show OwnInts w1.heap.size wr u4 (rdN g 6) from Hownt.out)
      obtain ⟨wB, hwB⟩ : ∃ wB : World, wB = wr := ⟨_, rfl⟩
      subst hwB
      have HB0 := Lib.hid (show Blk (wB.alloc (.cells #[.int .i64 0, .int .i64 0, .int .i64 0, .int .i64 0, .int .i64 0, .int .i64 0] 86)) wB.heap.size 86 6 (fun j => .int .i64 (lsN g 0 j : Nat)) from blk_new wB 86 6 fun _ => .int .i64 0)
      have HbB0 := Lib.hid (below_alloc wB (.cells #[.int .i64 0, .int .i64 0, .int .i64 0, .int .i64 0, .int .i64 0, .int .i64 0] 86))
      clear Hownt
      go_wp2_with fail
      generalize wB.alloc (.cells #[.int .i64 0, .int .i64 0, .int .i64 0, .int .i64 0, .int .i64 0, .int .i64 0] 86) = wB1 at *
      go_loopw [43] (fun vk wr => ∃ k : Nat, vk = .int .i64 k ∧ k ≤ g.length ∧ Below wB.heap.size wB wr ∧ Blk wr wB.heap.size 86 6 (fun j => .int .i64 (lsN g k j : Nat))) (fun vk _ => g.length - (intOf vk).toNat)
      case atStart => exact ⟨0, rfl, Nat.zero_le _, HbB0.out, HB0.out⟩
      case round =>
        clear HB0 HbB0
        obtain ⟨k, rfl, hk, hb, hB⟩ := hrel
        obtain ⟨wA, hwA⟩ : ∃ wA : World, wA = wr := ⟨_, rfl⟩
        subst hwA
        have Hb := Lib.hid hb
        have HB := Lib.hid hB
        clear hb hB
        by_cases hlt : k < g.length
        · have Hbb := Lib.hid (Below.tr (Below.tr Hb1.out Hbt.out) Hb.out)
          have hc1 := Below.keep Hbb.out (Hc.out k hlt).1
          have hc2 := Below.keep Hbb.out (Hc.out k hlt).2.1
          have hc3 := Below.keep Hbb.out (Hc.out k hlt).2.2
          have hixk := Hix.out k
          have hx5 := (HH.out.x5 k hlt).1
          have HS1 := Lib.hid (Hls.out k)
          obtain ⟨s, hs⟩ : ∃ s, s = tT g k := ⟨_, rfl⟩
          obtain ⟨q, hq⟩ : ∃ r, r = tK g k := ⟨_, rfl⟩
          obtain ⟨x, hx⟩ : ∃ x, x = tI g k := ⟨_, rfl⟩
          rw [← hs] at hc1 HS1
          rw [← hq] at hc2 HS1
          rw [← hx] at hc3 HS1 hx5
          clear hs hq hx
          have hbn := below_alloc wA (.cells #[.int .i64 s, .int .i64 q, .int .i64 x] 55)
          have Hb2 := Lib.hid (Below.tr Hb.out hbn)
          have hB2 : Blk (wA.alloc (.cells #[.int .i64 s, .int .i64 q, .int .i64 x] 55)) wB.heap.size 86 6 (fun j => .int .i64 (lsN g k j : Nat)) := Blk.keep HB.out hbn
          have HB2 := Lib.hid hB2
          have hcx := Blk.at hB2 (show x < 6 by omega)
          have hfx := Blk.fz hB2 x
          have g0 : (wA.alloc (.cells #[.int .i64 s, .int .i64 q, .int .i64 x] 55)).cell? ⟨wA.heap.size, 0, none⟩ = some (.int .i64 s) := cell_new wA _ _ 0
          have g1 : (wA.alloc (.cells #[.int .i64 s, .int .i64 q, .int .i64 x] 55)).cell? ⟨wA.heap.size, 1, none⟩ = some (.int .i64 q) := cell_new wA _ _ 1
          have g2 : (wA.alloc (.cells #[.int .i64 s, .int .i64 q, .int .i64 x] 55)).cell? ⟨wA.heap.size, 2, none⟩ = some (.int .i64 x) := cell_new wA _ _ 2
          have hx6 : (x : Int) < 6 := by omega
          have hx0 : (0 : Int) ≤ (x : Int) := by omega
          clear hbn hB2
          by_cases e1 : q = 1
          · have R := Lib.hid (HS1.out.trans (if_pos e1))
            have q1 : ((q : Int) == 1) = true := by rw [beq_iff_eq]; omega
            clear e1
            have HP := Lib.hid (lsB_put HB2.out x s)
            have HbP := Lib.hid (Below.put Hb2.out (Nat.le_refl wB.heap.size) (b := wB.heap.size) (i := x) (.int .i64 (s : Nat)))
            go_wp2_with fail
            go_roundw
            case rel => exact ⟨k + 1, by go_num, by omega, HbP.out, by rw [R.out]; exact HP.out⟩
            case measure => simp [intOf]; omega
          · have R := Lib.hid (HS1.out.trans (if_neg e1))
            have q1 : ((q : Int) == 1) = false := by rw [beq_eq_false_iff_ne]; omega
            clear e1
            go_wp2_with fail
            go_roundw
            case rel => exact ⟨k + 1, by go_num, by omega, Hb2.out, by rw [R.out]; exact HB2.out⟩
            case measure => simp [intOf]; omega
        · obtain rfl : k = g.length := by omega
          have HOw := Lib.hid (Hown6.out.keep Hb.out)
          have HI := Lib.hid (show Ints wA (.slice (some ⟨wB.heap.size, 0, none⟩) 6 6) ((List.range 6).map fun x => ((lsN g g.length x : Nat) : Int)) from ⟨by simp, by simp [maxLen], some ⟨wB.heap.size, 0, none⟩, wB.heap.size, 0, 6, by simp, ⟨fun _ => rfl, by simp⟩, fun j hj => by
            simp at hj
            rw [Nat.zero_add, Blk.at HB.out hj]
            simp⟩)
          have Hbe := Lib.hid (Below.tr Hbt.out Hb.out)
          have hsl := slice_six wB.heap.size
          go_wp2_with (at_builtin; refine append_srcL rfl (.tmp 56) (.tmp 57) 24 rfl elemInts rfl HOw.out rfl (Rd.src HI.out) ?c1 ?c2 ?c3 ?_)
          case c1 => intro u hu; exact ints_oneCell _ u hu
          case c2 => have := HL6.out; simp; omega
          case c3 => exact Hbe.out.size
          intro v9 w9 r1 r2 _
          have HO := Lib.hid (show OwnInts w1.heap.size w9 v9 (vrN g) from by
            unfold OwnInts vrN
            rw [List.length_append, List.map_append]
            exact r1)
          have HBf := Lib.hid (show Below w1.heap.size w1 w9 from Hbe.out.trans r2)
          clear r1 r2
          go_wp2_with fail
          go_ret
          exact ⟨_, rfl, HO.out.base Hb1.out.size, Below.tr Hb1.out HBf.out⟩
#print axioms viewR_any
end Go.Proofs.Ytpehbffkplmfjaa
