/- together: the graph of sets; its contract and what it is. -/
import Derived.Test.YtkjpbjbheocciaaOwn
import Derived.Test.YtkjpbjbheocciaaGa
import Derived.Test.YtkjpbjbheocciaaFacts
namespace Go.Proofs.Ytkjpbjbheocciaa
open Go.RowKit
/-- the k-th set has both, at different places -/
def bo (sets vs : List Nat) (k r m : Nat) : Prop := r ≠ m ∧ r < vs.length ∧ m < vs.length ∧ (nb sets k).testBit (nb vs r) = true ∧ (nb sets k).testBit (nb vs m) = true
/-- the graph under way: the first k sets whole, and of the k-th what D says -/
structure Pt (sets vs : List Nat) (k : Nat) (D : Nat → Nat → Prop) (G : List Nat) : Prop where
  len : G.length = vs.length
  bit : ∀ r m, r < vs.length → ((nb G r).testBit m = true ↔ (∃ q, q < k ∧ bo sets vs q r m) ∨ (bo sets vs k r m ∧ D r m))
theorem nb_set {G : List Nat} {i x r : Nat} (hi : i < G.length) : nb (G.set i x) r = if r = i then x else nb G r := by
  unfold nb
  by_cases e : r = i
  · subst e; simp [hi]
  · rw [if_neg e, List.getD_eq_getElem?_getD, List.getD_eq_getElem?_getD, List.getElem?_set, if_neg (fun q => e q.symm)]
theorem Pt.put {sets vs G : List Nat} {k i j : Nat} {D D' : Nat → Nat → Prop} (h : Pt sets vs k D G) (hi : bo sets vs k i j) (hD : ∀ r m, bo sets vs k r m → (D' r m ↔ D r m ∨ (r = i ∧ m = j))) : Pt sets vs k D' (G.set i (nb G i ||| 2 ^ j)) := by
  refine ⟨by rw [List.length_set]; exact h.len, fun r m hr => ?_⟩
  rw [nb_set (by rw [h.len]; exact hi.2.1)]
  by_cases e : r = i
  · subst e
    rw [if_pos rfl, Nat.testBit_or, Bool.or_eq_true, h.bit r m hr, Nat.testBit_two_pow, decide_eq_true_eq]
    constructor
    · rintro ((a | a) | a)
      · exact .inl a
      · exact .inr ⟨a.1, (hD r m a.1).2 (.inl a.2)⟩
      · subst a; exact .inr ⟨hi, (hD r j hi).2 (.inr ⟨rfl, rfl⟩)⟩
    · rintro (a | a)
      · exact .inl (.inl a)
      · rcases (hD r m a.1).1 a.2 with q | q
        · exact .inl (.inr ⟨a.1, q⟩)
        · exact .inr q.2.symm
  · rw [if_neg e, h.bit r m hr]
    constructor
    · rintro (a | a)
      · exact .inl a
      · exact .inr ⟨a.1, (hD r m a.1).2 (.inl a.2)⟩
    · rintro (a | a)
      · exact .inl a
      · exact .inr ⟨a.1, ((hD r m a.1).1 a.2).resolve_right fun q => e q.1⟩
theorem Pt.skip {sets vs G : List Nat} {k : Nat} {D D' : Nat → Nat → Prop} (h : Pt sets vs k D G) (hD : ∀ r m, bo sets vs k r m → (D' r m ↔ D r m)) : Pt sets vs k D' G :=
  ⟨h.len, fun r m hr => (h.bit r m hr).trans (or_congr Iff.rfl ⟨fun a => ⟨a.1, (hD r m a.1).2 a.2⟩, fun a => ⟨a.1, (hD r m a.1).1 a.2⟩⟩)⟩
theorem Pt.next {sets vs G : List Nat} {k : Nat} {D D' : Nat → Nat → Prop} (h : Pt sets vs k D G) (hD : ∀ r m, bo sets vs k r m → D r m) (hD' : ∀ r m, ¬ D' r m) : Pt sets vs (k + 1) D' G := by
  refine ⟨h.len, fun r m hr => (h.bit r m hr).trans ?_⟩
  constructor
  · rintro (⟨q, a, b⟩ | a)
    · exact .inl ⟨q, by omega, b⟩
    · exact .inl ⟨k, by omega, a.1⟩
  · rintro (⟨q, a, b⟩ | a)
    · by_cases e : q = k
      · subst e; exact .inr ⟨b, hD r m b⟩
      · exact .inl ⟨q, by omega, b⟩
    · exact absurd a.2 (hD' r m)
theorem Pt.start (sets vs : List Nat) {D : Nat → Nat → Prop} (hD : ∀ r m, ¬ D r m) : Pt sets vs 0 D (List.replicate vs.length 0) := by
  refine ⟨by simp, fun r m hr => ?_⟩
  rw [show nb (List.replicate vs.length 0) r = 0 by simp [nb, hr], Nat.zero_testBit]
  exact ⟨fun h => (by cases h), fun h => h.elim (fun ⟨q, a, _⟩ => absurd a (Nat.not_lt_zero q)) fun a => absurd a.2 (hD r m)⟩
theorem Pt.lt {sets vs G : List Nat} {k : Nat} {D : Nat → Nat → Prop} (h : Pt sets vs k D G) (h8 : vs.length ≤ 8) (r : Nat) : nb G r < 256 := by
  by_cases hr : r < vs.length
  · refine Nat.lt_pow_two_of_testBit (n := 8) _ fun m hm => ?_
    cases e : (nb G r).testBit m with
    | false => rfl
    | true =>
      rcases (h.bit r m hr).1 e with ⟨q, _, b⟩ | b
      · have := b.2.2.1; omega
      · have := b.1.2.2.1; omega
  · rw [show nb G r = 0 by unfold nb; rw [List.getD_eq_getElem?_getD, List.getElem?_eq_none (by rw [h.len]; omega)]; rfl]; omega
/-- two such graphs are the same -/
theorem Pt.same {s1 s2 vs G G' : List Nat} {k k' : Nat} {D D' : Nat → Nat → Prop} (h : Pt s1 vs k D G) (h' : Pt s2 vs k' D' G') (he : ∀ r m, ((∃ q, q < k ∧ bo s1 vs q r m) ∨ (bo s1 vs k r m ∧ D r m)) ↔ ((∃ q, q < k' ∧ bo s2 vs q r m) ∨ (bo s2 vs k' r m ∧ D' r m))) : G = G' := by
  refine List.ext_getElem (h.len.trans h'.len.symm) fun r a b => ?_
  have hr : r < vs.length := by rw [← h.len]; exact a
  have e1 : G[r] = nb G r := (nb_get a).symm
  have e2 : G'[r] = nb G' r := (nb_get b).symm
  rw [e1, e2]
  refine Nat.eq_of_testBit_eq fun m => ?_
  have := ((h.bit r m hr).trans (he r m)).trans (h'.bit r m hr).symm
  cases x : (nb G r).testBit m <;> cases y : (nb G' r).testBit m <;> simp_all
/-- a row of naturals at the beginning of a block of its own -/
def NRow (w : World) (g n : Nat) (G : List Nat) : Prop := w.ownsRow g 3 1 (.slice (some ⟨g, 0, none⟩) n n) n ((castN G).map (Value.int .i64))
theorem NRow.at {w : World} {g n : Nat} {G : List Nat} (h : NRow w g n G) (hl : G.length = n) {i : Nat} (hi : i < n) : w.cell? ⟨g, i, none⟩ = some (.int .i64 (nb G i : Nat)) := by
  have := World.ownsRow.cellAt h i (by omega)
  rw [this]
  simp [castN, nb, hl, hi]
theorem NRow.put {w : World} {g n : Nat} {G : List Nat} (h : NRow w g n G) (i x : Nat) : NRow (w.setCell ⟨g, i, none⟩ (.int .i64 x)) g n (G.set i x) := by
  have := (World.ownsRow.stored h i (.int .i64 x)).1
  unfold NRow
  rw [show castN (G.set i x) = (castN G).set i (x : Int) by simp [castN, List.map_set], List.map_set]
  exact this
theorem NRow.own {w : World} {g n base : Nat} {G : List Nat} (h : NRow w g n G) (hl : G.length = n) (hb : base ≤ g) : OwnInts base w (.slice (some ⟨g, 0, none⟩) n n) (castN G) := by
  refine OwnInts.base (base := g) ?_ hb
  unfold OwnInts
  rw [castN_length, hl]; exact h
theorem nRow_made {w : World} {g n : Nat} (h : w.ownsRow g 3 1 (.slice (some ⟨g, 0, none⟩) n n) n (madeCells (Value.int IntKind.i64 0).cells (n * 1)).toList) : NRow w g n (List.replicate n 0) := by
  have e : (madeCells (Value.int IntKind.i64 0).cells (n * 1)).toList = (castN (List.replicate n 0)).map (Value.int .i64) := by
    rw [Nat.mul_one]
    show (madeCells #[Value.int .i64 0] n).toList = _
    rw [toList_madeCells_one, castN, List.map_replicate, List.map_replicate]; rfl
  rw [e] at h
  exact h
theorem one_shl (k : Nat) : (1 : Int) * 2 ^ k = ((2 ^ k : Nat) : Int) := by
  rw [Int.one_mul]; simp
set_option maxRecDepth 100000 in
set_option maxHeartbeats 16000000 in
theorem together_any (vs sets : List Nat) (hv8 : vs.length ≤ 8) (hv64 : ∀ i, nb vs i < 64) (hs : ∀ i, nb sets i < 256) (u v : Value) (w : World) (hu : Ints w u (castN vs)) (hv : Ints w v (castN sets)) :
    Calls Try.prog 99 #[u, v] w fun e w' => ∃ (x : Value) (G : List Nat), e = .returned x ∧ OwnInts w.heap.size w' x (castN G) ∧ Pt sets vs sets.length (fun _ _ => False) G ∧ Below w.heap.size w w' := by
  obtain ⟨a, b, off, cap, rfl, hle, ha, hc⟩ := Ints.graph hu
  obtain ⟨a2, b2, off2, cap2, rfl, hle2, ha2, hc2⟩ := Ints.graph hv
  have Hix := Lib.hid (run_ix (P := Try.prog) (t := 22) (a := a) (len := vs.length) (cap := cap) (b := b) (off := off) (s := 1) Try.underlying22 (by intro w; kernel_rfl) ha)
  have Hix2 := Lib.hid (run_ix (P := Try.prog) (t := 22) (a := a2) (len := sets.length) (cap := cap2) (b := b2) (off := off2) (s := 1) Try.underlying22 (by intro w; kernel_rfl) ha2)
  simp only [Nat.mul_one] at Hix Hix2
  have Hc := Lib.hid hc
  have Hc2 := Lib.hid hc2
  have H64 := Lib.hid hv64
  have Hs := Lib.hid hs
  have Hh := Lib.hid (fun s i (h1 : s < 256) h2 w => has_any s i (Nat.lt_trans h1 (by decide)) h2 w)
  obtain ⟨i0, hi, hz⟩ : ∃ i0, Try.prog.info? 3 = some i0 ∧ (i0.zero, i0.size, i0.bytes) = (some (.int .i64 0), 1, 8) := by
    have := infoInt
    cases h : Try.prog.info? 3 with
    | none => rw [h] at this; cases this
    | some i0 => rw [h] at this; exact ⟨i0, rfl, by simpa using this⟩
  simp only [Prod.mk.injEq] at hz
  have Hi := Lib.hid hi
  have Hz0 := Lib.hid hz.1
  have Hz1 := Lib.hid hz.2.1
  have Hby := Lib.hid (show i0.bytes * vs.length ≤ 281474976710656 by rw [hz.2.2]; omega)
  clear hi hz hu hv ha ha2 hc hc2 hv64 hs
  go_enter Try.func99, Try.ntmps99
  go_wp2_with (refine wpList_make_full _ rfl (.tmp 13) (.tmp 13) 27 rfl w.heap.size 3 i0 (.int .i64 0) 1 Try.underlying27 Hi.out Hz0.out Hz1.out .i64 .i64 _ _ vs.length rfl rfl rfl rfl Hby.out (by unfold maxLen; omega) (Nat.le_refl _) ?_; intro w3 hown hgr)
  have HR := Lib.hid (nRow_made hown)
  have Hb3 := Lib.hid (show Below w.heap.size w w3 from ⟨hgr.os, hgr.tape, hgr.output, hgr.size, fun k hk => hgr.block k hk (by simp)⟩)
  have HP := Lib.hid (Pt.start sets vs (D := fun _ _ => False) (fun _ _ h => h))
  have Hixg := Lib.hid (run_ix (P := Try.prog) (t := 27) (a := some ⟨w.heap.size, 0, none⟩) (len := vs.length) (cap := vs.length) (b := w.heap.size) (off := 0) (s := 1) Try.underlying27 (by intro w; kernel_rfl) (fun _ => rfl))
  simp only [Nat.mul_one, Nat.zero_add] at Hixg
  clear hown hgr
  go_wp2_with fail
  go_loopw [17] (fun vk wr => ∃ (k : Nat) (G : List Nat), vk = .int .i64 k ∧ k ≤ sets.length ∧ Below w.heap.size w wr ∧ NRow wr w.heap.size vs.length G ∧ Pt sets vs k (fun _ _ => False) G) (fun vk _ => sets.length - (intOf vk).toNat)
  case atStart => exact ⟨0, _, rfl, Nat.zero_le _, Hb3.out, HR.out, HP.out⟩
  case round =>
    clear Hb3 HR HP
    obtain ⟨k, G, rfl, hk, hb, hr, hp⟩ := hrel
    have Hb := Lib.hid hb
    have HR := Lib.hid hr
    have HP := Lib.hid hp
    clear hb hr hp
    by_cases hlt : k < sets.length
    · have hixk := Hix2.out k
      have hck := Below.keep Hb.out (Hc2.out k hlt)
      have hs2 := Hs.out k
      obtain ⟨s, hsn⟩ : ∃ s, s = nb sets k := ⟨_, rfl⟩
      rw [← hsn] at hck hs2
      have Hsn := Lib.hid hsn
      have HP0 := Lib.hid (HP.out.skip (D' := fun r _ => r < 0) (fun r m _ => ⟨fun h => absurd h (Nat.not_lt_zero _), fun h => h.elim⟩))
      clear hsn HP
      go_wp2_with fail
      clear hixk hck
      go_loopw [23] (fun vi wr => ∃ (i : Nat) (G : List Nat), vi = .int .i64 i ∧ i ≤ vs.length ∧ Below w.heap.size w wr ∧ NRow wr w.heap.size vs.length G ∧ Pt sets vs k (fun r _ => r < i) G) (fun vi _ => vs.length - (intOf vi).toNat)
      case atStart => exact ⟨0, G, rfl, Nat.zero_le _, Hb.out, HR.out, HP0.out⟩
      case round =>
        clear Hb HR HP0 G
        obtain ⟨i, G, rfl, hi, hb, hr, hp⟩ := hrel
        have Hb := Lib.hid hb
        have HR := Lib.hid hr
        have HP := Lib.hid hp
        clear hb hr hp
        by_cases hli : i < vs.length
        · have hixi := Hix.out i
          have hci := Below.keep Hb.out (Hc.out i hli)
          have hx64 := H64.out i
          obtain ⟨x, hxn⟩ : ∃ x, x = nb vs i := ⟨_, rfl⟩
          rw [← hxn] at hci hx64
          have Hxn := Lib.hid hxn
          have HP0 := Lib.hid (HP.out.skip (D' := fun r m => r < i ∨ r = i ∧ m < 0) (fun r m _ => ⟨fun h => h.elim id fun q => absurd q.2 (Nat.not_lt_zero _), .inl⟩))
          clear hxn HP
          go_wp2_with fail
          clear hixi hci
          go_loopw [30] (fun vj wr => ∃ (j : Nat) (G : List Nat), vj = .int .i64 j ∧ j ≤ vs.length ∧ Below w.heap.size w wr ∧ NRow wr w.heap.size vs.length G ∧ Pt sets vs k (fun r m => r < i ∨ r = i ∧ m < j) G) (fun vj _ => vs.length - (intOf vj).toNat)
          case atStart => exact ⟨0, G, rfl, Nat.zero_le _, Hb.out, HR.out, HP0.out⟩
          case round =>
            clear Hb HR HP0 G
            obtain ⟨j, G, rfl, hj, hb, hr, hp⟩ := hrel
            have Hb := Lib.hid hb
            have HR := Lib.hid hr
            have HP := Lib.hid hp
            clear hb hr hp
            by_cases hlj : j < vs.length
            · have hixj := Hix.out j
              have hcj := Below.keep Hb.out (Hc.out j hlj)
              have hy64 := H64.out j
              obtain ⟨y, hyn⟩ : ∃ y, y = nb vs j := ⟨_, rfl⟩
              rw [← hyn] at hcj hy64
              have Hyn := Lib.hid hyn
              clear hyn
              have Hno := Lib.hid (fun (q : ¬ bo sets vs k i j) => HP.out.skip (D' := fun r m => r < i ∨ r = i ∧ m < j + 1) (fun r m hb => ⟨fun h => h.elim .inl fun h => .inr ⟨h.1, by
                have : m ≠ j := fun e => q (by rw [← e, ← h.1]; exact hb)
                omega⟩, fun h => h.elim .inl fun h => .inr ⟨h.1, by omega⟩⟩))
              have Hyes := Lib.hid (fun (q : bo sets vs k i j) => HP.out.put (D' := fun r m => r < i ∨ r = i ∧ m < j + 1) q (fun r m _ => ⟨fun h => by omega, fun h => by omega⟩))
              have hi63 : (i : Int) < 9223372036854775808 := by omega
              by_cases e1 : i = j
              · have q1 : ((i : Int) != (j : Int)) = false := by rw [bne_eq_false_iff_eq]; omega
                have R := Lib.hid (Hno.out fun h => h.1 e1)
                clear e1 Hyes Hno
                go_wp2_with fail
                go_roundw
                case rel => exact ⟨j + 1, G, by go_num, by omega, Hb.out, HR.out, R.out⟩
                case measure => simp [intOf]; omega
              · have q1 : ((i : Int) != (j : Int)) = true := by rw [bne_iff_ne]; omega
                have H1 := Lib.hid (Hh.out s x hs2 hx64 wr)
                have H2 := Lib.hid (Hh.out s y hs2 hy64 wr)
                cases B1 : s.testBit x with
                | false =>
                  rw [B1] at H1
                  have R := Lib.hid (Hno.out fun h => by have := h.2.2.2.1; rw [← Hsn.out, ← Hxn.out, B1] at this; cases this)
                  clear B1 Hyes Hno
                  go_wp2_with fail
                  refine H1.out.mono ?_
                  rintro e w5 ⟨rfl, rfl⟩
                  go_wp2_with fail
                  go_roundw
                  case rel => exact ⟨j + 1, G, by go_num, by omega, Hb.out, HR.out, R.out⟩
                  case measure => simp [intOf]; omega
                | true =>
                  rw [B1] at H1
                  cases B2 : s.testBit y with
                  | false =>
                    rw [B2] at H2
                    have R := Lib.hid (Hno.out fun h => by have := h.2.2.2.2; rw [← Hsn.out, ← Hyn.out, B2] at this; cases this)
                    clear B1 B2 Hyes Hno
                    go_wp2_with fail
                    refine H1.out.mono ?_
                    rintro e w5 ⟨rfl, rfl⟩
                    go_wp2_with fail
                    refine H2.out.mono ?_
                    rintro e w5 ⟨rfl, rfl⟩
                    go_wp2_with fail
                    go_roundw
                    case rel => exact ⟨j + 1, G, by go_num, by omega, Hb.out, HR.out, R.out⟩
                    case measure => simp [intOf]; omega
                  | true =>
                    rw [B2] at H2
                    have R := Lib.hid (Hyes.out ⟨e1, hli, hlj, by rw [← Hsn.out, ← Hxn.out, B1], by rw [← Hsn.out, ← Hyn.out, B2]⟩)
                    have hg := HP.out.lt hv8 i
                    have hgl := HP.out.len
                    obtain ⟨z, hzn⟩ : ∃ z, z = nb G i := ⟨_, rfl⟩
                    rw [← hzn] at R hg
                    have hcz := HR.out.at hgl hli
                    rw [← hzn] at hcz
                    have hp2 : 2 ^ j < 256 := Nat.lt_of_lt_of_eq (Nat.pow_lt_pow_right (a := 2) (by decide) (show j < 8 by omega)) (by decide)
                    have hsh := one_shl j
                    have hor := bits_or_nat z (2 ^ j) (by omega) (by omega)
                    obtain ⟨p, hpn⟩ : ∃ p, p = 2 ^ j := ⟨_, rfl⟩
                    rw [← hpn] at R hsh hp2 hor
                    have hw := wrap_nat p (by omega)
                    have hj0 : (0 : Int) ≤ (j : Int) := by omega
                    have hj64 : (j : Int) < 64 := by omega
                    have hixg := Hixg.out i
                    have hfz := World.ownsRow.frozenAt HR.out i
                    have HRn := Lib.hid (show NRow (wr.setCell ⟨w.heap.size, i, none⟩ (.int .i64 ((z ||| p : Nat) : Int))).drew w.heap.size vs.length (G.set i (z ||| p)) from World.ownsRow.drew (HR.out.put i (z ||| p)))
                    have HBn := Lib.hid (show Below w.heap.size w (wr.setCell ⟨w.heap.size, i, none⟩ (.int .i64 ((z ||| p : Nat) : Int))).drew from (Hb.out.setCell (Nat.le_refl _) _).drew)
                    clear hpn hzn hgl B1 B2 Hyes Hno HP
                    go_wp2_with fail
                    refine H1.out.mono ?_
                    rintro e w5 ⟨rfl, rfl⟩
                    go_wp2_with fail
                    refine H2.out.mono ?_
                    rintro e w5 ⟨rfl, rfl⟩
                    go_wp2_with fail
                    go_region
                    all_goals
                      go_wp2_with fail
                      go_roundw
                      case rel => exact ⟨j + 1, _, by go_num, by omega, HBn.out, HRn.out, R.out⟩
                      case measure => simp [intOf]; omega
            · obtain rfl : j = vs.length := by omega
              have R := Lib.hid (HP.out.skip (D' := fun r _ => r < i + 1) (fun r m hb => ⟨fun h => by
                have := hb.2.2.1
                by_cases e : r = i
                · exact .inr ⟨e, this⟩
                · exact .inl (by omega), fun h => by omega⟩))
              go_wp2_with fail
              go_roundw
              case rel => exact ⟨i + 1, G, by go_num, by omega, Hb.out, HR.out, R.out⟩
              case measure => simp [intOf]; omega
        · obtain rfl : i = vs.length := by omega
          have R := Lib.hid (HP.out.next (D' := fun _ _ => False) (fun r m hb => hb.2.1) (fun _ _ h => h))
          go_wp2_with fail
          go_roundw
          case rel => exact ⟨k + 1, G, by go_num, by omega, Hb.out, HR.out, R.out⟩
          case measure => simp [intOf]; omega
    · obtain rfl : k = sets.length := by omega
      have HO := Lib.hid (HR.out.own HP.out.len (Nat.le_refl _))
      go_wp2_with fail
      go_ret
      exact ⟨_, G, rfl, HO.out, HP.out, Hb.out⟩
#print axioms together_any
end Go.Proofs.Ytkjpbjbheocciaa
