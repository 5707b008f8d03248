/- Contract of the reference's perms. -/
import Derived.Test.YtpehbffkplmfjaaPer
import Derived.Test.YtpehbffkplmfjaaSrc
import Derived.Maps.AppendAt
namespace Go.Proofs.Ytpehbffkplmfjaa
open Go.RowKit

theorem infoInts : (Try.prog.info? 24).map (fun i => (i.zero, i.size, i.bytes)) = some (some (.slice none 0 0), 1, 24) := by kernel_rfl
theorem elemRows : Elem Try.prog 82 24 1 24 := elem_of Try.underlying82 infoInts rfl (by omega) (by omega)
theorem rows_apart {w : World} {b1 b2 : Nat} {e1 e2 : TypeId} {s1 s2 : Nat} {u v : Value} {n1 n2 : Nat} {xs ys : List Value} (h : w.ownsRow b1 e1 s1 u n1 xs) (k : w.ownsRow b2 e2 s2 v n2 ys) (he : e1 ≠ e2) : u.ownBlock = none ∨ u.ownBlock ≠ v.ownBlock := by
  rcases h.2 with ⟨rfl, _⟩ | ⟨g, cap, cur, rfl, _, hg, _⟩
  · exact .inl rfl
  · right
    rcases k.2 with ⟨rfl, _⟩ | ⟨g', cap', cur', rfl, _, hg', _⟩
    · simp [Value.ownBlock]
    · simp only [Value.ownBlock, ne_eq, Option.some.injEq]
      intro e
      subst e
      rw [hg] at hg'
      injection hg' with h1
      injection h1 with _ h2
      exact he h2
/-- a slice of slices of ints, all of it the call's own -/
def OwnRows (base : Nat) (w : World) (o : Value) (L : List (List Int)) : Prop :=
  ∃ vs : List Value, vs.length = L.length ∧ w.ownsRow base 24 1 o L.length vs ∧ ∀ i (h : i < vs.length) (h' : i < L.length), OwnInts base w vs[i] L[i]
theorem OwnRows.keep {base : Nat} {L : List (List Int)} {w w' : World} {o : Value} (h : OwnRows base w o L) (hb : Below w.heap.size w w') : OwnRows base w' o L := by
  obtain ⟨vs, h1, h2, h3⟩ := h
  exact ⟨vs, h1, owns_keep h2 hb, fun i a b => (h3 i a b).keep hb⟩
theorem OwnRows.base {base base' : Nat} {L : List (List Int)} {w : World} {o : Value} (h : OwnRows base w o L) (hb : base' ≤ base) : OwnRows base' w o L := by
  obtain ⟨vs, h1, h2, h3⟩ := h
  exact ⟨vs, h1, owns_base h2 hb, fun i a b => (h3 i a b).base hb⟩
theorem OwnRows.rows {base : Nat} {L : List (List Int)} {w : World} {o : Value} (h : OwnRows base w o L) : Rows w o L := by
  obtain ⟨vs, h1, h2, h3⟩ := h
  exact ⟨vs, h1, owns_rd h2, fun i a b => (h3 i b a).ints⟩
theorem OwnRows.slice {base : Nat} {L : List (List Int)} {w : World} {o : Value} (h : OwnRows base w o L) : ∃ a c, o = .slice a L.length c := by
  obtain ⟨vs, h1, h2, h3⟩ := h
  rcases h2.2 with ⟨rfl, h0⟩ | ⟨g, cap, cur, rfl, _⟩
  · exact ⟨none, 0, by rw [h0]⟩
  · exact ⟨_, _, rfl⟩
theorem OwnRows.step {base n : Nat} {L : List (List Int)} {w1 w2 : World} {o v' u : Value} {vs : List Value} {x : List Int} (h1 : vs.length = L.length) (h2 : w1.ownsRow base 24 1 o L.length vs) (h3 : ∀ i (h : i < vs.length) (h' : i < L.length), OwnInts base w1 vs[i] L[i])
    (hu : OwnInts base w1 u x) (hn : n = L.length + 1) (h4 : w2.ownsRow base 24 1 v' n (vs ++ [u])) (hg : w1.grownBy w2 o.ownBlock) : OwnRows base w2 v' (L ++ [x]) := by
  subst hn
  have key : ∀ z l, OwnInts base w1 z l → OwnInts base w2 z l := fun z l hz => World.ownsRow.kept hz hg (rows_apart hz h2 (by decide))
  refine ⟨vs ++ [u], by simp [h1], by simpa using h4, fun i a b => ?_⟩
  by_cases e : i < vs.length
  · rw [List.getElem_append_left e, List.getElem_append_left (by omega)]; exact key _ _ (h3 i e (by omega))
  · have e2 : i = L.length := by simp at b; omega
    subst e2
    rw [List.getElem_append_right (by omega), List.getElem_append_right (by omega)]
    simp only [h1, Nat.sub_self, List.getElem_cons_zero]
    exact key _ _ hu
theorem ownRows_nil (base : Nat) (w : World) : OwnRows base w (.slice none 0 0) [] := ⟨[], rfl, World.ownsRow_nil _ _ _ _, fun _ h _ => absurd h (Nat.not_lt_zero _)⟩

def facN : Nat → Nat
  | 0 => 1
  | n + 1 => (n + 1) * facN n
/-- the orders that begin with one of the first i -/
def permsTo (l : List Nat) (i : Nat) : List (List Nat) := (List.range i).flatMap fun i => (perms (l.eraseIdx i)).map (l.getD i 0 :: ·)
theorem permsTo_succ (l : List Nat) (i : Nat) : permsTo l (i + 1) = permsTo l i ++ (perms (l.eraseIdx i)).map (l.getD i 0 :: ·) := by
  unfold permsTo
  rw [List.range_succ, List.flatMap_append]
  simp
theorem perms_length : ∀ (n : Nat) (l : List Nat), l.length = n → (perms l).length = facN n
  | 0, l, hn => by
    obtain rfl := List.eq_nil_of_length_eq_zero hn
    rfl
  | n + 1, l, hn => by
    have key : ∀ i, i ≤ n + 1 → (permsTo l i).length = i * facN n := by
      intro i
      induction i with
      | zero => intro _; simp [permsTo]
      | succ i ih =>
        intro hi
        rw [permsTo_succ, List.length_append, ih (by omega), List.length_map, perms_length n _ (by rw [List.length_eraseIdx_of_lt (by omega)]; omega), Nat.succ_mul]
    rw [perms_cons (by intro e; rw [e] at hn; simp at hn), hn]
    exact key (n + 1) (Nat.le_refl _)
theorem permsTo_length {l : List Nat} {n i : Nat} (hn : l.length = n + 1) (hi : i ≤ n + 1) : (permsTo l i).length = i * facN n := by
  induction i with
  | zero => simp [permsTo]
  | succ i ih => rw [permsTo_succ, List.length_append, ih (by omega), List.length_map, perms_length n _ (by rw [List.length_eraseIdx_of_lt (by omega)]; omega), Nat.succ_mul]
theorem facN_le : ∀ {n : Nat}, n ≤ 7 → facN n ≤ 5040
  | 0, _ | 1, _ | 2, _ | 3, _ | 4, _ | 5, _ | 6, _ | 7, _ => by decide
  | n + 8, h => by omega
theorem own_lit0 (w : World) (base : Nat) (h : base ≤ w.heap.size) : (w.alloc (.cells #[] 3)).ownsRow base 3 1 (.slice (some ⟨w.heap.size, 0, none⟩) 0 0) 0 [] := World.ownsRow_lit w #[] 0 h (by unfold maxLen; omega) rfl
theorem own_lit1 (w : World) (x : Int) (base : Nat) (h : base ≤ w.heap.size) : (w.alloc (.cells #[.int .i64 x] 3)).ownsRow base 3 1 (.slice (some ⟨w.heap.size, 0, none⟩) 1 1) 1 [.int .i64 x] := World.ownsRow_lit w #[.int .i64 x] 1 h (by unfold maxLen; omega) rfl
theorem own_erased {w : World} {b base i n : Nat} {v : Value} {l : List Nat} (h : w.ownsRow b 3 1 v (0 + i + (n - (i + 1))) ([] ++ List.take (i * 1) ((castN l).map (Value.int .i64)) ++ List.drop ((i + 1) * 1) ((castN l).map (Value.int .i64)))) (hi : i < n) (hn : l.length = n) (hb : base ≤ b) : OwnInts base w v (castN (l.eraseIdx i)) := by
  have e1 : (castN (l.eraseIdx i)).map (Value.int .i64) = [] ++ List.take (i * 1) ((castN l).map (Value.int .i64)) ++ List.drop ((i + 1) * 1) ((castN l).map (Value.int .i64)) := by
    rw [castN_erase, List.eraseIdx_eq_take_drop_succ]; simp
  have e2 : (castN (l.eraseIdx i)).length = 0 + i + (n - (i + 1)) := by
    rw [castN_length, List.length_eraseIdx_of_lt (by omega)]; omega
  unfold OwnInts
  rw [e1, e2]
  exact owns_base h hb
theorem own_consed {w : World} {b : Nat} {v : Value} {x : Nat} {p : List Nat} {n : Nat} (hn : n = p.length) (h : w.ownsRow b 3 1 v (1 + n) ([.int .i64 (x : Int)] ++ (castN p).map (Value.int .i64))) : OwnInts b w v (castN (x :: p)) := by
  unfold OwnInts
  rw [castN_length, show (castN (x :: p)).map (Value.int .i64) = [.int .i64 (x : Int)] ++ (castN p).map (Value.int .i64) from rfl, List.length_cons, Nat.add_comm, ← hn]
  exact h
theorem append_place {P : Program} {ops : Array Oper} {rest : List Oper} {o : Oper} {a : Act} {Q : Exit → Act → World → Prop} {w : World} (hgd : o.guard = none) (s x : Operand) (t : TypeId)
    (ho : o.op = .call { callee := .builtin .append, args := #[s, x], argTypes := #[t, t] }) {e : TypeId} {bytes : Nat} (he : Elem P t e 1 bytes)
    {base n : Nat} {v : Value} {xs : List Value} (hs : a.eval s = v) (hown : w.ownsRow base e 1 v n xs)
    {g c : Nat} {y : Value} (hx : a.eval x = .slice (some ⟨g, 0, none⟩) 1 c) (hy : w.cell? ⟨g, 0, none⟩ = some y) (h1 : y.oneCell' = true)
    (hn : n ≤ 1000000) (hbase : base ≤ w.heap.size)
    (h : ∀ v' w', w'.ownsRow base e 1 v' (n + 1) (xs ++ [y]) → Below base w w' → w.grownBy w' v.ownBlock → (v'.ownBlock = v.ownBlock ∨ v'.ownBlock = some w.heap.size) → wpList P ops Q rest (a.put o.dst v') w') : wpList P ops Q (o :: rest) a w := by
  obtain ⟨ht, i, z, hi, hz, h3, h4, hzs, hsz, hby⟩ := he
  have hbytes : (n + 1) * bytes ≤ 1000001 * 1000 := Nat.mul_le_mul (by omega) hby
  refine wpList_plain hgd fun K hK => ?_
  obtain ⟨v', w', hrun, r1, r2, _, r3⟩ := run_append_own_at (P := P) w base t o.type e i z 1 bytes ht hi hz h3 h4 hzs hsz v n xs hown ⟨g, 0, none⟩ 1 c [y] rfl (fun j u hj => by
    match j with
    | 0 => rw [Addr.add_lit]; simp at hj; rw [← hj]; exact hy
    | j + 1 => simp at hj) (fun u hu => by simp at hu; subst hu; exact h1) (by unfold maxLen; omega) (by omega) hbase
  unfold Oper.wp execOp
  simp only [ho, resolve, invoke, builtin, Sem.run_bind, Sem.run_pure, Result.andThen_ok, List.map_toArray, List.map_cons, List.map_nil, hs, hx, hrun]
  exact hK _ _ (h v' w' r1 (grown_below hown r2 hbase) r2 r3)
theorem OwnRows.block {base : Nat} {L : List (List Int)} {w w' : World} {o : Value} (h : OwnRows base w o L) (hk : ∀ g, base ≤ g → g < w.heap.size → w'.heap[g]? = w.heap[g]?) : OwnRows base w' o L := by
  obtain ⟨vs, h1, h2, h3⟩ := h
  exact ⟨vs, h1, own_block h2 fun g hg => hk g (own_lt h2 hg).1 (own_lt h2 hg).2, fun i a b => own_block (h3 i a b) fun g hg => hk g (own_lt (h3 i a b) hg).1 (own_lt (h3 i a b) hg).2⟩
theorem append_srcL {P : Program} {ops : Array Oper} {rest : List Oper} {o : Oper} {a : Act} {Q : Exit → Act → World → Prop} {w : World} (hgd : o.guard = none) (s x : Operand) (t : TypeId)
    (ho : o.op = .call { callee := .builtin .append, args := #[s, x], argTypes := #[t, t] }) {e : TypeId} {size bytes : Nat} (he : Elem P t e size bytes)
    {base n : Nat} {v : Value} {xs : List Value} (hs : a.eval s = v) (hown : w.ownsRow base e size v n xs)
    {u : Value} {m : Nat} {news : List Value} (hx : a.eval x = u) (hu : Src w u size m news) (h1 : ∀ u ∈ news, u.oneCell' = true)
    (hn : n + m ≤ 100000000000) (hbase : base ≤ w.heap.size)
    (h : ∀ v' w', w'.ownsRow base e size v' (n + m) (xs ++ news) → Below base w w' → w.grownBy w' v.ownBlock → wpList P ops Q rest (a.put o.dst v') w') : wpList P ops Q (o :: rest) a w :=
  wpList_plain hgd fun _ hK => wp_append_src s x t ho he hs hown hx hu h1 hn hbase fun v' w' h5 h6 h7 => hK _ _ (h v' w' h5 h6 h7)
set_option maxRecDepth 100000 in
set_option maxHeartbeats 8000000 in
theorem perms_any : ∀ (n : Nat) (l : List Nat), l.length = n → n ≤ 7 → ∀ (v : Value) (w : World), Ints w v (castN l) →
    Calls Try.prog 63 #[v] w fun e w' => ∃ v', e = .returned v' ∧ OwnRows w.heap.size w' v' ((perms l).map castN) ∧ Below w.heap.size w w'
  | 0, l, hn, _, v, w, hv => by
    obtain rfl := List.eq_nil_of_length_eq_zero hn
    obtain ⟨a, c, rfl⟩ := ints_slice hv
    clear hv
    go_enter Try.func63, Try.ntmps63
    go_wp2_with fail
    go_ret
    exact ⟨_, rfl, ⟨[.slice none 0 0], rfl, World.ownsRow_lit w #[.slice none 0 0] 1 (Nat.le_refl _) (by unfold maxLen; omega) rfl, fun i h h' => by
      match i, h with
      | 0, _ => exact ownInts_nil _ _⟩, below_alloc _ _⟩
  | n + 1, l, hn, h7, v, w, hv => by
    have hf := facN_le (n := n) (by omega)
    have HR := Lib.hid fun (i : Nat) (hi : i < n + 1) => perms_any n (l.eraseIdx i) (by rw [List.length_eraseIdx_of_lt (by omega)]; omega) (by omega)
    have HL := Lib.hid fun (i : Nat) (hi : i < n + 1) => perms_length n (l.eraseIdx i) (by rw [List.length_eraseIdx_of_lt (by omega)]; omega)
    have HT := Lib.hid fun (i : Nat) (hi : i ≤ n + 1) => permsTo_length (l := l) (n := n) (i := i) hn hi
    have Hfin := Lib.hid (show perms l = permsTo l (n + 1) from by rw [perms_cons (by intro e; rw [e] at hn; simp at hn), hn]; rfl)
    obtain ⟨a, b, off, cap, rfl, hle, ha, hc⟩ := IntsN.get hv
    have hix := run_ix (P := Try.prog) (t := 24) (a := a) (len := l.length) (cap := cap) (b := b) (off := off) (s := 1) Try.underlying24 (by intro w; kernel_rfl) ha
    simp only [Nat.mul_one] at hix
    have Hv := Lib.hid hv
    have Hn := Lib.hid hn
    rw [hn] at hix hle ha hc ⊢
    have Hc := Lib.hid hc
    have Hix := Lib.hid hix
    obtain ⟨F, hF⟩ : ∃ F, F = facN n := ⟨_, rfl⟩
    rw [← hF] at hf HL HT
    clear hv hc hix ha hle hn hF
    have hne0 : (((n : Int) + 1) == 0) = false := by rw [beq_eq_false_iff_ne]; omega
    go_enter Try.func63, Try.ntmps63
    go_wp2_with fail
    go_loopw [3, 15] (fun o i wr => ∃ k : Nat, i = .int .i64 k ∧ k ≤ n + 1 ∧ Below w.heap.size w wr ∧ OwnRows w.heap.size wr o ((permsTo l k).map castN)) (fun _ i _ => n + 1 - (intOf i).toNat)
    case atStart => exact ⟨0, rfl, Nat.zero_le _, Below.refl _ _, ownRows_nil _ _⟩
    case round =>
      obtain ⟨k, rfl, hk, hb, hown⟩ := hrel
      obtain ⟨wA, hwA⟩ : ∃ wA : World, wA = wr := ⟨_, rfl⟩
      subst hwA
      have Hb := Lib.hid hb
      have Hown := Lib.hid hown
      clear hb hown
      by_cases hlt : k < n + 1
      · have hck := Below.keep Hb.out (Hc.out k hlt)
        have hixk := Hix.out k
        have hkq : IntKind.i64.wrap ((k : Int) + 1) = ((k + 1 : Nat) : Int) := by rw [IntWalk.i64_in _ ⟨by omega, by omega⟩]; omega
        have hrd := Hv.out.keep Hb.out
        unfold Ints at hrd
        rw [castN_length, Hn.out] at hrd
        obtain ⟨u1, hu1, hs1⟩ := part_to (P := Try.prog) (t := 24) (k := k) Try.underlying24 (by intro w; kernel_rfl) hrd (by omega)
        obtain ⟨u2, hu2, hs2⟩ := part_from (P := Try.prog) (t := 24) (k := k + 1) Try.underlying24 (by intro w; kernel_rfl) hrd (by omega)
        rw [show ((k + 1 : Nat) : Int) = (k : Int) + 1 from by omega] at hu2 hkq
        have Hs1 := Lib.hid hs1
        have Hs2 := Lib.hid hs2
        have Hz := Lib.hid Hb.out.size
        have HRk := Lib.hid (HR.out k hlt)
        have HLk := Lib.hid (HL.out k hlt)
        have HTk := Lib.hid (HT.out k hk)
        have HSk := Lib.hid (permsTo_succ l k)
        obtain ⟨x, hx⟩ : ∃ x, x = l.getD k 0 := ⟨_, rfl⟩
        rw [← hx] at hck HSk
        clear hs1 hs2 hrd hx HR HL HT
        go_upto_region 7 with fail
        go_region_law (first
          | (refine step_append_src rfl (.tmp 20) (.tmp 23) 24 rfl elemInts (by rfl) (base := wA.heap.size) (n := 0) (xs := []) (by first | exact own_lit0 _ _ (Nat.le_refl _) | exact World.ownsRow.alloc (own_lit0 _ _ (Nat.le_refl _)) _) (by rfl) (Src.keep Hs1.out (by repeat (first | exact Below.refl _ _ | refine Below.drew ?_ | refine Below.alloc ?_ (by simp) _))) (by intro u hu; exact ints_oneCell _ u (List.mem_of_mem_take hu)) (by omega) (by simp; try omega) ?_; intro v7 w7 hown7 hb7 _; have HB7 := Lib.hid (show Below wA.heap.size wA w7 from Below.trans (by repeat (first | exact Below.refl _ _ | refine Below.drew ?_ | refine Below.alloc ?_ (by simp) _)) hb7); clear hb7)
          | (refine step_append_src rfl (.tmp 24) (.tmp 28) 24 rfl elemInts (by rfl) (base := wA.heap.size) (n := 0 + k) (by exact hown7) (by rfl) (Src.keep Hs2.out HB7.out) (by intro u hu; exact ints_oneCell _ u (List.mem_of_mem_drop hu)) (by omega) (by exact HB7.out.size) ?_; intro v9 w9 hown9 hb9 _; have HB9 := Lib.hid (Below.trans HB7.out hb9); clear hb9))
        all_goals
          have HO := Lib.hid (own_erased hown9 hlt Hn.out (Nat.le_refl _))
          clear hown9 hown7 hu1 hu2
          go_wp2_with fail
          have hz9 := HB9.out.size
          refine (HRk.out v9 w9 HO.out.ints).mono ?_
          rintro e w10 ⟨v10, rfl, ho10, hb10⟩
          have HB10 := Lib.hid (Below.tr HB9.out hb10)
          have HO10 := Lib.hid ho10
          clear HO HB9 HB7 hb10 ho10
          obtain ⟨P, hP⟩ : ∃ P, P = perms (l.eraseIdx k) := ⟨_, rfl⟩
          have HPm := Lib.hid (show ∀ p, p ∈ P → p.length ≤ 7 from fun p hp => by
            rw [hP] at hp
            have := (perms_perm rfl hp).length_eq
            rw [List.length_eraseIdx_of_lt (by have := Hn.out; omega)] at this
            have := Hn.out
            omega)
          rw [← hP] at HO10 HLk HSk
          obtain ⟨T, hT⟩ : ∃ T, T = permsTo l k := ⟨_, rfl⟩
          rw [← hT] at HTk HSk Hown
          have hpl : (P.map castN).length = F := by rw [List.length_map]; exact HLk.out
          obtain ⟨a4, cap4, hv4⟩ := HO10.out.slice
          rw [hpl] at hv4
          subst hv4
          have Hpl := Lib.hid hpl
          have Hz10 := Lib.hid HB10.out.size
          have Hz9 := Lib.hid hz9
          have Hw10 := Lib.hid (Nat.le_trans Hz.out HB10.out.size)
          have Hob := Lib.hid (show ∀ g, u3.ownBlock = some g → g < w9.heap.size ∨ w10.heap.size ≤ g from fun g hg => by
            obtain ⟨vs, _, q2, _⟩ := Hown.out
            have := (own_lt q2 hg).2
            have := Hz9.out
            exact .inl (by omega))
          have Hown10 := Lib.hid (show OwnRows w.heap.size w10 u3 ((T ++ (P.take 0).map (x :: ·)).map castN) from by
            rw [List.take_zero, List.map_nil, List.append_nil]
            exact Hown.out.keep HB10.out)
          have Hb10 := Lib.hid (Below.tr Hb.out HB10.out)
          clear hP hT hpl hz9 Hown Hs1 Hs2 hck hixk
          go_wp2_with fail
          obtain ⟨wo, hwo⟩ : ∃ wo : World, wo = w10 := ⟨_, rfl⟩
          clear hwo
          go_loopw [3, 33] (fun o i wq => ∃ j : Nat, i = .int .i64 j ∧ j ≤ F ∧ Below w.heap.size w wq ∧ w10.heap.size ≤ wq.heap.size ∧ OwnRows w.heap.size wq o ((T ++ (P.take j).map (x :: ·)).map castN) ∧
            (∀ g, o.ownBlock = some g → g < w9.heap.size ∨ w10.heap.size ≤ g) ∧ ∀ g, w9.heap.size ≤ g → g < w10.heap.size → wq.heap[g]? = w10.heap[g]?) (fun _ i _ => F - (intOf i).toNat)
          case atStart => exact ⟨0, rfl, Nat.zero_le _, Hb10.out, Nat.le_refl _, Hown10.out, Hob.out, fun _ _ _ => rfl⟩
          case round =>
            obtain ⟨j, rfl, hj, hbq, hsq, hownq, hobq, hkq2⟩ := hrel
            have Hbq := Lib.hid hbq
            have Hsq := Lib.hid hsq
            have Hownq := Lib.hid hownq
            have Hobq := Lib.hid hobq
            have Hkq := Lib.hid hkq2
            clear hbq hsq hownq hobq hkq2 Hown10 Hob
            by_cases hjl : j < F
            · have HOq := Lib.hid (HO10.out.block Hkq.out)
              obtain ⟨a5, b5, off5, cap5, vs, hv5, hle5, ha5, hvl, hc5, hr5⟩ := Rows.get HOq.out.rows
              injection hv5 with e1 e2 e3
              subst e1 e3
              have hjv : j < vs.length := by rw [hvl, Hpl.out]; exact hjl
              have hcj := hc5 j hjv
              rw [Hpl.out] at ha5
              have hix5 := run_ix (P := Try.prog) (t := 82) (a := a4) (len := F) (cap := cap4) (b := b5) (off := off5) (s := 1) Try.underlying82 (by intro w; kernel_rfl) ha5
              simp only [Nat.mul_one] at hix5
              have hixj := hix5 j
              have Hpj := Lib.hid (show Ints wr vs[j] (castN (P.getD j [])) from by
                have hi : j < P.length := by rw [HLk.out]; exact hjl
                have := hr5 j (by rw [Hpl.out]; exact hjl) hjv
                rw [List.getElem_map] at this
                rw [List.getD_eq_getElem?_getD, List.getElem?_eq_getElem hi]
                exact this)
              have Hpn := Lib.hid (show (P.getD j []).length ≤ 1000 from by
                have hi : j < P.length := by rw [HLk.out]; exact hjl
                have hm : P.getD j [] ∈ P := by rw [List.getD_eq_getElem?_getD, List.getElem?_eq_getElem hi]; exact List.getElem_mem hi
                have := (HPm.out _ hm)
                omega)
              clear hix5 ha5 hc5 hr5 hle5 hvl e2 HOq
              have hSj : T ++ (P.take (j + 1)).map (x :: ·) = (T ++ (P.take j).map (x :: ·)) ++ [x :: P.getD j []] := by
                have hi : j < P.length := by rw [HLk.out]; exact hjl
                rw [List.take_add_one, List.map_append, List.append_assoc, List.getElem?_eq_getElem hi, List.getD_eq_getElem?_getD, List.getElem?_eq_getElem hi]
                rfl
              have HSj := Lib.hid hSj
              obtain ⟨p, hp⟩ : ∃ p, p = P.getD j [] := ⟨_, rfl⟩
              rw [← hp] at Hpj HSj Hpn
              obtain ⟨vp, hvp⟩ : ∃ vp, vp = vs[j] := ⟨_, rfl⟩
              rw [← hvp] at Hpj hcj
              have hTn : ((T ++ (P.take j).map (x :: ·)).map castN).length = k * F + j := by
                rw [List.length_map, List.length_append, HTk.out, List.length_map, List.length_take, HLk.out]; omega
              have HTn := Lib.hid hTn
              clear hSj hp hvp hjv hTn
              have hkF : k * F + j ≤ 100000 := by
                have : k * F ≤ 7 * 5040 := Nat.mul_le_mul (by omega) hf
                omega
              go_wp2_with (at_builtin; refine append_srcL rfl (.tmp 39) (.tmp 40) 24 rfl elemInts (base := wr.heap.size) (n := 1) (xs := [.int .i64 (x : Int)]) rfl ?c0 rfl (Rd.src (Ints.keep Hpj.out (below_alloc _ _))) ?c1 ?c2 ?c3 ?_)
              case c0 => exact own_lit1 _ _ _ (Nat.le_refl _)
              case c1 => intro a _; rfl
              case c2 => have := Hpn.out; rw [castN_length]; omega
              intro v11 w11 hown11 hb11 _
              rw [castN_length] at hown11
              have Hu11 := Lib.hid (own_consed rfl hown11)
              have HB11 := Lib.hid (show Below wr.heap.size wr w11 from (below_alloc wr _).trans hb11)
              clear hown11 hb11
              obtain ⟨vs', q1, q2, q3⟩ := Hownq.out.keep HB11.out
              have Q1 := Lib.hid q1
              have Q2 := Lib.hid q2
              have Q3 := Lib.hid q3
              clear q1 q2 q3
              obtain ⟨va, vn, vc, hv11⟩ : ∃ a n c, v11 = .slice a n c := by
                obtain ⟨a, c, e⟩ := own_slice Hu11.out
                exact ⟨a, _, c, e⟩
              subst hv11
              have HN := Lib.hid (show ((T ++ (P.take j).map (x :: ·)).map castN).length ≤ 1000000 from by rw [HTn.out]; omega)
              go_wp2_with (at_builtin; refine append_place rfl (.tmp 37) (.tmp 42) 82 rfl elemRows rfl (World.ownsRow.alloc Q2.out _) (y := .slice va vn vc) rfl (by rw [cell_new]; rfl) rfl HN.out (by have := Hbq.out.size; have := HB11.out.size; simp; omega) ?_)
              intro v13 w13 r1 r2 r3 r4
              have hu12 : OwnInts w.heap.size w11 (.slice va vn vc) (castN (x :: p)) := Hu11.out.base Hbq.out.size
              have hs11 := HB11.out.size
              have R2 := OwnRows.step Q1.out (World.ownsRow.alloc Q2.out _) (fun i h h' => World.ownsRow.alloc (Q3.out i h h') _) (World.ownsRow.alloc hu12 _) (by simp) r1 r3
              have HR2 := Lib.hid (show OwnRows w.heap.size w13 v13 ((T ++ (P.take (j + 1)).map (x :: ·)).map castN) from by
                rw [HSj.out, List.map_append]; exact R2)
              have HB13 := Lib.hid (show Below w.heap.size w w13 from (Hbq.out.trans (HB11.out.mono Hbq.out.size)).trans (((Below.refl _ _).alloc (by have := Hbq.out.size; omega) _).trans r2))
              have HS13 := Lib.hid (show w10.heap.size ≤ w13.heap.size from by
                have h4 := r2.size
                simp at h4
                have := Hsq.out
                omega)
              have HO13 := Lib.hid (show ∀ g, v13.ownBlock = some g → g < w9.heap.size ∨ w10.heap.size ≤ g from fun g hg => by
                rcases r4 with e | e
                · exact Hobq.out g (by rw [← e]; exact hg)
                · rw [e] at hg
                  have := Hsq.out
                  simp at hg
                  exact .inr (by omega))
              have HK13 := Lib.hid (show ∀ g, w9.heap.size ≤ g → g < w10.heap.size → w13.heap[g]? = w10.heap[g]? from fun g h1 h2 => by
                have hgs := Hsq.out
                rw [r3.block g (by simp; omega) (fun e => by
                  rcases Hobq.out g e.symm with h | h <;> omega)]
                rw [heap_alloc_old w11 _ (r := g) (by omega)]
                rw [HB11.out.block g (by omega)]
                exact Hkq.out g h1 h2)
              clear R2 r1 r2 r3 r4 hu12 Hu11 Q1 Q2 Q3 Hpj HSj hs11
              go_wp2_with fail
              go_roundw
              case rel => exact ⟨j + 1, by go_num, by omega, HB13.out, HS13.out, HR2.out, HO13.out, HK13.out⟩
              case measure => simp [intOf]; omega
            · obtain rfl : j = F := by omega
              have hEnd : (T ++ (P.take j).map (x :: ·)) = permsTo l (k + 1) := by
                rw [HSk.out, List.take_of_length_le (by have := HLk.out; omega)]
              have HE := Lib.hid (hEnd ▸ Hownq.out)
              have HB := Lib.hid Hbq.out
              clear hEnd Hownq
              go_wp2_with fail
              go_roundw
              case rel => exact ⟨k + 1, by go_num, by omega, HB.out, HE.out⟩
              case measure => simp [intOf]; omega
      · obtain rfl : k = n + 1 := by omega
        have R := Hown.out
        rw [← Hfin.out] at R
        have HO := Lib.hid R
        clear R Hown
        go_wp2_with fail
        go_ret
        exact ⟨_, rfl, HO.out, Hb.out⟩
termination_by n => n
#print axioms perms_any
end Go.Proofs.Ytpehbffkplmfjaa
