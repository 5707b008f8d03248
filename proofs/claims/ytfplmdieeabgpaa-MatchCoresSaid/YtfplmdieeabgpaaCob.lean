/- Contract of the reference's chosen. Math: the rows that chosen returns. Contract of the reference's Part. Contract of the reference's Core. -/
import Derived.Test.YtfplmdieeabgpaaPky
import Derived.Test.YtfplmdieeabgpaaCoa
import Derived.Test.YtfplmdieeabgpaaMam
import Derived.Maps.AppendAt
import Derived.Test.YtfplmdieeabgpaaPrt
import Derived.Test.YtfplmdieeabgpaaFac
import Derived.Test.YtfplmdieeabgpaaMrr
namespace Go.Proofs.Ytfplmdieeabgpaa
open Go.RowKit
/-- all rising rows of k of the numbers from a to b - 1, in order -/
def chs : Nat → Nat → Nat → List (List Nat)
  | 0, _, _ => [[]]
  | k + 1, a, b => (List.range' a (b - a)).flatMap fun x => (chs k (x + 1) b).map (x :: ·)
def chT (k a b x : Nat) : List (List Nat) := (List.range' a (x - a)).flatMap fun y => (chs k (y + 1) b).map (y :: ·)
theorem chT_succ {k a b x : Nat} (h : a ≤ x) : chT k a b (x + 1) = chT k a b x ++ (chs k (x + 1) b).map (x :: ·) := by
  unfold chT
  rw [show x + 1 - a = (x - a) + 1 by omega, List.range'_1_concat, List.flatMap_append, show a + (x - a) = x by omega]
  simp
theorem flat_le {α β : Type} {f : α → List β} {c : Nat} : ∀ {l : List α}, (∀ x, x ∈ l → (f x).length ≤ c) → (l.flatMap f).length ≤ l.length * c
  | [], _ => by simp
  | x :: l, h => by
    rw [List.flatMap_cons, List.length_append, List.length_cons, Nat.succ_mul]
    have h1 := h x (by simp)
    have h2 := flat_le (f := f) (c := c) (l := l) fun y hy => h y (List.mem_cons_of_mem _ hy)
    omega
theorem chs_len : ∀ (k a b : Nat), b ≤ 5 → (chs k a b).length ≤ 6 ^ k
  | 0, _, _, _ => by simp [chs]
  | k + 1, a, b, h => by
    rw [chs]
    have := flat_le (f := fun x => (chs k (x + 1) b).map (x :: ·)) (c := 6 ^ k) (l := List.range' a (b - a)) fun x _ => by rw [List.length_map]; exact chs_len k (x + 1) b h
    rw [List.length_range'] at this
    have h2 : (b - a) * 6 ^ k ≤ 6 * 6 ^ k := Nat.mul_le_mul_right _ (by omega)
    rw [Nat.pow_succ]; omega
theorem chT_len {k a b x : Nat} (h : b ≤ 5) (hx : x ≤ 6) : (chT k a b x).length ≤ 6 * 6 ^ k := by
  have := flat_le (f := fun x => (chs k (x + 1) b).map (x :: ·)) (c := 6 ^ k) (l := List.range' a (x - a)) fun x _ => by rw [List.length_map]; exact chs_len k (x + 1) b h
  rw [List.length_range'] at this
  have h2 : (x - a) * 6 ^ k ≤ 6 * 6 ^ k := Nat.mul_le_mul_right _ (by omega)
  exact Nat.le_trans this h2
theorem chs_el : ∀ (k a b : Nat) (p : List Nat), p ∈ chs k a b → p.length = k
  | 0, _, _, p, h => by simp [chs] at h; rw [h]; rfl
  | k + 1, a, b, p, h => by
    rw [chs] at h
    obtain ⟨x, _, h2⟩ := List.mem_flatMap.1 h
    obtain ⟨q, h3, rfl⟩ := List.mem_map.1 h2
    rw [List.length_cons, chs_el k _ _ q h3]
theorem infoInts' : (Try.prog.info? 22).map (fun i => (i.zero, i.size, i.bytes)) = some (some (.slice none 0 0), 1, 24) := by kernel_rfl
theorem elemRows' : Elem Try.prog 27 22 1 24 := elem_of Try.underlying27 infoInts' rfl (by omega) (by omega)
theorem own_lit1' (w : World) (x : Int) (base : Nat) (h : base ≤ w.heap.size) : (w.alloc (.cells #[.int .i64 x] 3)).ownsRow base 3 1 (.slice (some ⟨w.heap.size, 0, none⟩) 1 1) 1 [.int .i64 x] := World.ownsRow_lit w #[.int .i64 x] 1 h (by unfold maxLen; omega) rfl
theorem own_consed' {w : World} {b : Nat} {v : Value} {x : Nat} {p : List Nat} {n : Nat} (hn : n = p.length) (h : w.ownsRow b 3 1 v (1 + n) ([.int .i64 (x : Int)] ++ (cz p).map (Value.int .i64))) : OwnInts b w v (cz (x :: p)) := by
  unfold OwnInts
  rw [cz_len, show (cz (x :: p)).map (Value.int .i64) = [.int .i64 (x : Int)] ++ (cz p).map (Value.int .i64) from rfl, List.length_cons, Nat.add_comm, ← hn]
  exact h
theorem append_place' {P : Program} {ops : Array Oper} {rest : List Oper} {o : Oper} {a : Act} {Q : Exit → Act → World → Prop} {w : World} (hgd : o.guard = none) (s x : Operand) (t : TypeId)
    (ho : o.op = .call { callee := .builtin .append, args := #[s, x], argTypes := #[t, t] }) {e : TypeId} {bytes : Nat} (he : Elem P t e 1 bytes)
    {base n : Nat} {v : Value} {xs : List Value} (hs : a.eval s = v) (hown : w.ownsRow base e 1 v n xs)
    {g c : Nat} {y : Value} (hx : a.eval x = .slice (some ⟨g, 0, none⟩) 1 c) (hy : w.cell? ⟨g, 0, none⟩ = some y) (h1 : y.oneCell' = true)
    (hn : n ≤ 1000000) (hbase : base ≤ w.heap.size)
    (h : ∀ v' w', w'.ownsRow base e 1 v' (n + 1) (xs ++ [y]) → Below base w w' → w.grownBy w' v.ownBlock → (v'.ownBlock = v.ownBlock ∨ v'.ownBlock = some w.heap.size) → wpList P ops Q rest (a.put o.dst v') w') : wpList P ops Q (o :: rest) a w := by
  obtain ⟨ht, i, z, hi, hz, h3, h4, hzs, hsz, hby⟩ := he
  have hbytes : (n + 1) * bytes ≤ 1000001 * 1000 := Nat.mul_le_mul (by omega) hby
  refine wpList_plain hgd fun K hK => ?_
  obtain ⟨v', w', hrun, r1, r2, _, r3⟩ := run_append_own_at (P := P) w base t o.type e i z 1 bytes ht hi hz h3 h4 hzs hsz v n xs hown ⟨g, 0, none⟩ 1 c [y] rfl (fun j u hj => by
    match j with
    | 0 => rw [Addr.add_lit]; simp at hj; rw [← hj]; exact hy
    | j + 1 => simp at hj) (fun u hu => by simp at hu; subst hu; exact h1) (by unfold maxLen; omega) (by omega) hbase
  unfold Oper.wp execOp
  simp only [ho, resolve, invoke, builtin, Sem.run_bind, Sem.run_pure, Result.andThen_ok, List.map_toArray, List.map_cons, List.map_nil, hs, hx, hrun]
  exact hK _ _ (h v' w' r1 (grown_below hown r2 hbase) r2 r3)
theorem OwnRows.block' {base : Nat} {L : List (List Int)} {w w' : World} {o : Value} (h : OwnRows base w o L) (hk : ∀ g, base ≤ g → g < w.heap.size → w'.heap[g]? = w.heap[g]?) : OwnRows base w' o L := by
  obtain ⟨vs, h1, h2, h3⟩ := h
  exact ⟨vs, h1, own_block h2 fun g hg => hk g (own_lt h2 hg).1 (own_lt h2 hg).2, fun i a b => own_block (h3 i a b) fun g hg => hk g (own_lt (h3 i a b) hg).1 (own_lt (h3 i a b) hg).2⟩
set_option maxRecDepth 100000 in
set_option maxHeartbeats 8000000 in
theorem chosen_any : ∀ (k a b : Nat), k ≤ 5 → a ≤ 6 → b ≤ 5 → ∀ (w : World),
    Calls Try.prog 89 #[.int .i64 a, .int .i64 b, .int .i64 k] w fun e w' => ∃ v', e = .returned v' ∧ OwnRows w.heap.size w' v' ((chs k a b).map cz) ∧ Below w.heap.size w w'
  | 0, a, b, _, _, _, w => by
    go_enter Try.func89, Try.ntmps89
    go_wp2_with fail
    go_ret
    exact ⟨_, rfl, ⟨[.slice none 0 0], rfl, World.ownsRow_lit w #[.slice none 0 0] 1 (Nat.le_refl _) (by unfold maxLen; omega) rfl, fun i h h' => by
      match i, h with
      | 0, _ => exact ownInts_nil _ _⟩, below_alloc _ _⟩
  | k + 1, a, b, hk5, ha6, hb5, w => by
    have HR := Lib.hid (show ∀ (x : Nat), x < b → ∀ w', Calls Try.prog 89 #[.int .i64 ((x : Int) + 1), .int .i64 b, .int .i64 k] w' fun e w'' => ∃ v', e = .returned v' ∧ OwnRows w'.heap.size w'' v' ((chs k (x + 1) b).map cz) ∧ Below w'.heap.size w' w'' from fun x hx w' => by
      have h := chosen_any k (x + 1) b (by omega) (by omega) hb5 w'
      rw [show (((x + 1 : Nat)) : Int) = (x : Int) + 1 by omega] at h; exact h)
    have hp6 : 6 ^ k ≤ 7776 := Nat.le_trans (Nat.pow_le_pow_right (by decide) (show k ≤ 5 by omega)) (by decide)
    have HL := Lib.hid fun (x : Nat) => chs_len k (x + 1) b hb5
    have HT := Lib.hid fun (x : Nat) (hx : x ≤ 6) => chT_len (k := k) (a := a) (b := b) (x := x) hb5 hx
    have HSs := Lib.hid fun (x : Nat) (hx : a ≤ x) => chT_succ (k := k) (a := a) (b := b) (x := x) hx
    have HEl := Lib.hid fun (x : Nat) (p : List Nat) (hp : p ∈ chs k (x + 1) b) => chs_el k (x + 1) b p hp
    have Hfin := Lib.hid (show ∀ x, (x = b ∨ (x = a ∧ b ≤ a)) → chT k a b x = chs (k + 1) a b from fun x hx => by
      unfold chT
      rw [chs]
      rcases hx with rfl | ⟨rfl, h⟩
      · rfl
      · rw [show b - x = 0 by omega, Nat.sub_self])
    obtain ⟨Fm, hFm⟩ : ∃ F, F = 6 ^ k := ⟨_, rfl⟩
    rw [← hFm] at hp6 HL HT
    obtain ⟨K, hK⟩ : ∃ K : Int, K = ((k + 1 : Nat) : Int) := ⟨_, rfl⟩
    have hne0 : (K == 0) = false := by rw [beq_eq_false_iff_ne]; omega
    have hks : IntKind.i64.wrap (K - 1) = (k : Int) := by rw [show K - 1 = (k : Int) by omega]; exact IntWalk.i64_in _ ⟨by omega, by omega⟩
    rw [← hK]
    clear hFm hK
    go_enter Try.func89, Try.ntmps89
    go_wp2_with fail
    go_loopw [7, 8] (fun o i wr => ∃ x : Nat, i = .int .i64 x ∧ a ≤ x ∧ (x ≤ b ∨ x = a) ∧ Below w.heap.size w wr ∧ OwnRows w.heap.size wr o ((chT k a b x).map cz)) (fun _ i _ => b - (intOf i).toNat)
    case atStart => exact ⟨a, rfl, Nat.le_refl _, .inr rfl, Below.refl _ _, by rw [show chT k a b a = [] by simp [chT]]; exact ownRows_nil _ _⟩
    case round =>
      obtain ⟨x, rfl, hax, hxb, hb, hown⟩ := hrel
      obtain ⟨wA, hwA⟩ : ∃ wA : World, wA = wr := ⟨_, rfl⟩
      subst hwA
      have Hb := Lib.hid hb
      have Hown := Lib.hid hown
      clear hb hown
      by_cases hlt : x < b
      · have hxq : IntKind.i64.wrap ((x : Int) + 1) = (x : Int) + 1 := IntWalk.i64_in _ ⟨by omega, by omega⟩
        have Hz := Lib.hid Hb.out.size
        have HRk := Lib.hid (HR.out x hlt)
        have HLk := Lib.hid (HL.out x)
        have HTk := Lib.hid (HT.out x (by omega))
        have HSk := Lib.hid (HSs.out x hax)
        have HEk := Lib.hid (HEl.out x)
        clear HR HL HT HSs HEl
        go_wp2_with fail
        refine (HRk.out wA).mono ?_
        rintro e w10 ⟨v10, rfl, ho10, hb10⟩
        have HB10 := Lib.hid hb10
        have HO10 := Lib.hid ho10
        clear hb10 ho10
        obtain ⟨P, hP⟩ : ∃ P, P = chs k (x + 1) b := ⟨_, rfl⟩
        rw [← hP] at HO10 HLk HSk HEk
        obtain ⟨T, hT⟩ : ∃ T, T = chT k a b x := ⟨_, rfl⟩
        rw [← hT] at HTk HSk Hown
        obtain ⟨F, hF⟩ : ∃ F, F = P.length := ⟨_, rfl⟩
        have HPl := Lib.hid hF
        have hpl : (P.map cz).length = F := by rw [List.length_map]; exact hF.symm
        have hFle : F ≤ Fm := by rw [hF]; exact HLk.out
        obtain ⟨a4, cap4, hv4⟩ := HO10.out.slice
        rw [hpl] at hv4
        subst hv4
        have Hpl := Lib.hid hpl
        have Hw10 := Lib.hid (Nat.le_trans Hz.out HB10.out.size)
        have Hob := Lib.hid (show ∀ g, u7.ownBlock = some g → g < wA.heap.size ∨ w10.heap.size ≤ g from fun g hg => by
          obtain ⟨vs, _, q2, _⟩ := Hown.out
          exact .inl (own_lt q2 hg).2)
        have Hown10 := Lib.hid (show OwnRows w.heap.size w10 u7 ((T ++ (P.take 0).map (x :: ·)).map cz) from by
          rw [List.take_zero, List.map_nil, List.append_nil]
          exact Hown.out.keep HB10.out)
        have Hb10 := Lib.hid (Below.tr Hb.out HB10.out)
        clear hP hT hpl hF Hown
        go_wp2_with fail
        obtain ⟨wo, hwo⟩ : ∃ wo : World, wo = w10 := ⟨_, rfl⟩
        clear hwo
        go_loopw [7, 27] (fun o i wq => ∃ j : Nat, i = .int .i64 j ∧ j ≤ F ∧ Below w.heap.size w wq ∧ w10.heap.size ≤ wq.heap.size ∧ OwnRows w.heap.size wq o ((T ++ (P.take j).map (x :: ·)).map cz) ∧
          (∀ g, o.ownBlock = some g → g < wA.heap.size ∨ w10.heap.size ≤ g) ∧ ∀ g, wA.heap.size ≤ g → g < w10.heap.size → wq.heap[g]? = w10.heap[g]?) (fun _ i _ => F - (intOf i).toNat)
        case atStart => exact ⟨0, rfl, Nat.zero_le _, Hb10.out, Nat.le_refl _, Hown10.out, Hob.out, fun _ _ _ => rfl⟩
        case round =>
          obtain ⟨j, rfl, hj, hbq, hsq, hownq, hobq, hkq2⟩ := hrel
          have Hbq := Lib.hid hbq
          have Hsq := Lib.hid hsq
          have Hownq := Lib.hid hownq
          have Hobq := Lib.hid hobq
          have Hkq := Lib.hid hkq2
          clear hbq hsq hownq hobq hkq2 Hown10 Hob
          by_cases hjl : j < F
          · have HOq := Lib.hid (HO10.out.block' Hkq.out)
            obtain ⟨a5, b5, off5, cap5, vs, hv5, hle5, ha5, hvl, hc5, hr5⟩ := Rows.get HOq.out.rows
            injection hv5 with e1 e2 e3
            subst e1 e3
            have hjv : j < vs.length := by rw [hvl, Hpl.out]; exact hjl
            have hcj := hc5 j hjv
            rw [Hpl.out] at ha5
            have hix5 := run_ix (P := Try.prog) (t := 27) (a := a4) (len := F) (cap := cap4) (b := b5) (off := off5) (s := 1) Try.underlying27 (by intro w; kernel_rfl) ha5
            simp only [Nat.mul_one] at hix5
            have hixj := hix5 j
            have hi : j < P.length := by rw [← HPl.out]; exact hjl
            have Hpj := Lib.hid (show Ints wr vs[j] (cz (P.getD j [])) from by
              have := hr5 j (by rw [Hpl.out]; exact hjl) hjv
              rw [List.getElem_map] at this
              rw [List.getD_eq_getElem?_getD, List.getElem?_eq_getElem hi]
              exact this)
            have Hpn := Lib.hid (show (P.getD j []).length ≤ 1000 from by
              have hm : P.getD j [] ∈ P := by rw [List.getD_eq_getElem?_getD, List.getElem?_eq_getElem hi]; exact List.getElem_mem hi
              have := HEk.out _ hm
              omega)
            have hSj : T ++ (P.take (j + 1)).map (x :: ·) = (T ++ (P.take j).map (x :: ·)) ++ [x :: P.getD j []] := by
              rw [List.take_add_one, List.map_append, List.append_assoc, List.getElem?_eq_getElem hi, List.getD_eq_getElem?_getD, List.getElem?_eq_getElem hi]
              rfl
            have HSj := Lib.hid hSj
            clear hix5 ha5 hc5 hr5 hle5 hvl e2 HOq
            obtain ⟨p, hp⟩ : ∃ p, p = P.getD j [] := ⟨_, rfl⟩
            rw [← hp] at Hpj HSj Hpn
            obtain ⟨vp, hvp⟩ : ∃ vp, vp = vs[j] := ⟨_, rfl⟩
            rw [← hvp] at Hpj hcj
            have HN := Lib.hid (show ((T ++ (P.take j).map (x :: ·)).map cz).length ≤ 1000000 from by
              have h1 := HTk.out
              have h2 : 6 * Fm ≤ 6 * 7776 := Nat.mul_le_mul_left _ hp6
              rw [List.length_map, List.length_append, List.length_map, List.length_take]; omega)
            clear hSj hp hvp hjv hi
            go_wp2_with (at_builtin; refine append_srcL rfl (.tmp 33) (.tmp 34) 22 rfl elemInts (base := wr.heap.size) (n := 1) (xs := [.int .i64 (x : Int)]) rfl ?c0 rfl (Rd.src (Ints.keep Hpj.out (below_alloc _ _))) ?c1 ?c2 ?c3 ?_)
            case c0 => exact own_lit1' _ _ _ (Nat.le_refl _)
            case c1 => intro a _; rfl
            case c2 => have := Hpn.out; rw [cz_len]; omega
            intro v11 w11 hown11 hb11 _
            rw [cz_len] at hown11
            have Hu11 := Lib.hid (own_consed' rfl hown11)
            have HB11 := Lib.hid (show Below wr.heap.size wr w11 from (below_alloc wr _).trans hb11)
            clear hown11 hb11
            obtain ⟨vs', q1, q2, q3⟩ := Hownq.out.keep HB11.out
            have Q1 := Lib.hid q1
            have Q2 := Lib.hid q2
            have Q3 := Lib.hid q3
            clear q1 q2 q3
            obtain ⟨va, vn, vc, hv11⟩ : ∃ a n c, v11 = .slice a n c := by
              obtain ⟨a, n, c, e⟩ := own_slice Hu11.out
              exact ⟨a, n, c, e⟩
            subst hv11
            go_wp2_with (at_builtin; refine append_place' rfl (.tmp 31) (.tmp 36) 27 rfl elemRows' rfl (World.ownsRow.alloc Q2.out _) (y := .slice va vn vc) rfl (by rw [cell_new]; rfl) rfl HN.out (by have := Hbq.out.size; have := HB11.out.size; simp; omega) ?_)
            intro v13 w13 r1 r2 r3 r4
            have hu12 : OwnInts w.heap.size w11 (.slice va vn vc) (cz (x :: p)) := Hu11.out.base Hbq.out.size
            have hs11 := HB11.out.size
            have R2 := OwnRows.step Q1.out (World.ownsRow.alloc Q2.out _) (fun i h h' => World.ownsRow.alloc (Q3.out i h h') _) (World.ownsRow.alloc hu12 _) (by simp) r1 r3
            have HR2 := Lib.hid (show OwnRows w.heap.size w13 v13 ((T ++ (P.take (j + 1)).map (x :: ·)).map cz) from by
              rw [HSj.out, List.map_append]; exact R2)
            have HB13 := Lib.hid (show Below w.heap.size w w13 from (Hbq.out.trans (HB11.out.mono Hbq.out.size)).trans (((Below.refl _ _).alloc (by have := Hbq.out.size; omega) _).trans r2))
            have HS13 := Lib.hid (show w10.heap.size ≤ w13.heap.size from by
              have h4 := r2.size
              simp at h4
              have := Hsq.out
              omega)
            have HO13 := Lib.hid (show ∀ g, v13.ownBlock = some g → g < wA.heap.size ∨ w10.heap.size ≤ g from fun g hg => by
              rcases r4 with e | e
              · exact Hobq.out g (by rw [← e]; exact hg)
              · rw [e] at hg
                have := Hsq.out
                simp at hg
                exact .inr (by omega))
            have HK13 := Lib.hid (show ∀ g, wA.heap.size ≤ g → g < w10.heap.size → w13.heap[g]? = w10.heap[g]? from fun g h1 h2 => by
              have hgs := Hsq.out
              rw [r3.block g (by simp; omega) (fun e => by
                rcases Hobq.out g e.symm with h | h <;> omega)]
              rw [heap_alloc_old w11 _ (r := g) (by omega)]
              rw [HB11.out.block g (by omega)]
              exact Hkq.out g h1 h2)
            clear R2 r1 r2 r3 r4 hu12 Hu11 Q1 Q2 Q3 Hpj HSj hs11
            go_wp2_with fail
            go_roundw
            case rel => exact ⟨j + 1, by go_num, by omega, HB13.out, HS13.out, HR2.out, HO13.out, HK13.out⟩
            case measure => simp [intOf]; omega
          · obtain rfl : F = j := by omega
            have HX := Lib.hid (show T ++ (P.take F).map (x :: ·) = chT k a b (x + 1) from by rw [HPl.out, List.take_length, HSk.out])
            rw [HX.out] at Hownq
            go_wp2_with fail
            go_roundw
            case rel =>
              exact ⟨x + 1, by first | rfl | go_num, by omega, by omega, Hbq.out, Hownq.out⟩
            case measure => simp [intOf]; omega
      · have HX := Lib.hid (Hfin.out x (by omega))
        rw [HX.out] at Hown
        go_wp2_with fail
        go_ret
        exact ⟨_, rfl, Hown.out, Hb.out⟩
#print axioms chosen_any
theorem mem_chs : ∀ (k a b : Nat) (l : List Nat), l ∈ chs k a b ↔ l.length = k ∧ l.Pairwise (· < ·) ∧ ∀ x, x ∈ l → a ≤ x ∧ x < b
  | 0, a, b, l => by
    simp only [chs, List.mem_singleton]
    constructor
    · rintro rfl; exact ⟨rfl, by simp, fun x hx => by simp at hx⟩
    · rintro ⟨h, _⟩; exact List.eq_nil_of_length_eq_zero h
  | k + 1, a, b, l => by
    rw [chs, List.mem_flatMap]
    constructor
    · rintro ⟨x, hx, hl⟩
      obtain ⟨q, hq, rfl⟩ := List.mem_map.1 hl
      obtain ⟨h1, h2, h3⟩ := (mem_chs k (x + 1) b q).1 hq
      have hxr := List.mem_range'_1.1 hx
      refine ⟨by rw [List.length_cons, h1], List.pairwise_cons.2 ⟨fun y hy => by have := h3 y hy; omega, h2⟩, fun y hy => ?_⟩
      rcases List.mem_cons.1 hy with rfl | hy
      · omega
      · have := h3 y hy; omega
    · rintro ⟨h1, h2, h3⟩
      cases l with
      | nil => simp at h1
      | cons x q =>
        obtain ⟨p1, p2⟩ := List.pairwise_cons.1 h2
        have hx := h3 x (by simp)
        refine ⟨x, List.mem_range'_1.2 (by omega), List.mem_map.2 ⟨q, (mem_chs k (x + 1) b q).2 ⟨by simpa using h1, p2, fun y hy => ?_⟩, rfl⟩⟩
        have := p1 y hy
        have := h3 y (List.mem_cons_of_mem _ hy)
        omega
theorem cmp_cons (x y : Nat) (a b : List Nat) : cmpL (cz (x :: a)) (cz (y :: b)) = if x < y then -1 else if y < x then 1 else cmpL (cz a) (cz b) := by
  show cmpL ((x : Int) :: cz a) ((y : Int) :: cz b) = _
  rw [cmpL]
  by_cases h : x < y
  · rw [if_pos (by omega), if_pos h]
  · rw [if_neg (by omega), if_neg h]
    by_cases k : y < x
    · rw [if_pos (by omega), if_pos k]
    · rw [if_neg (by omega), if_neg k]
theorem chs_sorted : ∀ (k a b : Nat), (chs k a b).Pairwise fun l m => cmpL (cz l) (cz m) < 0
  | 0, a, b => by simp [chs]
  | k + 1, a, b => by
    rw [chs]
    have main : ∀ (l : List Nat), l.Pairwise (· < ·) → (l.flatMap fun x => (chs k (x + 1) b).map (x :: ·)).Pairwise fun l m => cmpL (cz l) (cz m) < 0 := by
      intro l
      induction l with
      | nil => intro _; simp
      | cons x l ih =>
        intro hp
        obtain ⟨p1, p2⟩ := List.pairwise_cons.1 hp
        rw [List.flatMap_cons]
        refine List.pairwise_append.2 ⟨List.pairwise_map.2 ((chs_sorted k (x + 1) b).imp fun {u v} h => ?_), ih p2, fun u hu v hv => ?_⟩
        · rw [cmp_cons, if_neg (by omega), if_neg (by omega)]; exact h
        · obtain ⟨u', _, rfl⟩ := List.mem_map.1 hu
          obtain ⟨y, hy, hv⟩ := List.mem_flatMap.1 hv
          obtain ⟨v', _, rfl⟩ := List.mem_map.1 hv
          rw [cmp_cons, if_pos (p1 y hy)]; omega
    exact main _ (List.pairwise_lt_range' (s := a) (n := b - a))
/-- some atoms make an equal query -/
def GoodL (q : HQ) (l : List Nat) : Prop := QrV (q.1, partA q.2 l) ∧ ∃ h, IsH q (q.1, partA q.2 l) h
theorem good_iff {q : HQ} {S : Nat} : Good q S ↔ GoodL q (chL S q.2.length) := Iff.rfl
/-- the row of a set, the set of a row -/
theorem row_set {n : Nat} {l : List Nat} (h1 : l.Pairwise (· < ·)) (h2 : ∀ x, x ∈ l → x < n) (h0 : l ≠ []) : ∃ S, 0 < S ∧ S < 2 ^ n ∧ chL S n = l := by
  obtain ⟨S, s1, s2⟩ := num_of (fun i => i ∈ l) n
  have e : chL S n = l := sorted_eq (chL_sorted S n) h1 fun x => by
    rw [mem_chL, s2]
    exact ⟨fun h => h.2.2, fun h => ⟨h2 x h, h2 x h, h⟩⟩
  refine ⟨S, ?_, s1, e⟩
  rcases Nat.eq_zero_or_pos S with c | c
  · exfalso
    apply h0
    rw [← e, List.eq_nil_iff_forall_not_mem]
    intro x hx
    have := ((mem_chL _).1 hx).2
    rw [c] at this; simp [mem'] at this
  · exact c
theorem set_row {n S : Nat} : chL S n ∈ chs (chL S n).length 0 n := (mem_chs _ _ _ _).2 ⟨rfl, chL_sorted S n, fun _ hx => ⟨Nat.zero_le _, ((mem_chL n).1 hx).1⟩⟩
/-- the first good row -/
theorem core_first {q : HQ} {k i : Nat} (hk : 1 ≤ k) (hi : i < (chs k 0 q.2.length).length) (hs : ∀ k', 1 ≤ k' → k' < k → ∀ l, l ∈ chs k' 0 q.2.length → ¬ GoodL q l) (hb : ∀ j, j < i → ¬ GoodL q ((chs k 0 q.2.length).getD j [])) (hg : GoodL q ((chs k 0 q.2.length).getD i [])) : CoreL q ((chs k 0 q.2.length).getD i []) := by
  have e : (chs k 0 q.2.length).getD i [] = (chs k 0 q.2.length)[i] := by rw [List.getD_eq_getElem?_getD, List.getElem?_eq_getElem hi]; rfl
  have hm : (chs k 0 q.2.length)[i] ∈ chs k 0 q.2.length := List.getElem_mem hi
  obtain ⟨m1, m2, m3⟩ := (mem_chs _ _ _ _).1 hm
  obtain ⟨S, s1, s2, s3⟩ := row_set m2 (fun x hx => (m3 x hx).2) (fun h => by rw [h] at m1; simp at m1; omega)
  rw [e] at hg ⊢
  refine ⟨S, s1, s2, by rw [good_iff, s3]; exact hg, s3.symm, fun T t1 t2 t3 => ?_⟩
  rw [s3]
  rw [good_iff] at t3
  have hr := set_row (S := T) (n := q.2.length)
  have hpos := chL_pos t1 t2
  obtain ⟨L, hL⟩ : ∃ L, L = chL T q.2.length := ⟨_, rfl⟩
  rw [← hL] at t3 hr hpos ⊢
  rcases Nat.lt_trichotomy L.length k with c | c | c
  · exact absurd t3 (hs _ hpos c _ hr)
  · rw [c] at hr
    obtain ⟨j, hj, e2⟩ := List.getElem_of_mem hr
    refine .inr ⟨by rw [m1, c], ?_⟩
    rcases Nat.lt_trichotomy j i with d | d | d
    · have := hb j d
      rw [List.getD_eq_getElem?_getD, List.getElem?_eq_getElem hj] at this
      exact absurd (by rw [← e2] at t3; exact t3) this
    · subst d
      rw [e2, cmpL_refl]; omega
    · have := List.pairwise_iff_getElem.1 (chs_sorted k 0 q.2.length) i j hi hj d
      rw [e2] at this; omega
  · exact .inl (by rw [m1]; exact c)
theorem goodL_full {q : HQ} (hq : QrV q) : GoodL q (List.range q.2.length) ∧ List.range q.2.length ∈ chs q.2.length 0 q.2.length := by
  have h := good_full hq
  rw [good_iff, chL_full _ _ (Nat.le_refl _)] at h
  exact ⟨h, (mem_chs _ _ _ _).2 ⟨by simp, List.pairwise_lt_range, fun x hx => ⟨Nat.zero_le _, List.mem_range.1 hx⟩⟩⟩
#print axioms core_first
#print axioms goodL_full
theorem infoAtomR : (Try.prog.info? 80).map (fun i => (i.zero, i.size, i.bytes)) = some (some (.agg #[.int .i64 0, .slice none 0 0]), 2, 32) := by kernel_rfl
theorem elemAtomsR : Elem Try.prog 23 80 2 32 := elem_of Try.underlying23 infoAtomR rfl (by omega) (by omega)
set_option maxRecDepth 100000 in
set_option maxHeartbeats 16000000 in
theorem partR_any {q : HQ} (h5 : q.2.length ≤ 1000) (hh9 : q.1.length ≤ 1000) (L : List Nat) (hL : ∀ i, i ∈ L → i < q.2.length) (hl : L.length ≤ 1000) (v u : Value) (w : World) (hq : Qr w v q) (hu : Ints w u (cz L)) :
    Calls Try.prog 90 #[v, u] w fun e w' => ∃ pa pn pk qa qn qk, e = .returned (.agg #[.slice pa pn pk, .slice qa qn qk]) ∧ Qr w' (.agg #[.slice pa pn pk, .slice qa qn qk]) (q.1, partA q.2 L) ∧ Below w.heap.size w w' := by
  obtain ⟨hd, bd⟩ := q
  obtain ⟨h0, b0, rfl, hh, hb⟩ := hq
  obtain ⟨a, b, off, cap, vs, rfl, hle, hia, _, hcl⟩ := Atoms.get hb
  obtain ⟨n, hn2⟩ : ∃ x, x = bd.length := ⟨_, rfl⟩
  have Hh := Lib.hid hh
  obtain ⟨ha, hc, rfl⟩ := ints_slice hh
  have Hn := Lib.hid hn2
  obtain ⟨xa, xb, xoff, xc, rfl, xle, xia, xcl⟩ := Ints.get hu
  simp only at hb hia hcl hle h5 hh hh9 hL ⊢
  rw [cz_len] at xia xle ⊢
  obtain ⟨m, hm⟩ : ∃ x, x = L.length := ⟨_, rfl⟩
  have Hm := Lib.hid hm
  rw [← hn2] at hia hcl hle h5 hL ⊢
  have Hxc := Lib.hid (show ∀ i, i < m → w.cell? ⟨xb, xoff + i, none⟩ = some (.int .i64 (L.getD i 0 : Nat)) from fun i hi => by
    rw [xcl i (by rw [cz_len]; omega), ← cz_get, List.getD_eq_getElem?_getD, List.getElem?_eq_getElem (by rw [cz_len]; omega)]; rfl)
  rw [← hm] at xia xle hl ⊢
  have HLm := Lib.hid (show ∀ i, i < m → L.getD i 0 < n from fun i hi => hL _ (by rw [List.getD_eq_getElem?_getD, List.getElem?_eq_getElem (by omega : i < L.length)]; exact List.getElem_mem _))
  have HTk := Lib.hid (show ∀ i, i < m → L.take (i + 1) = L.take i ++ [L.getD i 0] from fun i hi => by rw [List.take_succ_eq_append_getElem (by omega : i < L.length), List.getD_eq_getElem?_getD, List.getElem?_eq_getElem (by omega : i < L.length)]; rfl)
  obtain ⟨hn, hhn⟩ : ∃ x, x = hd.length := ⟨_, rfl⟩
  simp only at Hh
  rw [← hhn] at Hh hh9 ⊢
  have Hhn := Lib.hid hhn
  have Hix := Lib.hid (run_ix (P := Try.prog) (t := 23) (a := a) (len := n) (cap := cap) (b := b) (off := off) (s := 2) Try.underlying23 (by intro w; kernel_rfl) hia)
  have Hixx := Lib.hid (run_ix (P := Try.prog) (t := 22) (a := xa) (len := m) (cap := xc) (b := xb) (off := xoff) (s := 1) Try.underlying22 (by intro w; kernel_rfl) xia)
  simp only [Nat.mul_one] at Hixx
  have Hc := Lib.hid hcl
  obtain ⟨w1, hw1⟩ : ∃ x, x = w.alloc (.cells #[.slice ha hn hc, .slice a n cap] 25) := ⟨_, rfl⟩
  obtain ⟨w2, hw2⟩ : ∃ x, x = w1.alloc (.cells #[.slice none 0 0, .slice none 0 0] 25) := ⟨_, rfl⟩
  have k1 : Below w.heap.size w w1 := by rw [hw1]; exact below_alloc _ _
  have k2 : Below w1.heap.size w1 w2 := by rw [hw2]; exact below_alloc _ _
  obtain ⟨B, hB⟩ : ∃ x, x = w.heap.size := ⟨_, rfl⟩
  have z1 : w1.heap.size = B + 1 := by rw [hB, hw1]; simp
  have z2 : w2.heap.size = B + 2 := by rw [show B + 2 = w1.heap.size + 1 by omega, hw2]; simp
  have g1 : w1.heap[B]? = some (.cells #[.slice ha hn hc, .slice a n cap] 25 (0, 0)) := by rw [hB, hw1]; exact heap_alloc_new _ _
  have g2 : w2.heap[B + 1]? = some (.cells #[.slice none 0 0, .slice none 0 0] 25 (0, 0)) := by rw [← z1, hw2]; exact heap_alloc_new _ _
  have HG := Lib.hid (And.intro (blk_keep2 g1 k2) g2)
  have Hz2 := Lib.hid z2
  have HW2 := Lib.hid (Below.tr k1 k2)
  have Hw1 := Lib.hid hw1
  have Hw2 := Lib.hid hw2
  have HBe := Lib.hid hB
  clear hw1 hw2 hB k1 k2 z1 z2 g1 g2 hh hb hia hcl hn2 hhn hu xia xcl hm hL
  go_enter Try.func90, Try.ntmps90
  go_upto_region 1 with fail
  rw [← Hw1.out, ← Hw2.out, ← HBe.out]
  clear Hw1 Hw2
  have g0 := aCell HG.out.1 0 rfl
  obtain ⟨w4, hw4⟩ : ∃ x, x = w2 := ⟨_, rfl⟩
  obtain ⟨ca, hca⟩ : ∃ x, x = ha := ⟨_, rfl⟩
  obtain ⟨cn, hcn⟩ : ∃ x, x = hn := ⟨_, rfl⟩
  obtain ⟨ck, hck⟩ : ∃ x, x = hc := ⟨_, rfl⟩
  rw [← hw4] at HG Hz2 HW2 g0 ⊢
  have HHx := Lib.hid (show Ints w4 (.slice ca cn ck) hd from by rw [hca, hcn, hck]; exact Hh.out.keep HW2.out)
  rw [← hca, ← hcn, ← hck] at g0
  have HW4 := Lib.hid HW2.out
  have HG4 := Lib.hid HG.out
  have Hz4 := Lib.hid (show B + 2 ≤ w4.heap.size from Nat.le_of_eq Hz2.out.symm)
  clear hw4 hca hcn hck
  obtain ⟨w5, hw5⟩ : ∃ x, x = w4.alloc (.cells #[.slice ca cn ck, .slice none 0 0] 25) := ⟨_, rfl⟩
  have k5 : Below w4.heap.size w4 w5 := by rw [hw5]; exact below_alloc _ _
  obtain ⟨bo, hbo⟩ : ∃ x, x = w4.heap.size := ⟨_, rfl⟩
  have HI := Lib.hid (show Pa 25 80 B bo w w4 w5 (.slice ha hn hc) (.slice a n cap) (.slice ca cn ck) (.slice none 0 0) [] from ⟨HBe.out, hbo, by rw [hbo]; exact Hz4.out, HW4.out, k5, HG4.out.1, HG4.out.2, by rw [hbo, hw5]; exact heap_alloc_new _ _, subA_nil _ _ _ _⟩)
  have Hw5 := Lib.hid hw5
  have Hbo := Lib.hid hbo
  clear hw5 k5 hbo
  go_upto_region 2 with fail
  rw [← Hw5.out, ← Hbo.out]
  clear Hw5
  go_wp2_with fail
  go_loopw [13] (fun vi wr => ∃ (k : Nat) (ba : Option Addr) (bn bk : Nat), vi = .int .i64 k ∧ k ≤ m ∧ Pa 25 80 B bo w w4 wr (.slice ha hn hc) (.slice a n cap) (.slice ca cn ck) (.slice ba bn bk) (partA bd (L.take k))) (fun vi _ => m - (intOf vi).toNat)
  case atStart => exact ⟨0, none, 0, 0, rfl, Nat.zero_le _, HI.out⟩
  case round =>
    generalize wr = wx at *
    clear HI
    obtain ⟨k, ba, bn, bk, rfl, hk, hi⟩ := hrel
    have HI := Lib.hid hi
    clear hi
    by_cases hlt : k < m
    · have hcx := Below.keep HI.out.b (Hxc.out k hlt)
      have hixx := Hixx.out k
      have hin := HLm.out k hlt
      have HTk := Lib.hid (HTk.out k hlt)
      obtain ⟨i, hie⟩ : ∃ i, i = L.getD k 0 := ⟨_, rfl⟩
      rw [← hie] at hcx hin HTk
      clear hie
      have hc1 := Below.keep HI.out.b (Hc.out i hin).1
      have hc2 := Below.keep HI.out.b (Hc.out i hin).2.1
      have Hi := Lib.hid (Hc.out i hin).2.2
      have Hixi := Lib.hid (Hix.out i)
      have HPa := Lib.hid (partA_snoc bd (L.take k) i)
      obtain ⟨ua, uc, hua⟩ := ints_slice Hi.out
      rw [hua] at hc2 Hi
      obtain ⟨r, hr⟩ : ∃ t, t = aR bd i := ⟨_, rfl⟩
      obtain ⟨A, hA⟩ : ∃ t, t = aA bd i := ⟨_, rfl⟩
      have HC1e := Lib.hid (show Value.int .i64 (aR bd i) = .int .i64 r from by rw [hr])
      have HC2e := Lib.hid (show vs.getD i (.bool false) = .slice ua A.length uc from by rw [hA]; exact hua)
      rw [← hr] at hc1 HPa
      rw [← hA] at hc2 Hi HPa
      clear hr hA hua
      obtain ⟨un, hun⟩ : ∃ x, x = A.length := ⟨_, rfl⟩
      rw [← hun] at hc2 Hi HC2e
      have g1 := aCell HI.out.q 1 rfl
      have i0 : ¬ (i : Int) < 0 := by omega
      have i1 : ¬ (i : Int) ≥ (n : Int) := by omega
      have HC12 := Lib.hid (And.intro hc1 hc2)
      clear hun hc1 hc2
      go_upto_region 5 with fail
      clear g1 hcx hixx i0 i1
      try simp only [Act.put]
      have HS0 := Lib.hid (show wx.drew.heap[B]? = some (.cells #[.slice ha hn hc, .slice a n cap] 25 (0, 0)) ∧ wx.drew.cell? ⟨b, off + i * 2, none⟩ = some (.int .i64 r) ∧ wx.drew.cell? ⟨b, off + i * 2 + 1, none⟩ = some (.slice ua un uc) from ⟨HI.out.q, HC12.out.1, HC12.out.2⟩)
      have HP0 := Lib.hid (HI.out.keep (Below.refl _ _).drew)
      refine wp_region_held (S := fun w' => w'.heap[B]? = some (.cells #[.slice ha hn hc, .slice a n cap] 25 (0, 0)) ∧ w'.cell? ⟨b, off + i * 2, none⟩ = some (.int .i64 r) ∧ w'.cell? ⟨b, off + i * 2 + 1, none⟩ = some (.slice ua un uc)) wideK ?_
      change wpAnyH _ _ _ _ _ _ _ _ (World.drew _)
      generalize wx.drew = wd0 at *
      refine wpAnyH_take (i := 0) (v := ?_) rfl (by kernel_rfl) (by kernel_rfl) (by kernel_rfl) (fun _ _ _ h => h) (Or.inl ⟨by rfl, ?_⟩) HS0.out ?_
      rotate_left
      focus (intro w hS; clear hS; first | (go_simp; done) | (go_simp; with_reducible rfl))
      simp only [Act.put, List.getElem_toArray, List.getElem_cons_zero, List.setIfInBounds_toArray, List.set_cons_zero, List.set_cons_succ]
      refine wpAnyH_take (i := 2) (v := ?_) rfl (by kernel_rfl) (by kernel_rfl) (by kernel_rfl) (fun _ _ _ h => h) (Or.inl ⟨by rfl, ?_⟩) HS0.out ?_
      rotate_left
      focus (intro w hS; clear hS; first | (go_simp; done) | (go_simp; with_reducible rfl))
      simp only [Act.put, List.getElem_toArray, List.getElem_cons_zero, List.getElem_cons_succ, List.setIfInBounds_toArray, List.set_cons_zero, List.set_cons_succ]
      refine wpAnyH_take (i := 3) (v := ?_) rfl (by kernel_rfl) (by kernel_rfl) (by kernel_rfl) (fun _ _ _ h => h) (Or.inl ⟨by rfl, ?_⟩) HS0.out ?_
      rotate_left
      focus (intro w hS; have s0 := aCell hS.1 1 rfl; clear hS; first | (go_simp; done) | (go_simp; with_reducible rfl))
      simp only [Act.put, List.getElem_toArray, List.getElem_cons_zero, List.getElem_cons_succ, List.setIfInBounds_toArray, List.set_cons_zero, List.set_cons_succ]
      refine wpAnyH_take (i := 4) (v := ?_) rfl (by kernel_rfl) (by kernel_rfl) (by kernel_rfl) (fun _ _ _ h => h) (Or.inl ⟨by rfl, ?_⟩) HS0.out ?_
      rotate_left
      focus (intro w hS; clear hS; first | (go_simp; done) | (go_simp; with_reducible rfl))
      simp only [Act.put, List.getElem_toArray, List.getElem_cons_zero, List.getElem_cons_succ, List.setIfInBounds_toArray, List.set_cons_zero, List.set_cons_succ]
      refine wpAnyH_take (i := 5) (v := ?_) rfl (by kernel_rfl) (by kernel_rfl) (by kernel_rfl) (fun _ _ _ h => h) (Or.inl ⟨by rfl, ?_⟩) HS0.out ?_
      rotate_left
      focus (intro w hS; have s0 := Hixi.out; clear hS; first | (go_simp; done) | (go_simp; with_reducible rfl))
      simp only [Act.put, List.getElem_toArray, List.getElem_cons_zero, List.getElem_cons_succ, List.setIfInBounds_toArray, List.set_cons_zero, List.set_cons_succ]
      refine wpAnyH_take (i := 6) (v := ?_) rfl (by kernel_rfl) (by kernel_rfl) (by kernel_rfl) (fun _ _ _ h => h) (Or.inl ⟨by rfl, ?_⟩) HS0.out ?_
      rotate_left
      focus (intro w hS; have s0 := hS.2.1; have s1 := hS.2.2; clear hS; first | (go_simp; done) | (go_simp; with_reducible rfl))
      simp only [Act.put, List.getElem_toArray, List.getElem_cons_zero, List.getElem_cons_succ, List.setIfInBounds_toArray, List.set_cons_zero, List.set_cons_succ]
      refine wpAnyH_ready (rs := [1, 7]) (by kernel_rfl) (by simp) ?_
      refine RdyH.cons rfl (fun K2 hK => ?_) ?_
      · have c1 := aCell HP0.out.p 1 rfl
        go_simp
        refine hK _ _ HS0.out ?_
        clear hK K2 c1
        refine wpAnyH_ready (rs := [7]) (by kernel_rfl) (by simp) ?_
        refine RdyH.cons rfl (fun K2 hK => ?_) RdyH.nil
        obtain ⟨wd1, hwd1⟩ : ∃ y, y = wd0.alloc (.cells #[.int .i64 r, .slice ua un uc] 80) := ⟨_, rfl⟩
        have hb : Below wd0.heap.size wd0 wd1 := by rw [hwd1]; exact below_alloc _ _
        obtain ⟨bl, hbl⟩ : ∃ y, y = wd0.heap.size := ⟨_, rfl⟩
        have HL := Lib.hid (show wd1.heap[bl]? = some (.cells #[.int .i64 r, .slice ua un uc] 80 (0, 0)) from by rw [hwd1, hbl]; exact heap_alloc_new _ _)
        have HS1 := Lib.hid (And.intro (blk_keep2 HS0.out.1 hb) (And.intro (Below.keep hb HS0.out.2.1) (Below.keep hb HS0.out.2.2)))
        have HP1 := Lib.hid (HP0.out.keep hb)
        have Hwd1 := Lib.hid hwd1
        have Hbl := Lib.hid hbl
        clear hb hwd1 hbl
        go_simp
        rw [← Hwd1.out, ← Hbl.out]
        refine hK _ _ HS1.out ?_
        clear hK K2
        refine wpAnyH_ready (rs := [8]) (by kernel_rfl) (by simp) ?_
        refine RdyH.cons rfl (fun K2 hK => ?_) RdyH.nil
        obtain ⟨vs1, e1, e2, e3⟩ := HP1.out.s
        refine step_append_own rfl (.tmp 18) (.tmp 24) 23 rfl elemAtomsR rfl e2 [.int .i64 r, .slice ua un uc] rfl rfl ?c1 ?c2 ?c3 ?c4 ?_
        case c1 => exact fun k y hk => aCell HL.out k (by simpa using hk)
        case c2 => intro u hu; simp at hu; rcases hu with rfl | rfl <;> rfl
        case c3 => rw [partA_len, List.length_take]; omega
        case c4 => have := (Array.getElem?_eq_some_iff.1 HP1.out.p).1; omega
        intro v9 wd2 h91 hb
        obtain ⟨qa, qn, qk, rfl⟩ := row_sliceI h91
        have hz := HP1.out.zo
        have hz2 := HP1.out.z2
        have hp' := (hb.block bo (by omega)).trans HP1.out.p
        have Hgk := Lib.hid (aCell hp' 1 rfl)
        have Hgf := Lib.hid (frozen_of_row wd2 _ 1 _ _ hp')
        have HN := Lib.hid (HP1.out.put (body' := partA bd (L.take k) ++ [(r, A)]) hb (SubA.snoc e1 e3 Hi.out h91))
        have HS2 := Lib.hid (show wd2.heap[B]? = some (.cells #[.slice ha hn hc, .slice a n cap] 25 (0, 0)) ∧ wd2.cell? ⟨b, off + i * 2, none⟩ = some (.int .i64 r) ∧ wd2.cell? ⟨b, off + i * 2 + 1, none⟩ = some (.slice ua un uc) from
          ⟨(hb.block B (by omega)).trans HS1.out.1, by have h := Below.keep (HP1.out.b.trans (hb.mono (by have := HP1.out.b4.size; omega))) ((Hc.out i hin).1); rw [HC1e.out] at h; exact h, by have h := Below.keep (HP1.out.b.trans (hb.mono (by have := HP1.out.b4.size; omega))) ((Hc.out i hin).2.1); rw [HC2e.out] at h; exact h⟩)
        clear h91 hb hp' hz hz2
        refine hK _ _ HS2.out ?_
        clear hK K2
        refine wpAnyH_take (i := 9) (v := ?_) rfl (by kernel_rfl) (by kernel_rfl) (by kernel_rfl) (fun _ _ _ h => h) (Or.inl ⟨by rfl, ?_⟩) HS2.out ?_
        rotate_left
        focus (intro w hS; clear hS; first | (go_simp; done) | (go_simp; with_reducible rfl))
        simp only [Act.put, List.getElem_toArray, List.getElem_cons_zero, List.getElem_cons_succ, List.setIfInBounds_toArray, List.set_cons_zero, List.set_cons_succ]
        refine wpAnyH_ready (rs := [10]) (by kernel_rfl) (by simp) ?_
        refine RdyH.cons rfl (fun K2 hK => ?_) RdyH.nil
        have gk := Hgk.out
        have gf := Hgf.out
        go_simp
        have HN2 := Lib.hid (show Pa 25 80 B bo w w4 (wd2.setCell ⟨bo, 1, none⟩ (.slice qa qn qk)) (.slice ha hn hc) (.slice a n cap) (.slice ca cn ck) (.slice qa qn qk) (partA bd (L.take (k + 1))) from by rw [HTk.out, HPa.out]; exact HN.out)
        refine hK _ _ ⟨HN2.out.q, by have h := Below.keep HN2.out.b ((Hc.out i hin).1); rw [HC1e.out] at h; exact h, by have h := Below.keep HN2.out.b ((Hc.out i hin).2.1); rw [HC2e.out] at h; exact h⟩ ?_
        clear hK K2
        refine wpAnyH_done (by kernel_rfl) ?_ _
        go_wp2_with fail
        go_roundw
        case rel => exact ⟨k + 1, _, _, _, by go_num, by omega, HN2.out⟩
        case measure => simp [intOf]; omega
      · refine RdyH.cons rfl (fun K2 hK => ?_) RdyH.nil
        obtain ⟨wd1, hwd1⟩ : ∃ y, y = wd0.alloc (.cells #[.int .i64 r, .slice ua un uc] 80) := ⟨_, rfl⟩
        have hb : Below wd0.heap.size wd0 wd1 := by rw [hwd1]; exact below_alloc _ _
        obtain ⟨bl, hbl⟩ : ∃ y, y = wd0.heap.size := ⟨_, rfl⟩
        have HL := Lib.hid (show wd1.heap[bl]? = some (.cells #[.int .i64 r, .slice ua un uc] 80 (0, 0)) from by rw [hwd1, hbl]; exact heap_alloc_new _ _)
        have HS1 := Lib.hid (And.intro (blk_keep2 HS0.out.1 hb) (And.intro (Below.keep hb HS0.out.2.1) (Below.keep hb HS0.out.2.2)))
        have HP1 := Lib.hid (HP0.out.keep hb)
        have Hwd1 := Lib.hid hwd1
        have Hbl := Lib.hid hbl
        clear hb hwd1 hbl
        go_simp
        rw [← Hwd1.out, ← Hbl.out]
        refine hK _ _ HS1.out ?_
        clear hK K2
        refine wpAnyH_ready (rs := [1]) (by kernel_rfl) (by simp) ?_
        refine RdyH.cons rfl (fun K2 hK => ?_) RdyH.nil
        have c1 := aCell HP1.out.p 1 rfl
        go_simp
        refine hK _ _ HS1.out ?_
        clear hK K2 c1
        refine wpAnyH_ready (rs := [8]) (by kernel_rfl) (by simp) ?_
        refine RdyH.cons rfl (fun K2 hK => ?_) RdyH.nil
        obtain ⟨vs1, e1, e2, e3⟩ := HP1.out.s
        refine step_append_own rfl (.tmp 18) (.tmp 24) 23 rfl elemAtomsR rfl e2 [.int .i64 r, .slice ua un uc] rfl rfl ?c1 ?c2 ?c3 ?c4 ?_
        case c1 => exact fun k y hk => aCell HL.out k (by simpa using hk)
        case c2 => intro u hu; simp at hu; rcases hu with rfl | rfl <;> rfl
        case c3 => rw [partA_len, List.length_take]; omega
        case c4 => have := (Array.getElem?_eq_some_iff.1 HP1.out.p).1; omega
        intro v9 wd2 h91 hb
        obtain ⟨qa, qn, qk, rfl⟩ := row_sliceI h91
        have hz := HP1.out.zo
        have hz2 := HP1.out.z2
        have hp' := (hb.block bo (by omega)).trans HP1.out.p
        have Hgk := Lib.hid (aCell hp' 1 rfl)
        have Hgf := Lib.hid (frozen_of_row wd2 _ 1 _ _ hp')
        have HN := Lib.hid (HP1.out.put (body' := partA bd (L.take k) ++ [(r, A)]) hb (SubA.snoc e1 e3 Hi.out h91))
        have HS2 := Lib.hid (show wd2.heap[B]? = some (.cells #[.slice ha hn hc, .slice a n cap] 25 (0, 0)) ∧ wd2.cell? ⟨b, off + i * 2, none⟩ = some (.int .i64 r) ∧ wd2.cell? ⟨b, off + i * 2 + 1, none⟩ = some (.slice ua un uc) from
          ⟨(hb.block B (by omega)).trans HS1.out.1, by have h := Below.keep (HP1.out.b.trans (hb.mono (by have := HP1.out.b4.size; omega))) ((Hc.out i hin).1); rw [HC1e.out] at h; exact h, by have h := Below.keep (HP1.out.b.trans (hb.mono (by have := HP1.out.b4.size; omega))) ((Hc.out i hin).2.1); rw [HC2e.out] at h; exact h⟩)
        clear h91 hb hp' hz hz2
        refine hK _ _ HS2.out ?_
        clear hK K2
        refine wpAnyH_take (i := 9) (v := ?_) rfl (by kernel_rfl) (by kernel_rfl) (by kernel_rfl) (fun _ _ _ h => h) (Or.inl ⟨by rfl, ?_⟩) HS2.out ?_
        rotate_left
        focus (intro w hS; clear hS; first | (go_simp; done) | (go_simp; with_reducible rfl))
        simp only [Act.put, List.getElem_toArray, List.getElem_cons_zero, List.getElem_cons_succ, List.setIfInBounds_toArray, List.set_cons_zero, List.set_cons_succ]
        refine wpAnyH_ready (rs := [10]) (by kernel_rfl) (by simp) ?_
        refine RdyH.cons rfl (fun K2 hK => ?_) RdyH.nil
        have gk := Hgk.out
        have gf := Hgf.out
        go_simp
        have HN2 := Lib.hid (show Pa 25 80 B bo w w4 (wd2.setCell ⟨bo, 1, none⟩ (.slice qa qn qk)) (.slice ha hn hc) (.slice a n cap) (.slice ca cn ck) (.slice qa qn qk) (partA bd (L.take (k + 1))) from by rw [HTk.out, HPa.out]; exact HN.out)
        refine hK _ _ ⟨HN2.out.q, by have h := Below.keep HN2.out.b ((Hc.out i hin).1); rw [HC1e.out] at h; exact h, by have h := Below.keep HN2.out.b ((Hc.out i hin).2.1); rw [HC2e.out] at h; exact h⟩ ?_
        clear hK K2
        refine wpAnyH_done (by kernel_rfl) ?_ _
        go_wp2_with fail
        go_roundw
        case rel => exact ⟨k + 1, _, _, _, by go_num, by omega, HN2.out⟩
        case measure => simp [intOf]; omega
    · obtain rfl : m = k := by omega
      have c0 := aCell HI.out.p 0 rfl
      have c1 := aCell HI.out.p 1 rfl
      have r0 := aCell HI.out.r 0 rfl
      have r1 := aCell HI.out.r 1 rfl
      have f0 := frozen_of_row wx _ 0 _ _ HI.out.r
      have f1 := frozen_of_row wx _ 1 _ _ HI.out.r
      obtain ⟨w6, hw6⟩ : ∃ x, x = (wx.setCell ⟨B + 1, 0, none⟩ (.slice ca cn ck)).setCell ⟨B + 1, 1, none⟩ (.slice ba bn bk) := ⟨_, rfl⟩
      have HG := Lib.hid (show w6.heap[B + 1]? = some (.cells #[.slice ca cn ck, .slice ba bn bk] 25 (0, 0)) from by
        rw [hw6, heap_setCell_same _ _ 1 _ _ _ (heap_setCell_same wx _ 0 _ _ _ HI.out.r)]; rfl)
      have hz := HI.out.z
      have hz2 := HI.out.z2
      have hzo := HI.out.zo
      have hbd : Below w.heap.size w w6 := by rw [hw6]; exact (HI.out.b.setCell (by simp; omega) _).setCell (by simp; omega) _
      have HA := Lib.hid (show Atoms w6 (.slice ba bn bk) (partA bd L) from by
        have hs := HI.out.s
        rw [Hm.out, List.take_length] at hs
        refine SubA.atoms (B := bo + 1) (e := 80) (w0 := w) ?_ hbd
        rw [hw6]
        exact (hs.cell (by omega) _).cell (by omega) _)
      have HHd := Lib.hid (show Ints w6 (.slice ca cn ck) hd from by
        have h := (HHx.out.keep HI.out.c)
        rw [hw6]
        exact ints_cell2 h HI.out.r)
      have HB := Lib.hid hbd
      have Hw6 := Lib.hid hw6
      clear hw6 hz hz2 hzo hbd HI
      go_wp2_with fail
      rw [← Hw6.out]
      exact bodyPost_ret (results_cell_row Try.results90 _ _ (B + 1) 25 _ (0, 0) _ rfl HG.out Try.underlying25 rfl (by kernel_rfl)) rfl ⟨_, _, _, _, _, _, rfl, ⟨_, _, rfl, HHd.out, HA.out⟩, HB.out⟩
#print axioms partR_any
def CoreRC (q : HQ) (w : World) (u : Value) (c : Int) : Prop := (¬ QrV q ∧ u = .slice none 0 0 ∧ c = 2) ∨ (QrV q ∧ c = 0 ∧ ∃ L, CoreL q L ∧ Ints w u (cz L))
set_option maxRecDepth 100000 in
set_option maxHeartbeats 16000000 in
theorem coreR_any {q : HQ} (v : Value) (w : World) (hq : Qr w v q) :
    Calls Try.prog 39 #[v] w fun e w' => ∃ a n k c, e = .returned (.tuple #[.slice a n k, .int .i64 c]) ∧ CoreRC q w' (.slice a n k) c ∧ Below w.heap.size w w' := by
  obtain ⟨h0, b0, rfl, hh, hb⟩ := hq
  have Hq := Lib.hid (show Qr w (.agg #[h0, b0]) q from ⟨_, _, rfl, hh, hb⟩)
  obtain ⟨ha, hc, rfl⟩ := ints_slice hh
  obtain ⟨ba, bc, rfl⟩ := atoms_slice hb
  obtain ⟨n0, hn0⟩ : ∃ x, x = q.1.length := ⟨_, rfl⟩
  obtain ⟨n1, hn1⟩ : ∃ x, x = q.2.length := ⟨_, rfl⟩
  rw [← hn0, ← hn1] at Hq
  rw [← hn0, ← hn1]
  have Hn1 := Lib.hid hn1
  obtain ⟨w1, hw1⟩ : ∃ x, x = w.alloc (.cells #[.slice ha n0 hc, .slice ba n1 bc] 25) := ⟨_, rfl⟩
  obtain ⟨bq, hbq⟩ : ∃ x, x = w.heap.size := ⟨_, rfl⟩
  have HB := Lib.hid (show Below w.heap.size w w1 from by rw [hw1]; exact below_alloc _ _)
  have HQ := Lib.hid (show Bx w1 bq (.slice ha n0 hc) (.slice ba n1 bc) from by rw [hbq, hw1]; exact heap_alloc_new _ _)
  have Hw1 := Lib.hid hw1
  have Hbq := Lib.hid hbq
  clear hh hb hw1 hbq hn0 hn1
  go_enter Try.func39, Try.ntmps39
  go_upto_region 1 with fail
  rw [← Hw1.out, ← Hbq.out]
  clear Hw1 Hbq
  have g0 := aCell HQ.out 0 rfl
  have g1 := aCell HQ.out 1 rfl
  by_cases hv : QrV q
  · have HV := Lib.hid (validQR_any q _ w1 (Hq.out.keep HB.out) true (decide_eq_true hv))
    have Hv := Lib.hid hv
    have h5 : n1 ≤ 5 := by rw [Hn1.out]; exact hv.1.2.1
    clear hv
    go_wp2_with fail
    refine HV.out.mono ?_
    rintro e w2 ⟨rfl, hb⟩
    have HB2 := Lib.hid (Below.tr HB.out hb)
    have HQ2 := Lib.hid (HQ.out.keep hb)
    clear hb g0 g1
    go_wp2_with fail
    go_loopw [4] (fun vi wr => ∃ k : Nat, vi = .int .i64 k ∧ 1 ≤ k ∧ k ≤ n1 + 1 ∧ Below w2.heap.size w2 wr ∧ ∀ k', 1 ≤ k' → k' < k → ∀ l, l ∈ chs k' 0 n1 → ¬ GoodL q l) (fun vi _ => n1 + 1 - (intOf vi).toNat)
    case atStart => exact ⟨1, rfl, Nat.le_refl _, by omega, Below.refl _ _, fun k' h1 h2 => by omega⟩
    case round =>
      generalize wr = wx at *
      obtain ⟨k, rfl, hk1, hk, hb, hin⟩ := hrel
      have Hb := Lib.hid hb
      have Hin := Lib.hid hin
      clear hb hin
      have HQx := Lib.hid (HQ2.out.keep Hb.out)
      have g0 := aCell HQx.out 0 rfl
      have g1 := aCell HQx.out 1 rfl
      by_cases hlt : k ≤ n1
      · have hlI : (k : Int) ≤ (n1 : Int) := by omega
        have hlD : decide ((k : Int) ≤ (n1 : Int)) = true := decide_eq_true hlI
        have HCh := Lib.hid (chosen_any k 0 n1 (by omega) (by omega) h5 wx)
        go_wp2_with fail
        refine HCh.out.mono ?_
        rintro e w5 ⟨v5, rfl, ho, hb⟩
        have Hb5 := Lib.hid (Below.tr Hb.out hb)
        have HQ5 := Lib.hid (HQx.out.keep hb)
        obtain ⟨R, hR⟩ : ∃ R, R = chs k 0 n1 := ⟨_, rfl⟩
        have HRe := Lib.hid hR
        rw [← hR] at ho
        obtain ⟨a, b, off, cap, vs, rfl, hle, hia, hvs, hcs, hrs⟩ := ho.rows.get
        rw [List.length_map] at hle hia hvs ⊢
        obtain ⟨m, hm⟩ : ∃ m, m = R.length := ⟨_, rfl⟩
        have Hm := Lib.hid hm
        have Hix := Lib.hid (run_ix (P := Try.prog) (t := 27) (a := a) (len := R.length) (cap := cap) (b := b) (off := off) (s := 1) Try.underlying27 (by intro w; kernel_rfl) hia)
        simp only [Nat.mul_one] at Hix
        have Hc := Lib.hid (show ∀ i, i < m → w5.cell? ⟨b, off + i, none⟩ = some (vs.getD i (.bool false)) ∧ Ints w5 (vs.getD i (.bool false)) (cz (R.getD i [])) from fun i hi => by
          rw [List.getD_eq_getElem?_getD, List.getElem?_eq_getElem (by omega : i < vs.length), List.getD_eq_getElem?_getD, List.getElem?_eq_getElem (by omega : i < R.length)]
          have h2 := hrs i (by rw [List.length_map]; omega) (by omega)
          rw [List.getElem_map] at h2
          exact ⟨hcs i (by omega), h2⟩)
        rw [← hm] at Hix hle ⊢
        have HEl := Lib.hid (show ∀ i, i < m → (R.getD i []).length ≤ 1000 ∧ ∀ x, x ∈ R.getD i [] → x < q.2.length from fun i hi => by
          have hmem : R.getD i [] ∈ chs k 0 n1 := by rw [← hR, List.getD_eq_getElem?_getD, List.getElem?_eq_getElem (by omega : i < R.length)]; exact List.getElem_mem _
          obtain ⟨m1, _, m3⟩ := (mem_chs _ _ _ _).1 hmem
          exact ⟨by omega, fun x hx => by rw [← Hn1.out]; exact (m3 x hx).2⟩)
        clear ho hb hR hm hia hvs hcs hrs g0 g1 HCh HQx
        go_wp2_with fail
        go_loopw [28] (fun vi wr => ∃ j : Nat, vi = .int .i64 j ∧ j ≤ m ∧ Below w5.heap.size w5 wr ∧ ∀ i, i < j → ¬ GoodL q (R.getD i [])) (fun vi _ => m - (intOf vi).toNat)
        case atStart => exact ⟨0, rfl, Nat.zero_le _, Below.refl _ _, fun i h => by omega⟩
        case round =>
          generalize wr = wy at *
          obtain ⟨j, rfl, hj, hb, hno⟩ := hrel
          have Hy := Lib.hid hb
          have Hno := Lib.hid hno
          clear hb hno
          by_cases hlj : j < m
          · have hcj := Below.keep Hy.out (Hc.out j hlj).1
            have Hij := Lib.hid ((Hc.out j hlj).2.keep Hy.out)
            have hixj := Hix.out j
            have HElj := Lib.hid (HEl.out j hlj)
            have HN := Lib.hid (fun (h : ¬ GoodL q (R.getD j [])) => show ∀ i, i < j + 1 → ¬ GoodL q (R.getD i []) from fun i hi => by
              by_cases c : i = j
              · rw [c]; exact h
              · exact Hno.out i (by omega))
            have HF := Lib.hid (fun (h : GoodL q (R.getD j [])) => show CoreL q (R.getD j []) from by
              have h1 := hk1
              rw [HRe.out] at h ⊢
              rw [Hn1.out] at h ⊢
              exact core_first h1 (by rw [← Hn1.out, ← HRe.out, ← Hm.out]; exact hlj) (by rw [← Hn1.out]; exact Hin.out) (by rw [← Hn1.out, ← HRe.out]; exact Hno.out) h)
            obtain ⟨l, hl⟩ : ∃ l, l = R.getD j [] := ⟨_, rfl⟩
            rw [← hl] at Hij HElj HN HF
            clear hl
            obtain ⟨xa, xc, hxs⟩ := ints_slice Hij.out
            rw [hxs] at hcj Hij
            obtain ⟨xn, hxn⟩ : ∃ x, x = (cz l).length := ⟨_, rfl⟩
            rw [← hxn] at hcj Hij
            clear hxs hxn
            have HQy := Lib.hid (HQ5.out.keep Hy.out)
            have g0 := aCell HQy.out 0 rfl
            have g1 := aCell HQy.out 1 rfl
            have HBy := Lib.hid (Below.tr HB2.out (Below.tr Hb5.out Hy.out))
            have HPt := Lib.hid (partR_any (q := q) (by rw [← Hn1.out]; omega) (by have := Hv.out.1.2.2; omega) l HElj.out.2 HElj.out.1 _ _ wy (Hq.out.keep HBy.out) Hij.out)
            go_wp2_with fail
            refine HPt.out.mono ?_
            rintro e w6 ⟨pa, pn, pc, qa, qn, qc, rfl, hP, hb⟩
            have HP := Lib.hid (show Qr w6 (.agg #[.slice pa pn pc, .slice qa qn qc]) (q.1, partA q.2 l) from hP)
            have Hy6 := Lib.hid (Below.tr Hy.out hb)
            have HQ6 := Lib.hid (HQy.out.keep hb)
            have Hij6 := Lib.hid (Hij.out.keep hb)
            clear hP hb g0 g1 HPt hcj hixj
            obtain ⟨w7, hw7⟩ : ∃ x, x = w6.alloc (.cells #[.slice pa pn pc, .slice qa qn qc] 25) := ⟨_, rfl⟩
            have k7 : Below w6.heap.size w6 w7 := by rw [hw7]; exact below_alloc _ _
            obtain ⟨bx, hbx⟩ : ∃ x, x = w6.heap.size := ⟨_, rfl⟩
            have HX := Lib.hid (show Bx w7 bx (.slice pa pn pc) (.slice qa qn qc) from by rw [hbx, hw7]; exact heap_alloc_new _ _)
            have HP := Lib.hid (HP.out.keep k7)
            have Hy7 := Lib.hid (Below.tr Hy6.out k7)
            have HQ7 := Lib.hid (HQ6.out.keep k7)
            have Hij7 := Lib.hid (Hij6.out.keep k7)
            have Hw7 := Lib.hid hw7
            have Hbx := Lib.hid hbx
            clear hw7 k7 hbx Hy6 HQ6 Hij6
            go_upto_region 10 with fail
            rw [← Hw7.out, ← Hbx.out]
            clear Hw7 Hbx
            have x0 := aCell HX.out 0 rfl
            have x1 := aCell HX.out 1 rfl
            by_cases hpv : QrV (q.1, partA q.2 l)
            · have HVp := Lib.hid (validQR_any (q.1, partA q.2 l) _ w7 HP.out true (decide_eq_true hpv))
              have Hpv := Lib.hid hpv
              clear hpv
              go_wp2_with fail
              refine HVp.out.mono ?_
              rintro e w8 ⟨rfl, hb⟩
              have HP := Lib.hid (HP.out.keep hb)
              have HX := Lib.hid (HX.out.keep hb)
              have HQ8 := Lib.hid (HQ7.out.keep hb)
              have Hy8 := Lib.hid (Below.tr Hy7.out hb)
              have Hij := Lib.hid (Hij7.out.keep hb)
              clear hb x0 x1
              have x0 := aCell HX.out 0 rfl
              have x1 := aCell HX.out 1 rfl
              have g0 := aCell HQ8.out 0 rfl
              have g1 := aCell HQ8.out 1 rfl
              have HBz := Lib.hid (Below.tr HB2.out (Below.tr Hb5.out Hy8.out))
              have HC1 := Lib.hid (containedR_any _ _ w8 HP.out (Hq.out.keep HBz.out))
              go_wp2_with fail
              refine HC1.out.mono ?_
              rintro e w9 ⟨B1, c1, rfl, hC1, hb⟩
              have HC1r := Lib.hid hC1
              have HP := Lib.hid (HP.out.keep hb)
              have HX := Lib.hid (HX.out.keep hb)
              have HQ9 := Lib.hid (HQ8.out.keep hb)
              have Hy9 := Lib.hid (Below.tr Hy8.out hb)
              have Hij := Lib.hid (Hij.out.keep hb)
              clear hC1 hb x0 x1 g0 g1 HC1
              have x0 := aCell HX.out 0 rfl
              have x1 := aCell HX.out 1 rfl
              have g0 := aCell HQ9.out 0 rfl
              have g1 := aCell HQ9.out 1 rfl
              have HBz := Lib.hid (Below.tr HB2.out (Below.tr Hb5.out Hy9.out))
              have HC2 := Lib.hid (containedR_any _ _ w9 (Hq.out.keep HBz.out) HP.out)
              go_wp2_with fail
              refine HC2.out.mono ?_
              rintro e w10 ⟨B2, c2, rfl, hC2, hb⟩
              have Hy10 := Lib.hid (Below.tr Hy9.out hb)
              have Hij := Lib.hid (Hij.out.keep hb)
              have HPv := Lib.hid (show PairV (q.1, partA q.2 l) q from ⟨Hpv.out, Hv.out, rfl⟩)
              obtain rfl : B2 = true := by
                rcases hC2 with ⟨h, _⟩ | ⟨_, _, h⟩
                · exact absurd ⟨Hv.out, Hpv.out, rfl⟩ h
                · refine h.2 ⟨idH (q.1, partA q.2 l), isH_of Hpv.out Hv.out (sub_hom Hpv.out rfl fun a ha => ?_)⟩
                  obtain ⟨i, hi, rfl⟩ := List.mem_map.1 ha
                  have hlt := HElj.out.2 i hi
                  rw [← at_get hlt]; exact List.getElem_mem hlt
              have HB1 := Lib.hid (show B1 = true ↔ ∃ h, IsH q (q.1, partA q.2 l) h from by
                rcases HC1r.out with ⟨h, _⟩ | ⟨_, _, h⟩
                · exact absurd HPv.out h
                · exact h)
              clear hC2 hb x0 x1 g0 g1 HC2 HC1r
              cases B1
              · have HN2 := Lib.hid (HN.out fun h => by
                  have := HB1.out.2 h.2
                  cases this)
                go_wp2_with fail
                go_roundw
                case rel => exact ⟨j + 1, by go_num, by omega, Hy10.out, HN2.out⟩
                case measure => simp [intOf]; omega
              · have HR := Lib.hid (HF.out ⟨Hpv.out, HB1.out.1 rfl⟩)
                go_wp2_with fail
                go_ret2
                exact ⟨_, _, _, _, rfl, .inr ⟨Hv.out, rfl, l, HR.out, Hij.out⟩, Below.tr HB2.out (Below.tr Hb5.out Hy10.out)⟩
            · have HVp := Lib.hid (validQR_any (q.1, partA q.2 l) _ w7 HP.out false (decide_eq_false hpv))
              have HN2 := Lib.hid (HN.out fun h => hpv h.1)
              clear hpv
              go_wp2_with fail
              refine HVp.out.mono ?_
              rintro e w8 ⟨rfl, hb⟩
              have Hy8 := Lib.hid (Below.tr Hy7.out hb)
              clear hb x0 x1
              go_wp2_with fail
              go_roundw
              case rel => exact ⟨j + 1, by go_num, by omega, Hy8.out, HN2.out⟩
              case measure => simp [intOf]; omega
          · obtain rfl : m = j := by omega
            have HN := Lib.hid (show ∀ k', 1 ≤ k' → k' < k + 1 → ∀ l, l ∈ chs k' 0 n1 → ¬ GoodL q l from fun k' h1 h2 l hl => by
              by_cases c : k' = k
              · rw [c, ← HRe.out] at hl
                obtain ⟨i, hi, e⟩ := List.getElem_of_mem hl
                have := Hno.out i (by rw [Hm.out]; exact hi)
                rw [List.getD_eq_getElem?_getD, List.getElem?_eq_getElem hi] at this
                rw [← e]; exact this
              · exact Hin.out k' h1 (by omega) l hl)
            have Hb6 := Lib.hid (Below.tr Hb5.out Hy.out)
            go_wp2_with fail
            go_roundw
            case rel => exact ⟨k + 1, by go_num, by omega, by omega, Hb6.out, HN.out⟩
            case measure => simp [intOf]; omega
      · exfalso
        have hg := goodL_full Hv.out
        rw [← Hn1.out] at hg
        exact Hin.out n1 (by rw [Hn1.out]; exact Hv.out.1.1) (by omega) _ hg.2 hg.1
  · have HV := Lib.hid (validQR_any q _ w1 (Hq.out.keep HB.out) false (decide_eq_false hv))
    have Hv := Lib.hid hv
    clear hv
    go_wp2_with fail
    refine HV.out.mono ?_
    rintro e w2 ⟨rfl, hb⟩
    have HB2 := Lib.hid (Below.tr HB.out hb)
    clear hb g0 g1
    go_wp2_with fail
    go_ret2
    exact ⟨none, 0, 0, 2, rfl, .inl ⟨Hv.out, rfl, rfl⟩, HB2.out⟩
#print axioms coreR_any
end Go.Proofs.Ytfplmdieeabgpaa
