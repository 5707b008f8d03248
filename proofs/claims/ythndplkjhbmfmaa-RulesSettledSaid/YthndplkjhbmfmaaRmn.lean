/- Contracts of maps.Equal, maps.Clone and minus. -/
import Derived.Test.YthndplkjhbmfmaaRcp
import Derived.Shelf.SlMaps.Clone
namespace Go.Proofs
open Go.Shelf
def Try.cloneSet_ren : Go.Shelf.Ren := ⟨fun | 5 => 134 | 7 => 148 | n => n, fun | 23 => 130 | 25 => 3 | 3 => 4 | 4 => 4 | 20 => 20 | n => n, fun | n => n⟩
theorem Try.cloneSet : Go.Proofs.SlLaysW.n5 Try.prog Try.cloneSet_ren := {
  mixed := by kernel_rfl
  f5 := ⟨Try.f134.name, by decide, Try.func134.trans (congrArg some (by kernel_rfl))⟩
  f7 := Try.func148.trans (congrArg some (by kernel_rfl))
  t4 := Try.underlying4
  a4 := Try.isAgg4
  z4 := Try.sizeOf4
  v4 := Try.zeroValue4
  t20 := Try.underlying20
  a20 := Try.isAgg20
  z20 := Try.sizeOf20
  v20 := Try.zeroValue20
  t23 := Try.underlying130
  a23 := Try.isAgg130
  z23 := Try.sizeOf130
  v23 := Try.zeroValue130 }
namespace Ythndplkjhbmfmaa
open Go.RowKit Go.Maps Go.WideMaps
/-- v, ok := m[v] -/
theorem KSet.look2 {w : World} {b n : Nat} {p : Int → Prop} (h : KSet w b n p) {v : Int} (hv : KOk v) (B : Bool) (hB : B = true ↔ p v) :
    (Instr.lookup 130 (.map (some b)) (.int .i64 v) true).run Try.prog w = .ok (.tuple #[.bool B, .bool B]) w := by
  obtain ⟨D, h1, h2, h3, h4, hT⟩ := h
  obtain ⟨y, ps, hrun, hy⟩ := h1.look_ok lawK undS (z := .bool false) (by kernel_rfl) (plainElem_bool undB false) (keyI_of hv)
  have hhas : Maps.has D (keyI v) = B := by
    cases hh : Maps.has D (keyI v)
    · cases B
      · rfl
      · have := (h3 _).2 ⟨v, hB.1 rfl, rfl⟩
        rw [hh] at this; cases this
    · obtain ⟨x, hx, e⟩ := (h3 _).1 hh
      have hp : p v := keyI_inj hv (h4 x hx) e ▸ hx
      exact (hB.2 hp).symm
  have e : D.atKey (keyI v) (.lit (.bool false)) = .lit (.bool B) := by
    cases hc : B
    · rw [hc] at hhas
      exact Maps.atKey_of_not_has hhas _
    · rw [hc] at hhas
      exact hT _ _ hhas
  rw [e] at hy
  obtain ⟨c, rfl⟩ := bool_of_elem hy
  have hc : c = B := by
    have h0 := plainElem_bool (H := Unit) undB c
    have h1 := congrArg Prod.fst (Option.some.inj (h0.symm.trans hy))
    have h2 : DataW.lit (H := Unit) (.bool c) = .lit (.bool B) := h1
    exact Lit.bool.inj (DataW.lit.inj h2)
  rw [hrun, hc, hhas]
/-- the step, with the value -/
theorem wpList_next_setT {P : Program} (hP : P = Try.prog) (w : World) {ops : Array Oper} {rest : List Oper} {o : Oper} {a : Act} {Q : Exit → Act → World → Prop} (hg : o.guard = none) (it : Operand) (hop : o.op = Op.next it false) {b r cnt : Nat} {p q : Int → Prop}
    (hit : a.eval it = .pointer (some ⟨r, 0, none⟩)) (h : KIt w b r p q cnt)
    (hDone : (∀ v, ¬ q v) → wpList P ops Q rest (a.put o.dst (.tuple #[.bool false])) w)
    (hMore : ∀ (v : Int) (w' : World) (cnt' : Nat), q v → KOk v → KIt w' b r p (fun x => q x ∧ x ≠ v) cnt' → cnt' < cnt → w.grownBy w' (some r) → w'.heap.size = w.heap.size →
      (Instr.entry (.pointer (some ⟨r, 0, none⟩))).run P w' = .ok (.tuple #[.int .i64 v, .bool true]) w' → wpList P ops Q rest (a.put o.dst (.tuple #[.bool true, .int .i64 v, .bool true])) w') :
    wpList P ops Q (o :: rest) a w := by
  subst hP
  obtain ⟨D, left, hr, h3, h4, h5, h6, hT⟩ := h
  refine wpList_next_ranges w hg it hop _ lawK _ (Value.int .i64) Value.bool (fun key kl hk => int_of_key hk) (fun v y hy => bool_of_elem hy) b r _ D left cnt hit hr
    (fun _ hl => hDone (fun v hv => by have := (h5 (keyI v)).2 ⟨v, hv, rfl⟩; rw [hl] at this; cases this)) ?_
  intro x c kl y w' cnt' hkey hlk hv hat hrg hlt hgr hsz hen
  obtain ⟨v, hq, hkl⟩ := (h5 kl).1 hlk
  have hvk := h4 v (h6 v hq)
  have hx : Value.int .i64 x = .int .i64 v := key_inv hkey hvk hkl
  have hc : c = true := by
    have h0 := plainElem_bool (H := Unit) undB c
    have h1 := congrArg Prod.fst (Option.some.inj (h0.symm.trans hv))
    have h2 := hat (.lit (.bool false))
    rw [hT kl _ ((h3 kl).2 ⟨v, h6 v hq, hkl⟩)] at h2
    have h3 : DataW.lit (H := Unit) (.bool c) = .lit (.bool true) := h1.trans h2.symm
    exact Lit.bool.inj (DataW.lit.inj h3)
  subst hc
  rw [hx] at hen ⊢
  refine hMore v w' cnt' hq hvk ⟨D, _, hrg, h3, h4, fun k => ?_, fun z hz => h6 z hz.1, hT⟩ hlt hgr hsz hen
  subst hkl
  constructor
  · intro hz
    rw [Bool.and_eq_true] at hz
    obtain ⟨z, hz1, rfl⟩ := (h5 k).1 hz.1
    refine ⟨z, ⟨hz1, fun e => ?_⟩, rfl⟩
    subst e
    have := hz.2
    rw [WideAt.sameKey_self (lawK.key (keyI_of hvk))] at this
    cases this
  · rintro ⟨z, ⟨hz1, hne⟩, rfl⟩
    rw [Bool.and_eq_true]
    refine ⟨(h5 _).2 ⟨z, hz1, rfl⟩, ?_⟩
    rw [Maps.sameKey_ne (fun e => hne (keyI_inj (h4 z (h6 z hz1)) hvk e))]
    rfl
theorem KSet.same {w : World} {b1 n1 b2 n2 : Nat} {p1 p2 : Int → Prop} (h : KSet w b1 n1 p1) (k : KSet w b2 n2 p2) (he : ∀ v, p1 v ↔ p2 v) : n1 = n2 := by
  obtain ⟨L, l1, l2, l3⟩ := h.count
  rw [← l2]
  exact (k.len l1 fun v => (l3 v).trans (he v)).symm
theorem KSet.sub_same {w : World} {b1 b2 n : Nat} {p1 p2 : Int → Prop} (h : KSet w b1 n p1) (k : KSet w b2 n p2) (hs : ∀ v, p1 v → p2 v) : ∀ v, p1 v ↔ p2 v := by
  obtain ⟨L, l1, l2, l3⟩ := h.count
  obtain ⟨M, m1, m2, m3⟩ := k.count
  refine fun v => ⟨hs v, fun hv => Classical.byContradiction fun hn => ?_⟩
  have := len_le (l := v :: L) (m := M) (List.nodup_cons.2 ⟨fun q => hn ((l3 v).1 q), l1⟩) fun x hx => by
    rcases List.mem_cons.1 hx with rfl | hx
    · exact (m3 _).2 hv
    · exact (m3 x).2 (hs x ((l3 x).1 hx))
  rw [List.length_cons] at this
  omega
set_option maxRecDepth 100000 in
set_option maxHeartbeats 8000000 in
theorem mapsEq_any {w : World} {b1 n1 b2 n2 : Nat} {p1 p2 : Int → Prop} (h : KSet w b1 n1 p1) (k : KSet w b2 n2 p2) (B : Bool) (hB : B = true ↔ ∀ v, p1 v ↔ p2 v) :
    Calls Try.prog 106 #[.map (some b1), .map (some b2)] w fun e w' => e = .returned (.bool B) ∧ Below w.heap.size w w' := by
  have H1 := Lib.hid h
  have H2 := Lib.hid k
  have HT := Lib.hid (fun h : (∀ v, p1 v ↔ p2 v) => hB.2 h)
  have HF := Lib.hid (fun h : ¬ (∀ v, p1 v ↔ p2 v) => show B = false from by
    cases B
    · rfl
    · exact absurd (hB.1 rfl) h)
  clear h k hB
  go_enter Try.func106, Try.ntmps106
  by_cases hn : n1 = n2
  · have q1 : ((n1 : Int) != (n2 : Int)) = false := by rw [hn]; simp
    obtain ⟨rr, hrr⟩ : ∃ x, x = w.heap.size := ⟨_, rfl⟩
    have Hn := Lib.hid hn
    have Hrr := Lib.hid hrr
    clear hn hrr
    go_wp2_with (first | (refine wpList_len_set rfl _ rfl _ rfl rfl H1.out ?_) | (refine wpList_len_set rfl _ rfl _ rfl rfl H2.out ?_) | (at_range; refine wpList_range_set rfl _ rfl _ rfl rfl H1.out ?_; intro w2 hr2 hg2 hs2))
    rw [← Hrr.out] at hr2 ⊢
    have HB2 := Lib.hid (show Below w.heap.size w w2 from ⟨hg2.os, hg2.tape, hg2.output, hg2.size, fun k hk => hg2.block k hk (by simp)⟩)
    have HR2 := Lib.hid hr2
    clear hr2 hg2 hs2
    go_frame
    go_loopw [5] (fun _ wr => ∃ (q : Int → Prop) (ct : Nat), KIt wr b1 rr p1 q ct ∧ Below w.heap.size w wr ∧ ∀ v, p1 v → ¬ q v → p2 v) (fun _ wr => wr.rangeLeft b1 rr)
    case atStart => exact ⟨_, _, HR2.out, HB2.out, fun v h1 h2 => absurd h1 h2⟩
    case round =>
      clear HR2 HB2
      generalize wr = wx at *
      obtain ⟨q, ct, hr, hb, hd⟩ := hrel
      have HR := Lib.hid hr
      have HB := Lib.hid hb
      have HD := Lib.hid hd
      have HLe := Lib.hid hr.left_eq
      clear hr hb hd
      go_wp2_with (first | (at_next; refine wpList_next_setT rfl _ rfl _ rfl rfl HR.out ?_ ?_))
      · intro hq
        have HE := Lib.hid (HT.out (by
          have h2 := H2.out
          rw [← Hn.out] at h2
          exact H1.out.sub_same h2 fun v hv => HD.out v hv (hq v)))
        clear hq
        go_wp2_with fail
        go_ret
        exact ⟨by rw [HE.out]; rfl, HB.out⟩
      · intro v w3 ct3 hqv hvk hr3 hlt3 hg3 hs3 hen
        have HP1 := Lib.hid (show p1 v from by obtain ⟨D, left, _, _, _, _, h6, _⟩ := HR.out; exact h6 v hqv)
        have HB3 := Lib.hid (show Below w.heap.size w w3 from HB.out.trans ⟨hg3.os, hg3.tape, hg3.output, hg3.size, fun k hk => hg3.block k (by have := HB.out.size; omega) (by intro e; injection e with e; have := Hrr.out; omega)⟩)
        have HR3 := Lib.hid hr3
        have Hlt3 := Lib.hid hlt3
        have hk3 := H2.out.keep HB3.out
        by_cases hp2 : p2 v
        · have hl := hk3.look2 hvk true ⟨fun _ => hp2, fun _ => rfl⟩
          have HD3 := Lib.hid (show ∀ x, p1 x → ¬ (q x ∧ x ≠ v) → p2 x from fun x h1 h2 => by
            by_cases e : x = v
            · rw [e]; exact hp2
            · exact HD.out x h1 fun h => h2 ⟨h, e⟩)
          clear hp2 hk3 hqv hvk hr3 hlt3 hg3 hs3
          go_wp2_with fail
          go_roundw
          case rel => exact ⟨_, ct3, HR3.out, HB3.out, HD3.out⟩
          case measure => rw [HR3.out.left_eq, HLe.out]; exact Hlt3.out
        · have hl := hk3.look2 hvk false ⟨fun h => (by cases h), fun h => absurd h hp2⟩
          have HE := Lib.hid (HF.out fun h => hp2 ((h v).1 HP1.out))
          clear hp2 hk3 hqv hvk hr3 hlt3 hg3 hs3
          go_wp2_with fail
          go_ret
          exact ⟨by rw [HE.out]; rfl, HB3.out⟩
  · have q1 : ((n1 : Int) != (n2 : Int)) = true := by rw [bne_iff_ne]; omega
    have HE := Lib.hid (HF.out fun h => hn (H1.out.same H2.out h))
    clear hn
    go_wp2_with (first | (refine wpList_len_set rfl _ rfl _ rfl rfl H1.out ?_) | (refine wpList_len_set rfl _ rfl _ rfl rfl H2.out ?_))
    go_ret
    exact ⟨by rw [HE.out]; rfl, Below.refl _ _⟩
#print axioms mapsEq_any
theorem cloneSet_any {w : World} {b n : Nat} {p : Int → Prop} (h : KSet w b n p) :
    Calls Try.prog 134 #[.map (some b)] w fun e w' => e = .returned (.map (some w.heap.size)) ∧ KSet w' w.heap.size n p ∧ Below w.heap.size w w' := by
  obtain ⟨D, h1, h2, h3, h4, hT⟩ := h
  refine (AnyW.maps_Clone_owns Try.cloneSet 3 (plainElem Try.prog 4) b _ D w h1).mono ?_
  rintro e w' ⟨rfl, k1, _, k3⟩
  exact ⟨rfl, ⟨D, k1, h2, h3, h4, hT⟩, k3⟩
#print axioms cloneSet_any
/-- delete(m, v) -/
theorem wpList_del_set {P : Program} (hP : P = Try.prog) (w : World) {ops : Array Oper} {rest : List Oper} {o : Oper} {a : Act} {Q : Exit → Act → World → Prop} (hg : o.guard = none) (m x : Operand) (t k : TypeId) (hop : o.op = Op.call { callee := Callee.builtin Builtin.delete, args := #[m, x], argTypes := #[t, k] }) (ht : t = 130) (hkt : k = 3) {b n : Nat} {p : Int → Prop}
    (hm : a.eval m = .map (some b)) (h : KSet w b n p) {v : Int} (hv : KOk v) (hx : a.eval x = .int .i64 v)
    (hK : ∀ w' n', KSet w' b n' (fun x => p x ∧ x ≠ v) → w.mapTurned w' b → wpList P ops Q rest (a.put o.dst (.tuple #[])) w') : wpList P ops Q (o :: rest) a w := by
  subst hP ht hkt
  obtain ⟨D, h1, h2, h3, h4, hT⟩ := h
  refine wpList_delete_own w hg m x _ _ hop _ lawK undS _ b _ D hm h1 _ (keyI v) hx (keyI_of hv) fun w' r1 r2 => hK w' _ ⟨D.del (keyI v), owns_size r1, rfl, fun kl => ?_, fun z hz => h4 z hz.1, fun kl z hz => ?_⟩ r2
  · by_cases e : kl = keyI v
    · subst e
      rw [Maps.has_del_same]
      exact ⟨fun h => (by cases h), fun ⟨y, ⟨hp, hy⟩, e⟩ => absurd (keyI_inj hv (h4 y hp) e).symm hy⟩
    · rw [Maps.has_del_other e, h3]
      exact ⟨fun ⟨y, hy, e2⟩ => ⟨y, ⟨hy, fun q => e (by rw [e2, q])⟩, e2⟩, fun ⟨y, hy, e2⟩ => ⟨y, hy.1, e2⟩⟩
  · by_cases e : kl = keyI v
    · subst e
      rw [Maps.has_del_same] at hz; cases hz
    · rw [Maps.has_del_other e] at hz
      rw [Maps.atKey_del_other e]
      exact hT kl z hz
#print axioms wpList_del_set
set_option maxRecDepth 100000 in
set_option maxHeartbeats 8000000 in
theorem minus_any {w : World} {b1 n1 b2 n2 : Nat} {p1 p2 : Int → Prop} (h : KSet w b1 n1 p1) (k : KSet w b2 n2 p2) :
    Calls Try.prog 107 #[.map (some b1), .map (some b2)] w fun e w' => ∃ m n, e = .returned (.map (some m)) ∧ KSet w' m n (fun v => p1 v ∧ ¬ p2 v) ∧ Below w.heap.size w w' := by
  have HC := Lib.hid (cloneSet_any h)
  have H2 := Lib.hid k
  clear h k
  go_enter Try.func107, Try.ntmps107
  go_wp2_with fail
  refine HC.out.mono ?_
  clear HC
  rintro e w1 ⟨rfl, hk, hb⟩
  obtain ⟨m, hm⟩ : ∃ x, x = w.heap.size := ⟨_, rfl⟩
  rw [← hm] at hk ⊢
  have HK := Lib.hid hk
  have HB := Lib.hid hb
  have Hm := Lib.hid hm
  have H21 := Lib.hid (H2.out.keep hb)
  have Hne := Lib.hid (show b2 ≠ m from by have := H2.out.lt; omega)
  obtain ⟨rr, hrr⟩ : ∃ x, x = w1.heap.size := ⟨_, rfl⟩
  have Hrr := Lib.hid hrr
  have Hrm := Lib.hid (show m < rr from by have := hk.lt; omega)
  clear hk hb hm hrr
  go_wp2_with (first | (at_range; refine wpList_range_set rfl _ rfl _ rfl rfl H21.out ?_; intro w2 hr2 hg2 hs2))
  rw [← Hrr.out] at hr2 ⊢
  have hb2 : Below w1.heap.size w1 w2 := ⟨hg2.os, hg2.tape, hg2.output, hg2.size, fun k hk => hg2.block k hk (by simp)⟩
  have HR2 := Lib.hid hr2
  have HK2 := Lib.hid (HK.out.keep hb2)
  have HB2 := Lib.hid (Below.tr HB.out hb2)
  clear hr2 hg2 hs2 hb2 HK HB H21
  go_frame
  go_loopw [6] (fun _ wr => ∃ (q : Int → Prop) (ct n : Nat), KIt wr b2 rr p2 q ct ∧ KSet wr m n (fun v => p1 v ∧ (¬ p2 v ∨ q v)) ∧ Below w.heap.size w wr) (fun _ wr => wr.rangeLeft b2 rr)
  case atStart => exact ⟨_, _, _, HR2.out, HK2.out.congr fun v => ⟨fun h => ⟨h, Classical.em (p2 v) |>.elim .inr .inl⟩, fun h => h.1⟩, HB2.out⟩
  case round =>
    clear HR2 HK2 HB2
    generalize wr = wx at *
    obtain ⟨q, ct, n, hr, hk, hb⟩ := hrel
    have HR := Lib.hid hr
    have HK := Lib.hid hk
    have HB := Lib.hid hb
    have HLe := Lib.hid hr.left_eq
    clear hr hk hb
    go_wp2_with (first | (at_next; refine wpList_next_set rfl _ rfl _ rfl rfl HR.out ?_ ?_))
    · intro hq
      have HE := Lib.hid (show KSet wx m n (fun v => p1 v ∧ ¬ p2 v) from HK.out.congr fun v => ⟨fun h => ⟨h.1, h.2.elim id fun k => absurd k (hq v)⟩, fun h => ⟨h.1, .inl h.2⟩⟩)
      clear hq
      go_wp2_with fail
      go_ret
      exact ⟨m, n, rfl, HE.out, HB.out⟩
    · intro v c w3 ct3 hqv hvk hr3 hlt3 hg3 hs3 hen
      have HB3 := Lib.hid (show Below w.heap.size w w3 from HB.out.trans ⟨hg3.os, hg3.tape, hg3.output, hg3.size, fun k hk => hg3.block k (by have := HB.out.size; omega) (by intro e; injection e with e; have := Hm.out; have := Hrm.out; omega)⟩)
      have HK3 := Lib.hid (HK.out.kept hg3 (by intro e; injection e with e; have := Hrm.out; omega))
      have HR3 := Lib.hid hr3
      have Hlt3 := Lib.hid hlt3
      have Hvk := Lib.hid hvk
      have HP2 := Lib.hid (show p2 v from by obtain ⟨D, left, _, _, _, _, h6, _⟩ := HR.out; exact h6 v hqv)
      clear hqv hvk hr3 hlt3 hg3 hs3
      go_wp2_with (first | (refine wpList_del_set rfl _ rfl _ _ _ _ rfl rfl rfl rfl HK3.out Hvk.out rfl ?_; intro w4 n4 hk4 ht4; simp only [Act.put]))
      have hg4 := ht4.grown
      have HK4 := Lib.hid (show KSet w4 m n4 (fun x => p1 x ∧ (¬ p2 x ∨ (q x ∧ x ≠ v))) from hk4.congr fun x => ⟨fun h => ⟨h.1.1, h.1.2.elim .inl fun k => .inr ⟨k, h.2⟩⟩, fun h => ⟨⟨h.1, h.2.elim .inl fun k => .inr k.1⟩, fun e => by
        subst e
        rcases h.2 with k | k
        · exact k HP2.out
        · exact k.2 rfl⟩⟩)
      have HR4 := Lib.hid (HR3.out.kept hg4 (by intro e; injection e with e; exact Hne.out e) (by intro e; injection e with e; have := Hrm.out; omega))
      have HB4 := Lib.hid (show Below w.heap.size w w4 from HB3.out.trans ⟨hg4.os, hg4.tape, hg4.output, hg4.size, fun k hk => hg4.block k (by have := HB3.out.size; omega) (by intro e; injection e with e; have := Hm.out; omega)⟩)
      clear hk4 ht4 hg4 hen
      go_wp2_with fail
      go_roundw
      case rel =>
        exact ⟨_, ct3, n4, HR4.out, HK4.out, HB4.out⟩
      case measure => rw [HR4.out.left_eq, HLe.out]; exact Hlt3.out
#print axioms minus_any
end Ythndplkjhbmfmaa
end Go.Proofs
