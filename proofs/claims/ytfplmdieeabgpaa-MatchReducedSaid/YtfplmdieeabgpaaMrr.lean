/- Contract of the reference's matches (under way: the first loop, then the state at the second). Contract of the reference's Count. Contract of the reference's Results. Contract of the reference's Freeze. Contract of the reference's Contained. -/
import Derived.Test.YtfplmdieeabgpaaMam
import Derived.Maps.AppendAt
import Derived.Test.YtfplmdieeabgpaaPrd
import Derived.Test.YtfplmdieeabgpaaRq
import Derived.Test.YtfplmdieeabgpaaRfa
import Derived.Test.YtfplmdieeabgpaaFrz
namespace Go.Proofs.Ytfplmdieeabgpaa
open Go.RowKit
theorem eq8 {v : List Int} (h : v.length = 8) : ∃ x0 x1 x2 x3 x4 x5 x6 x7, v = [x0, x1, x2, x3, x4, x5, x6, x7] := by
  match v, h with
  | [a, b, c, d, e, f, g, i], _ => exact ⟨a, b, c, d, e, f, g, i, rfl⟩
/-- a row behind its first number -/
theorem tail_slice {w : World} {a : Option Addr} {n c : Nat} {r : Int} {A : List Int} (h : Ints w (.slice a n c) (r :: A)) (hA : 1 ≤ A.length) : ∃ b off, a = some ⟨b, off, none⟩ ∧ w.cell? ⟨b, off, none⟩ = some (.int .i64 r) ∧ Ints w (.slice (some ⟨b, off + 1, none⟩) (n - 1) (c - 1)) A ∧ 0 < n ∧ (1 : Int) ≤ n ∧ c ≠ 1 := by
  obtain ⟨h1, h2, a', b, off, cap, e, ⟨h4, h4b⟩, h5⟩ := h
  injection e with e1 e2 e3
  subst e1 e2 e3
  simp only [List.length_cons] at h1 h2 h4 h4b h5 ⊢
  have ea := h4 (by omega)
  subst ea
  refine ⟨b, off, rfl, h5 0 (by simp), ?_, by omega, by omega, by omega⟩
  refine ⟨by simp, by omega, some ⟨b, off + 1, none⟩, b, off + 1, c - 1, by rw [Nat.add_sub_cancel], ⟨fun _ => rfl, by omega⟩, fun j hj => ?_⟩
  have hj' : j < A.length := by simpa using hj
  have := h5 (j + 1) (by simp; omega)
  rw [show off + 1 + j = off + (j + 1) by omega, this]
  simp
theorem keyS_at {l : List HAt} {k : Nat} {K : List (List Int)} (h : KeyS l k K) (hf : ∀ i, i < k → FcV (aR l i) (aA l i)) {j : Nat} (hj : j < K.length) : ∃ r A, K.getD j [] = r :: A ∧ (1 ≤ A.length ∧ A.length ≤ 3) ∧ (fsK K).getD j (0, []) = (r, A) := by
  have hm : K.getD j [] ∈ K := by rw [List.getD_eq_getElem?_getD, List.getElem?_eq_getElem hj]; exact List.getElem_mem hj
  obtain ⟨i, hi, e⟩ := (h.2 _).1 hm
  exact ⟨_, _, e, (hf i hi).2.1, by rw [fsK_at hj, e]; rfl⟩
theorem infoV : (Try.prog.info? 94).map (fun i => (i.zero, i.size, i.bytes)) = some (some (.agg #[.int .i64 0, .int .i64 0, .int .i64 0, .int .i64 0, .int .i64 0, .int .i64 0, .int .i64 0, .int .i64 0]), 8, 64) := by kernel_rfl
theorem elemV : Elem Try.prog 99 94 8 64 := elem_of Try.underlying99 infoV rfl (by omega) (by omega)
theorem append_at {P : Program} {ops : Array Oper} {rest : List Oper} {o : Oper} {a : Act} {Q : Exit → Act → World → Prop} {w : World} (hgd : o.guard = none) (s x : Operand) (t : TypeId)
    (ho : o.op = .call { callee := .builtin .append, args := #[s, x], argTypes := #[t, t] }) {e : TypeId} {size bytes : Nat} (he : Elem P t e size bytes)
    {base n : Nat} {v : Value} {xs : List Value} (hs : a.eval s = v) (hown : w.ownsRow base e size v n xs)
    {g c : Nat} {news : List Value} (hx : a.eval x = .slice (some ⟨g, 0, none⟩) 1 c) (hl : news.length = 1 * size) (hy : ∀ j y, news[j]? = some y → w.cell? ⟨g, j, none⟩ = some y) (h1 : ∀ u ∈ news, u.oneCell' = true)
    (hn : n ≤ 1000000) (hbase : base ≤ w.heap.size)
    (h : ∀ v' w', w'.ownsRow base e size v' (n + 1) (xs ++ news) → Below base w w' → w.grownBy w' v.ownBlock → (v'.ownBlock = v.ownBlock ∨ v'.ownBlock = some w.heap.size) → wpList P ops Q rest (a.put o.dst v') w') : wpList P ops Q (o :: rest) a w := by
  obtain ⟨ht, i, z, hi, hz, h3, h4, hzs, hsz, hby⟩ := he
  have hbytes : (n + 1) * bytes ≤ 1000001 * 1000 := Nat.mul_le_mul (by omega) hby
  refine wpList_plain hgd fun K hK => ?_
  obtain ⟨v', w', hrun, r1, r2, _, r3⟩ := run_append_own_at (P := P) w base t o.type e i z size bytes ht hi hz h3 h4 hzs hsz v n xs hown ⟨g, 0, none⟩ 1 c news hl (fun j u hj => by rw [Addr.add_lit, Nat.zero_add]; exact hy j u hj) h1 (by unfold maxLen; omega) (by omega) hbase
  unfold Oper.wp execOp
  simp only [ho, resolve, invoke, builtin, Sem.run_bind, Sem.run_pure, Result.andThen_ok, List.map_toArray, List.map_cons, List.map_nil, hs, hx, hrun]
  exact hK _ _ (h v' w' r1 (grown_below hown r2 hbase) r2 r3)
/-- what the reference's matches returns -/
def MatRE (q : HQ) (l : List HAt) (w' : World) (e : Ending) : Prop :=
  (Big l q.2 ∧ e = .returned (.tuple #[.slice none 0 0, .int .i64 3])) ∨ (¬ Big l q.2 ∧ ∃ a n k N, e = .returned (.tuple #[.slice a n k, .int .i64 0]) ∧ VR w' (.slice a n k) N ∧ N.Nodup ∧ ∀ v, v ∈ N ↔ MaP l q.2 v)
structure Kq (w wr : World) (bq : Nat) (x0 x1 : Value) (g : Nat) : Prop where
  b : Below w.heap.size w wr
  q : Bx wr bq x0 x1
  n : wr.ownsRow w.heap.size 94 8 (.slice (some ⟨g, 0, none⟩) 1 1) 1 ([0, 0, 0, 0, 0, 0, 0, 0].map (Value.int .i64))
theorem Kq.keep {w wr w' : World} {bq g : Nat} {x0 x1 : Value} (h : Kq w wr bq x0 x1 g) (hb : Below wr.heap.size wr w') : Kq w w' bq x0 x1 g := ⟨Below.tr h.b hb, h.q.keep hb, owns_keep h.n hb⟩
set_option maxRecDepth 100000 in
set_option maxHeartbeats 16000000 in
theorem matchesR_any (q : HQ) (l : List HAt) (hq : QrV q) (hl : FsV l) (v u : Value) (w : World) (hv : Qr w v q) (hu : Atoms w u l) :
    Calls Try.prog 70 #[v, u] w fun e w' => MatRE q l w' e ∧ Below w.heap.size w w' := by
  obtain ⟨h0, b0, rfl, hh, hb⟩ := hv
  obtain ⟨ha, hc, rfl⟩ := ints_slice hh
  obtain ⟨ba, bc, rfl⟩ := atoms_slice hb
  obtain ⟨n0, hn0⟩ : ∃ x, x = q.1.length := ⟨_, rfl⟩
  obtain ⟨n1, hn1⟩ : ∃ x, x = q.2.length := ⟨_, rfl⟩
  rw [← hn0] at hh ⊢
  rw [← hn1] at hb ⊢
  have Hh := Lib.hid hh
  have HAq := Lib.hid hb
  have Hn1 := Lib.hid hn1
  obtain ⟨a3, b3, off3, cap3, vs3, hav3, _, hia3, _, hcl3⟩ := Atoms.get hb
  rw [← hn1] at hav3 hia3 hcl3
  injection hav3 with e1 _ e3
  subst e1 e3
  have Hix3 := Lib.hid (run_ix (P := Try.prog) (t := 23) (a := ba) (len := n1) (cap := bc) (b := b3) (off := off3) (s := 2) Try.underlying23 (by intro w; kernel_rfl) hia3)
  have Hc3 := Lib.hid hcl3
  clear hia3 hcl3
  obtain ⟨a, b, off, cap, vs, rfl, hle, hia, hcap, hcl⟩ := Atoms.get hu
  have hll := hl.1
  have HOk := Lib.hid (okB_of hq hl)
  have HFv := Lib.hid hl.2
  obtain ⟨n, hn⟩ : ∃ x, x = l.length := ⟨_, rfl⟩
  have Hn := Lib.hid hn
  rw [← hn] at hle hia hcap hcl hll HFv ⊢
  have Hix := Lib.hid (run_ix (P := Try.prog) (t := 26) (a := a) (len := n) (cap := cap) (b := b) (off := off) (s := 2) Try.underlying26 (by intro w; kernel_rfl) hia)
  have Hc := Lib.hid hcl
  have Hq := Lib.hid hq
  obtain ⟨w1, hw1⟩ : ∃ x, x = w.alloc (.cells #[.slice ha n0 hc, .slice ba n1 bc] 25) := ⟨_, rfl⟩
  have hb1 : Below w.heap.size w w1 := by rw [hw1]; exact below_alloc _ _
  obtain ⟨bq, hbq⟩ : ∃ x, x = w.heap.size := ⟨_, rfl⟩
  have HB1 := Lib.hid (show Bx w1 bq (.slice ha n0 hc) (.slice ba n1 bc) from by rw [hw1, hbq]; exact heap_alloc_new _ _)
  obtain ⟨w2, hw2⟩ : ∃ x, x = w1.alloc (.cells #[.int .i64 0, .int .i64 0, .int .i64 0, .int .i64 0, .int .i64 0, .int .i64 0, .int .i64 0, .int .i64 0] 94) := ⟨_, rfl⟩
  have hb2 : Below w1.heap.size w1 w2 := by rw [hw2]; exact below_alloc _ _
  obtain ⟨g, hg⟩ : ∃ x, x = w1.heap.size := ⟨_, rfl⟩
  have HK := Lib.hid (show Kq w w2 bq (.slice ha n0 hc) (.slice ba n1 bc) g from ⟨Below.tr hb1 hb2, HB1.out.keep hb2, by
    rw [hw2, hg]; exact World.ownsRow_lit w1 _ 1 hb1.size (by unfold maxLen; omega) rfl⟩)
  have Hw1 := Lib.hid hw1
  have Hw2 := Lib.hid hw2
  have Hbq := Lib.hid hbq
  have Hg := Lib.hid hg
  clear hh hb hn0 hn1 hu hl hle hia hcap hcl hn hq hw1 hb1 hbq hw2 hb2 hg HB1
  go_enter Try.func70, Try.ntmps70
  go_upto_region 1 with fail
  rw [← Hw1.out, ← Hbq.out]
  go_upto_region 2 with fail
  rw [← Hw2.out, ← Hg.out]
  clear Hw1 Hw2 Hg Hbq
  go_wp2_with fail
  go_loopw [7, 23] (fun vk vi wr => ∃ (k : Nat) (ka : Option Addr) (kn kk : Nat) (K : List (List Int)), vk = .slice ka kn kk ∧ vi = .int .i64 k ∧ k ≤ n ∧ Kq w wr bq (.slice ha n0 hc) (.slice ba n1 bc) g ∧ Rows wr (.slice ka kn kk) K ∧ KeyS l k K) (fun _ vi _ => n - (intOf vi).toNat)
  case atStart => exact ⟨0, none, 0, 0, [], rfl, rfl, Nat.zero_le _, HK.out, (ownRows_nil 0 _).rows, keyS_0 l⟩
  case round =>
    clear HK
    obtain ⟨k, ka, kn, kk, K, rfl, rfl, hk, hkq, hR, hS⟩ := hrel
    have HK := Lib.hid hkq
    have HR := Lib.hid hR
    have HS := Lib.hid hS
    clear hkq hR hS
    by_cases hlt : k < n
    · have hc1 := Below.keep HK.out.b (Hc.out k hlt).1
      have hc2 := Below.keep HK.out.b (Hc.out k hlt).2.1
      have hi := Ints.keep (Hc.out k hlt).2.2 HK.out.b
      have hixk := Hix.out k
      have HA3 := Lib.hid (HFv.out k hlt).2.1
      obtain ⟨ua, uc, hu⟩ := ints_slice hi
      rw [hu] at hc2 hi
      clear hu
      have HSt := Lib.hid (fun R (h : PutR K (aR l k :: aA l k) R) => keyS_step HS.out h)
      obtain ⟨r, hr⟩ : ∃ t, t = aR l k := ⟨_, rfl⟩
      obtain ⟨A, hA⟩ : ∃ t, t = aA l k := ⟨_, rfl⟩
      rw [← hr] at hc1 HSt
      rw [← hA] at hc2 hi HA3 HSt
      clear hr hA
      obtain ⟨un, hun⟩ : ∃ x, x = A.length := ⟨_, rfl⟩
      rw [← hun] at hc2 hi
      have Hi := Lib.hid hi
      obtain ⟨w4, hw4⟩ : ∃ x, x = wr.alloc (.cells #[.int .i64 r, .slice ua un uc] 77) := ⟨_, rfl⟩
      have hb4 : Below wr.heap.size wr w4 := by rw [hw4]; exact below_alloc _ _
      obtain ⟨bf, hbf⟩ : ∃ x, x = wr.heap.size := ⟨_, rfl⟩
      have HF := Lib.hid (show w4.heap[bf]? = some (.cells #[.int .i64 r, .slice ua un uc] 77 (0, 0)) from by rw [hw4, hbf]; exact heap_alloc_new _ _)
      have HK4 := Lib.hid (HK.out.keep hb4)
      have HR4 := Lib.hid (HR.out.keep hb4)
      have Hi4 := Lib.hid (Hi.out.keep hb4)
      have Hw4 := Lib.hid hw4
      have Hbf := Lib.hid hbf
      clear hi hun hw4 hb4 hbf HK HR Hi
      go_upto_region 6 with fail
      rw [← Hw4.out, ← Hbf.out]
      clear Hw4 Hbf hc1 hc2 hixk
      have g0 := aCell HF.out 0 rfl
      have g1 := aCell HF.out 1 rfl
      go_wp2_with fail
      refine (key_any r A (by have := HA3.out; omega) _ _ Hi4.out).mono ?_
      rintro e w5 ⟨ya, yn, yk, rfl, ho, hb⟩
      have HY := Lib.hid ho.ints
      have HK5 := Lib.hid (HK4.out.keep hb)
      have HR5 := Lib.hid (HR4.out.keep hb)
      clear ho hb g0 g1 HF HK4 HR4 Hi4
      go_wp2_with fail
      refine (put_any K (r :: A) HS.out.1 (by have := keyS_len HS.out; omega) _ _ _ HR5.out HY.out).mono ?_
      rintro e w6 ⟨pa, pn, pk, rfl, ⟨R, hR, hP⟩, hb⟩
      have HK6 := Lib.hid (HK5.out.keep hb)
      have HR6 := Lib.hid hR
      have HS6 := Lib.hid (HSt.out R hP)
      clear hR hP hb HK5 HR5 HY
      go_wp2_with fail
      go_roundw
      case rel => exact ⟨k + 1, pa, pn, pk, R, rfl, by go_num, by omega, HK6.out, HR6.out, HS6.out⟩
      case measure => simp [intOf]; omega
    · obtain rfl : k = n := by omega
      have hn15 : n1 ≤ 5 := by rw [Hn1.out]; exact Hq.out.1.2.1
      have hKl : K.length ≤ 24 := by have := keyS_len HS.out; omega
      have HKa := Lib.hid (fun (j : Nat) (hj : j < K.length) => keyS_at HS.out HFv.out hj)
      clear Hix Hc HFv
      have g0 := aCell HK.out.q 0 rfl
      have g1 := aCell HK.out.q 1 rfl
      have HF1 := Lib.hid (fsK_mem (l := l) (K := K) (by rw [← Hn.out]; exact HS.out))
      have HF2 := Lib.hid (fsK_nodup HS.out)
      obtain ⟨F, hF⟩ : ∃ x, x = fsK K := ⟨_, rfl⟩
      have HFe := Lib.hid hF
      rw [← hF] at HF1 HF2
      generalize wr = wK at *
      have HN0 := Lib.hid (show VR wK (.slice (some ⟨g, 0, none⟩) 1 1) (mL F q.2 0) from owns_rd HK.out.n)
      have HmB := Lib.hid (fun k (hk : k ≤ q.2.length) => bigAt_iff HOk.out HF2.out HF1.out hk)
      have HmM := Lib.hid (fun (v : List Int) k (hk : k ≤ q.2.length) => mem_mL (w := v) (OkB.ok ⟨HOk.out.b, fun f hf => HOk.out.f f ((HF1.out f).1 hf)⟩ : Ok F q.2) k hk)
      clear hF
      go_wp2_with fail
      clear g0 g1
      go_loopw [6, 35] (fun vn vi wx => ∃ (i : Nat) (na : Option Addr) (nn nk : Nat), vn = .slice na nn nk ∧ vi = .int .i64 i ∧ i ≤ n1 ∧ Below wK.heap.size wK wx ∧ VR wx (.slice na nn nk) (mL F q.2 i) ∧ ∀ j, 0 < j → j ≤ i → ¬ BigAt l q.2 j) (fun _ vi _ => n1 - (intOf vi).toNat)
      case atStart => exact ⟨0, _, _, _, rfl, rfl, Nat.zero_le _, Below.refl _ _, HN0.out, fun j h1 h2 => by omega⟩
      case round =>
        clear HN0
        generalize wr = wx at *
        obtain ⟨i, na, nn, nk, rfl, rfl, hi, hb, hV, hB⟩ := hrel
        have Hb := Lib.hid hb
        have HV := Lib.hid hV
        have HB := Lib.hid hB
        clear hb hV hB
        by_cases hlt : i < n1
        · have hbw := Below.tr HK.out.b Hb.out
          have hc1 := Below.keep hbw (Hc3.out i hlt).1
          have hc2 := Below.keep hbw (Hc3.out i hlt).2.1
          have hai := Ints.keep (Hc3.out i hlt).2.2 hbw
          have hixk := Hix3.out i
          obtain ⟨ua, uc, hu⟩ := ints_slice hai
          rw [hu] at hc2 hai
          clear hu hbw
          obtain ⟨N, hN⟩ : ∃ x, x = mL F q.2 i := ⟨_, rfl⟩
          have HN := Lib.hid hN
          have HN8 := Lib.hid (show ∀ v, v ∈ N → v.length = 8 from fun v hv => by rw [hN] at hv; exact ((HmM.out v i (by rw [← Hn1.out]; omega)).1 hv).len)
          rw [← hN] at HV
          have HmS := Lib.hid (show mL F q.2 (i + 1) = stepL F (aR q.2 i, aA q.2 i) N from by rw [hN]; rfl)
          clear hN
          obtain ⟨r, hr⟩ : ∃ t, t = aR q.2 i := ⟨_, rfl⟩
          obtain ⟨A, hA⟩ : ∃ t, t = aA q.2 i := ⟨_, rfl⟩
          have HAt := Lib.hid (Hq.out.2.1 i (by rw [← Hn1.out]; exact hlt))
          rw [← hr] at hc1 HmS HAt
          rw [← hA] at hc2 hai HmS HAt
          have HAr := Lib.hid (show ∀ i, i < A.length → -9 ≤ A.getD i 0 ∧ A.getD i 0 ≤ 7 from fun i hi => HAt.out.2.2 _ (by rw [List.getD_eq_getElem?_getD, List.getElem?_eq_getElem hi]; exact List.getElem_mem hi))
          clear hr hA
          obtain ⟨un, hun⟩ : ∃ x, x = A.length := ⟨_, rfl⟩
          rw [← hun] at hc2 hai
          have Ha := Lib.hid hai
          obtain ⟨wa, hwa⟩ : ∃ x, x = wx.alloc (.cells #[.int .i64 r, .slice ua un uc] 80) := ⟨_, rfl⟩
          have hba : Below wx.heap.size wx wa := by rw [hwa]; exact below_alloc _ _
          obtain ⟨bA, hbA⟩ : ∃ x, x = wx.heap.size := ⟨_, rfl⟩
          have HAb := Lib.hid (show wa.heap[bA]? = some (.cells #[.int .i64 r, .slice ua un uc] 80 (0, 0)) from by rw [hwa, hbA]; exact heap_alloc_new _ _)
          have Ha := Lib.hid (Ha.out.keep hba)
          have HV := Lib.hid (HV.out.keep hba)
          have Hb := Lib.hid (Below.tr Hb.out hba)
          have HR := Lib.hid (HR.out.keep Hb.out)
          have Hwa := Lib.hid hwa
          have HbA := Lib.hid hbA
          clear hai hun hwa hba hbA
          go_upto_region 11 with fail
          rw [← Hwa.out, ← HbA.out]
          clear Hwa HbA hc1 hc2 hixk
          obtain ⟨_, hmx, a2, b2, off2, cap2, e2, hia2, hc2⟩ := HV.out
          injection e2 with e1 e2 e3
          subst e1 e2 e3
          have Hix2 := Lib.hid (run_ix (P := Try.prog) (t := 99) (a := na) (len := N.length) (cap := nk) (b := b2) (off := off2) (s := 8) Try.underlying99 (by intro w; kernel_rfl) hia2.1)
          have Hcv := Lib.hid (show ∀ m, m < N.length → ∀ j, j < 8 → wa.cell? ⟨b2, off2 + m * 8 + j, none⟩ = some (.int .i64 ((N.getD m []).getD j 0)) from fun m hm j hj => by
            have hlen : m * 8 + j < (cV N).length := by rw [cV_len HN8.out]; omega
            rw [Nat.add_assoc, hc2 _ hlen]
            have h1 := cV_at HN8.out hm hj
            rwa [List.getElem?_eq_getElem hlen] at h1)
          have hNl : N.length ≤ 9223372036854775807 := by unfold maxLen at hmx; exact hmx
          clear hmx hia2 hc2
          obtain ⟨a4, b4, off4, cap4, vs4, hav4, _, hia4, hvs4, hcs4, hrs4⟩ := HR.out.get
          injection hav4 with e1 e2 e3
          subst e1 e2 e3
          have Hix4 := Lib.hid (run_ix (P := Try.prog) (t := 27) (a := ka) (len := K.length) (cap := kk) (b := b4) (off := off4) (s := 1) Try.underlying27 (by intro w; kernel_rfl) hia4)
          simp only [Nat.mul_one] at Hix4
          have Hc4 := Lib.hid (show ∀ i, i < K.length → wa.cell? ⟨b4, off4 + i, none⟩ = some (vs4.getD i (.bool false)) ∧ Ints wa (vs4.getD i (.bool false)) (K.getD i []) from fun i hi => by
            rw [List.getD_eq_getElem?_getD, List.getElem?_eq_getElem (by omega : i < vs4.length), List.getD_eq_getElem?_getD, List.getElem?_eq_getElem hi]
            exact ⟨hcs4 i (by omega), hrs4 i hi (by omega)⟩)
          clear hia4 hvs4 hcs4 hrs4
          go_wp2_with fail
          go_loopw [12, 41] (fun vx vi wy => ∃ (m : Nat) (xa : Option Addr) (xn xk : Nat), vx = .slice xa xn xk ∧ vi = .int .i64 m ∧ m ≤ N.length ∧ Below wa.heap.size wa wy ∧ wy.ownsRow wa.heap.size 94 8 (.slice xa xn xk) (stM F (r, A) N m).length (cV (stM F (r, A) N m)) ∧ (stM F (r, A) N m).length ≤ 20000) (fun _ vi _ => N.length - (intOf vi).toNat)
          case atStart => exact ⟨0, none, 0, 0, rfl, rfl, Nat.zero_le _, Below.refl _ _, World.ownsRow_nil _ _ _ _, by rw [stM_0]; exact Nat.zero_le _⟩
          case round =>
            generalize wr = wy at *
            obtain ⟨m, xa, xn, xk, rfl, rfl, hm, hb, ho, h2⟩ := hrel
            have Hy := Lib.hid hb
            have HO := Lib.hid ho
            have H2 := Lib.hid h2
            clear hb ho h2
            by_cases hlm : m < N.length
            · have h8 : (N.getD m []).length = 8 := HN8.out _ (by rw [List.getD_eq_getElem?_getD, List.getElem?_eq_getElem hlm]; exact List.getElem_mem hlm)
              have Hmm := Lib.hid (show (N.getD m []) ∈ mL F q.2 i from by rw [← HN.out, List.getD_eq_getElem?_getD, List.getElem?_eq_getElem hlm]; exact List.getElem_mem hlm)
              have HJ0 := Lib.hid (stJ_0 F (r, A) N m (N.getD m []))
              have HJa := Lib.hid (stJ_all (F := F) (a := (r, A)) hlm)
              have hcv := fun j hj => Below.keep Hy.out (Hcv.out m hlm j hj)
              obtain ⟨v, hv⟩ : ∃ x, x = N.getD m [] := ⟨_, rfl⟩
              rw [← hv] at h8 Hmm HJ0 HJa hcv
              obtain ⟨x0, x1, x2, x3, x4, x5, x6, x7, hx⟩ := eq8 h8
              have Hx := Lib.hid hx
              have d0 : wy.cell? ⟨b2, off2 + m * 8, none⟩ = some (.int .i64 x0) := by have := hcv 0 (by omega); rw [hx] at this; exact this
              have d1 : wy.cell? ⟨b2, off2 + m * 8 + 1, none⟩ = some (.int .i64 x1) := by have := hcv 1 (by omega); rw [hx] at this; exact this
              have d2 : wy.cell? ⟨b2, off2 + m * 8 + 2, none⟩ = some (.int .i64 x2) := by have := hcv 2 (by omega); rw [hx] at this; exact this
              have d3 : wy.cell? ⟨b2, off2 + m * 8 + 3, none⟩ = some (.int .i64 x3) := by have := hcv 3 (by omega); rw [hx] at this; exact this
              have d4 : wy.cell? ⟨b2, off2 + m * 8 + 4, none⟩ = some (.int .i64 x4) := by have := hcv 4 (by omega); rw [hx] at this; exact this
              have d5 : wy.cell? ⟨b2, off2 + m * 8 + 5, none⟩ = some (.int .i64 x5) := by have := hcv 5 (by omega); rw [hx] at this; exact this
              have d6 : wy.cell? ⟨b2, off2 + m * 8 + 6, none⟩ = some (.int .i64 x6) := by have := hcv 6 (by omega); rw [hx] at this; exact this
              have d7 : wy.cell? ⟨b2, off2 + m * 8 + 7, none⟩ = some (.int .i64 x7) := by have := hcv 7 (by omega); rw [hx] at this; exact this
              have Hv8 := Lib.hid h8
              obtain ⟨wv, hwv⟩ : ∃ x, x = wy.alloc (.cells #[.int .i64 x0, .int .i64 x1, .int .i64 x2, .int .i64 x3, .int .i64 x4, .int .i64 x5, .int .i64 x6, .int .i64 x7] 94) := ⟨_, rfl⟩
              have hbv : Below wy.heap.size wy wv := by rw [hwv]; exact below_alloc _ _
              obtain ⟨bv, hbv2⟩ : ∃ x, x = wy.heap.size := ⟨_, rfl⟩
              have HVb := Lib.hid (show wv.heap[bv]? = some (.cells #[.int .i64 x0, .int .i64 x1, .int .i64 x2, .int .i64 x3, .int .i64 x4, .int .i64 x5, .int .i64 x6, .int .i64 x7] 94 (0, 0)) from by rw [hwv, hbv2]; exact heap_alloc_new _ _)
              have HOw := Lib.hid HO.out
              have HO := Lib.hid (owns_keep HO.out hbv)
              have Hyv := Lib.hid (Below.tr Hy.out hbv)
              have Hwv := Lib.hid hwv
              have Hbv := Lib.hid hbv2
              have HBv := Lib.hid (show ∀ g, (Value.slice xa xn xk).ownBlock = some g → g < bv from fun g hg => by rw [hbv2]; exact (own_lt HOw.out hg).2)
              clear h8 hcv hv hx hwv hbv hbv2
              have hixm := Hix2.out m
              go_upto_region 15 with fail
              rw [← Hwv.out, ← Hbv.out]
              clear Hwv Hbv d0 d1 d2 d3 d4 d5 d6 d7 hixm
              have HFl := Lib.hid (show F.length = K.length from by rw [HFe.out]; simp [fsK])
              have HNe := Lib.hid (show ∀ g, (Value.slice xa xn xk).ownBlock = some g → g ≠ bv from fun g hg => by
                have h1 := (own_lt HO.out hg)
                have h2 := HBv.out g hg
                omega)
              rw [← HJ0.out] at HO
              go_wp2_with fail
              go_loopw [12, 47] (fun vx vi wz => ∃ (j : Nat) (ya : Option Addr) (yn yk : Nat), vx = .slice ya yn yk ∧ vi = .int .i64 j ∧ j ≤ K.length ∧ Below wa.heap.size wa wz ∧ wz.ownsRow wa.heap.size 94 8 (.slice ya yn yk) (stJ F (r, A) N m v j).length (cV (stJ F (r, A) N m v j)) ∧ (stJ F (r, A) N m v j).length ≤ 20000 + j ∧ wz.heap[bv]? = some (.cells #[.int .i64 x0, .int .i64 x1, .int .i64 x2, .int .i64 x3, .int .i64 x4, .int .i64 x5, .int .i64 x6, .int .i64 x7] 94 (0, 0)) ∧ ∀ g, (Value.slice ya yn yk).ownBlock = some g → g ≠ bv) (fun _ vi _ => K.length - (intOf vi).toNat)
              case atStart => exact ⟨0, xa, xn, xk, rfl, rfl, Nat.zero_le _, Hyv.out, HO.out, by rw [HJ0.out]; exact Nat.le_add_right_of_le H2.out, HVb.out, HNe.out⟩
              case round =>
                generalize wr = wz at *
                obtain ⟨j, ya, yn, yk, rfl, rfl, hj, hb, ho, h2, hv, hne⟩ := hrel
                have Hz := Lib.hid hb
                have HOz := Lib.hid ho
                have H2z := Lib.hid h2
                have HVz := Lib.hid hv
                have Hnz := Lib.hid hne
                clear hb ho h2 hv hne
                by_cases hlj : j < K.length
                · have hck := Below.keep Hz.out (Hc4.out j hlj).1
                  have Hik := Lib.hid ((Hc4.out j hlj).2.keep Hz.out)
                  have hixk := Hix4.out j
                  obtain ⟨r', A', hKz, hA3, hFj⟩ := HKa.out j hlj
                  rw [← HFe.out] at hFj
                  rw [hKz] at Hik
                  obtain ⟨za, zc, hz⟩ := ints_slice Hik.out
                  obtain ⟨zn, hzn⟩ : ∃ x, x = (r' :: A').length := ⟨_, rfl⟩
                  rw [hz, ← hzn] at hck
                  have Hik := Lib.hid (show Ints wz (.slice za zn zc) (r' :: A') from by rw [hzn, ← hz]; exact Hik.out)
                  have HFj := Lib.hid hFj
                  clear hz hzn hKz hFj
                  obtain ⟨b5, off5, rfl, hc5, hti, hz0, hz1, hzc⟩ := tail_slice Hik.out hA3.1
                  have hixz := run_ix (P := Try.prog) (t := 22) (a := some ⟨b5, off5, none⟩) (len := zn) (cap := zc) (b := b5) (off := off5) (s := 1) Try.underlying22 (by intro w; kernel_rfl) (fun _ => rfl)
                  have hix0 := fun w => hixz 0 w hz0
                  simp only [Nat.zero_mul, Nat.add_zero] at hix0
                  have HTz := Lib.hid hti
                  have HAz := Lib.hid (blk_keep2 HAb.out Hz.out)
                  have Haz := Lib.hid (Ha.out.keep Hz.out)
                  clear hti hixz hA3
                  go_upto_region 18 with fail
                  clear hck hixk
                  try simp only [Act.put]
                  go_cut [17, 18] (fun o17 o18 wc => ∃ bt B X, (o17 = .pointer (some ⟨bt, 0, none⟩) ∧ o18 = .bool B) ∧ wc.heap[bt]? = some (.cells (vrow X) 94 (0, 0)) ∧ ExR [x0, x1, x2, x3, x4, x5, x6, x7] (r, A) (r', A') X B ∧ Below wz.heap.size wz wc)
                  case first =>
                    have HS0 := Lib.hid (show wz.drew.heap[bv]? = some (.cells #[.int .i64 x0, .int .i64 x1, .int .i64 x2, .int .i64 x3, .int .i64 x4, .int .i64 x5, .int .i64 x6, .int .i64 x7] 94 (0, 0)) ∧ wz.drew.heap[bA]? = some (.cells #[.int .i64 r, .slice ua un uc] 80 (0, 0)) ∧ wz.drew.cell? ⟨b5, off5, none⟩ = some (.int .i64 r') from ⟨HVz.out, HAz.out, hc5⟩)
                    have HW0 := Lib.hid (show Below wz.heap.size wz wz.drew from (Below.refl _ _).drew)
                    clear hc5
                    refine wp_region_held (S := fun w' => w'.heap[bv]? = some (.cells #[.int .i64 x0, .int .i64 x1, .int .i64 x2, .int .i64 x3, .int .i64 x4, .int .i64 x5, .int .i64 x6, .int .i64 x7] 94 (0, 0)) ∧ w'.heap[bA]? = some (.cells #[.int .i64 r, .slice ua un uc] 80 (0, 0)) ∧ w'.cell? ⟨b5, off5, none⟩ = some (.int .i64 r')) wideK ?_
                    change wpAnyH _ _ _ _ _ _ _ _ (World.drew _)
                    generalize wz.drew = wd0 at *
                    refine wpAnyH_take (i := 0) (v := ?_) rfl (by kernel_rfl) (by kernel_rfl) (by kernel_rfl) (fun _ _ _ h => h) (Or.inl ⟨by rfl, ?_⟩) HS0.out ?_
                    rotate_left
                    focus (intro w hS; have s0 := aCell hS.1 0 rfl; have s1 := aCell hS.1 1 rfl; have s2 := aCell hS.1 2 rfl; have s3 := aCell hS.1 3 rfl; have s4 := aCell hS.1 4 rfl; have s5 := aCell hS.1 5 rfl; have s6 := aCell hS.1 6 rfl; have s7 := aCell hS.1 7 rfl; clear hS; first | (go_simp; done) | (go_simp; with_reducible rfl))
                    simp only [Act.put, List.getElem_toArray, List.getElem_cons_zero, List.setIfInBounds_toArray, List.set_cons_zero, List.set_cons_succ]
                    refine wpAnyH_take (i := 1) (v := ?_) rfl (by kernel_rfl) (by kernel_rfl) (by kernel_rfl) (fun _ _ _ h => h) (Or.inl ⟨by rfl, ?_⟩) HS0.out ?_
                    rotate_left
                    focus (intro w hS; have s0 := aCell hS.2.1 0 rfl; have s1 := aCell hS.2.1 1 rfl; clear hS; first | (go_simp; done) | (go_simp; with_reducible rfl))
                    simp only [Act.put, List.getElem_toArray, List.getElem_cons_zero, List.getElem_cons_succ, List.setIfInBounds_toArray, List.set_cons_zero, List.set_cons_succ]
                    refine wpAnyH_take (i := 2) (v := ?_) rfl (by kernel_rfl) (by kernel_rfl) (by kernel_rfl) (fun _ _ _ h => h) (Or.inl ⟨by rfl, ?_⟩) HS0.out ?_
                    rotate_left
                    focus (intro w hS; clear hS; first | (go_simp; done) | (go_simp; with_reducible rfl))
                    simp only [Act.put, List.getElem_toArray, List.getElem_cons_zero, List.getElem_cons_succ, List.setIfInBounds_toArray, List.set_cons_zero, List.set_cons_succ]
                    refine wpAnyH_take (i := 3) (v := ?_) rfl (by kernel_rfl) (by kernel_rfl) (by kernel_rfl) (fun _ _ _ h => h) (Or.inl ⟨by rfl, ?_⟩) HS0.out ?_
                    rotate_left
                    focus (intro w hS; clear hS; first | (go_simp; done) | (go_simp; with_reducible rfl))
                    simp only [Act.put, List.getElem_toArray, List.getElem_cons_zero, List.getElem_cons_succ, List.setIfInBounds_toArray, List.set_cons_zero, List.set_cons_succ]
                    refine wpAnyH_take (i := 4) (v := ?_) rfl (by kernel_rfl) (by kernel_rfl) (by kernel_rfl) (fun _ _ _ h => h) (Or.inl ⟨by rfl, ?_⟩) HS0.out ?_
                    rotate_left
                    focus (intro w hS; have s0 := hS.2.2; clear hS; first | (go_simp; done) | (go_simp; with_reducible rfl))
                    simp only [Act.put, List.getElem_toArray, List.getElem_cons_zero, List.getElem_cons_succ, List.setIfInBounds_toArray, List.set_cons_zero, List.set_cons_succ]
                    refine wpAnyH_take (i := 5) (v := ?_) rfl (by kernel_rfl) (by kernel_rfl) (by kernel_rfl) (fun _ _ _ h => h) (Or.inl ⟨by rfl, ?_⟩) HS0.out ?_
                    rotate_left
                    focus (intro w hS; clear hS; first | (go_simp; done) | (go_simp; with_reducible rfl))
                    simp only [Act.put, List.getElem_toArray, List.getElem_cons_zero, List.getElem_cons_succ, List.setIfInBounds_toArray, List.set_cons_zero, List.set_cons_succ]
                    refine wpAnyH_take (i := 6) (v := ?_) rfl (by kernel_rfl) (by kernel_rfl) (by kernel_rfl) (fun _ _ _ h => h) (Or.inl ⟨by rfl, ?_⟩) HS0.out ?_
                    rotate_left
                    focus (intro w hS; clear hS; first | (go_simp; done) | (go_simp; with_reducible rfl))
                    simp only [Act.put, List.getElem_toArray, List.getElem_cons_zero, List.getElem_cons_succ, List.setIfInBounds_toArray, List.set_cons_zero, List.set_cons_succ]
                    refine wpAnyH_take (i := 7) (v := ?_) rfl (by kernel_rfl) (by kernel_rfl) (by kernel_rfl) (fun _ _ _ h => h) (Or.inl ⟨by rfl, ?_⟩) HS0.out ?_
                    rotate_left
                    focus (intro w hS; clear hS; first | (go_simp; done) | (go_simp; with_reducible rfl))
                    simp only [Act.put, List.getElem_toArray, List.getElem_cons_zero, List.getElem_cons_succ, List.setIfInBounds_toArray, List.set_cons_zero, List.set_cons_succ]
                    refine wpAnyH_ready (rs := [8, 12]) (by kernel_rfl) (by simp) ?_
                    refine RdyH.cons rfl (fun K2 hK => ?_) ?_
                    · go_simp
                      go_at_call 108
                      refine (fitR_any [x0, x1, x2, x3, x4, x5, x6, x7] rfl r A HAr.out _ r' A' _ _ (Haz.out.keep HW0.out) (HTz.out.keep HW0.out)).mono ?_
                      rintro e wd1 ⟨⟨X, B, rfl, hX⟩, hb⟩
                      have HX := Lib.hid hX
                      obtain ⟨xr, hxr⟩ : ∃ x, x = vrow X := ⟨_, rfl⟩
                      have Hxr := Lib.hid hxr
                      rw [← hxr]
                      have HS1 := Lib.hid (show wd1.heap[bv]? = some (.cells #[.int .i64 x0, .int .i64 x1, .int .i64 x2, .int .i64 x3, .int .i64 x4, .int .i64 x5, .int .i64 x6, .int .i64 x7] 94 (0, 0)) ∧ wd1.heap[bA]? = some (.cells #[.int .i64 r, .slice ua un uc] 80 (0, 0)) ∧ wd1.cell? ⟨b5, off5, none⟩ = some (.int .i64 r') from ⟨blk_keep2 HS0.out.1 hb, blk_keep2 HS0.out.2.1 hb, Below.keep hb HS0.out.2.2⟩)
                      have HW1 := Lib.hid (Below.tr HW0.out hb)
                      clear hb hX hxr
                      go_simp
                      refine hK _ _ HS1.out ?_
                      clear hK K2
                      refine wpAnyH_take (i := 9) (v := ?_) rfl (by kernel_rfl) (by kernel_rfl) (by kernel_rfl) (fun _ _ _ h => h) (Or.inl ⟨by rfl, ?_⟩) HS1.out ?_
                      rotate_left
                      focus (intro w hS; clear hS; first | (go_simp; done) | (go_simp; with_reducible rfl))
                      simp only [Act.put, List.getElem_toArray, List.getElem_cons_zero, List.getElem_cons_succ, List.setIfInBounds_toArray, List.set_cons_zero, List.set_cons_succ]
                      refine wpAnyH_take (i := 10) (v := ?_) rfl (by kernel_rfl) (by kernel_rfl) (by kernel_rfl) (fun _ _ _ h => h) (Or.inl ⟨by rfl, ?_⟩) HS1.out ?_
                      rotate_left
                      focus (intro w hS; clear hS; first | (go_simp; done) | (go_simp; with_reducible rfl))
                      simp only [Act.put, List.getElem_toArray, List.getElem_cons_zero, List.getElem_cons_succ, List.setIfInBounds_toArray, List.set_cons_zero, List.set_cons_succ]
                      refine wpAnyH_take (i := 11) (v := ?_) rfl (by kernel_rfl) (by kernel_rfl) (by kernel_rfl) (fun _ _ _ h => h) (Or.inl ⟨by rfl, ?_⟩) HS1.out ?_
                      rotate_left
                      focus (intro w hS; clear hS; first | (go_simp; done) | (go_simp; with_reducible rfl))
                      simp only [Act.put, List.getElem_toArray, List.getElem_cons_zero, List.getElem_cons_succ, List.setIfInBounds_toArray, List.set_cons_zero, List.set_cons_succ]
                      refine wpAnyH_ready (rs := [12]) (by kernel_rfl) (by simp) ?_
                      refine RdyH.cons rfl (fun K2 hK => ?_) RdyH.nil
                      obtain ⟨wd2, hwd⟩ : ∃ x, x = wd1.alloc (.cells #[.int .i64 0, .int .i64 0, .int .i64 0, .int .i64 0, .int .i64 0, .int .i64 0, .int .i64 0, .int .i64 0] 94) := ⟨_, rfl⟩
                      have hb : Below wd1.heap.size wd1 wd2 := by rw [hwd]; exact below_alloc _ _
                      obtain ⟨bt, hbt⟩ : ∃ x, x = wd1.heap.size := ⟨_, rfl⟩
                      have HT := Lib.hid (show wd2.heap[bt]? = some (.cells #[.int .i64 0, .int .i64 0, .int .i64 0, .int .i64 0, .int .i64 0, .int .i64 0, .int .i64 0, .int .i64 0] 94 (0, 0)) from by rw [hwd, hbt]; exact heap_alloc_new _ _)
                      have Hbt := Lib.hid (show wz.heap.size ≤ bt from by rw [hbt]; exact HW1.out.size)
                      have Hbtv := Lib.hid (show bv ≠ bt ∧ bA ≠ bt ∧ b5 ≠ bt from ⟨by rw [hbt]; exact Nat.ne_of_lt (Array.getElem?_eq_some_iff.1 HS1.out.1).1, by rw [hbt]; exact Nat.ne_of_lt (Array.getElem?_eq_some_iff.1 HS1.out.2.1).1, by rw [hbt]; exact Nat.ne_of_lt (cell_lt HS1.out.2.2)⟩)
                      have HS2 := Lib.hid (show wd2.heap[bv]? = some (.cells #[.int .i64 x0, .int .i64 x1, .int .i64 x2, .int .i64 x3, .int .i64 x4, .int .i64 x5, .int .i64 x6, .int .i64 x7] 94 (0, 0)) ∧ wd2.heap[bA]? = some (.cells #[.int .i64 r, .slice ua un uc] 80 (0, 0)) ∧ wd2.cell? ⟨b5, off5, none⟩ = some (.int .i64 r') from ⟨blk_keep2 HS1.out.1 hb, blk_keep2 HS1.out.2.1 hb, Below.keep hb HS1.out.2.2⟩)
                      have HW2 := Lib.hid (Below.tr HW1.out hb)
                      go_simp
                      rw [← hwd, ← hbt]
                      clear hb hwd hbt
                      refine hK _ _ HS2.out ?_
                      clear hK K2
                      refine wpAnyH_ready (rs := [13]) (by kernel_rfl) (by simp) ?_
                      refine RdyH.cons rfl (fun K2 hK => ?_) RdyH.nil
                      have HN := Lib.hid (setRow_heap wd2 bt _ xr _ _ HT.out)
                      have HWn := Lib.hid (below_setRow HW2.out Hbt.out xr)
                      have HSn := Lib.hid (show (wd2.setRow bt xr).heap[bv]? = some (.cells #[.int .i64 x0, .int .i64 x1, .int .i64 x2, .int .i64 x3, .int .i64 x4, .int .i64 x5, .int .i64 x6, .int .i64 x7] 94 (0, 0)) ∧ (wd2.setRow bt xr).heap[bA]? = some (.cells #[.int .i64 r, .slice ua un uc] 80 (0, 0)) ∧ (wd2.setRow bt xr).cell? ⟨b5, off5, none⟩ = some (.int .i64 r') from ⟨(setRow_other wd2 bt bv xr Hbtv.out.1).trans HS2.out.1, (setRow_other wd2 bt bA xr Hbtv.out.2.1).trans HS2.out.2.1, (cell_setRow_other wd2 bt xr ⟨b5, off5, none⟩ Hbtv.out.2.2).trans HS2.out.2.2⟩)
                      refine wp_store_row 94 (.tmp 17) (.tmp 61) rfl bt xr rfl rfl 94 _ HT.out (by rw [Hxr.out, vrow_size, HX.out.1]; kernel_rfl) (by rw [Hxr.out, vrow_size, HX.out.1]; rfl) (by rw [Hxr.out]; exact vrow_one X) ?_
                      refine hK _ _ HSn.out ?_
                      clear hK K2
                      refine wpAnyH_take (i := 14) (v := ?_) rfl (by kernel_rfl) (by kernel_rfl) (by kernel_rfl) (fun _ _ _ h => h) (Or.inl ⟨by rfl, ?_⟩) HSn.out ?_
                      rotate_left
                      focus (intro w hS; clear hS; first | (go_simp; done) | (go_simp; with_reducible rfl))
                      simp only [Act.put, List.getElem_toArray, List.getElem_cons_zero, List.getElem_cons_succ, List.setIfInBounds_toArray, List.set_cons_zero, List.set_cons_succ]
                      refine wpAnyH_done (by kernel_rfl) ?_ _
                      go_wp2_with fail
                      go_meet
                      refine ⟨bt, B, X, ⟨rfl, rfl⟩, ?_, HX.out, HWn.out⟩
                      rw [← Hxr.out]; exact HN.out
                    · refine RdyH.cons rfl (fun K2 hK => ?_) RdyH.nil
                      obtain ⟨wd1, hwd⟩ : ∃ x, x = wd0.alloc (.cells #[.int .i64 0, .int .i64 0, .int .i64 0, .int .i64 0, .int .i64 0, .int .i64 0, .int .i64 0, .int .i64 0] 94) := ⟨_, rfl⟩
                      have hb : Below wd0.heap.size wd0 wd1 := by rw [hwd]; exact below_alloc _ _
                      obtain ⟨bt, hbt⟩ : ∃ x, x = wd0.heap.size := ⟨_, rfl⟩
                      have HT := Lib.hid (show wd1.heap[bt]? = some (.cells #[.int .i64 0, .int .i64 0, .int .i64 0, .int .i64 0, .int .i64 0, .int .i64 0, .int .i64 0, .int .i64 0] 94 (0, 0)) from by rw [hwd, hbt]; exact heap_alloc_new _ _)
                      have Hbt := Lib.hid (show wz.heap.size ≤ bt from by rw [hbt]; exact HW0.out.size)
                      have Hbtv := Lib.hid (show bv ≠ bt ∧ bA ≠ bt ∧ b5 ≠ bt from ⟨by rw [hbt]; exact Nat.ne_of_lt (Array.getElem?_eq_some_iff.1 HS0.out.1).1, by rw [hbt]; exact Nat.ne_of_lt (Array.getElem?_eq_some_iff.1 HS0.out.2.1).1, by rw [hbt]; exact Nat.ne_of_lt (cell_lt HS0.out.2.2)⟩)
                      have HS1 := Lib.hid (show wd1.heap[bv]? = some (.cells #[.int .i64 x0, .int .i64 x1, .int .i64 x2, .int .i64 x3, .int .i64 x4, .int .i64 x5, .int .i64 x6, .int .i64 x7] 94 (0, 0)) ∧ wd1.heap[bA]? = some (.cells #[.int .i64 r, .slice ua un uc] 80 (0, 0)) ∧ wd1.cell? ⟨b5, off5, none⟩ = some (.int .i64 r') from ⟨blk_keep2 HS0.out.1 hb, blk_keep2 HS0.out.2.1 hb, Below.keep hb HS0.out.2.2⟩)
                      have HW1 := Lib.hid (Below.tr HW0.out hb)
                      go_simp
                      rw [← hwd, ← hbt]
                      clear hb hwd hbt
                      refine hK _ _ HS1.out ?_
                      clear hK K2
                      refine wpAnyH_ready (rs := [8]) (by kernel_rfl) (by simp) ?_
                      refine RdyH.cons rfl (fun K2 hK => ?_) RdyH.nil
                      go_simp
                      go_at_call 108
                      refine (fitR_any [x0, x1, x2, x3, x4, x5, x6, x7] rfl r A HAr.out _ r' A' _ _ (Haz.out.keep HW1.out) (HTz.out.keep HW1.out)).mono ?_
                      rintro e wd2 ⟨⟨X, B, rfl, hX⟩, hb⟩
                      have HX := Lib.hid hX
                      obtain ⟨xr, hxr⟩ : ∃ x, x = vrow X := ⟨_, rfl⟩
                      have Hxr := Lib.hid hxr
                      rw [← hxr]
                      have HS2 := Lib.hid (show wd2.heap[bv]? = some (.cells #[.int .i64 x0, .int .i64 x1, .int .i64 x2, .int .i64 x3, .int .i64 x4, .int .i64 x5, .int .i64 x6, .int .i64 x7] 94 (0, 0)) ∧ wd2.heap[bA]? = some (.cells #[.int .i64 r, .slice ua un uc] 80 (0, 0)) ∧ wd2.cell? ⟨b5, off5, none⟩ = some (.int .i64 r') from ⟨blk_keep2 HS1.out.1 hb, blk_keep2 HS1.out.2.1 hb, Below.keep hb HS1.out.2.2⟩)
                      have HW2 := Lib.hid (Below.tr HW1.out hb)
                      have HT := Lib.hid (blk_keep2 HT.out hb)
                      clear hb hX hxr
                      go_simp
                      refine hK _ _ HS2.out ?_
                      clear hK K2
                      refine wpAnyH_take (i := 9) (v := ?_) rfl (by kernel_rfl) (by kernel_rfl) (by kernel_rfl) (fun _ _ _ h => h) (Or.inl ⟨by rfl, ?_⟩) HS2.out ?_
                      rotate_left
                      focus (intro w hS; clear hS; first | (go_simp; done) | (go_simp; with_reducible rfl))
                      simp only [Act.put, List.getElem_toArray, List.getElem_cons_zero, List.getElem_cons_succ, List.setIfInBounds_toArray, List.set_cons_zero, List.set_cons_succ]
                      refine wpAnyH_take (i := 10) (v := ?_) rfl (by kernel_rfl) (by kernel_rfl) (by kernel_rfl) (fun _ _ _ h => h) (Or.inl ⟨by rfl, ?_⟩) HS2.out ?_
                      rotate_left
                      focus (intro w hS; clear hS; first | (go_simp; done) | (go_simp; with_reducible rfl))
                      simp only [Act.put, List.getElem_toArray, List.getElem_cons_zero, List.getElem_cons_succ, List.setIfInBounds_toArray, List.set_cons_zero, List.set_cons_succ]
                      refine wpAnyH_take (i := 11) (v := ?_) rfl (by kernel_rfl) (by kernel_rfl) (by kernel_rfl) (fun _ _ _ h => h) (Or.inl ⟨by rfl, ?_⟩) HS2.out ?_
                      rotate_left
                      focus (intro w hS; clear hS; first | (go_simp; done) | (go_simp; with_reducible rfl))
                      simp only [Act.put, List.getElem_toArray, List.getElem_cons_zero, List.getElem_cons_succ, List.setIfInBounds_toArray, List.set_cons_zero, List.set_cons_succ]
                      refine wpAnyH_ready (rs := [13]) (by kernel_rfl) (by simp) ?_
                      refine RdyH.cons rfl (fun K2 hK => ?_) RdyH.nil
                      have HN := Lib.hid (setRow_heap wd2 bt _ xr _ _ HT.out)
                      have HWn := Lib.hid (below_setRow HW2.out Hbt.out xr)
                      have HSn := Lib.hid (show (wd2.setRow bt xr).heap[bv]? = some (.cells #[.int .i64 x0, .int .i64 x1, .int .i64 x2, .int .i64 x3, .int .i64 x4, .int .i64 x5, .int .i64 x6, .int .i64 x7] 94 (0, 0)) ∧ (wd2.setRow bt xr).heap[bA]? = some (.cells #[.int .i64 r, .slice ua un uc] 80 (0, 0)) ∧ (wd2.setRow bt xr).cell? ⟨b5, off5, none⟩ = some (.int .i64 r') from ⟨(setRow_other wd2 bt bv xr Hbtv.out.1).trans HS2.out.1, (setRow_other wd2 bt bA xr Hbtv.out.2.1).trans HS2.out.2.1, (cell_setRow_other wd2 bt xr ⟨b5, off5, none⟩ Hbtv.out.2.2).trans HS2.out.2.2⟩)
                      refine wp_store_row 94 (.tmp 17) (.tmp 61) rfl bt xr rfl rfl 94 _ HT.out (by rw [Hxr.out, vrow_size, HX.out.1]; kernel_rfl) (by rw [Hxr.out, vrow_size, HX.out.1]; rfl) (by rw [Hxr.out]; exact vrow_one X) ?_
                      refine hK _ _ HSn.out ?_
                      clear hK K2
                      refine wpAnyH_take (i := 14) (v := ?_) rfl (by kernel_rfl) (by kernel_rfl) (by kernel_rfl) (fun _ _ _ h => h) (Or.inl ⟨by rfl, ?_⟩) HSn.out ?_
                      rotate_left
                      focus (intro w hS; clear hS; first | (go_simp; done) | (go_simp; with_reducible rfl))
                      simp only [Act.put, List.getElem_toArray, List.getElem_cons_zero, List.getElem_cons_succ, List.setIfInBounds_toArray, List.set_cons_zero, List.set_cons_succ]
                      refine wpAnyH_done (by kernel_rfl) ?_ _
                      go_wp2_with fail
                      go_meet
                      refine ⟨bt, B, X, ⟨rfl, rfl⟩, ?_, HX.out, HWn.out⟩
                      rw [← Hxr.out]; exact HN.out
                  case rest =>
                    obtain ⟨bt, B, X, ⟨rfl, rfl⟩, hT, hX, hb⟩ := hcut
                    generalize wc = w5 at *
                    rw [← Hx.out] at hX
                    have hown := owns_keep HOz.out hb
                    have Hz5 := Lib.hid (Below.tr Hz.out hb)
                    have HV5 := Lib.hid (blk_keep2 HVz.out hb)
                    have HTb := Lib.hid hT
                    have HO5 := Lib.hid hown
                    clear hT hb hown HOz HVz HTz HAz Haz
                    obtain ⟨hX8, ⟨rfl, hX⟩ | ⟨rfl, hX⟩⟩ := hX
                    · have HJ := Lib.hid (stJ_yes (N := N) (m := m) (by rw [HFl.out]; exact hlj) (show extA v (r, A) (F.getD j (0, [])) = some X from by rw [HFj.out]; exact hX))
                      obtain ⟨y0, y1, y2, y3, y4, y5, y6, y7, hX'⟩ := eq8 hX8
                      have HXe := Lib.hid hX'
                      have hTb : w5.heap[bt]? = some (.cells #[.int .i64 y0, .int .i64 y1, .int .i64 y2, .int .i64 y3, .int .i64 y4, .int .i64 y5, .int .i64 y6, .int .i64 y7] 94 (0, 0)) := by have := HTb.out; rw [hX'] at this; exact this
                      clear hX hX8 hX'
                      have t0 := aCell hTb 0 rfl
                      have t1 := aCell hTb 1 rfl
                      have t2 := aCell hTb 2 rfl
                      have t3 := aCell hTb 3 rfl
                      have t4 := aCell hTb 4 rfl
                      have t5 := aCell hTb 5 rfl
                      have t6 := aCell hTb 6 rfl
                      have t7 := aCell hTb 7 rfl
                      clear hTb
                      obtain ⟨w6, hw6⟩ : ∃ x, x = w5.alloc (.cells #[.int .i64 y0, .int .i64 y1, .int .i64 y2, .int .i64 y3, .int .i64 y4, .int .i64 y5, .int .i64 y6, .int .i64 y7] 94) := ⟨_, rfl⟩
                      have hb : Below w5.heap.size w5 w6 := by rw [hw6]; exact below_alloc _ _
                      obtain ⟨bl, hbl⟩ : ∃ x, x = w5.heap.size := ⟨_, rfl⟩
                      have HL := Lib.hid (show w6.heap[bl]? = some (.cells #[.int .i64 y0, .int .i64 y1, .int .i64 y2, .int .i64 y3, .int .i64 y4, .int .i64 y5, .int .i64 y6, .int .i64 y7] 94 (0, 0)) from by rw [hw6, hbl]; exact heap_alloc_new _ _)
                      have HO6 := Lib.hid (owns_keep HO5.out hb)
                      have Hz6 := Lib.hid (Below.tr Hz5.out hb)
                      have HV6 := Lib.hid (blk_keep2 HV5.out hb)
                      have Hw6 := Lib.hid hw6
                      have Hbl := Lib.hid hbl
                      clear hw6 hb hbl HO5 Hz5 HV5
                      have hT2 : (stJ F (r, A) N m v j).length ≤ 1000000 := by have := H2z.out; omega
                      go_wp2_with (first | (at_builtin; rw [← Hw6.out, ← Hbl.out]; refine append_at rfl (.tmp 64) (.tmp 66) 99 rfl elemV rfl HO6.out (news := [.int .i64 y0, .int .i64 y1, .int .i64 y2, .int .i64 y3, .int .i64 y4, .int .i64 y5, .int .i64 y6, .int .i64 y7]) rfl rfl (fun k y hk => aCell HL.out k (by simpa using hk)) (ints_oneCell [y0, y1, y2, y3, y4, y5, y6, y7]) hT2 Hz6.out.size ?_; intro v' w7 g1 g2 g3 g4))
                      have HO7 := Lib.hid (show w7.ownsRow wa.heap.size 94 8 v' (stJ F (r, A) N m v (j + 1)).length (cV (stJ F (r, A) N m v (j + 1))) from by
                        rw [HJ.out, cV_snoc, List.length_append, HXe.out]; exact g1)
                      have HV7 := Lib.hid ((g3.block bv (Array.getElem?_eq_some_iff.1 HV6.out).1 (fun e => Hnz.out _ e.symm rfl)).trans HV6.out)
                      have Hz7 := Lib.hid (Hz6.out.trans g2)
                      have Hn7 := Lib.hid (show ∀ g, v'.ownBlock = some g → g ≠ bv from fun g hg e => by
                        subst e
                        rcases g4 with g4 | g4
                        · exact Hnz.out _ (g4.symm.trans hg) rfl
                        · rw [g4] at hg
                          have := (Array.getElem?_eq_some_iff.1 HV6.out).1
                          injection hg with hg
                          omega)
                      have H27 := Lib.hid (show (stJ F (r, A) N m v (j + 1)).length ≤ 20000 + (j + 1) from by rw [HJ.out, List.length_append]; have := H2z.out; simp; omega)
                      clear g1 g2 g3 g4 t0 t1 t2 t3 t4 t5 t6 t7 hT2 HO6
                      obtain ⟨pa, pn, pk, rfl⟩ : ∃ a n k, v' = .slice a n k := by
                        obtain ⟨_, _, a, b, off, cap, e, _⟩ := owns_rd HO7.out
                        exact ⟨_, _, _, e⟩
                      go_wp2_with fail
                      go_roundw
                      case rel => exact ⟨j + 1, pa, pn, pk, rfl, by go_num, by omega, Hz7.out, HO7.out, H27.out, HV7.out, Hn7.out⟩
                      case measure => simp [intOf]; omega
                    · have HJ := Lib.hid (stJ_no (N := N) (m := m) (by rw [HFl.out]; exact hlj) (show extA v (r, A) (F.getD j (0, [])) = none from by rw [HFj.out]; exact hX))
                      have HO7 := Lib.hid (show w5.ownsRow wa.heap.size 94 8 (.slice ya yn yk) (stJ F (r, A) N m v (j + 1)).length (cV (stJ F (r, A) N m v (j + 1))) from by rw [HJ.out]; exact HO5.out)
                      have H27 := Lib.hid (show (stJ F (r, A) N m v (j + 1)).length ≤ 20000 + (j + 1) from by rw [HJ.out]; have := H2z.out; omega)
                      clear hX hX8 HO5
                      go_wp2_with fail
                      go_roundw
                      case rel => exact ⟨j + 1, ya, yn, yk, rfl, by go_num, by omega, Hz5.out, HO7.out, H27.out, HV5.out, Hnz.out⟩
                      case measure => simp [intOf]; omega
                · obtain rfl : j = K.length := by omega
                  have HE := Lib.hid (show stJ F (r, A) N m v K.length = stM F (r, A) N (m + 1) from by rw [← HFl.out]; exact HJa.out)
                  have HO8 := Lib.hid (show wz.ownsRow wa.heap.size 94 8 (.slice ya yn yk) (stM F (r, A) N (m + 1)).length (cV (stM F (r, A) N (m + 1))) from by rw [← HE.out]; exact HOz.out)
                  obtain ⟨T, hT⟩ : ∃ x, x = stM F (r, A) N (m + 1) := ⟨_, rfl⟩
                  have HTe := Lib.hid hT
                  rw [← hT] at HO8
                  clear hT HOz H2z HVz Hnz
                  obtain ⟨rfl, HR8⟩ : yn = T.length ∧ True := by
                    obtain ⟨_, _, a, b, off, cap, e, _⟩ := owns_rd HO8.out
                    injection e with _ e _
                    exact ⟨e, trivial⟩
                  by_cases hbig : 20000 < T.length
                  · have hgt : (T.length : Int) > 20000 := by omega
                    have HBg := Lib.hid (show MatRE q l wz (.returned (.tuple #[.slice none 0 0, .int .i64 3])) from .inl ⟨⟨i + 1, by omega, by rw [← Hn1.out]; omega, (HmB.out (i + 1) (by rw [← Hn1.out]; omega)).2 (by
                      rw [HmS.out]
                      have := (stM_sub (F := F) (a := (r, A)) (N := N) (m := m + 1)).length_le
                      rw [← HTe.out] at this
                      omega)⟩, rfl⟩)
                    have Hw := Lib.hid (Below.tr HK.out.b (Below.tr Hb.out Hz.out))
                    go_wp2_with fail
                    go_ret2
                    exact ⟨HBg.out, Hw.out⟩
                  · have hgt : ¬ (T.length : Int) > 20000 := by omega
                    go_wp2_with fail
                    go_roundw
                    case rel => exact ⟨m + 1, ya, T.length, yk, rfl, by go_num, by omega, Hz.out, by rw [← HTe.out]; exact HO8.out, by rw [← HTe.out]; omega⟩
                    case measure => simp [intOf]; omega
            · obtain rfl : m = N.length := by omega
              have HE := Lib.hid (show stM F (r, A) N N.length = mL F q.2 (i + 1) from by rw [stM_all, HmS.out])
              have HV9 := Lib.hid (show VR wy (.slice xa xn xk) (mL F q.2 (i + 1)) from by rw [← HE.out]; exact owns_rd HO.out)
              have HB9 := Lib.hid (show ∀ j, 0 < j → j ≤ i + 1 → ¬ BigAt l q.2 j from fun j h1 h2 h3 => by
                rcases Nat.lt_or_ge i j with h | h
                · obtain rfl : j = i + 1 := by omega
                  have h4 := (HmB.out (i + 1) (by rw [← Hn1.out]; omega)).1 h3
                  have h5 := H2.out
                  rw [HE.out] at h5
                  omega
                · exact HB.out j h1 h h3)
              have Hb9 := Lib.hid (Below.tr Hb.out Hy.out)
              go_wp2_with fail
              go_roundw
              case rel => exact ⟨i + 1, xa, xn, xk, rfl, by go_num, by omega, Hb9.out, HV9.out, HB9.out⟩
              case measure => simp [intOf]; omega
        · obtain rfl : i = n1 := by omega
          have HE := Lib.hid (show MatRE q l wx (.returned (.tuple #[.slice na nn nk, .int .i64 0])) from .inr ⟨fun ⟨j, h1, h2, h3⟩ => HB.out j h1 (by rw [Hn1.out]; exact h2) h3, na, nn, nk, _, rfl, HV.out, nodup_mL (OkB.ok ⟨HOk.out.b, fun f hf => HOk.out.f f ((HF1.out f).1 hf)⟩) HF2.out i (by rw [← Hn1.out]; exact Nat.le_refl _), fun v => by
            rw [HmM.out v i (by rw [← Hn1.out]; exact Nat.le_refl _), Hn1.out, List.take_length]
            exact maP_same HF1.out v⟩)
          have Hw := Lib.hid (Below.tr HK.out.b Hb.out)
          go_wp2_with fail
          go_ret2
          exact ⟨HE.out, Hw.out⟩
#print axioms matchesR_any
/-- what the reference's matches returns, in one shape -/
def MatU (q : HQ) (l : List HAt) (w : World) (u : Value) (n : Nat) (N : List (List Int)) (c : Int) : Prop :=
  VR w u N ∧ n = N.length ∧ N.length ≤ 20000 ∧ (∀ v, v ∈ N → v.length = 8) ∧ ((Big l q.2 ∧ N = [] ∧ c = 3) ∨ (¬ Big l q.2 ∧ c = 0 ∧ N.Nodup ∧ ∀ v, v ∈ N ↔ MaP l q.2 v))
theorem MatU.keep {q : HQ} {l : List HAt} {w w' : World} {u : Value} {n : Nat} {N : List (List Int)} {c : Int} (h : MatU q l w u n N c) (hb : Below w.heap.size w w') : MatU q l w' u n N c := ⟨h.1.keep hb, h.2⟩
theorem matchesU_any (q : HQ) (l : List HAt) (hq : QrV q) (hl : FsV l) (v u : Value) (w : World) (hv : Qr w v q) (hu : Atoms w u l) :
    Calls Try.prog 70 #[v, u] w fun e w' => ∃ a n k N c, e = .returned (.tuple #[.slice a n k, .int .i64 c]) ∧ MatU q l w' (.slice a n k) n N c ∧ Below w.heap.size w w' :=
  (matchesR_any q l hq hl v u w hv hu).mono fun e w' ⟨h, hb⟩ => by
    rcases h with ⟨h1, h2⟩ | ⟨h1, a, n, k, N, h2, h3, h4, h5⟩
    · exact ⟨none, 0, 0, [], 3, h2, ⟨⟨rfl, Nat.zero_le _, none, 0, 0, 0, rfl, ⟨fun h => by simp at h, by simp⟩, fun j hj => by simp [cV] at hj⟩, rfl, Nat.zero_le _, fun v hv => (by cases hv), .inl ⟨h1, rfl, rfl⟩⟩, hb⟩
    · have e : n = N.length := by
        obtain ⟨_, _, _, _, _, _, e, _⟩ := h3
        injection e with _ e _
      exact ⟨a, n, k, N, 0, h2, ⟨h3, e, count_le hq.1.1 h1 h4 h5, fun v hv => ((h5 v).1 hv).len, .inr ⟨h1, rfl, h4, h5⟩⟩, hb⟩
set_option maxRecDepth 100000 in
set_option maxHeartbeats 4000000 in
theorem countR_any {q : HQ} {l : List HAt} (v u : Value) (w : World) (hv : Qr w v q) (hu : Atoms w u l) :
    Calls Try.prog 24 #[v, u] w fun e w' => ∃ n c, e = .returned (.tuple #[.int .i64 n, .int .i64 c]) ∧ CntC q l n c ∧ Below w.heap.size w w' := by
  obtain ⟨h0, b0, rfl, hh, hb⟩ := hv
  have Hq := Lib.hid (show Qr w (.agg #[h0, b0]) q from ⟨_, _, rfl, hh, hb⟩)
  have Hu := Lib.hid hu
  obtain ⟨w1, hw1⟩ : ∃ x, x = w.alloc (.cells #[h0, b0] 25) := ⟨_, rfl⟩
  have hb1 : Below w.heap.size w w1 := by rw [hw1]; exact below_alloc _ _
  obtain ⟨bq, hbq⟩ : ∃ x, x = w.heap.size := ⟨_, rfl⟩
  have HB1 := Lib.hid (show Bx w1 bq h0 b0 from by rw [hw1, hbq]; exact heap_alloc_new _ _)
  have Hb1 := Lib.hid hb1
  have Hw1 := Lib.hid hw1
  have Hbq := Lib.hid hbq
  clear hh hb hu hw1 hb1 hbq
  go_enter Try.func24, Try.ntmps24
  go_upto_region 1 with fail
  rw [← Hw1.out, ← Hbq.out]
  clear Hw1 Hbq
  have g0 := aCell HB1.out 0 rfl
  have g1 := aCell HB1.out 1 rfl
  by_cases hq : QrV q
  · have HV := Lib.hid (validQR_any q _ w1 (Hq.out.keep Hb1.out) true (decide_eq_true hq))
    go_wp2_with fail
    refine HV.out.mono ?_
    rintro e w2 ⟨rfl, hb⟩
    have HB2 := Lib.hid (HB1.out.keep hb)
    have Hb2 := Lib.hid (Below.tr Hb1.out hb)
    clear hb g0 g1 HV HB1 Hb1
    have g0 := aCell HB2.out 0 rfl
    have g1 := aCell HB2.out 1 rfl
    by_cases hl : FsV l
    · have HF := Lib.hid (factsR_any l _ w2 (Hu.out.keep Hb2.out) true (decide_eq_true hl))
      go_wp2_with fail
      refine HF.out.mono ?_
      rintro e w3 ⟨rfl, hb⟩
      have HB3 := Lib.hid (HB2.out.keep hb)
      have Hb3 := Lib.hid (Below.tr Hb2.out hb)
      clear hb g0 g1 HF HB2 Hb2
      have g0 := aCell HB3.out 0 rfl
      have g1 := aCell HB3.out 1 rfl
      have HM := Lib.hid (matchesU_any q l hq hl _ _ w3 (Hq.out.keep Hb3.out) (Hu.out.keep Hb3.out))
      go_wp2_with fail
      refine HM.out.mono ?_
      rintro e w4 ⟨a, n, k, N, c, rfl, hU, hb⟩
      have Hb4 := Lib.hid (Below.tr Hb3.out hb)
      have HC := Lib.hid (show CntC q l n c from by
        obtain ⟨_, e, _, _, ⟨k1, k2, k3⟩ | ⟨k1, k2, k3, k4⟩⟩ := hU
        · exact .inr (.inl ⟨hq, hl, k1, by rw [e, k2]; rfl, k3⟩)
        · exact .inr (.inr ⟨hq, hl, k1, k2, N, k3, k4, by rw [e]⟩))
      clear hU hb g0 g1
      go_wp2_with fail
      go_ret2
      exact ⟨n, c, rfl, HC.out, Hb4.out⟩
    · have HF := Lib.hid (factsR_any l _ w2 (Hu.out.keep Hb2.out) false (decide_eq_false hl))
      have HC := Lib.hid (show CntC q l 0 2 from .inl ⟨fun h => hl h.2, rfl, rfl⟩)
      go_wp2_with fail
      refine HF.out.mono ?_
      rintro e w3 ⟨rfl, hb⟩
      have Hb3 := Lib.hid (Below.tr Hb2.out hb)
      clear hb g0 g1
      go_wp2_with fail
      go_ret2
      exact ⟨0, 2, rfl, HC.out, Hb3.out⟩
  · have HV := Lib.hid (validQR_any q _ w1 (Hq.out.keep Hb1.out) false (decide_eq_false hq))
    have HC := Lib.hid (show CntC q l 0 2 from .inl ⟨fun h => hq h.1, rfl, rfl⟩)
    go_wp2_with fail
    refine HV.out.mono ?_
    rintro e w2 ⟨rfl, hb⟩
    have Hb2 := Lib.hid (Below.tr Hb1.out hb)
    clear hb g0 g1
    go_wp2_with fail
    go_ret2
    exact ⟨0, 2, rfl, HC.out, Hb2.out⟩
#print axioms countR_any
/-- what the reference's Results returns -/
def ResRR (q : HQ) (l : List HAt) (w : World) (u : Value) (c : Int) : Prop :=
  (¬ (QrV q ∧ FsV l) ∧ u = .slice none 0 0 ∧ c = 2) ∨ (QrV q ∧ FsV l ∧ Big l q.2 ∧ c = 3 ∧ Rows w u []) ∨ (QrV q ∧ FsV l ∧ ¬ Big l q.2 ∧ c = 0 ∧ ∃ R, Rows w u R ∧ IsRes q l R)
/-- the rows of the first matches -/
def RowS (hd : List Int) (N : List (List Int)) (m : Nat) (R : List (List Int)) : Prop := Strict R ∧ ∀ z, z ∈ R ↔ ∃ i, i < m ∧ z = hdR hd (N.getD i [])
theorem rowS_len {hd : List Int} {N : List (List Int)} {m : Nat} {R : List (List Int)} (h : RowS hd N m R) : R.length ≤ m := by
  have := len_le (l := R) (m := (List.range m).map fun i => hdR hd (N.getD i [])) (strict_nodup h.1) fun z hz => by
    obtain ⟨j, hj, rfl⟩ := (h.2 z).1 hz
    exact List.mem_map.2 ⟨j, List.mem_range.2 hj, rfl⟩
  simpa using this
theorem rowS_step {hd : List Int} {N : List (List Int)} {m : Nat} {R S : List (List Int)} (h : RowS hd N m R) (hS : PutR R (hdR hd (N.getD m [])) S) : RowS hd N (m + 1) S := ⟨hS.1, fun z => by
  rw [hS.2, h.2]
  constructor
  · rintro (⟨j, hj, e⟩ | e)
    · exact ⟨j, by omega, e⟩
    · exact ⟨m, by omega, e⟩
  · rintro ⟨j, hj, e⟩
    rcases Nat.lt_or_ge j m with c | c
    · exact .inl ⟨j, c, e⟩
    · rw [show j = m by omega] at e; exact .inr e⟩
set_option maxRecDepth 100000 in
set_option maxHeartbeats 8000000 in
theorem resultsR_any {q : HQ} {l : List HAt} (v u : Value) (w : World) (hv : Qr w v q) (hu : Atoms w u l) :
    Calls Try.prog 22 #[v, u] w fun e w' => ∃ a n k c, e = .returned (.tuple #[.slice a n k, .int .i64 c]) ∧ ResRR q l w' (.slice a n k) c ∧ Below w.heap.size w w' := by
  obtain ⟨h0, b0, rfl, hh, hb⟩ := hv
  have Hq := Lib.hid (show Qr w (.agg #[h0, b0]) q from ⟨_, _, rfl, hh, hb⟩)
  have Hu := Lib.hid hu
  obtain ⟨a3, b3, off3, cap3, rfl, _, hia3, hc3⟩ := Ints.get hh
  obtain ⟨n0, hn0⟩ : ∃ x, x = q.1.length := ⟨_, rfl⟩
  have Hn0 := Lib.hid hn0
  have gd : ∀ (l : List Int) (i : Nat) (hi : i < l.length), l[i] = l.getD i 0 := fun l i hi => by rw [List.getD_eq_getElem?_getD, List.getElem?_eq_getElem hi]; rfl
  have Hc3 := Lib.hid (show ∀ i, i < n0 → w.cell? ⟨b3, off3 + i, none⟩ = some (.int .i64 (q.1.getD i 0)) from fun i hi => by rw [hc3 i (by omega), gd])
  rw [← hn0] at hia3 Hq ⊢
  have Hix3 := Lib.hid (run_ix (P := Try.prog) (t := 22) (a := a3) (len := n0) (cap := cap3) (b := b3) (off := off3) (s := 1) Try.underlying22 (by intro w; kernel_rfl) hia3)
  simp only [Nat.mul_one] at Hix3
  obtain ⟨w1, hw1⟩ : ∃ x, x = w.alloc (.cells #[.slice a3 n0 cap3, b0] 25) := ⟨_, rfl⟩
  have hb1 : Below w.heap.size w w1 := by rw [hw1]; exact below_alloc _ _
  obtain ⟨bq, hbq⟩ : ∃ x, x = w.heap.size := ⟨_, rfl⟩
  have HB1 := Lib.hid (show Bx w1 bq (.slice a3 n0 cap3) b0 from by rw [hw1, hbq]; exact heap_alloc_new _ _)
  have Hb1 := Lib.hid hb1
  have Hw1 := Lib.hid hw1
  have Hbq := Lib.hid hbq
  clear hh hb hu hw1 hb1 hbq hia3 hc3 gd hn0
  go_enter Try.func22, Try.ntmps22
  go_upto_region 1 with fail
  rw [← Hw1.out, ← Hbq.out]
  clear Hw1 Hbq
  have g0 := aCell HB1.out 0 rfl
  have g1 := aCell HB1.out 1 rfl
  by_cases hq : QrV q
  · have HV := Lib.hid (validQR_any q _ w1 (Hq.out.keep Hb1.out) true (decide_eq_true hq))
    go_wp2_with fail
    refine HV.out.mono ?_
    rintro e w2 ⟨rfl, hb⟩
    have HB2 := Lib.hid (HB1.out.keep hb)
    have Hb2 := Lib.hid (Below.tr Hb1.out hb)
    clear hb g0 g1 HV HB1 Hb1
    have g0 := aCell HB2.out 0 rfl
    have g1 := aCell HB2.out 1 rfl
    by_cases hl : FsV l
    · have HF := Lib.hid (factsR_any l _ w2 (Hu.out.keep Hb2.out) true (decide_eq_true hl))
      go_wp2_with fail
      refine HF.out.mono ?_
      rintro e w3 ⟨rfl, hb⟩
      have HB3 := Lib.hid (HB2.out.keep hb)
      have Hb3 := Lib.hid (Below.tr Hb2.out hb)
      clear hb g0 g1 HF HB2 Hb2
      have g0 := aCell HB3.out 0 rfl
      have g1 := aCell HB3.out 1 rfl
      have HM := Lib.hid (matchesU_any q l hq hl _ _ w3 (Hq.out.keep Hb3.out) (Hu.out.keep Hb3.out))
      go_wp2_with fail
      refine HM.out.mono ?_
      rintro e w4 ⟨na, nn, nk, N, c, rfl, ⟨hV, hnn, hN2, hN8, hcs⟩, hb⟩
      subst hnn
      have HB4 := Lib.hid (HB3.out.keep hb)
      have Hb4 := Lib.hid (Below.tr Hb3.out hb)
      have HN8 := Lib.hid hN8
      have Hcs := Lib.hid hcs
      have HV4 := Lib.hid hV
      have Hqv := Lib.hid hq
      have Hlv := Lib.hid hl
      obtain ⟨_, _, a2, b2, off2, cap2, e2, hia2, hc2⟩ := hV
      injection e2 with e1 e2 e3
      subst e1 e3
      have Hix2 := Lib.hid (run_ix (P := Try.prog) (t := 99) (a := na) (len := N.length) (cap := nk) (b := b2) (off := off2) (s := 8) Try.underlying99 (by intro w; kernel_rfl) hia2.1)
      have Hcv := Lib.hid (show ∀ m, m < N.length → ∀ j, j < 8 → w4.cell? ⟨b2, off2 + m * 8 + j, none⟩ = some (.int .i64 ((N.getD m []).getD j 0)) from fun m hm j hj => by
        have hlen : m * 8 + j < (cV N).length := by rw [cV_len hN8]; omega
        rw [Nat.add_assoc, hc2 _ hlen]
        have h1 := cV_at hN8 hm hj
        rwa [List.getElem?_eq_getElem hlen] at h1)
      have HH := Lib.hid (show ∀ k, k < n0 → 0 ≤ q.1.getD k 0 ∧ q.1.getD k 0 < 8 from fun k hk => (hq.2.2 _ (by rw [List.getD_eq_getElem?_getD, List.getElem?_eq_getElem (by rw [← Hn0.out]; exact hk)]; exact List.getElem_mem _)).1)
      have hn4 : n0 ≤ 4 := by rw [Hn0.out]; exact hq.1.2.2
      clear hb g0 g1 HB3 Hb3 HM hcs hN8 hia2 hc2 e2 hq hl
      go_wp2_with fail
      go_loopw [8, 30] (fun vo vi wr => ∃ (m : Nat) (oa : Option Addr) (on ok : Nat) (R : List (List Int)), vo = .slice oa on ok ∧ vi = .int .i64 m ∧ m ≤ N.length ∧ Below w4.heap.size w4 wr ∧ Rows wr (.slice oa on ok) R ∧ RowS q.1 N m R) (fun _ vi _ => N.length - (intOf vi).toNat)
      case atStart => exact ⟨0, none, 0, 0, [], rfl, rfl, Nat.zero_le _, Below.refl _ _, (ownRows_nil 0 _).rows, List.Pairwise.nil, fun z => ⟨fun h => (by cases h), fun ⟨j, h, _⟩ => (by omega)⟩⟩
      case round =>
        generalize wr = wx at *
        obtain ⟨m, oa, on, ok, R, rfl, rfl, hm, hb, hR, hS⟩ := hrel
        have Hb := Lib.hid hb
        have HR := Lib.hid hR
        have HS := Lib.hid hS
        clear hb hR hS
        by_cases hlm : m < N.length
        · have h8 : (N.getD m []).length = 8 := HN8.out _ (by rw [List.getD_eq_getElem?_getD, List.getElem?_eq_getElem hlm]; exact List.getElem_mem hlm)
          have hixm := Hix2.out m
          have hcv := fun j hj => Below.keep Hb.out (Hcv.out m hlm j hj)
          have HSt := Lib.hid (fun S (h : PutR R (hdR q.1 (N.getD m [])) S) => rowS_step HS.out h)
          obtain ⟨v, hv⟩ : ∃ x, x = N.getD m [] := ⟨_, rfl⟩
          rw [← hv] at h8 hcv HSt
          obtain ⟨x0, x1, x2, x3, x4, x5, x6, x7, hx⟩ := eq8 h8
          have Hx := Lib.hid hx
          have d0 : wx.cell? ⟨b2, off2 + m * 8, none⟩ = some (.int .i64 x0) := by have := hcv 0 (by omega); rw [hx] at this; exact this
          have d1 : wx.cell? ⟨b2, off2 + m * 8 + 1, none⟩ = some (.int .i64 x1) := by have := hcv 1 (by omega); rw [hx] at this; exact this
          have d2 : wx.cell? ⟨b2, off2 + m * 8 + 2, none⟩ = some (.int .i64 x2) := by have := hcv 2 (by omega); rw [hx] at this; exact this
          have d3 : wx.cell? ⟨b2, off2 + m * 8 + 3, none⟩ = some (.int .i64 x3) := by have := hcv 3 (by omega); rw [hx] at this; exact this
          have d4 : wx.cell? ⟨b2, off2 + m * 8 + 4, none⟩ = some (.int .i64 x4) := by have := hcv 4 (by omega); rw [hx] at this; exact this
          have d5 : wx.cell? ⟨b2, off2 + m * 8 + 5, none⟩ = some (.int .i64 x5) := by have := hcv 5 (by omega); rw [hx] at this; exact this
          have d6 : wx.cell? ⟨b2, off2 + m * 8 + 6, none⟩ = some (.int .i64 x6) := by have := hcv 6 (by omega); rw [hx] at this; exact this
          have d7 : wx.cell? ⟨b2, off2 + m * 8 + 7, none⟩ = some (.int .i64 x7) := by have := hcv 7 (by omega); rw [hx] at this; exact this
          obtain ⟨wv, hwv⟩ : ∃ x, x = wx.alloc (.cells #[.int .i64 x0, .int .i64 x1, .int .i64 x2, .int .i64 x3, .int .i64 x4, .int .i64 x5, .int .i64 x6, .int .i64 x7] 94) := ⟨_, rfl⟩
          have hbv : Below wx.heap.size wx wv := by rw [hwv]; exact below_alloc _ _
          obtain ⟨bv, hbv2⟩ : ∃ x, x = wx.heap.size := ⟨_, rfl⟩
          have HVb := Lib.hid (show wv.heap[bv]? = some (.cells (vrow v) 94 (0, 0)) from by rw [hwv, hbv2, hx]; exact heap_alloc_new _ _)
          have Hb5 := Lib.hid (Below.tr Hb.out hbv)
          have HR5 := Lib.hid (HR.out.keep hbv)
          have Hwv := Lib.hid hwv
          have Hbv := Lib.hid hbv2
          have Hv8 := Lib.hid h8
          clear hcv hv hx hwv hbv hbv2 h8 HR Hb
          go_upto_region 8 with fail
          rw [← Hwv.out, ← Hbv.out]
          clear Hwv Hbv d0 d1 d2 d3 d4 d5 d6 d7 hixm
          have g0 := aCell (Bx.keep HB4.out Hb5.out) 0 rfl
          go_wp2_with fail
          clear g0
          go_loopw [11, 37] (fun vx vi wz => ∃ (j : Nat) (ya : Option Addr) (yn yk : Nat), vx = .slice ya yn yk ∧ vi = .int .i64 j ∧ j ≤ n0 ∧ Below wv.heap.size wv wz ∧ OwnInts wv.heap.size wz (.slice ya yn yk) ((q.1.take j).map fun t => v.getD t.toNat 0)) (fun _ vi _ => n0 - (intOf vi).toNat)
          case atStart => exact ⟨0, none, 0, 0, rfl, rfl, Nat.zero_le _, Below.refl _ _, ownInts_nil _ _⟩
          case round =>
            generalize wr = wz at *
            obtain ⟨j, ya, yn, yk, rfl, rfl, hj, hb, ho⟩ := hrel
            have Hz := Lib.hid hb
            have HO := Lib.hid ho
            clear hb ho
            by_cases hlj : j < n0
            · have hc1 := Below.keep Hz.out (Below.keep Hb5.out (Below.keep Hb4.out (Hc3.out j hlj)))
              have hixj := Hix3.out j
              have hv := HH.out j hlj
              have HT := Lib.hid (show (q.1.take (j + 1)).map (fun t => v.getD t.toNat 0) = (q.1.take j).map (fun t => v.getD t.toNat 0) ++ [v.getD (q.1.getD j 0).toNat 0] from by
                have hlj' : j < q.1.length := by rw [← Hn0.out]; exact hlj
                have e : q.1.getD j 0 = q.1[j] := by rw [List.getD_eq_getElem?_getD, List.getElem?_eq_getElem hlj']; rfl
                rw [List.take_succ_eq_append_getElem hlj', List.map_append, e]; rfl)
              obtain ⟨t, ht⟩ : ∃ t, t = q.1.getD j 0 := ⟨_, rfl⟩
              rw [← ht] at hc1 hv HT
              clear ht
              obtain ⟨p, rfl⟩ : ∃ p : Nat, t = p := ⟨t.toNat, by omega⟩
              rw [Int.toNat_natCast] at HT
              have hp0 : (0 : Int) ≤ (p : Int) := by omega
              have hp8 : (p : Int) < 8 := by omega
              have hcp : wz.cell? ⟨bv, p, none⟩ = some (.int .i64 (v.getD p 0)) := by
                refine Below.keep Hz.out ?_
                rw [cell_of_row wv bv p _ _ _ HVb.out]
                exact vrow_at (by rw [Hv8.out]; omega)
              obtain ⟨Z, hZ⟩ : ∃ Z, Z = v.getD p 0 := ⟨_, rfl⟩
              rw [← hZ] at HT hcp
              clear hZ
              obtain ⟨w7, hw7⟩ : ∃ x, x = wz.alloc (.cells #[.int .i64 Z] 3) := ⟨_, rfl⟩
              have hb : Below wz.heap.size wz w7 := by rw [hw7]; exact below_alloc _ _
              obtain ⟨bl, hbl⟩ : ∃ x, x = wz.heap.size := ⟨_, rfl⟩
              have HL := Lib.hid (show w7.heap[bl]? = some (.cells #[.int .i64 Z] 3 (0, 0)) from by rw [hw7, hbl]; exact heap_alloc_new _ _)
              have HO7 := Lib.hid (HO.out.keep hb)
              have Hz7 := Lib.hid (Below.tr Hz.out hb)
              have Hw7 := Lib.hid hw7
              have Hbl := Lib.hid hbl
              clear hw7 hb hbl HO Hz
              have hln : ((q.1.take j).map fun t => v.getD t.toNat 0).length + 1 ≤ 100000000000 := by rw [List.length_map, List.length_take]; omega
              go_wp2_with (first | (at_builtin; rw [← Hw7.out, ← Hbl.out]; refine append_own rfl (.tmp 41) (.tmp 45) 22 rfl elemInts rfl HO7.out (m := 1) [.int .i64 Z] rfl rfl (fun k y hk => aCell HL.out k (by simpa using hk)) (ints_oneCell [Z]) hln Hz7.out.size ?_; intro v9 w9 h91 h92 h93))
              have HO9 := Lib.hid (show OwnInts wv.heap.size w9 v9 ((q.1.take (j + 1)).map fun t => v.getD t.toNat 0) from by
                rw [HT.out]
                exact OwnInts.snoc h91)
              have Hz9 := Lib.hid (Hz7.out.trans h92)
              obtain ⟨pa, pn, pk, rfl⟩ := own_slice HO9.out
              clear h91 h92 h93 hcp hc1 hixj hln
              go_wp2_with fail
              go_roundw
              case rel => exact ⟨j + 1, pa, pn, pk, rfl, by go_num, by omega, Hz9.out, HO9.out⟩
              case measure => simp [intOf]; omega
            · obtain rfl : j = n0 := by omega
              have HX := Lib.hid (show Ints wz (.slice ya yn yk) (hdR q.1 v) from by
                have := HO.out.ints
                rwa [Hn0.out, List.take_length] at this)
              have HR6 := Lib.hid (HR5.out.keep Hz.out)
              have HPt := Lib.hid (put_any R (hdR q.1 v) HS.out.1 (by have := rowS_len HS.out; omega) _ _ wz HR6.out HX.out)
              clear HO
              go_wp2_with fail
              refine HPt.out.mono ?_
              rintro e w9 ⟨pa, pn, pk, rfl, ⟨S, hS, hP⟩, hb⟩
              have HS9 := Lib.hid hS
              have HP9 := Lib.hid (HSt.out S hP)
              have Hb9 := Lib.hid (Below.tr Hb5.out (Below.tr Hz.out hb))
              clear hS hP hb
              go_wp2_with fail
              go_roundw
              case rel => exact ⟨m + 1, pa, pn, pk, S, rfl, by go_num, by omega, Hb9.out, HS9.out, HP9.out⟩
              case measure => simp [intOf]; omega
        · obtain rfl : m = N.length := by omega
          have HE := Lib.hid (show ResRR q l wx (.slice oa on ok) c from by
            rcases Hcs.out with ⟨k1, k2, k3⟩ | ⟨k1, k2, k3, k4⟩
            · have hRn : R = [] := List.eq_nil_of_length_eq_zero (by have := rowS_len HS.out; rw [k2] at this; exact Nat.le_zero.1 this)
              have := HR.out
              rw [hRn] at this
              exact .inr (.inl ⟨Hqv.out, Hlv.out, k1, k3, this⟩)
            · refine .inr (.inr ⟨Hqv.out, Hlv.out, k1, k2, R, HR.out, HS.out.1, fun z => (HS.out.2 z).trans ⟨?_, ?_⟩⟩)
              · rintro ⟨i, hi, rfl⟩
                refine ⟨N.getD i [], (k4 _).1 ?_, rfl⟩
                rw [List.getD_eq_getElem?_getD, List.getElem?_eq_getElem hi]; exact List.getElem_mem hi
              · rintro ⟨v, hv, rfl⟩
                obtain ⟨i, hi, rfl⟩ := List.getElem_of_mem ((k4 v).2 hv)
                exact ⟨i, hi, by rw [List.getD_eq_getElem?_getD, List.getElem?_eq_getElem hi]; rfl⟩)
          have Hw := Lib.hid (Below.tr Hb4.out Hb.out)
          go_wp2_with fail
          go_ret2
          exact ⟨oa, on, ok, c, rfl, HE.out, Hw.out⟩
    · have HF := Lib.hid (factsR_any l _ w2 (Hu.out.keep Hb2.out) false (decide_eq_false hl))
      have HC := Lib.hid (fun w' => show ResRR q l w' (.slice none 0 0) 2 from .inl ⟨fun h => hl h.2, rfl, rfl⟩)
      go_wp2_with fail
      refine HF.out.mono ?_
      rintro e w3 ⟨rfl, hb⟩
      have Hb3 := Lib.hid (Below.tr Hb2.out hb)
      clear hb g0 g1
      go_wp2_with fail
      go_ret2
      exact ⟨none, 0, 0, 2, rfl, HC.out _, Hb3.out⟩
  · have HV := Lib.hid (validQR_any q _ w1 (Hq.out.keep Hb1.out) false (decide_eq_false hq))
    have HC := Lib.hid (fun w' => show ResRR q l w' (.slice none 0 0) 2 from .inl ⟨fun h => hq h.1, rfl, rfl⟩)
    go_wp2_with fail
    refine HV.out.mono ?_
    rintro e w2 ⟨rfl, hb⟩
    have Hb2 := Lib.hid (Below.tr Hb1.out hb)
    clear hb g0 g1
    go_wp2_with fail
    go_ret2
    exact ⟨none, 0, 0, 2, rfl, HC.out _, Hb2.out⟩
#print axioms resultsR_any
def frz1 (t : Int) : Int := if 0 ≤ t then 10 + t else -t
theorem own_set2 {w : World} {base size n bo j : Nat} {e t : TypeId} {v x : Value} {xs : List Value} {cs : Array Value} {fr : Nat × Nat} (h : w.ownsRow base e size v n xs) (hb : w.heap[bo]? = some (.cells cs t fr)) (hne : t ≠ e) : (w.setCell ⟨bo, j, none⟩ x).ownsRow base e size v n xs :=
  own_block h fun g hg => heap_setCell_other w ⟨bo, j, none⟩ g x fun q => by
    rcases h.2 with ⟨rfl, _⟩ | ⟨g', cap, cur, rfl, _, hh, _⟩
    · cases hg
    · cases hg
      have q' : g' = bo := q
      subst q'
      rw [hb] at hh
      injection hh with hh
      injection hh with _ hh _
      exact hne hh
theorem row_slice {w : World} {base : Nat} {e : TypeId} {size n : Nat} {v : Value} {xs : List Value} (h : w.ownsRow base e size v n xs) : ∃ a m k, v = .slice a m k := by
  obtain ⟨_, _, a, b, off, cap, e, _⟩ := owns_rd h
  exact ⟨_, _, _, e⟩
def frB (a : HAt) : HAt := (a.1, a.2.map frz1)
set_option maxRecDepth 100000 in
set_option maxHeartbeats 8000000 in
theorem freezeR_any {q : HQ} (hq : QrV q) (v : Value) (w : World) (hv : Qr w v q) :
    Calls Try.prog 36 #[v] w fun e w' => ∃ a n k y m z, e = .returned (.tuple #[.slice a n k, .slice y m z]) ∧ Atoms w' (.slice a n k) (q.2.map frB) ∧ Ints w' (.slice y m z) (q.1.map (10 + ·)) ∧ Below w.heap.size w w' := by
  obtain ⟨h0, b0, rfl, hh, hb⟩ := hv
  obtain ⟨a3, b3, off3, cap3, rfl, _, hia3, hc3⟩ := Ints.get hh
  obtain ⟨a, b, off, cap, vs, rfl, _, hia, _, hcl⟩ := Atoms.get hb
  obtain ⟨hd, bd⟩ := q
  simp only at *
  obtain ⟨n0, hn0⟩ : ∃ x, x = hd.length := ⟨_, rfl⟩
  obtain ⟨n1, hn1⟩ : ∃ x, x = bd.length := ⟨_, rfl⟩
  have Hn0 := Lib.hid hn0
  have Hn1 := Lib.hid hn1
  have gd : ∀ (l : List Int) (i : Nat) (hi : i < l.length), l[i] = l.getD i 0 := fun l i hi => by rw [List.getD_eq_getElem?_getD, List.getElem?_eq_getElem hi]; rfl
  have Hc3 := Lib.hid (show ∀ i, i < n0 → w.cell? ⟨b3, off3 + i, none⟩ = some (.int .i64 (hd.getD i 0)) from fun i hi => by rw [hc3 i (by omega), gd])
  rw [← hn0] at hia3 ⊢
  rw [← hn1] at hia hcl ⊢
  have Hc := Lib.hid hcl
  have Hix3 := Lib.hid (run_ix (P := Try.prog) (t := 22) (a := a3) (len := n0) (cap := cap3) (b := b3) (off := off3) (s := 1) Try.underlying22 (by intro w; kernel_rfl) hia3)
  simp only [Nat.mul_one] at Hix3
  have Hix := Lib.hid (run_ix (P := Try.prog) (t := 23) (a := a) (len := n1) (cap := cap) (b := b) (off := off) (s := 2) Try.underlying23 (by intro w; kernel_rfl) hia)
  have Hq := Lib.hid hq
  have hn15 : n1 ≤ 5 := by rw [hn1]; exact hq.1.2.1
  have hn04 : n0 ≤ 4 := by rw [hn0]; exact hq.1.2.2
  obtain ⟨w1, hw1⟩ : ∃ x, x = w.alloc (.cells #[.slice a3 n0 cap3, .slice a n1 cap] 25) := ⟨_, rfl⟩
  have hb1 : Below w.heap.size w w1 := by rw [hw1]; exact below_alloc _ _
  obtain ⟨bq, hbq⟩ : ∃ x, x = w.heap.size := ⟨_, rfl⟩
  have HB1 := Lib.hid (show Bx w1 bq (.slice a3 n0 cap3) (.slice a n1 cap) from by rw [hw1, hbq]; exact heap_alloc_new _ _)
  have Hb1 := Lib.hid hb1
  have Hw1 := Lib.hid hw1
  have Hbq := Lib.hid hbq
  clear hh hb hw1 hb1 hbq hia3 hc3 gd hn0 hn1 hia hcl hq
  go_enter Try.func36, Try.ntmps36
  go_upto_region 1 with fail
  rw [← Hw1.out, ← Hbq.out]
  clear Hw1 Hbq
  have g1 := aCell HB1.out 1 rfl
  go_wp2_with fail
  clear g1
  go_loopw [4, 16] (fun vo vi wr => ∃ (i : Nat) (oa : Option Addr) (on ok : Nat), vo = .slice oa on ok ∧ vi = .int .i64 i ∧ i ≤ n1 ∧ Below w1.heap.size w1 wr ∧ OwnAtoms 77 w1.heap.size wr (.slice oa on ok) ((bd.take i).map frB)) (fun _ vi _ => n1 - (intOf vi).toNat)
  case atStart => exact ⟨0, none, 0, 0, rfl, rfl, Nat.zero_le _, Below.refl _ _, ownAtoms_nil _ _ _⟩
  case round =>
    generalize wr = wx at *
    obtain ⟨i, oa, on, ok, rfl, rfl, hi, hb, ho⟩ := hrel
    have Hb := Lib.hid hb
    have HO := Lib.hid ho
    clear hb ho
    by_cases hlt : i < n1
    · have hbw := Below.tr Hb1.out Hb.out
      have hc1 := Below.keep hbw (Hc.out i hlt).1
      have hc2 := Below.keep hbw (Hc.out i hlt).2.1
      have hai := Ints.keep (Hc.out i hlt).2.2 hbw
      have hixi := Hix.out i
      have hlt' : i < bd.length := by rw [← Hn1.out]; exact hlt
      have HT := Lib.hid (show (bd.take (i + 1)).map frB = (bd.take i).map frB ++ [(aR bd i, (aA bd i).map frz1)] from by rw [List.take_succ_eq_append_getElem hlt', List.map_append, at_get hlt']; rfl)
      have HAt := Lib.hid (Hq.out.2.1 i hlt')
      simp only at HAt
      obtain ⟨r, hr⟩ : ∃ t, t = aR bd i := ⟨_, rfl⟩
      obtain ⟨A, hA⟩ : ∃ t, t = aA bd i := ⟨_, rfl⟩
      rw [← hr, ← hA] at HT HAt
      rw [← hr] at hc1
      rw [← hA] at hai
      clear hr hA hbw hlt'
      obtain ⟨a5, b5, off5, cap5, he5, _, hia5, hc5⟩ := Ints.get hai
      rw [he5] at hc2 hai
      clear he5
      obtain ⟨un, hun⟩ : ∃ x, x = A.length := ⟨_, rfl⟩
      have Hun := Lib.hid hun
      have Hc5 := Lib.hid (show ∀ k, k < un → wx.cell? ⟨b5, off5 + k, none⟩ = some (.int .i64 (A.getD k 0)) from fun k hk => by rw [hc5 k (by omega), List.getD_eq_getElem?_getD, List.getElem?_eq_getElem (by omega)]; rfl)
      rw [← hun] at hc2 hai hia5
      have Hix5 := Lib.hid (run_ix (P := Try.prog) (t := 22) (a := a5) (len := un) (cap := cap5) (b := b5) (off := off5) (s := 1) Try.underlying22 (by intro w; kernel_rfl) hia5)
      simp only [Nat.mul_one] at Hix5
      have hun3 : un ≤ 3 := by rw [hun]; exact HAt.out.2.1.2
      obtain ⟨wa, hwa⟩ : ∃ x, x = wx.alloc (.cells #[.int .i64 r, .slice a5 un cap5] 80) := ⟨_, rfl⟩
      have hba : Below wx.heap.size wx wa := by rw [hwa]; exact below_alloc _ _
      obtain ⟨bA, hbA⟩ : ∃ x, x = wx.heap.size := ⟨_, rfl⟩
      have HAb := Lib.hid (show wa.heap[bA]? = some (.cells #[.int .i64 r, .slice a5 un cap5] 80 (0, 0)) from by rw [hwa, hbA]; exact heap_alloc_new _ _)
      obtain ⟨wf, hwf⟩ : ∃ x, x = wa.alloc (.cells #[.int .i64 r, .slice none 0 0] 77) := ⟨_, rfl⟩
      have hbf : Below wa.heap.size wa wf := by rw [hwf]; exact below_alloc _ _
      obtain ⟨bf, hbf2⟩ : ∃ x, x = wa.heap.size := ⟨_, rfl⟩
      have HFb := Lib.hid (show wf.heap[bf]? = some (.cells #[.int .i64 r, .slice none 0 0] 77 (0, 0)) from by rw [hwf, hbf2]; exact heap_alloc_new _ _)
      have HOa := Lib.hid (HO.out.keep hba)
      have Hba := Lib.hid (Below.tr Hb.out hba)
      have Hxa := Lib.hid hba
      have Hbf := Lib.hid hbf
      have Hbfe := Lib.hid hbf2
      have Hwa := Lib.hid hwa
      have HbA := Lib.hid hbA
      have Hwf := Lib.hid hwf
      clear hai hun hia5 hc5 hwa hba hbA hwf hbf hbf2 HO Hb
      go_upto_region 5 with fail
      rw [← Hwa.out, ← HbA.out]
      clear Hwa HbA hc1 hc2 hixi
      have g0 := aCell HAb.out 0 rfl
      go_upto_region 6 with fail
      rw [← Hwf.out, ← Hbfe.out]
      clear Hwf g0
      have g1 := aCell (blk_keep2 HAb.out Hbf.out) 1 rfl
      go_wp2_with fail
      clear g1
      go_loopw [26] (fun vi wz => ∃ (j : Nat) (ya : Option Addr) (yn yk : Nat), vi = .int .i64 j ∧ j ≤ un ∧ Below wa.heap.size wa wz ∧ wz.heap[bf]? = some (.cells #[.int .i64 r, .slice ya yn yk] 77 (0, 0)) ∧ OwnInts wa.heap.size wz (.slice ya yn yk) ((A.take j).map frz1)) (fun vi _ => un - (intOf vi).toNat)
      case atStart => exact ⟨0, none, 0, 0, rfl, Nat.zero_le _, Hbf.out, HFb.out, ownInts_nil _ _⟩
      case round =>
        generalize wr = wz at *
        obtain ⟨j, ya, yn, yk, rfl, hj, hb, hf, ho⟩ := hrel
        have Hz := Lib.hid hb
        have HF := Lib.hid hf
        have HOz := Lib.hid ho
        clear hb hf ho
        by_cases hlj : j < un
        · have hcj := Below.keep Hz.out (Below.keep Hxa.out (Hc5.out j hlj))
          have hixj := Hix5.out j
          have hlj' : j < A.length := by rw [← Hun.out]; exact hlj
          have e : A.getD j 0 = A[j] := by rw [List.getD_eq_getElem?_getD, List.getElem?_eq_getElem hlj']; rfl
          have HTj := Lib.hid (show (A.take (j + 1)).map frz1 = (A.take j).map frz1 ++ [frz1 (A.getD j 0)] from by rw [List.take_succ_eq_append_getElem hlj', List.map_append, e]; rfl)
          have hr := HAt.out.2.2 (A.getD j 0) (by rw [e]; exact List.getElem_mem hlj')
          obtain ⟨t, ht⟩ : ∃ t, t = A.getD j 0 := ⟨_, rfl⟩
          rw [← ht] at hcj HTj hr
          clear ht e hlj'
          obtain ⟨Z, hZ⟩ : ∃ Z, Z = frz1 t := ⟨_, rfl⟩
          rw [← hZ] at HTj
          obtain ⟨w7, hw7⟩ : ∃ x, x = wz.alloc (.cells #[.int .i64 Z] 3) := ⟨_, rfl⟩
          have hb : Below wz.heap.size wz w7 := by rw [hw7]; exact below_alloc _ _
          obtain ⟨bl, hbl⟩ : ∃ x, x = wz.heap.size := ⟨_, rfl⟩
          have HL := Lib.hid (show w7.heap[bl]? = some (.cells #[.int .i64 Z] 3 (0, 0)) from by rw [hw7, hbl]; exact heap_alloc_new _ _)
          have HO7 := Lib.hid (HOz.out.keep hb)
          have HF7 := Lib.hid (blk_keep2 HF.out hb)
          have Hz7 := Lib.hid (Below.tr Hz.out hb)
          have Hw7 := Lib.hid hw7
          have Hbl := Lib.hid hbl
          have hln : ((A.take j).map frz1).length + 1 ≤ 100000000000 := by rw [List.length_map, List.length_take]; omega
          have g1 := aCell HF.out 1 rfl
          clear hw7 hb hbl HOz Hz
          by_cases c : 0 ≤ t
          · have hz1 : IntKind.i64.wrap (-10 - t) = -10 - t := IntWalk.i64_in _ ⟨by omega, by omega⟩
            have hz2 : IntKind.i64.wrap (-(-10 - t)) = Z := by rw [show -(-10 - t) = 10 + t by omega, hZ, show frz1 t = 10 + t from if_pos c]; exact IntWalk.i64_in _ ⟨by omega, by omega⟩
            clear hZ
            go_wp2_with (first | (at_builtin; rw [← Hw7.out, ← Hbl.out]; refine append_own rfl (.tmp 35) (.tmp 38) 22 rfl elemInts rfl HO7.out (m := 1) [.int .i64 Z] rfl rfl (fun k y hk => aCell HL.out k (by simpa using hk)) (ints_oneCell [Z]) hln Hz7.out.size ?_; intro v9 w9 h91 h92 h93; obtain ⟨pa, pn, pk, rfl⟩ := row_slice h91; have HF9 := block_grown HO7.out h93 HF7.out (by decide); have gk := aCell HF9 1 rfl; have gf := frozen_of_row w9 _ 1 _ _ HF9; have H91 := Lib.hid h91; have H92 := Lib.hid h92; have HF9 := Lib.hid HF9; clear h91 h92 h93))
            have HFn := Lib.hid (show (w9.setCell ⟨bf, 1, none⟩ (.slice pa pn pk)).heap[bf]? = some (.cells #[.int .i64 r, .slice pa pn pk] 77 (0, 0)) from by rw [heap_setCell_same w9 _ 1 _ _ _ HF9.out]; rfl)
            have HOn := Lib.hid (show OwnInts wa.heap.size (w9.setCell ⟨bf, 1, none⟩ (.slice pa pn pk)) (.slice pa pn pk) ((A.take (j + 1)).map frz1) from by
              rw [HTj.out]
              exact own_set2 (OwnInts.snoc H91.out) HF9.out (by decide))
            have Hzn := Lib.hid (show Below wa.heap.size wa (w9.setCell ⟨bf, 1, none⟩ (.slice pa pn pk)) from (Hz7.out.trans H92.out).setCell (Nat.le_of_eq Hbfe.out.symm) _)
            go_roundw
            case rel => exact ⟨j + 1, pa, pn, pk, by go_num, by omega, Hzn.out, HFn.out, HOn.out⟩
            case measure => simp [intOf]; omega
          · have hz2 : IntKind.i64.wrap (-t) = Z := by rw [hZ, show frz1 t = -t from if_neg c]; exact IntWalk.i64_in _ ⟨by omega, by omega⟩
            clear hZ
            go_wp2_with (first | (at_builtin; rw [← Hw7.out, ← Hbl.out]; refine append_own rfl (.tmp 35) (.tmp 38) 22 rfl elemInts rfl HO7.out (m := 1) [.int .i64 Z] rfl rfl (fun k y hk => aCell HL.out k (by simpa using hk)) (ints_oneCell [Z]) hln Hz7.out.size ?_; intro v9 w9 h91 h92 h93; obtain ⟨pa, pn, pk, rfl⟩ := row_slice h91; have HF9 := block_grown HO7.out h93 HF7.out (by decide); have gk := aCell HF9 1 rfl; have gf := frozen_of_row w9 _ 1 _ _ HF9; have H91 := Lib.hid h91; have H92 := Lib.hid h92; have HF9 := Lib.hid HF9; clear h91 h92 h93))
            have HFn := Lib.hid (show (w9.setCell ⟨bf, 1, none⟩ (.slice pa pn pk)).heap[bf]? = some (.cells #[.int .i64 r, .slice pa pn pk] 77 (0, 0)) from by rw [heap_setCell_same w9 _ 1 _ _ _ HF9.out]; rfl)
            have HOn := Lib.hid (show OwnInts wa.heap.size (w9.setCell ⟨bf, 1, none⟩ (.slice pa pn pk)) (.slice pa pn pk) ((A.take (j + 1)).map frz1) from by
              rw [HTj.out]
              exact own_set2 (OwnInts.snoc H91.out) HF9.out (by decide))
            have Hzn := Lib.hid (show Below wa.heap.size wa (w9.setCell ⟨bf, 1, none⟩ (.slice pa pn pk)) from (Hz7.out.trans H92.out).setCell (Nat.le_of_eq Hbfe.out.symm) _)
            go_roundw
            case rel => exact ⟨j + 1, pa, pn, pk, by go_num, by omega, Hzn.out, HFn.out, HOn.out⟩
            case measure => simp [intOf]; omega
        · obtain rfl : j = un := by omega
          have HU := Lib.hid (show OwnInts w1.heap.size wz (.slice ya yn yk) (A.map frz1) from by
            have := HOz.out
            rw [Hun.out, List.take_length] at this
            exact OwnInts.base this Hba.out.size)
          have HOx := Lib.hid (HOa.out.keep Hz.out)
          have Hz1 := Lib.hid (Below.tr Hba.out Hz.out)
          obtain ⟨w7, hw7⟩ : ∃ x, x = wz.alloc (.cells #[.int .i64 r, .slice ya yn yk] 77) := ⟨_, rfl⟩
          have hb : Below wz.heap.size wz w7 := by rw [hw7]; exact below_alloc _ _
          obtain ⟨bl, hbl⟩ : ∃ x, x = wz.heap.size := ⟨_, rfl⟩
          have HL := Lib.hid (show w7.heap[bl]? = some (.cells #[.int .i64 r, .slice ya yn yk] 77 (0, 0)) from by rw [hw7, hbl]; exact heap_alloc_new _ _)
          have HO7 := Lib.hid (HOx.out.keep hb)
          have HU7 := Lib.hid (HU.out.keep hb)
          have Hz7 := Lib.hid (Below.tr Hz1.out hb)
          have Hw7 := Lib.hid hw7
          have Hbl := Lib.hid hbl
          obtain ⟨vs1, e1, e2, e3⟩ := HO7.out
          have hln : ((bd.take i).map frB).length + 1 ≤ 100000000000 := by rw [List.length_map, List.length_take]; omega
          have g0 := aCell HF.out 0 rfl
          have g1 := aCell HF.out 1 rfl
          clear hw7 hb hbl HOz Hz
          go_wp2_with (first | (at_builtin; rw [← Hw7.out, ← Hbl.out]; refine append_own rfl (.tmp 42) (.tmp 44) 26 rfl elemFacts rfl e2 (m := 1) [.int .i64 r, .slice ya yn yk] rfl rfl (fun k y hk => aCell HL.out k (by simpa using hk)) (by intro u hu; simp at hu; rcases hu with rfl | rfl <;> rfl) hln Hz7.out.size ?_; intro v9 w9 h91 h92 h93))
          have HO9 := Lib.hid (show OwnAtoms 77 w1.heap.size w9 v9 ((bd.take (i + 1)).map frB) from by
            rw [HT.out]
            exact OwnAtoms.snoc factNotInt e1 e2 e3 HU7.out h93 h91)
          have Hz9 := Lib.hid (Hz7.out.trans h92)
          obtain ⟨pa, pk, rfl⟩ := Atoms.own HO9.out
          obtain ⟨pn, hpn⟩ : ∃ x, x = ((bd.take (i + 1)).map frB).length := ⟨_, rfl⟩
          rw [← hpn] at HO9 ⊢
          clear h91 h92 h93 g0 g1 e1 e2 e3 hpn
          go_wp2_with fail
          go_roundw
          case rel => exact ⟨i + 1, pa, pn, pk, rfl, by go_num, by omega, Hz9.out, HO9.out⟩
          case measure => simp [intOf]; omega
    · obtain rfl : i = n1 := by omega
      have HOf := Lib.hid (show OwnAtoms 77 w1.heap.size wx (.slice oa on ok) (bd.map frB) from by have := HO.out; rwa [Hn1.out, List.take_length] at this)
      have g0 := aCell (Bx.keep HB1.out Hb.out) 0 rfl
      have Hhd := Lib.hid (show ∀ k, k < n0 → 0 ≤ hd.getD k 0 ∧ hd.getD k 0 < 8 from fun k hk => (Hq.out.2.2 _ (by rw [List.getD_eq_getElem?_getD, List.getElem?_eq_getElem (by rw [← Hn0.out]; exact hk)]; exact List.getElem_mem _)).1)
      go_wp2_with fail
      clear g0
      go_loopw [10, 50] (fun vx vi wz => ∃ (j : Nat) (ya : Option Addr) (yn yk : Nat), vx = .slice ya yn yk ∧ vi = .int .i64 j ∧ j ≤ n0 ∧ Below wx.heap.size wx wz ∧ OwnInts wx.heap.size wz (.slice ya yn yk) ((hd.take j).map (10 + ·))) (fun _ vi _ => n0 - (intOf vi).toNat)
      case atStart => exact ⟨0, none, 0, 0, rfl, rfl, Nat.zero_le _, Below.refl _ _, ownInts_nil _ _⟩
      case round =>
        generalize wr = wz at *
        obtain ⟨j, ya, yn, yk, rfl, rfl, hj, hb, ho⟩ := hrel
        have Hz := Lib.hid hb
        have HOz := Lib.hid ho
        clear hb ho
        by_cases hlj : j < n0
        · have hcj := Below.keep Hz.out (Below.keep Hb.out (Below.keep Hb1.out (Hc3.out j hlj)))
          have hixj := Hix3.out j
          have hlj' : j < hd.length := by rw [← Hn0.out]; exact hlj
          have e : hd.getD j 0 = hd[j] := by rw [List.getD_eq_getElem?_getD, List.getElem?_eq_getElem hlj']; rfl
          have HTj := Lib.hid (show (hd.take (j + 1)).map (10 + ·) = (hd.take j).map (10 + ·) ++ [10 + hd.getD j 0] from by rw [List.take_succ_eq_append_getElem hlj', List.map_append, e]; rfl)
          have hr := Hhd.out j hlj
          obtain ⟨t, ht⟩ : ∃ t, t = hd.getD j 0 := ⟨_, rfl⟩
          rw [← ht] at hcj HTj hr
          clear ht e hlj'
          have hadd : IntKind.i64.wrap (10 + t) = 10 + t := IntWalk.i64_in _ ⟨by omega, by omega⟩
          obtain ⟨w7, hw7⟩ : ∃ x, x = wz.alloc (.cells #[.int .i64 (10 + t)] 3) := ⟨_, rfl⟩
          have hb : Below wz.heap.size wz w7 := by rw [hw7]; exact below_alloc _ _
          obtain ⟨bl, hbl⟩ : ∃ x, x = wz.heap.size := ⟨_, rfl⟩
          have HL := Lib.hid (show w7.heap[bl]? = some (.cells #[.int .i64 (10 + t)] 3 (0, 0)) from by rw [hw7, hbl]; exact heap_alloc_new _ _)
          have HO7 := Lib.hid (HOz.out.keep hb)
          have Hz7 := Lib.hid (Below.tr Hz.out hb)
          have Hw7 := Lib.hid hw7
          have Hbl := Lib.hid hbl
          have hln : ((hd.take j).map (10 + ·)).length + 1 ≤ 100000000000 := by rw [List.length_map, List.length_take]; omega
          clear hw7 hb hbl HOz Hz
          go_wp2_with (first | (at_builtin; rw [← Hw7.out, ← Hbl.out]; refine append_own rfl (.tmp 54) (.tmp 57) 22 rfl elemInts rfl HO7.out (m := 1) [.int .i64 (10 + t)] rfl rfl (fun k y hk => aCell HL.out k (by simpa using hk)) (ints_oneCell [10 + t]) hln Hz7.out.size ?_; intro v9 w9 h91 h92 h93))
          have HO9 := Lib.hid (show OwnInts wx.heap.size w9 v9 ((hd.take (j + 1)).map (10 + ·)) from by
            rw [HTj.out]
            exact OwnInts.snoc h91)
          have Hz9 := Lib.hid (Hz7.out.trans h92)
          obtain ⟨pa, pn, pk, rfl⟩ := own_slice HO9.out
          clear h91 h92 h93 hln hcj hixj
          go_wp2_with fail
          go_roundw
          case rel => exact ⟨j + 1, pa, pn, pk, rfl, by go_num, by omega, Hz9.out, HO9.out⟩
          case measure => simp [intOf]; omega
        · obtain rfl : j = n0 := by omega
          have HX := Lib.hid (show Ints wz (.slice ya yn yk) (hd.map (10 + ·)) from by have := HOz.out.ints; rwa [Hn0.out, List.take_length] at this)
          have HR := Lib.hid ((HOf.out.keep Hz.out).atoms)
          have Hw := Lib.hid (Below.tr Hb1.out (Below.tr Hb.out Hz.out))
          go_wp2_with fail
          go_ret2
          exact ⟨oa, on, ok, ya, yn, yk, rfl, HR.out, HX.out, Hw.out⟩
#print axioms freezeR_any
theorem fs_frozen' {p : HQ} (hp : QrV p) : FsV (p.2.map frA) := by
  refine ⟨by rw [List.length_map]; have := hp.1; omega, fun i hi => ?_⟩
  rw [List.length_map] at hi
  have e : (p.2.map frA).getD i (0, []) = frA (aR p.2 i, aA p.2 i) := by
    rw [List.getD_eq_getElem?_getD, List.getElem?_map, List.getElem?_eq_getElem hi, ← at_get hi]; rfl
  have h := hp.2.1 i hi
  unfold aR aA
  rw [e]
  refine ⟨h.1, by rw [show (frA (aR p.2 i, aA p.2 i)).2 = (aA p.2 i).map (numOf fz) from rfl, List.length_map]; exact h.2.1, fun x hx => ?_⟩
  obtain ⟨t, ht, rfl⟩ := List.mem_map.1 (show x ∈ (aA p.2 i).map (numOf fz) from hx)
  have hr := h.2.2 t ht
  obtain ⟨h1, h2⟩ := numOf_fz (t := t) hr
  by_cases c : 0 ≤ t
  · rw [h1 c]; omega
  · rw [h2 (by omega)]; omega
/-- is the frozen query's own result among the results -/
theorem frozen_mem' {p q : HQ} (hpq : PairV p q) {R : List (List Int)} (hR : IsRes q (p.2.map frA) R) : p.1.map (10 + ·) ∈ R ↔ ∃ h, IsH q p h := by
  rw [hR.2]
  constructor
  · rintro ⟨v, hv, e⟩
    have hk := vok_of_maP (frA_ok hpq.2.1 hpq.1) hv
    exact ⟨trm v, v, hv, rfl, (frozen_iff hpq.1 hpq.2.1 hpq.2.2.symm hk).1 e⟩
  · rintro ⟨h, v, hv, rfl, ha⟩
    have hk := vok_of_maP (frA_ok hpq.2.1 hpq.1) hv
    exact ⟨v, hv, (frozen_iff hpq.1 hpq.2.1 hpq.2.2.symm hk).2 ha⟩
theorem frB_frA {p : HQ} (hp : QrV p) : p.2.map frB = p.2.map frA := List.map_congr_left fun a ha => by
  refine Prod.ext rfl (List.map_congr_left fun t ht => ?_)
  obtain ⟨h1, h2⟩ := numOf_fz (qrV_arg hp ha t ht)
  unfold frz1
  by_cases c : 0 ≤ t
  · rw [if_pos c]; exact (h1 c).symm
  · rw [if_neg c]; exact (h2 (by omega)).symm
set_option maxRecDepth 100000 in
set_option maxHeartbeats 8000000 in
theorem containedR_any {p q : HQ} (v u : Value) (w : World) (hv : Qr w v p) (hu : Qr w u q) :
    Calls Try.prog 33 #[v, u] w fun e w' => ∃ B c, e = .returned (.tuple #[.bool B, .int .i64 c]) ∧ ContC p q B c ∧ Below w.heap.size w w' := by
  obtain ⟨h0, b0, rfl, hh, hb⟩ := hv
  obtain ⟨h1, b1, rfl, hh1, hb1⟩ := hu
  have Hp := Lib.hid (show Qr w (.agg #[h0, b0]) p from ⟨_, _, rfl, hh, hb⟩)
  have Hq := Lib.hid (show Qr w (.agg #[h1, b1]) q from ⟨_, _, rfl, hh1, hb1⟩)
  obtain ⟨ha, hc, rfl⟩ := ints_slice hh
  obtain ⟨ba, bc, rfl⟩ := atoms_slice hb
  obtain ⟨ha1, hc1, rfl⟩ := ints_slice hh1
  obtain ⟨ba1, bc1, rfl⟩ := atoms_slice hb1
  obtain ⟨n0, hn0⟩ : ∃ x, x = p.1.length := ⟨_, rfl⟩
  obtain ⟨n1, hn1⟩ : ∃ x, x = p.2.length := ⟨_, rfl⟩
  obtain ⟨n2, hn2⟩ : ∃ x, x = q.1.length := ⟨_, rfl⟩
  obtain ⟨n3, hn3⟩ : ∃ x, x = q.2.length := ⟨_, rfl⟩
  rw [← hn0, ← hn1] at Hp
  rw [← hn2, ← hn3] at Hq
  have Hn := Lib.hid (And.intro hn0 hn2)
  rw [← hn0, ← hn1, ← hn2, ← hn3]
  obtain ⟨w1, hw1⟩ : ∃ x, x = w.alloc (.cells #[.slice ha n0 hc, .slice ba n1 bc] 25) := ⟨_, rfl⟩
  obtain ⟨w2, hw2⟩ : ∃ x, x = w1.alloc (.cells #[.slice ha1 n2 hc1, .slice ba1 n3 bc1] 25) := ⟨_, rfl⟩
  obtain ⟨bp, hbp⟩ : ∃ x, x = w.heap.size := ⟨_, rfl⟩
  obtain ⟨bq, hbq⟩ : ∃ x, x = bp + 1 := ⟨_, rfl⟩
  have HB := Lib.hid (B2.new hw1 hw2 hbp hbq)
  have Hw1 := Lib.hid hw1
  have Hw2 := Lib.hid hw2
  have Hbpe := Lib.hid hbp
  have Hbqe := Lib.hid hbq
  clear hh hb hh1 hb1 hw1 hw2 hbp hbq hn0 hn1 hn2 hn3
  go_enter Try.func33, Try.ntmps33
  go_upto_region 1 with fail
  rw [← Hw1.out, ← Hw2.out, ← Hbpe.out, ← Hbqe.out]
  clear Hw1 Hw2
  obtain ⟨⟨g0, g1⟩, g2, g3⟩ := HB.out.cells
  by_cases hp : QrV p
  · have HV := Lib.hid (validQR_any p _ w2 (Hp.out.keep HB.out.b) true (decide_eq_true hp))
    go_wp2_with fail
    refine HV.out.mono ?_
    rintro e w3 ⟨rfl, hb⟩
    have HB := Lib.hid (HB.out.keep hb)
    clear hb g0 g1 g2 g3 HV
    obtain ⟨⟨g0, g1⟩, g2, g3⟩ := HB.out.cells
    by_cases hq : QrV q
    · have HV := Lib.hid (validQR_any q _ w3 (Hq.out.keep HB.out.b) true (decide_eq_true hq))
      go_wp2_with fail
      refine HV.out.mono ?_
      rintro e w4 ⟨rfl, hb⟩
      have HB := Lib.hid (HB.out.keep hb)
      clear hb g0 g1 g2 g3 HV
      obtain ⟨⟨g0, g1⟩, g2, g3⟩ := HB.out.cells
      by_cases hlen : n0 = n2
      · subst hlen
        have HP := Lib.hid (show PairV p q from ⟨hp, hq, Hn.out.1.symm.trans Hn.out.2⟩)
        have HFr := Lib.hid (freezeR_any hp _ w4 (Hp.out.keep HB.out.b))
        go_wp2_with fail
        refine HFr.out.mono ?_
        rintro e w5 ⟨fa, fn, fk, xa, xn, xk, rfl, hF, hX, hb⟩
        have HF := Lib.hid hF
        have HX := Lib.hid hX
        have HB := Lib.hid (HB.out.keep hb)
        clear hF hX hb g0 g1 g2 g3 HFr
        obtain ⟨⟨g0, g1⟩, g2, g3⟩ := HB.out.cells
        have HRs := Lib.hid (resultsR_any _ _ w5 (Hq.out.keep HB.out.b) HF.out)
        go_wp2_with fail
        refine HRs.out.mono ?_
        rintro e w6 ⟨ra, rn, rk, c, rfl, hR, hb⟩
        rw [frB_frA hp] at hR
        obtain ⟨rfl, R, hRr, hI⟩ : c = 0 ∧ ∃ R, Rows w6 (.slice ra rn rk) R ∧ IsRes q (p.2.map frA) R := by
          rcases hR with ⟨h, _⟩ | ⟨_, _, h, _⟩ | ⟨_, _, _, h1, R, h2, h3⟩
          · exact absurd ⟨hq, fs_frozen' hp⟩ h
          · exact absurd h (hom_notBig hq hp)
          · exact ⟨h1, R, h2, h3⟩
        have HI := Lib.hid (frozen_mem' HP.out hI)
        have HX := Lib.hid (HX.out.keep hb)
        have HB := Lib.hid (HB.out.keep hb)
        have HRr := Lib.hid hRr
        obtain ⟨a, b, off, cap, vs, hav, hle, hia, hvs, hcs, hrs⟩ := hRr.get
        injection hav with e1 e2 e3
        subst e1 e2 e3
        have Hix := Lib.hid (run_ix (P := Try.prog) (t := 27) (a := ra) (len := R.length) (cap := rk) (b := b) (off := off) (s := 1) Try.underlying27 (by intro w; kernel_rfl) hia)
        simp only [Nat.mul_one] at Hix
        have Hc := Lib.hid (show ∀ i, i < R.length → w6.cell? ⟨b, off + i, none⟩ = some (vs.getD i (.bool false)) ∧ Ints w6 (vs.getD i (.bool false)) (R.getD i []) from fun i hi => by
          rw [List.getD_eq_getElem?_getD, List.getElem?_eq_getElem (by omega : i < vs.length), List.getD_eq_getElem?_getD, List.getElem?_eq_getElem hi]
          exact ⟨hcs i (by omega), hrs i hi (by omega)⟩)
        clear hR hb hRr hI hia hvs hcs hrs g0 g1 g2 g3 HRs HF
        go_wp2_with fail
        go_loopw [42] (fun vi wr => ∃ k : Nat, vi = .int .i64 k ∧ k ≤ R.length ∧ wr = w6 ∧ ∀ j, j < k → p.1.map (10 + ·) ≠ R.getD j []) (fun vi _ => R.length - (intOf vi).toNat)
        case atStart => exact ⟨0, rfl, Nat.zero_le _, rfl, fun j h => by omega⟩
        case round =>
          obtain ⟨k, rfl, hk, rfl, hno⟩ := hrel
          have Hno := Lib.hid hno
          clear hno
          by_cases hlt : k < R.length
          · have hck := (Hc.out k hlt).1
            have Hik := Lib.hid (Hc.out k hlt).2
            have hixk := Hix.out k
            have hmem : R.getD k [] ∈ R := by rw [List.getD_eq_getElem?_getD, List.getElem?_eq_getElem hlt]; exact List.getElem_mem hlt
            obtain ⟨Y, hY⟩ : ∃ x, x = R.getD k [] := ⟨_, rfl⟩
            have HY := Lib.hid hY
            rw [← hY] at Hik hmem
            have Hmem := Lib.hid hmem
            obtain ⟨ya, yc, hys⟩ := ints_slice Hik.out
            rw [hys] at hck Hik
            obtain ⟨yn, hyn⟩ : ∃ x, x = Y.length := ⟨_, rfl⟩
            rw [← hyn] at hck Hik
            clear hys hY hyn hmem
            go_wp2_with fail
            refine (equalQ_any (p.1.map (10 + ·)) Y _ _ _ HX.out Hik.out).mono ?_
            rintro e w9 ⟨rfl, rfl⟩
            by_cases he : p.1.map (10 + ·) = Y
            · rw [decide_eq_true he]
              have HE := Lib.hid (show ContC p q true 0 from .inr ⟨HP.out, rfl, fun _ => HI.out.1 (by rw [he]; exact Hmem.out), fun _ => rfl⟩)
              clear he hck hixk
              go_wp2_with fail
              go_ret2
              exact ⟨true, 0, rfl, HE.out, HB.out.b⟩
            · rw [decide_eq_false he]
              have HN := Lib.hid (show ∀ j, j < k + 1 → p.1.map (10 + ·) ≠ R.getD j [] from fun j hj => by
                rcases Nat.lt_or_ge j k with h | h
                · exact Hno.out j h
                · rw [show j = k by omega, ← HY.out]; exact he)
              clear he hck hixk
              go_wp2_with fail
              go_roundw
              case rel => exact ⟨k + 1, by go_num, by omega, by first | rfl | trivial, HN.out⟩
              case measure => simp [intOf]; omega
          · obtain rfl : k = R.length := by omega
            have HE := Lib.hid (show ContC p q false 0 from .inr ⟨HP.out, rfl, fun h => (by cases h), fun h => by
              obtain ⟨i, hi, e⟩ := List.getElem_of_mem (HI.out.2 h)
              exact absurd (by rw [List.getD_eq_getElem?_getD, List.getElem?_eq_getElem hi, ← e]; rfl) (Hno.out i hi)⟩)
            go_wp2_with fail
            go_ret2
            exact ⟨false, 0, rfl, HE.out, HB.out.b⟩
      · have HE := Lib.hid (show ContC p q false 2 from .inl ⟨fun h => hlen (Hn.out.1.trans (h.2.2.trans Hn.out.2.symm)), rfl, rfl⟩)
        have hne : ((n0 : Int) != n2) = true := by rw [bne_iff_ne]; omega
        go_wp2_with fail
        go_ret2
        exact ⟨false, 2, rfl, HE.out, HB.out.b⟩
    · have HV := Lib.hid (validQR_any q _ w3 (Hq.out.keep HB.out.b) false (decide_eq_false hq))
      have HE := Lib.hid (show ContC p q false 2 from .inl ⟨fun h => hq h.2.1, rfl, rfl⟩)
      go_wp2_with fail
      refine HV.out.mono ?_
      rintro e w4 ⟨rfl, hb⟩
      have HB := Lib.hid (HB.out.keep hb)
      clear hb g0 g1 g2 g3
      go_wp2_with fail
      go_ret2
      exact ⟨false, 2, rfl, HE.out, HB.out.b⟩
  · have HV := Lib.hid (validQR_any p _ w2 (Hp.out.keep HB.out.b) false (decide_eq_false hp))
    have HE := Lib.hid (show ContC p q false 2 from .inl ⟨fun h => hp h.1, rfl, rfl⟩)
    go_wp2_with fail
    refine HV.out.mono ?_
    rintro e w3 ⟨rfl, hb⟩
    have HB := Lib.hid (HB.out.keep hb)
    clear hb g0 g1 g2 g3
    go_wp2_with fail
    go_ret2
    exact ⟨false, 2, rfl, HE.out, HB.out.b⟩
#print axioms containedR_any
end Go.Proofs.Ytfplmdieeabgpaa
