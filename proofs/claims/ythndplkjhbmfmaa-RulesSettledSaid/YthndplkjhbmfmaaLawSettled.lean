/- RulesSettled: for rules that have strata the true facts are the model, and nothing is open; no fact is both true and open. For every input. -/
import Derived.Test.YthndplkjhbmfmaaRfn
import Derived.Test.YthndplkjhbmfmaaRcl
import Derived.Test.YthndplkjhbmfmaaRaw
import Derived.Test.YthndplkjhbmfmaaRfw
import Derived.Test.YthndplkjhbmfmaaFrame
import Derived.Test.YthndplkjhbmfmaaRows
namespace Go.Proofs.Ythndplkjhbmfmaa
open Go.RowKit
/-- what follows, in facts -/
def Gam (l : List RRule) (G K : RAt → Prop) : RAt → Prop := Cons (fun r => r ∈ l) G K
theorem mod_gam {l : List RRule} (hl : RuV l) {L : List Int} (hL : Str l L) {G : RAt → Prop} {f : RAt} (h : Gam l G (mlv l L G 6) f) : mlv l L G 6 f :=
  Cons.least (C := mlv l L G 6) (fun f hf => mlv_le (s := 0) (show mlv l L G 0 f from hf) 6) (fun _ _ h1 h2 h3 h4 => mod_closed hl hL h1 h2 h3 h4) h
/-- a literal with Not lies below -/
theorem not_below {l : List RRule} {L : List Int} (hL : Str l L) {r : RRule} (hr : r ∈ l) {b : RLit} (hb : b ∈ r.2) (hn : b.1 = true) {s : Nat} (hs : L.getD r.1.1.toNat 0 ≤ (s : Int)) : L.getD b.2.1.toNat 0 < (s : Int) := by
  have h1 : L.getD b.2.1.toNat 0 + nt b.1 ≤ L.getD r.1.1.toNat 0 := hL.sol r hr b hb
  rw [hn] at h1
  have h2 : nt true = 1 := rfl
  omega
theorem lit_below {l : List RRule} {L : List Int} (hL : Str l L) {r : RRule} (hr : r ∈ l) {b : RLit} (hb : b ∈ r.2) : L.getD b.2.1.toNat 0 ≤ L.getD r.1.1.toNat 0 := by
  have h1 : L.getD b.2.1.toNat 0 + nt b.1 ≤ L.getD r.1.1.toNat 0 := hL.sol r hr b hb
  have h2 : 0 ≤ nt b.1 := by unfold nt; split <;> omega
  omega
theorem gam_mod {l : List RRule} {L : List Int} (hL : Str l L) {G : RAt → Prop} : ∀ s, s ≤ 6 → ∀ f, mlv l L G s f → Gam l G (mlv l L G 6) f
  | 0, _, f, h => .given h
  | s + 1, hs, f, h => by
    refine Cons.least (C := Gam l G (mlv l L G 6)) (fun f hf => gam_mod hL s (by omega) f hf) (fun r m h1 h2 h3 h4 => .step h1.1 h2 h3 fun b hb hn hk => h4 b hb hn ?_) h
    exact mlv_at (s := s) (f := gnd m b.2) (not_below hL h1.1 hb hn (by rw [h1.2]; exact Int.le_refl _)) (6 - s) (by rw [show s + (6 - s) = 6 by omega]; exact hk)
theorem str_nn {l : List RRule} {L : List Int} (hL : Str l L) (i : Nat) : 0 ≤ L.getD i 0 := by
  by_cases h : i < 6
  · exact (hL.sv.rng i h).1
  · rw [List.getD_eq_getElem?_getD, List.getElem?_eq_none (by rw [hL.sv.len]; omega)]
    exact Int.le_refl _
/-- by strata: what is in the model is in the fixpoint, and what the fixpoint does not refute is in the model -/
theorem fix_mod {l : List RRule} (hl : RuV l) {L : List Int} (hL : Str l L) {G T : RAt → Prop} (hT : ∀ f, Gam l G (Gam l G T) f ↔ T f) : ∀ s, s ≤ 6 → (∀ f, mlv l L G s f → T f) ∧ ∀ f, Gam l G T f → L.getD f.1.toNat 0 < (s : Int) → mlv l L G 6 f
  | 0, _ => ⟨fun f h => (hT f).1 (.given h), fun f _ hs => by have := str_nn hL f.1.toNat; omega⟩
  | s + 1, hs => by
    obtain ⟨i1, i2⟩ := fix_mod hl hL hT s (by omega)
    refine ⟨fun f h => ?_, fun f h => ?_⟩
    · refine Cons.least (C := T) i1 (fun r m h1 h2 h3 h4 => (hT _).1 (.step h1.1 h2 (fun b hb hb0 => (hT _).2 (h3 b hb hb0)) fun b hb hb1 hk => h4 b hb hb1 ?_)) h
      have hs2 : L.getD b.2.1.toNat 0 < (s : Int) := not_below hL h1.1 hb hb1 (by rw [h1.2]; exact Int.le_refl _)
      exact mlv_at (s := s) (f := gnd m b.2) hs2 (6 - s) (by rw [show s + (6 - s) = 6 by omega]; exact i2 _ hk hs2)
    · refine Cons.least (C := fun f => L.getD f.1.toNat 0 < ((s + 1 : Nat) : Int) → mlv l L G 6 f) (fun f hf _ => mlv_le (s := 0) (show mlv l L G 0 f from hf) 6) (fun r m h1 h2 h3 h4 hh => ?_) h
      have hh : L.getD r.1.1.toNat 0 < ((s + 1 : Nat) : Int) := hh
      refine mod_closed hl hL h1 h2 (fun b hb hb0 => h3 b hb hb0 ?_) fun b hb hb1 hk => h4 b hb hb1 (i1 _ ?_)
      · have := lit_below hL h1 hb
        show L.getD b.2.1.toNat 0 < _
        omega
      · have hs2 : L.getD b.2.1.toNat 0 < (s : Int) := not_below hL h1 hb hb1 (by omega)
        exact mlv_at (s := s) (f := gnd m b.2) hs2 (6 - s) (by rw [show s + (6 - s) = 6 by omega]; exact hk)
/-- so the least fixpoint is the model, and nothing is open -/
theorem fix_all {l : List RRule} (hl : RuV l) {L : List Int} (hL : Str l L) {G T : RAt → Prop} (hT : ∀ f, Gam l G (Gam l G T) f ↔ T f) (hlow : ∀ f, T f → mlv l L G 6 f) : (∀ f, T f ↔ mlv l L G 6 f) ∧ ∀ f, Gam l G T f ↔ mlv l L G 6 f := by
  have h1 : ∀ f, T f ↔ mlv l L G 6 f := fun f => ⟨hlow f, (fix_mod hl hL hT 6 (Nat.le_refl _)).1 f⟩
  refine ⟨h1, fun f => ⟨fun h => mod_gam hl hL (h.mono (fun _ h => h) (fun _ h => h) fun f hf => (h1 f).2 hf), fun h => ?_⟩⟩
  exact (gam_mod hL 6 (Nat.le_refl _) f h).mono (fun _ h => h) (fun _ h => h) fun f hf => (h1 f).1 hf
theorem cnt_all {l : List RRule} (r : RRule) : (∃ k, l[k]? = some r ∧ (fun _ : Nat => true) k = true) ↔ r ∈ l :=
  ⟨fun ⟨_, h, _⟩ => List.mem_of_getElem? h, fun h => by obtain ⟨k, hk, e⟩ := List.getElem_of_mem h; exact ⟨k, by rw [List.getElem?_eq_getElem hk, e], rfl⟩⟩
/-- in codes and in facts -/
theorem gam_iff {l : List RRule} {fs : List RAt} (hv : ValR l fs) {S : PSt} (hG : Gd l fs S) {K : Int → Prop} {Kf : RAt → Prop} (hK : ∀ f, FcR f → (K (pcd f) ↔ Kf f)) (c : Int) : gam S.I fs K c ↔ ∃ f, Gam l (fun f => f ∈ fs) Kf f ∧ pcd f = c := by
  have hgf : ∀ f, f ∈ fs → FcR f ∧ S.rch (pcd f) := fun f hf => ⟨hv.fcs f hf, hG.giv f hf⟩
  have h := ground_cons hv.ats hG.gr (fun _ => true) (fun f => f ∈ fs) K hgf c
  refine h.trans ?_
  constructor
  · rintro ⟨f, h1, h2⟩
    exact ⟨f, h1.congrV hv.ats (fun r hr => ⟨(cnt_all r).1 hr, (cnt_all r).1 hr⟩) (fun _ h => h) fun f hf h => (hK f hf).2 h, h2⟩
  · rintro ⟨f, h1, h2⟩
    exact ⟨f, h1.congrV hv.ats (fun r hr => ⟨(cnt_all r).2 hr, hr⟩) (fun _ h => h) fun f hf h => (hK f hf).1 h, h2⟩
theorem gam_fc {l : List RRule} {fs : List RAt} (hv : ValR l fs) {K : RAt → Prop} {f : RAt} (h : Gam l (fun f => f ∈ fs) K f) : FcR f := cons_valid hv.ats (fun _ h => h) hv.fcs h
/-- Founded's true codes are the model's, and its open ones are none -/
theorem founded_mod {l : List RRule} {fs : List RAt} (hv : ValR l fs) {S : PSt} (hG : Gd l fs S) {L : List Int} (hL : Str l L) {T : Int → Prop} (hT : Lfp S.I fs T) : (∀ c, T c ↔ ∃ f, ModP l fs L f ∧ pcd f = c) ∧ ∀ c, ¬ (gam S.I fs T c ∧ ¬ T c) := by
  have hgf : ∀ f, f ∈ fs → FcR f ∧ S.rch (pcd f) := fun f hf => ⟨hv.fcs f hf, hG.giv f hf⟩
  have hok := fun f => mlv_ok hv.ats hG.gr (L := L) (G := fun f => f ∈ fs) hgf 6 f
  have g1 : ∀ c, gam S.I fs T c ↔ ∃ f, Gam l (fun f => f ∈ fs) (fun f => T (pcd f)) f ∧ pcd f = c := gam_iff hv hG fun f _ => Iff.rfl
  have g2 : ∀ f, FcR f → (gam S.I fs T (pcd f) ↔ Gam l (fun f => f ∈ fs) (fun f => T (pcd f)) f) := fun f hf => (g1 (pcd f)).trans ⟨fun ⟨g, h1, h2⟩ => by rw [← pcd_inj (gam_fc hv h1) hf h2]; exact h1, fun h => ⟨f, h, rfl⟩⟩
  have g3 := gam_iff hv hG (K := gam S.I fs T) (Kf := Gam l (fun f => f ∈ fs) fun f => T (pcd f)) g2
  have hfix : ∀ f, Gam l (fun f => f ∈ fs) (Gam l (fun f => f ∈ fs) fun f => T (pcd f) ∧ FcR f) f ↔ T (pcd f) ∧ FcR f := fun f => by
    have e : ∀ f, Gam l (fun f => f ∈ fs) (fun f => T (pcd f) ∧ FcR f) f ↔ Gam l (fun f => f ∈ fs) (fun f => T (pcd f)) f := fun f => ⟨fun h => h.congrV hv.ats (fun r hr => ⟨hr, hr⟩) (fun _ h => h) fun f hf h => ⟨h, hf⟩, fun h => h.congrV hv.ats (fun r hr => ⟨hr, hr⟩) (fun _ h => h) fun f _ h => h.1⟩
    constructor
    · intro h
      have hf := gam_fc hv h
      refine ⟨(hT.fix _).1 ((g3 _).2 ⟨f, h.mono (fun _ h => h) (fun _ h => h) fun f hf => (e f).2 hf, rfl⟩), hf⟩
    · rintro ⟨h1, h2⟩
      obtain ⟨g, k1, k2⟩ := (g3 _).1 ((hT.fix _).2 h1)
      rw [← pcd_inj (gam_fc hv k1) h2 k2]
      exact k1.mono (fun _ h => h) (fun _ h => h) fun f hf => (e f).1 hf
  have hM : ∀ c, (∃ f, ModP l fs L f ∧ pcd f = c) → ∃ f, ModP l fs L f ∧ pcd f = c := fun _ h => h
  have hmf : ∀ f, FcR f → ((∃ g, ModP l fs L g ∧ pcd g = pcd f) ↔ ModP l fs L f) := fun f hf => ⟨fun ⟨g, h1, h2⟩ => by rw [← pcd_inj (hok g h1).1 hf h2]; exact h1, fun h => ⟨f, h, rfl⟩⟩
  have m1 : ∀ c, gam S.I fs (fun c => ∃ f, ModP l fs L f ∧ pcd f = c) c ↔ ∃ f, ModP l fs L f ∧ pcd f = c := fun c => (gam_iff hv hG hmf c).trans ⟨fun ⟨f, h1, h2⟩ => ⟨f, mod_gam hv.ats hL h1, h2⟩, fun ⟨f, h1, h2⟩ => ⟨f, gam_mod hL 6 (Nat.le_refl _) f h1, h2⟩⟩
  have hlow : ∀ c, T c → ∃ f, ModP l fs L f ∧ pcd f = c := hT.low _ fun c hc => (m1 c).1 (gam_anti (fun c hc => (m1 c).2 hc) c hc)
  obtain ⟨a1, a2⟩ := fix_all hv.ats hL hfix fun f hf => by
    obtain ⟨g, k1, k2⟩ := hlow _ hf.1
    rw [← pcd_inj (hok g k1).1 hf.2 k2]; exact k1
  have r1 : ∀ c, T c ↔ ∃ f, ModP l fs L f ∧ pcd f = c := fun c => ⟨hlow c, fun ⟨f, h1, h2⟩ => h2 ▸ ((a1 f).2 h1).1⟩
  refine ⟨r1, fun c ⟨h1, h2⟩ => h2 ?_⟩
  have := gam_anti (K := fun c => ∃ f, ModP l fs L f ∧ pcd f = c) (K' := T) (fun c h => (r1 c).2 h) c h1
  exact (r1 c).2 ((m1 c).1 this)

theorem gam_ok {l : List RRule} {fs : List RAt} (hv : ValR l fs) {S : PSt} (hG : Gd l fs S) {K : Int → Prop} {c : Int} (h : gam S.I fs K c) : ∃ f, FcR f ∧ pcd f = c := by
  obtain ⟨f, h1, h2⟩ := (gam_iff hv hG (K := K) (Kf := fun f => K (pcd f)) (fun f _ => Iff.rfl) c).1 h
  exact ⟨f, gam_fc hv h1, h2⟩
set_option maxRecDepth 100000 in
set_option maxHeartbeats 16000000 in
theorem settled_any (l : List RRule) (fs : List RAt) (rl fv : Value) (w : World) (hrl : Rules w rl l) (hfv : Atoms w fv fs) :
    Calls Try.prog 14 #[rl, fv] w fun e w' => e = .returned (.bool true) ∧ Below w.heap.size w w' := by
  have HR := Lib.hid hrl
  have HF := Lib.hid hfv
  obtain ⟨a, cap, rfl⟩ := RdS.slice hrl
  obtain ⟨ua, uc, rfl⟩ := atoms_slice hfv
  obtain ⟨n, hn⟩ : ∃ x, x = l.length := ⟨_, rfl⟩
  obtain ⟨fn, hfn⟩ : ∃ x, x = fs.length := ⟨_, rfl⟩
  rw [← hn] at HR ⊢
  rw [← hfn] at HF ⊢
  clear hn hfn hrl hfv
  have HC := Lib.hid (OfL_any l _ w HR.out)
  go_enter Try.func14, Try.ntmps14
  go_wp2_with fail
  refine HC.out.mono ?_
  clear HC
  rintro e w1 ⟨p1, p2, p3, rfl, ho1, hb1⟩
  have HB1 := Lib.hid hb1
  have HR1 := Lib.hid ho1.rules
  have HC := Lib.hid (factsL_any fs _ w1 (HF.out.keep hb1))
  clear ho1 hb1
  go_wp2_with fail
  refine HC.out.mono ?_
  clear HC
  rintro e w2 ⟨v2, rfl, ho2, hb2⟩
  obtain ⟨q1, q3, hv2⟩ := Atoms.own ho2
  obtain ⟨q2, hn2⟩ : ∃ x, x = (ofF fs).length := ⟨_, rfl⟩
  rw [← hn2] at hv2
  subst hv2
  have HB2 := Lib.hid (Below.tr HB1.out hb2)
  have HC := Lib.hid (Model_any (ofRl l) (ofF fs) _ _ w2 (HR1.out.keep hb2) ho2.atoms)
  clear ho2 hb2 hn2
  go_wp2_with fail
  refine HC.out.mono ?_
  clear HC
  rintro e w3 ⟨hm, hb3⟩
  have HB3 := Lib.hid (Below.tr HB2.out hb3)
  clear hb3
  rcases hm with ⟨hv, rfl⟩ | ⟨hv, hno, rfl⟩ | ⟨hv, L, a5, n5, c5, cs, hs, rfl, ho3, hsr⟩
  · have HV := Lib.hid hv
    clear hv
    have HC := Lib.hid (OfL_any l _ w3 (HR.out.keep HB3.out))
    go_wp2_with fail
    refine HC.out.mono ?_
    clear HC
    rintro e w4 ⟨a4, n4, c4, rfl, ho4, hb4⟩
    have HB4 := Lib.hid (Below.tr HB3.out hb4)
    have HR4 := Lib.hid ho4.rules
    skip
    have HC := Lib.hid (factsL_any fs _ w4 (HF.out.keep HB4.out))
    clear ho4 hb4
    go_wp2_with fail
    refine HC.out.mono ?_
    clear HC
    rintro e w5 ⟨v5, rfl, ho5, hb5⟩
    obtain ⟨a9, c9, hv5⟩ := Atoms.own ho5
    obtain ⟨n9, hn9⟩ : ∃ x, x = (ofF fs).length := ⟨_, rfl⟩
    rw [← hn9] at hv5
    subst hv5
    have HB5 := Lib.hid (Below.tr HB4.out hb5)
    have HR5 := Lib.hid (HR4.out.keep hb5)
    skip
    have HC := Lib.hid (Founded_any (ofRl l) (ofF fs) _ _ w5 HR5.out ho5.atoms)
    clear ho5 hb5 hn9
    go_wp2_with fail
    refine HC.out.mono ?_
    clear HC
    rintro e w6 ⟨hm, hb6⟩
    have HB6 := Lib.hid (Below.tr HB5.out hb6)
    skip
    clear hb6
    have hm : e = .returned (.tuple #[.slice none 0 0, .slice none 0 0, .int .i64 2]) := by
      rcases hm with ⟨_, h⟩ | ⟨h, _⟩
      · exact h
      · exact absurd h HV.out
    subst hm
    go_wp2_with fail
    refine (awake_any _).mono ?_
    rintro e w8 ⟨rfl, hb8⟩
    have HB8 := Lib.hid (Below.tr HB6.out hb8)
    clear hb8
    go_wp2_with fail
    go_ret
    exact ⟨rfl, HB8.out⟩
  · have HV := Lib.hid hv
    clear hv hno
    have HC := Lib.hid (OfL_any l _ w3 (HR.out.keep HB3.out))
    go_wp2_with fail
    refine HC.out.mono ?_
    clear HC
    rintro e w4 ⟨a4, n4, c4, rfl, ho4, hb4⟩
    have HB4 := Lib.hid (Below.tr HB3.out hb4)
    have HR4 := Lib.hid ho4.rules
    skip
    have HC := Lib.hid (factsL_any fs _ w4 (HF.out.keep HB4.out))
    clear ho4 hb4
    go_wp2_with fail
    refine HC.out.mono ?_
    clear HC
    rintro e w5 ⟨v5, rfl, ho5, hb5⟩
    obtain ⟨a9, c9, hv5⟩ := Atoms.own ho5
    obtain ⟨n9, hn9⟩ : ∃ x, x = (ofF fs).length := ⟨_, rfl⟩
    rw [← hn9] at hv5
    subst hv5
    have HB5 := Lib.hid (Below.tr HB4.out hb5)
    have HR5 := Lib.hid (HR4.out.keep hb5)
    skip
    have HC := Lib.hid (Founded_any (ofRl l) (ofF fs) _ _ w5 HR5.out ho5.atoms)
    clear ho5 hb5 hn9
    go_wp2_with fail
    refine HC.out.mono ?_
    clear HC
    rintro e w6 ⟨hm, hb6⟩
    have HB6 := Lib.hid (Below.tr HB5.out hb6)
    skip
    clear hb6
    rcases hm with ⟨h, _⟩ | ⟨hv2, S, TT, a1, n1, c1, a2, n2, c2, L1, L2, hgd, hlf, rfl, ho1, ho2, hL1, hL2⟩
    · exact absurd HV.out h
    · have HA1 := Lib.hid ho1.atoms
      have HA2 := Lib.hid ho2.atoms
      have HNot := Lib.hid (show ∀ f, f ∈ L2.map unpc → ¬ f ∈ L1.map unpc from fun f h1 h2 => by
        obtain ⟨x, hx, rfl⟩ := List.mem_map.1 h1
        obtain ⟨y, hy, e⟩ := List.mem_map.1 h2
        have kx := (hL2.2 x).1 hx
        have ky := (hL1.2 y).1 hy
        have sx := unpc_spec (gam_ok hv2 hgd kx.1)
        have sy := unpc_spec (gam_ok hv2 hgd ((hlf.fix y).2 ky))
        have : x = y := by rw [← sx.2, ← sy.2, e]
        exact kx.2 (this ▸ ky))
      clear hv2 hgd hlf ho1 ho2 hL1 hL2
      obtain ⟨ga, gb, goff, gcap, gvs, hge, _, hgi, _, hgc⟩ := Atoms.get HA2.out
      injection hge with e1 e2 e3
      subst e1 e3
      have Hgn := Lib.hid e2
      have hn6 : n2 ≤ 9223372036854775807 := by
        obtain ⟨_, _, _, _, _, h1, h2, _⟩ := Atoms.get HA2.out
        rw [e2]; exact h2
      have HixG := Lib.hid (run_ix (P := Try.prog) (t := 39) (a := a2) (len := n2) (cap := c2) (b := gb) (off := goff) (s := 2) Try.underlying39 (by intro w; kernel_rfl) (by rw [e2]; exact hgi))
      have HcG := Lib.hid hgc
      clear hgi hgc e2
      go_wp2_with fail
      go_loopw [42] (fun vi wr => ∃ i : Nat, vi = .int .i64 i ∧ i ≤ n2 ∧ Below w6.heap.size w6 wr) (fun vi _ => n2 - (intOf vi).toNat)
      case atStart => exact ⟨0, rfl, Nat.zero_le _, Below.refl _ _⟩
      case round =>
        generalize wr = wx at *
        obtain ⟨i, rfl, hi, hb⟩ := hrel
        have HBx := Lib.hid hb
        clear hb
        by_cases hlt : i < n2
        · have hlt2 : i < (L2.map unpc).length := by rw [← Hgn.out]; exact hlt
          obtain ⟨q0, q1, q2⟩ := HcG.out i hlt2
          have q0 := Below.keep HBx.out q0
          have q1 := Below.keep HBx.out q1
          have q2 := Ints.keep q2 HBx.out
          have hixi := HixG.out i
          have HMf := Lib.hid (show (L2.map unpc).getD i (0, []) ∈ L2.map unpc from getA_mem hlt2)
          unfold aR at q0
          unfold aA at q2
          obtain ⟨⟨s, C⟩, hf⟩ : ∃ x, x = (L2.map unpc).getD i (0, []) := ⟨_, rfl⟩
          rw [← hf] at q0 q2 HMf
          simp only at q0 q2
          obtain ⟨xa, xc, hxs⟩ := ints_slice q2
          rw [hxs] at q1 q2
          obtain ⟨xn, hxn⟩ : ∃ x, x = C.length := ⟨_, rfl⟩
          rw [← hxn] at q1 q2
          obtain ⟨w3, hw3⟩ : ∃ x, x = wx.alloc (.cells #[.int .i64 s, .slice xa xn xc] 50) := ⟨_, rfl⟩
          have hb3 : Below wx.heap.size wx w3 := by rw [hw3]; exact below_alloc _ _
          obtain ⟨bx, hbx⟩ : ∃ x, x = wx.heap.size := ⟨_, rfl⟩
          have HXx := Lib.hid (show w3.heap[bx]? = some (.cells #[.int .i64 s, .slice xa xn xc] 50 (0, 0)) from by rw [hw3, hbx]; exact heap_alloc_new _ _)
          have HB3 := Lib.hid (Below.tr HBx.out hb3)
          have HC := Lib.hid (within_any s C (.slice xa xn xc) (L1.map unpc) (.slice a1 n1 c1) w3 (q2.keep hb3) (HA1.out.keep (Below.tr HBx.out hb3)) false ⟨fun h => (by cases h), fun h => absurd h (HNot.out _ HMf.out)⟩)
          have Hw3 := Lib.hid hw3
          have Hbx := Lib.hid hbx
          clear hf hxs hxn hw3 hb3 hbx hlt2 q2
          go_upto_region 8 with fail
          rw [← Hw3.out, ← Hbx.out]
          clear Hw3 q0 q1 hixi
          have g0 := aCell HXx.out 0 rfl
          have g1 := aCell HXx.out 1 rfl
          go_wp2_with fail
          refine HC.out.mono ?_
          clear HC
          rintro e w4 ⟨rfl, hb4⟩
          have HB4 := Lib.hid (Below.tr HB3.out hb4)
          clear hb4 g0 g1
          go_wp2_with fail
          go_roundw
          case rel => exact ⟨i + 1, by go_num, by omega, HB4.out⟩
          case measure => simp [intOf]; omega
        · obtain rfl : n2 = i := by omega
          have HBw := Lib.hid (Below.tr HB6.out HBx.out)
          go_wp2_with fail
          refine (awake_any _).mono ?_
          rintro e w8 ⟨rfl, hb8⟩
          have HB8 := Lib.hid (Below.tr HBw.out hb8)
          clear hb8
          go_wp2_with fail
          go_ret
          exact ⟨rfl, HB8.out⟩
  · have HV := Lib.hid hv
    have HSt := Lib.hid hs
    have HM3 := Lib.hid ho3
    have HSr := Lib.hid hsr
    clear hv hs ho3 hsr
    have HC := Lib.hid (OfL_any l _ w3 (HR.out.keep HB3.out))
    go_wp2_with fail
    refine HC.out.mono ?_
    clear HC
    rintro e w4 ⟨a4, n4, c4, rfl, ho4, hb4⟩
    have HB4 := Lib.hid (Below.tr HB3.out hb4)
    have HR4 := Lib.hid ho4.rules
    have HM4 := Lib.hid (HM3.out.keep hb4)
    have HC := Lib.hid (factsL_any fs _ w4 (HF.out.keep HB4.out))
    clear ho4 hb4
    go_wp2_with fail
    refine HC.out.mono ?_
    clear HC
    rintro e w5 ⟨v5, rfl, ho5, hb5⟩
    obtain ⟨a9, c9, hv5⟩ := Atoms.own ho5
    obtain ⟨n9, hn9⟩ : ∃ x, x = (ofF fs).length := ⟨_, rfl⟩
    rw [← hn9] at hv5
    subst hv5
    have HB5 := Lib.hid (Below.tr HB4.out hb5)
    have HR5 := Lib.hid (HR4.out.keep hb5)
    have HM5 := Lib.hid (HM4.out.keep hb5)
    have HC := Lib.hid (Founded_any (ofRl l) (ofF fs) _ _ w5 HR5.out ho5.atoms)
    clear ho5 hb5 hn9
    go_wp2_with fail
    refine HC.out.mono ?_
    clear HC
    rintro e w6 ⟨hm, hb6⟩
    have HB6 := Lib.hid (Below.tr HB5.out hb6)
    have HM6 := Lib.hid (HM5.out.keep hb6)
    clear hb6
    rcases hm with ⟨h, _⟩ | ⟨hv2, S, TT, a1, n1, c1, a2, n2, c2, L1, L2, hgd, hlf, rfl, ho1, ho2, hL1, hL2⟩
    · exact absurd HV.out h
    · have HA1 := Lib.hid ho1.atoms
      have HA2 := Lib.hid ho2.atoms
      have HNot := Lib.hid (show ∀ f, f ∈ L2.map unpc → ¬ f ∈ L1.map unpc from fun f h1 h2 => by
        obtain ⟨x, hx, rfl⟩ := List.mem_map.1 h1
        obtain ⟨y, hy, e⟩ := List.mem_map.1 h2
        have kx := (hL2.2 x).1 hx
        have ky := (hL1.2 y).1 hy
        have sx := unpc_spec (gam_ok hv2 hgd kx.1)
        have sy := unpc_spec (gam_ok hv2 hgd ((hlf.fix y).2 ky))
        have : x = y := by rw [← sx.2, ← sy.2, e]
        exact kx.2 (this ▸ ky))
      have hfm := founded_mod hv2 hgd HSt.out hlf
      have HEq := Lib.hid (show L1.map unpc = cs from srtF_eq (srtF_of hL1.2 hL1.1 hfm.1 fun f hf => HSr.out.fcs f ((HSr.out.mem f).2 hf)) HSr.out)
      have HA5 := Lib.hid HM6.out.atoms
      have Hz := Lib.hid (show n2 = 0 from by
        obtain ⟨_, _, e⟩ := Atoms.own ho2
        injection e with _ e _
        rw [e, List.length_map]
        cases hl2 : L2 with
        | nil => rfl
        | cons x q => exact absurd ((hL2.2 x).1 (by rw [hl2]; simp)) (hfm.2 x))
      clear hv2 hgd hlf ho1 ho2 hL1 hL2 hfm
      obtain ⟨ga, gb, goff, gcap, gvs, hge, _, hgi, _, hgc⟩ := Atoms.get HA2.out
      injection hge with e1 e2 e3
      subst e1 e3
      have Hgn := Lib.hid e2
      have hn6 : n2 ≤ 9223372036854775807 := by
        obtain ⟨_, _, _, _, _, h1, h2, _⟩ := Atoms.get HA2.out
        rw [e2]; exact h2
      have HixG := Lib.hid (run_ix (P := Try.prog) (t := 39) (a := a2) (len := n2) (cap := c2) (b := gb) (off := goff) (s := 2) Try.underlying39 (by intro w; kernel_rfl) (by rw [e2]; exact hgi))
      have HcG := Lib.hid hgc
      clear hgi hgc e2
      go_wp2_with fail
      go_loopw [42] (fun vi wr => ∃ i : Nat, vi = .int .i64 i ∧ i ≤ n2 ∧ Below w6.heap.size w6 wr) (fun vi _ => n2 - (intOf vi).toNat)
      case atStart => exact ⟨0, rfl, Nat.zero_le _, Below.refl _ _⟩
      case round =>
        generalize wr = wx at *
        obtain ⟨i, rfl, hi, hb⟩ := hrel
        have HBx := Lib.hid hb
        clear hb
        by_cases hlt : i < n2
        · have hlt2 : i < (L2.map unpc).length := by rw [← Hgn.out]; exact hlt
          obtain ⟨q0, q1, q2⟩ := HcG.out i hlt2
          have q0 := Below.keep HBx.out q0
          have q1 := Below.keep HBx.out q1
          have q2 := Ints.keep q2 HBx.out
          have hixi := HixG.out i
          have HMf := Lib.hid (show (L2.map unpc).getD i (0, []) ∈ L2.map unpc from getA_mem hlt2)
          unfold aR at q0
          unfold aA at q2
          obtain ⟨⟨s, C⟩, hf⟩ : ∃ x, x = (L2.map unpc).getD i (0, []) := ⟨_, rfl⟩
          rw [← hf] at q0 q2 HMf
          simp only at q0 q2
          obtain ⟨xa, xc, hxs⟩ := ints_slice q2
          rw [hxs] at q1 q2
          obtain ⟨xn, hxn⟩ : ∃ x, x = C.length := ⟨_, rfl⟩
          rw [← hxn] at q1 q2
          obtain ⟨w3, hw3⟩ : ∃ x, x = wx.alloc (.cells #[.int .i64 s, .slice xa xn xc] 50) := ⟨_, rfl⟩
          have hb3 : Below wx.heap.size wx w3 := by rw [hw3]; exact below_alloc _ _
          obtain ⟨bx, hbx⟩ : ∃ x, x = wx.heap.size := ⟨_, rfl⟩
          have HXx := Lib.hid (show w3.heap[bx]? = some (.cells #[.int .i64 s, .slice xa xn xc] 50 (0, 0)) from by rw [hw3, hbx]; exact heap_alloc_new _ _)
          have HB3 := Lib.hid (Below.tr HBx.out hb3)
          have HC := Lib.hid (within_any s C (.slice xa xn xc) (L1.map unpc) (.slice a1 n1 c1) w3 (q2.keep hb3) (HA1.out.keep (Below.tr HBx.out hb3)) false ⟨fun h => (by cases h), fun h => absurd h (HNot.out _ HMf.out)⟩)
          have Hw3 := Lib.hid hw3
          have Hbx := Lib.hid hbx
          clear hf hxs hxn hw3 hb3 hbx hlt2 q2
          go_upto_region 8 with fail
          rw [← Hw3.out, ← Hbx.out]
          clear Hw3 q0 q1 hixi
          have g0 := aCell HXx.out 0 rfl
          have g1 := aCell HXx.out 1 rfl
          go_wp2_with fail
          refine HC.out.mono ?_
          clear HC
          rintro e w4 ⟨rfl, hb4⟩
          have HB4 := Lib.hid (Below.tr HB3.out hb4)
          clear hb4 g0 g1
          go_wp2_with fail
          go_roundw
          case rel => exact ⟨i + 1, by go_num, by omega, HB4.out⟩
          case measure => simp [intOf]; omega
        · obtain rfl : n2 = i := by omega
          have HBw := Lib.hid (Below.tr HB6.out HBx.out)
          have hz : ((n2 : Int) == 0) = true := by rw [Hz.out]; rfl
          have HC := Lib.hid (same_any (L1.map unpc) cs (.slice a1 n1 c1) (.slice a5 n5 c5) wx (HA1.out.keep HBx.out) (HA5.out.keep HBx.out) true (decide_eq_true HEq.out))
          go_wp2_with fail
          refine HC.out.mono ?_
          clear HC
          rintro e w7 ⟨rfl, hb7⟩
          have HB7 := Lib.hid (Below.tr HBw.out hb7)
          clear hb7
          go_wp2_with fail
          refine (awake_any _).mono ?_
          rintro e w8 ⟨rfl, hb8⟩
          have HB8 := Lib.hid (Below.tr HB7.out hb8)
          clear hb8
          go_wp2_with fail
          go_ret
          exact ⟨rfl, HB8.out⟩
#print axioms settled_any
namespace rulesSettled
open Go.ChangeShapes Go.WideShapes Go.ChangeAt
set_option maxRecDepth 100000 in
theorem lifted (os : Os) (started : os.Started) (H : Type) (enc : TypeId × Value → H) :
    ReturnsInHanded {} Try.checked os 14 .any (Rows.rulesSettledSpec.pre6 enc Try.prog Try.f14 Rows.rulesSettledRow.domain false) (Rows.rulesSettledSpec.post enc Try.prog Try.f14 false true false false) := by
  refine returnsInHanded_of_change (C := Try.checked) Try.own started (by kernel_rfl) Try.func14
    (ChangeSpec.witness6 (enc := enc) (C := Try.checked) false ⟨#[], #[.slice none 0 0, .slice none 0 0], []⟩ 8 (by kernel_rfl) (by kernel_rfl) (by kernel_rfl) (by kernel_rfl)) ?_
  intro W base args ds gs before hval0 hW _ _
  have hval : ∀ (j : Nat) t v, Try.f14.params[j]? = some t → args[j]? = some v → Value.okWide Try.prog W .any base t v := hval0
  clear hval0
  obtain rfl : gs = [] := by obtain ⟨p, q, _, hV, _⟩ := hW; exact (trodVars_none hV).1
  have hW' := hW
  obtain ⟨p, q, hA0, hV, rfl, hfz, hnd⟩ := hW
  have hA : DataW.TrodAll enc Try.prog W 0 (fun _ => true) true Try.f14.params.toList args.toList ds p := hA0
  rw [Try.params14] at hA hval
  obtain ⟨v0, vs0, d0, ds0, p0, q0, hv0, hd0, hp0, h0, r0⟩ := trodAll_cons hA
  obtain ⟨v1, vs1, d1, ds1, p1, q1, hv1, hd1, hp1, h1, r1⟩ := trodAll_cons r0
  obtain ⟨hvn, hdn, hpn⟩ := trodAll_nil r1
  have ha : args = #[v0, v1] := by cases args; simp_all
  have hdd : ds = [d0, d1] := by simp_all
  rw [ha] at hval
  obtain ⟨a0, k0⟩ := rules_of_trod Try.underlying22 Try.underlying86 ⟨rfl, rfl⟩ ⟨rfl, rfl⟩ Try.underlying84 (by kernel_rfl) Try.underlying88 ⟨rfl, rfl⟩ ⟨rfl, rfl⟩ Try.underlying4 (by kernel_rfl) Try.underlying83 ⟨rfl, rfl⟩ ⟨rfl, rfl⟩ Try.underlying3 Try.underlying23 (by kernel_rfl) (by kernel_rfl) (by kernel_rfl) (by kernel_rfl) (by kernel_rfl) (okWide_slice Try.underlying22 (hval 0 22 v0 rfl rfl)) h0
  obtain ⟨a1, k1⟩ := atoms_of_trod Try.underlying39 Try.underlying50 ⟨rfl, rfl⟩ ⟨rfl, rfl⟩ Try.underlying3 Try.underlying23 (by kernel_rfl) (by kernel_rfl) (by kernel_rfl) (okWide_slice Try.underlying39 (hval 1 39 v1 rfl rfl)) h1
  have hw : Calls Try.prog 14 args W (fun e W' => e = .returned (.bool true) ∧ Below W.heap.size W W') := by
    rw [ha]; exact settled_any a0 a1 v0 v1 W k0 k1
  exact hw.mono fun e W' ⟨he, hb⟩ => ⟨_, he, law_post Try.laidOut hW' rfl rfl Try.underlying4 (by rw [hdd]; rfl)
    (by kernel_rfl) hb⟩

theorem holds : Rows.RulesSettledSaid :=
  OpenClaim.holds_of_wide 14 Try.f14 rfl rfl rfl rfl rfl rfl rfl ⟨rfl, rfl, rfl, rfl, rfl⟩ rfl rfl rfl rfl rfl (by kernel_rfl) Try.func14 (by kernel_rfl)
    (of_decide_eq_true (by kernel_rfl)) (by unfold Func.isWrapper; first | (rw [if_pos (by decide +kernel)]; kernel_rfl) | (rw [if_neg (by decide +kernel)]; exact ⟨rfl, rfl⟩))
    (fun os started H enc _ => lifted os started H enc)
end rulesSettled

