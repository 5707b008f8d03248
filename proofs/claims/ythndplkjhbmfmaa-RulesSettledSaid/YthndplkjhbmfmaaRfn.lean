/- Contract of Founded. -/
import Derived.Test.YthndplkjhbmfmaaRmd
import Derived.Test.YthndplkjhbmfmaaRcf
import Derived.Test.YthndplkjhbmfmaaRmn
namespace Go.Proofs.Ythndplkjhbmfmaa
open Go.RowKit
/-- what follows where K says what Lits with Not meet, in codes -/
def gam (I : List PIn) (fs : List RAt) (K : Int → Prop) : Int → Prop := ConsI I (fun _ => true) (GvC fs) K
theorem gam_anti {I : List PIn} {fs : List RAt} {K K' : Int → Prop} (h : ∀ c, K c → K' c) : ∀ c, gam I fs K' c → gam I fs K c := fun _ hc => hc.congr (fun _ h => h) (fun _ h => h) h
/-- the least fixpoint of gam twice -/
structure Lfp (I : List PIn) (fs : List RAt) (T : Int → Prop) : Prop where
  fix : ∀ c, gam I fs (gam I fs T) c ↔ T c
  low : ∀ X : Int → Prop, (∀ c, gam I fs (gam I fs X) c → X c) → ∀ c, T c → X c
structure Und (I : List PIn) (fs : List RAt) (T : Int → Prop) : Prop where
  up : ∀ c, T c → gam I fs (gam I fs T) c
  low : ∀ X : Int → Prop, (∀ c, gam I fs (gam I fs X) c → X c) → ∀ c, T c → X c
theorem und_0 (I : List PIn) (fs : List RAt) : Und I fs (fun _ => False) := ⟨fun _ h => h.elim, fun _ _ _ h => h.elim⟩
theorem Und.next {I : List PIn} {fs : List RAt} {T : Int → Prop} (h : Und I fs T) : Und I fs (gam I fs (gam I fs T)) :=
  ⟨gam_anti (gam_anti h.up), fun X hX c hc => hX c (gam_anti (gam_anti (h.low X hX)) c hc)⟩
theorem Und.done {I : List PIn} {fs : List RAt} {T : Int → Prop} (h : Und I fs T) (he : ∀ v, gam I fs (gam I fs T) v ↔ T v) : Lfp I fs T := ⟨he, h.low⟩
theorem KSet.lt_of {w w' : World} {b1 n1 b2 n2 : Nat} {p1 p2 : Int → Prop} (h : KSet w b1 n1 p1) (k : KSet w' b2 n2 p2) (hs : ∀ v, p1 v → p2 v) (hn : ¬ ∀ v, p1 v ↔ p2 v) : n1 < n2 := by
  obtain ⟨L, l1, l2, l3⟩ := h.count
  obtain ⟨M, m1, m2, m3⟩ := k.count
  obtain ⟨v, hv⟩ : ∃ v, p2 v ∧ ¬ p1 v := Classical.byContradiction fun q => hn fun v => ⟨hs v, fun h2 => Classical.byContradiction fun h1 => q ⟨v, h2, h1⟩⟩
  have := len_le (l := v :: L) (m := M) (List.nodup_cons.2 ⟨fun q => hv.2 ((l3 v).1 q), l1⟩) fun x hx => by
    rcases List.mem_cons.1 hx with rfl | hx
    · exact (m3 _).2 hv.1
    · exact (m3 x).2 (hs x ((l3 x).1 hx))
  rw [List.length_cons] at this
  omega
def msz (v : Value) (w : World) : Nat := match v with | .map (some b) => (match w.heap[b]? with | some (.map es _) => es.size | _ => 0) | _ => 0
theorem msz_eq {w : World} {b n : Nat} {p : Int → Prop} (h : KSet w b n p) : msz (.map (some b)) w = n := by
  obtain ⟨es, clock, hm, he⟩ := h.len_run
  show (match w.heap[b]? with | some (.map es _) => es.size | _ => 0) = n
  rw [hm]; exact he
theorem every_any (x : Int) (w : World) : Calls Try.prog 104 #[.int .i64 x] w fun e w' => e = .returned (.bool true) ∧ ∃ q, w' = w.drewN q := by
  go_enter Try.func104, Try.ntmps104
  go_wp2_with fail
  go_ret
  exact ⟨rfl, 0, rfl⟩
/-- what Founded returns: the program in codes, the true codes -/
def FndE (l : List RRule) (fs : List RAt) (B : Nat) (w' : World) (e : Ending) : Prop :=
  (¬ ValR l fs ∧ e = .returned (.tuple #[.slice none 0 0, .slice none 0 0, .int .i64 2])) ∨
  (ValR l fs ∧ ∃ (S : PSt) (T : Int → Prop) (a : Option Addr) (n c : Nat) (a2 : Option Addr) (n2 c2 : Nat) (L L2 : List Int), Gd l fs S ∧ Lfp S.I fs T ∧ e = .returned (.tuple #[.slice a n c, .slice a2 n2 c2, .int .i64 0]) ∧
    OwnAtoms 50 B w' (.slice a n c) (L.map unpc) ∧ OwnAtoms 50 B w' (.slice a2 n2 c2) (L2.map unpc) ∧
    (L.Pairwise (fun a b => a < b) ∧ ∀ v, v ∈ L ↔ T v) ∧ (L2.Pairwise (fun a b => a < b) ∧ ∀ v, v ∈ L2 ↔ gam S.I fs T v ∧ ¬ T v))
theorem own_mono {e : TypeId} {B B' : Nat} {w : World} {v : Value} {l : List HAt} (h : OwnAtoms e B w v l) (hb : B' ≤ B) : OwnAtoms e B' w v l := by
  obtain ⟨vs, e1, e2, e3⟩ := h
  exact ⟨vs, e1, owns_mono e2 hb, fun i hi => (e3 i hi).base hb⟩
set_option maxRecDepth 100000 in
set_option maxHeartbeats 16000000 in
theorem Founded_any (l : List RRule) (fs : List RAt) (rl u : Value) (w : World) (hrl : Rules w rl l) (hu : Atoms w u fs) :
    Calls Try.prog 47 #[rl, u] w fun e w' => FndE l fs w.heap.size w' e ∧ Below w.heap.size w w' := by
  have HR := Lib.hid hrl
  have HU := Lib.hid hu
  obtain ⟨a, cap, rfl⟩ := RdS.slice hrl
  obtain ⟨ua, uc, rfl⟩ := atoms_slice hu
  obtain ⟨n, hn⟩ : ∃ x, x = l.length := ⟨_, rfl⟩
  obtain ⟨fn, hfn⟩ : ∃ x, x = fs.length := ⟨_, rfl⟩
  rw [← hn] at HR ⊢
  rw [← hfn] at HU ⊢
  clear hn hfn hrl hu
  by_cases hv : ValR l fs
  · have HV := Lib.hid hv
    have HC := Lib.hid (valid_any l fs _ _ w HR.out HU.out true ⟨fun _ => hv, fun _ => rfl⟩)
    clear hv
    go_enter Try.func47, Try.ntmps47
    go_wp2_with fail
    refine HC.out.mono ?_
    clear HC
    rintro e w1 ⟨rfl, hb1⟩
    have HB1 := Lib.hid hb1
    have HC := Lib.hid (ground_any l fs HV.out _ _ w1 (HR.out.keep hb1) (HU.out.keep hb1))
    clear hb1
    go_wp2_with fail
    refine HC.out.mono ?_
    clear HC
    rintro e w2 ⟨bp, M, S, rfl, hp, hg, hb2⟩
    have HB2 := Lib.hid (Below.tr HB1.out hb2)
    have HP := Lib.hid hp
    have HG := Lib.hid hg
    have HC := Lib.hid (setOf_any fs HV.out.fcs _ w2 (HU.out.keep HB2.out))
    clear hp hg hb2
    go_wp2_with fail
    refine HC.out.mono ?_
    clear HC
    rintro e w3 ⟨mv, nv, rfl, hk, hb3⟩
    have HB23 := Lib.hid hb3
    have HB3 := Lib.hid (Below.tr HB2.out hb3)
    have HK := Lib.hid hk
    have HC := Lib.hid (setOf_any [] (fun f hf => by cases hf) (.slice none 0 0) w3 (atoms_nil w3))
    clear hk hb3
    go_wp2_with fail
    refine HC.out.mono ?_
    clear HC
    rintro e w4 ⟨m0, n0, rfl, hk, hb4⟩
    have HB34 := Lib.hid hb4
    have HK0 := Lib.hid (show KSet w4 m0 n0 (fun _ => False) from hk.congr fun v => ⟨fun ⟨f, h, _⟩ => (by cases h), fun h => h.elim⟩)
    clear hk hb4
    have HP3 := Lib.hid (HP.out.keep HB23.out)
    go_wp2_with fail
    go_loopw [10] (fun vs wr => ∃ (ms ns : Nat) (T : Int → Prop), vs = .map (some ms) ∧ KSet wr ms ns T ∧ Und S.I fs T ∧ Below w3.heap.size w3 wr) (fun vs wr => 300 - msz vs wr)
    case atStart => exact ⟨m0, n0, _, rfl, HK0.out, und_0 _ _, HB34.out⟩
    case round =>
      generalize wr = wx at *
      clear HK0 HB34
      obtain ⟨ms, ns, T, rfl, hk, hund, hb⟩ := hrel
      have HKs := Lib.hid hk
      have HUn := Lib.hid hund
      have HBx := Lib.hid hb
      have HMs := Lib.hid (msz_eq hk)
      have Hns := Lib.hid hk.le
      have hcn : ∀ (w0 : World) k (h : k < S.I.length) (w' : World), Below w0.heap.size w0 w' → Calls Try.prog 104 #[.int .i64 (S.I[k].rule : Int)] w' fun e w2 => e = .returned (.bool ((fun _ => true) S.I[k].rule)) ∧ ∃ q, w2 = w'.drewN q := fun _ k h w' _ => every_any _ w'
      have HCn := Lib.hid hcn
      have HC := Lib.hid (conF_any (HP3.out.keep hb) (gd_insV HV.out HG.out) HG.out.cnt HG.out.mem HG.out.le mv ms nv ns _ _ (HK.out.keep hb) hk (fun _ => true) (hcn wx))
      clear hk hund hb hcn
      go_wp2_with fail
      refine HC.out.mono ?_
      clear HC
      rintro e w5 ⟨mu, nu, rfl, hku, _, hb5⟩
      have HBx5 := Lib.hid hb5
      have HB5 := Lib.hid (Below.tr HBx.out hb5)
      have HKu := Lib.hid (show KSet w5 mu nu (gam S.I fs T) from hku)
      have HC := Lib.hid (conF_any (HP3.out.keep HB5.out) (gd_insV HV.out HG.out) HG.out.cnt HG.out.mem HG.out.le mv mu nv nu _ _ (HK.out.keep HB5.out) hku (fun _ => true) (HCn.out w5))
      clear hku hb5
      go_wp2_with fail
      refine HC.out.mono ?_
      clear HC
      rintro e w6 ⟨mn, nn, rfl, hkn, _, hb6⟩
      have HBx6 := Lib.hid (Below.tr HBx5.out hb6)
      have HB6 := Lib.hid (Below.tr HB5.out hb6)
      have HKn := Lib.hid (show KSet w6 mn nn (gam S.I fs (gam S.I fs T)) from hkn)
      have HKu6 := Lib.hid (HKu.out.keep hb6)
      have HKs6 := Lib.hid (HKs.out.keep HBx6.out)
      clear hkn hb6
      by_cases he : ∀ v, gam S.I fs (gam S.I fs T) v ↔ T v
      · have HLf := Lib.hid (HUn.out.done he)
        have HC := Lib.hid (mapsEq_any HKn.out HKs6.out true ⟨fun _ => he, fun _ => rfl⟩)
        clear he
        go_wp2_with fail
        refine HC.out.mono ?_
        clear HC
        rintro e w7 ⟨rfl, hb7⟩
        have HB7 := Lib.hid (Below.tr HB6.out hb7)
        have HKu7 := Lib.hid (HKu6.out.keep hb7)
        have HKs7 := Lib.hid (HKs6.out.keep hb7)
        have hok : ∀ c, gam S.I fs T c → ∃ f, FcR f ∧ pcd f = c := fun c hc => by
          refine ConsI.least (C := fun c => ∃ f, FcR f ∧ pcd f = c) (fun c ⟨f, h1, h2⟩ => ⟨f, HV.out.fcs f h1, h2⟩) (fun i hi _ _ _ => ?_) hc
          obtain ⟨r, m, h1, h2, h3⟩ := HG.out.gr.sound i hi
          rw [h3]
          exact ⟨_, gnd_fc (HV.out.ats r (List.mem_of_getElem? h1)).1 fun t ht => h2 t (.inl ht), rfl⟩
        have hokT : ∀ c, T c → ∃ f, FcR f ∧ pcd f = c := fun c hc => by
          have h1 := HLf.out.low (fun c => ∃ f, FcR f ∧ pcd f = c) (fun c hc => by
            refine ConsI.least (C := fun c => ∃ f, FcR f ∧ pcd f = c) (fun c ⟨f, h1, h2⟩ => ⟨f, HV.out.fcs f h1, h2⟩) (fun i hi _ _ _ => ?_) hc
            obtain ⟨r, m, h1, h2, h3⟩ := HG.out.gr.sound i hi
            rw [h3]
            exact ⟨_, gnd_fc (HV.out.ats r (List.mem_of_getElem? h1)).1 fun t ht => h2 t (.inl ht), rfl⟩) c hc
          exact h1
        have HOk := Lib.hid (fun c (hc : gam S.I fs T c ∧ ¬ T c) => hok c hc.1)
        have HC := Lib.hid (list_any hokT w7 HKs7.out)
        clear hb7 hok hokT
        go_wp2_with fail
        refine HC.out.mono ?_
        clear HC
        rintro e w8 ⟨a1, n1, c1, L1, rfl, hL1, ho1, hb8⟩
        have HB8 := Lib.hid (Below.tr HB7.out hb8)
        have HKu8 := Lib.hid (HKu7.out.keep hb8)
        have HKs8 := Lib.hid (HKs7.out.keep hb8)
        have HL1 := Lib.hid hL1
        have HO1 := Lib.hid (own_mono ho1 (show w.heap.size ≤ w7.heap.size from by have := HB7.out.size; have := HB3.out.size; omega))
        have HC := Lib.hid (minus_any HKu8.out HKs8.out)
        clear hb8 hL1 ho1
        go_wp2_with fail
        refine HC.out.mono ?_
        clear HC
        rintro e w9 ⟨mm, nm, rfl, hkm, hb9⟩
        have HB9 := Lib.hid (Below.tr HB8.out hb9)
        have HO1 := Lib.hid (HO1.out.keep hb9)
        have HC := Lib.hid (list_any HOk.out w9 hkm)
        clear hkm hb9
        go_wp2_with fail
        refine HC.out.mono ?_
        clear HC
        rintro e wz ⟨a2, n2, c2, L2, rfl, hL2, ho2, hbz⟩
        have HBz := Lib.hid (show Below w.heap.size w wz from Below.tr HB3.out (Below.tr HB9.out hbz))
        have HE := Lib.hid (show FndE l fs w.heap.size wz (.returned (.tuple #[.slice a1 n1 c1, .slice a2 n2 c2, .int .i64 0])) from .inr ⟨HV.out, S, T, a1, n1, c1, a2, n2, c2, L1, L2, HG.out, HLf.out, rfl, HO1.out.keep hbz, own_mono ho2 (by have := HB9.out.size; have := HB3.out.size; omega), HL1.out, hL2⟩)
        clear hL2 ho2 hbz
        go_wp2_with fail
        go_ret3
        exact ⟨HE.out, HBz.out⟩
      · have HC := Lib.hid (mapsEq_any HKn.out HKs6.out false ⟨fun h => (by cases h), fun h => absurd h he⟩)
        have Hlt := Lib.hid (HKs.out.lt_of HKn.out HUn.out.up fun h => he fun v => (h v).symm)
        clear he
        go_wp2_with fail
        refine HC.out.mono ?_
        clear HC
        rintro e w7 ⟨rfl, hb7⟩
        have HB7 := Lib.hid (Below.tr HB6.out hb7)
        have HKn7 := Lib.hid (HKn.out.keep hb7)
        clear hb7
        go_wp2_with fail
        go_roundw
        case rel => exact ⟨mn, nn, _, rfl, HKn7.out, HUn.out.next, HB7.out⟩
        case measure =>
          rw [HMs.out, msz_eq HKn7.out]
          have := Hlt.out
          have := Hns.out
          omega
  · have HV := Lib.hid hv
    have HC := Lib.hid (valid_any l fs _ _ w HR.out HU.out false ⟨fun h => (by cases h), fun h => absurd h hv⟩)
    clear hv
    go_enter Try.func47, Try.ntmps47
    go_wp2_with fail
    refine HC.out.mono ?_
    clear HC
    rintro e w1 ⟨rfl, hb1⟩
    have HB1 := Lib.hid hb1
    clear hb1
    go_wp2_with fail
    go_ret3
    exact ⟨.inl ⟨HV.out, rfl⟩, HB1.out⟩
#print axioms Founded_any
end Go.Proofs.Ythndplkjhbmfmaa
