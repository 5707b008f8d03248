/- join: which instances it adds, and what they leave. -/
import Derived.Test.YthndplkjhbmfmaaRad
namespace Go.Proofs.Ythndplkjhbmfmaa
open Go.RowKit
open Classical in
/-- the fact of a code -/
noncomputable def unpc (k : Int) : RAt := if h : ∃ f, FcR f ∧ pcd f = k then h.choose else (0, [])
theorem unpc_spec {k : Int} (h : ∃ f, FcR f ∧ pcd f = k) : FcR (unpc k) ∧ pcd (unpc k) = k := by unfold unpc; rw [dif_pos h]; exact h.choose_spec
theorem unpc_pcd {f : RAt} (hf : FcR f) : unpc (pcd f) = f := by
  obtain ⟨h1, h2⟩ := unpc_spec ⟨f, hf, rfl⟩
  exact pcd_inj h1 hf h2
/-- what join passes over -/
def skipJ (k place : Nat) (x c : Int) : Bool := (decide (k < place) && (x == c)) || ((k == place) && (x != c))
/-- the bindings with which join adds an instance, in its order -/
noncomputable def joinM (K : Nat → List Int) (place : Nat) (c : Int) : List RAt → Nat → List Int → List (List Int)
  | [], _, m => [m]
  | a :: q, k, m => (K a.1.toNat).flatMap fun x => if skipJ k place x c then [] else match extA m a (unpc x) with
    | some y => joinM K place c q (k + 1) y
    | none => []
/-- instances are added one after another -/
noncomputable def addsS (S : PSt) (i : Nat) (r : RRule) (ms : List (List Int)) : PSt := ms.foldl (fun S m => addS S i r m) S
theorem addsS_nil (S : PSt) (i : Nat) (r : RRule) : addsS S i r [] = S := rfl
theorem addsS_one (S : PSt) (i : Nat) (r : RRule) (m : List Int) : addsS S i r [m] = addS S i r m := rfl
theorem addsS_app (S : PSt) (i : Nat) (r : RRule) (a b : List (List Int)) : addsS S i r (a ++ b) = addsS (addsS S i r a) i r b := by unfold addsS; rw [List.foldl_append]
/-- there is room for n instances more -/
def ShN (n : Nat) (S : PSt) : Prop := S.I.length + n ≤ 1000000000 ∧ ∀ j, (S.R j).length + 4 * n ≤ 5000000000
theorem ShN.short {n : Nat} {S : PSt} (h : ShN n S) : Short S := ⟨by have := h.1; omega, fun j => by have := h.2 j; omega⟩
theorem ShN.mono {n k : Nat} {S : PSt} (h : ShN n S) (hk : k ≤ n) : ShN k S := ⟨by have := h.1; omega, fun j => by have := h.2 j; omega⟩
theorem reachS_len (S : PSt) (c : Int) (j : Nat) : ((reachS S c).R j).length ≤ (S.R j).length + 1 := by
  by_cases hr : S.rch c
  · rw [reachS_in hr]; exact Nat.le_succ _
  · rw [reachS_new hr]
    show (upd S.R 303 (S.R 303 ++ [c]) j).length ≤ _
    unfold upd
    split
    · rename_i e; rw [e, List.length_append]; exact Nat.le_refl _
    · omega
theorem reachS_other (S : PSt) (c : Int) {j : Nat} (hj : j ≠ 303) : (reachS S c).R j = S.R j := by
  by_cases hr : S.rch c
  · rw [reachS_in hr]
  · rw [reachS_new hr]; exact upd_other _ _ hj
theorem reachS_I (S : PSt) (c : Int) : (reachS S c).I = S.I := rfl
theorem reachS_rch (S : PSt) (c x : Int) : (reachS S c).rch x ↔ S.rch x ∨ x = c := Iff.rfl
theorem addS_I (S : PSt) (i : Nat) (r : RRule) (m : List Int) : (addS S i r m).I = S.I ++ [insOf i r m] := rfl
theorem addS_rch (S : PSt) (i : Nat) (r : RRule) (m : List Int) (x : Int) : (addS S i r m).rch x ↔ S.rch x ∨ x = pcd (gnd m r.1) := Iff.rfl
theorem addU_other (idx : Int) : ∀ (cs : List Int) (R : Nat → List Int) {j : Nat}, (∀ c, c ∈ cs → 2 + c.toNat ≠ j) → addU idx R cs j = R j
  | [], _, _, _ => rfl
  | c :: cs, R, j, h => by
    have h1 := addU_other idx cs (useR idx R c) (j := j) fun x hx => h x (List.mem_cons_of_mem _ hx)
    show addU idx (useR idx R c) cs j = _
    rw [h1]
    exact upd_other _ _ fun e => h c (by simp) e.symm
theorem ShN.add {n : Nat} {S : PSt} (h : ShN (n + 1) S) (i : Nat) (r : RRule) (hr : r.2.length ≤ 3) (m : List Int) : ShN n (addS S i r m) := by
  obtain ⟨h1, h2⟩ := h
  refine ⟨by rw [addS_I, List.length_append]; show _ + 1 + n ≤ _; omega, fun j => ?_⟩
  have e1 := reachS_len ⟨S.I ++ [insOf i r m], addU (S.I.length : Int) S.R (needC r m r.2.length), S.rch⟩ (pcd (gnd m r.1)) j
  have e2 := addU_len (S.I.length : Int) (needC r m r.2.length) S.R j
  have e3 := (codes_len r m r.2.length).1
  have e4 := h2 j
  have e1 : ((addS S i r m).R j).length ≤ (addU (S.I.length : Int) S.R (needC r m r.2.length) j).length + 1 := e1
  omega
theorem needC_ok {r : RRule} {m : List Int} (hr : ∀ b, b ∈ r.2 → AtR b.2) (hm : Num6 r m) {k : Nat} {c : Int} (hc : c ∈ needC r m k) : KOk c := by
  unfold needC at hc
  obtain ⟨b, hb, rfl⟩ := List.mem_map.1 hc
  have hb2 : b ∈ r.2 := List.mem_of_mem_take (List.mem_filter.1 hb).1
  exact pcd_range (gnd_fc (hr b hb2) fun t ht => hm t (.inr ⟨b, hb2, ht⟩))
/-- the known ones stay -/
theorem addS_known {S : PSt} {i : Nat} {r : RRule} {m : List Int} (hr : ∀ b, b ∈ r.2 → AtR b.2) (hm : Num6 r m) {j : Nat} (h1 : 296 ≤ j) (h2 : j ≠ 303) : (addS S i r m).R j = S.R j := by
  unfold addS
  rw [reachS_other _ _ h2]
  exact addU_other _ _ _ fun c hc e => by
    have := needC_ok hr hm hc
    obtain ⟨a, b⟩ := this
    omega
theorem addsS_known {i : Nat} {r : RRule} (hr : ∀ b, b ∈ r.2 → AtR b.2) {j : Nat} (h1 : 296 ≤ j) (h2 : j ≠ 303) : ∀ (ms : List (List Int)) (S : PSt), (∀ m, m ∈ ms → Num6 r m) → (addsS S i r ms).R j = S.R j
  | [], _, _ => rfl
  | m :: ms, S, h => by
    show (addsS (addS S i r m) i r ms).R j = _
    rw [addsS_known hr h1 h2 ms _ fun x hx => h x (List.mem_cons_of_mem _ hx), addS_known hr (h m (by simp)) h1 h2]
theorem ShN.adds {i : Nat} {r : RRule} (hr : r.2.length ≤ 3) : ∀ (ms : List (List Int)) {n : Nat} {S : PSt}, ShN (ms.length + n) S → ShN n (addsS S i r ms)
  | [], n, S, h => by rw [addsS_nil]; exact h.mono (by simp)
  | m :: ms, n, S, h => by
    show ShN n (addsS (addS S i r m) i r ms)
    exact ShN.adds hr ms (ShN.add (by rw [List.length_cons] at h; rwa [show ms.length + n + 1 = ms.length + 1 + n by omega]) i r hr m)
theorem addsS_I (i : Nat) (r : RRule) : ∀ (ms : List (List Int)) (S : PSt), (addsS S i r ms).I = S.I ++ ms.map (insOf i r)
  | [], S => by simp [addsS]
  | m :: ms, S => by
    show (addsS (addS S i r m) i r ms).I = _
    rw [addsS_I i r ms, addS_I]
    simp
theorem addsS_rch (i : Nat) (r : RRule) : ∀ (ms : List (List Int)) (S : PSt) (x : Int), (addsS S i r ms).rch x ↔ S.rch x ∨ ∃ m, m ∈ ms ∧ x = pcd (gnd m r.1)
  | [], S, x => by simp [addsS]
  | m :: ms, S, x => by
    show (addsS (addS S i r m) i r ms).rch x ↔ _
    rw [addsS_rch i r ms, addS_rch]
    simp [or_assoc]
/-- the atoms that join goes through -/
structure LitsJ (w0 w : World) (D : Nat → Prop) (v : Value) (l : List RAt) : Prop where
  own : SubB 94 w0 0 w v l
  out : ∀ k, v.ownBlock = some k → ¬ D k
theorem subB_block {e : TypeId} {w0 w w' : World} {B : Nat} {v : Value} {l : List HAt} (h : SubB e w0 B w v l) (hb : ∀ k, v.ownBlock = some k → w'.heap[k]? = w.heap[k]?) : SubB e w0 B w' v l := by
  obtain ⟨vs, h1, h2, h3⟩ := h
  exact ⟨vs, h1, own_block h2 hb, h3⟩
theorem subB_lt {e : TypeId} {w0 w : World} {B : Nat} {v : Value} {l : List HAt} (h : SubB e w0 B w v l) {k : Nat} (hk : v.ownBlock = some k) : k < w.heap.size := by
  obtain ⟨vs, h1, h2, h3⟩ := h
  exact (own_lt h2 hk).2
theorem LitsJ.move {w0 w w' : World} {D D' : Nat → Prop} {v : Value} {l : List RAt} (h : LitsJ w0 w D v l) (hm : Mv w w' D D') : LitsJ w0 w' D' v l :=
  ⟨subB_block h.own fun k hk => hm.blk k (subB_lt h.own hk) (h.out k hk), fun k hk e => by
    rcases hm.new k e with q | q
    · exact h.out k hk q
    · have := subB_lt h.own hk; omega⟩
#print axioms LitsJ.move
end Go.Proofs.Ythndplkjhbmfmaa
