/- The model: math. Stratum by stratum, in facts and in codes. -/
import Derived.Test.YthndplkjhbmfmaaRgm
namespace Go.Proofs.Ythndplkjhbmfmaa
open Go.RowKit
/-- only valid facts count for K -/
theorem Cons.congrV {l : List RRule} (hl : RuV l) {rs rs' : RRule → Prop} {S S' K K' : RAt → Prop} (hr : ∀ r, rs r → rs' r ∧ r ∈ l) (hS : ∀ f, S f → S' f) (hK : ∀ f, FcR f → K' f → K f) {f : RAt} (h : Cons rs S K f) : Cons rs' S' K' f := by
  induction h with
  | given h => exact .given (hS _ h)
  | @step r m h1 h2 _ h4 ih =>
    obtain ⟨q1, q2⟩ := hr _ h1
    exact .step q1 h2 ih fun b hb hn hk => h4 b hb hn (hK _ (gnd_fc ((hl r q2).2 b hb) fun t ht => h2 t (.inr ⟨b, hb, ht⟩)) hk)
theorem cons_rch {l : List RRule} {I : List PIn} {Rc : Int → Prop} (hI : Ground l I Rc) {rs : RRule → Prop} (hr : ∀ r, rs r → r ∈ l) {S K : RAt → Prop} (hS : ∀ f, S f → Rc (pcd f)) {f : RAt} (h : Cons rs S K f) : Rc (pcd f) := by
  induction h with
  | given h => exact hS _ h
  | @step r m h1 h2 _ _ ih =>
    obtain ⟨k, hk, e⟩ := List.getElem_of_mem (hr r h1)
    have hin := hI.full k r m (by rw [List.getElem?_eq_getElem hk, e]) h2 fun b hb hn => ih b hb hn
    exact hI.closed _ hin
/-- the model up to a stratum, in codes -/
def lvl (I : List PIn) (cn : Nat → Nat → Bool) (G : Int → Prop) : Nat → Int → Prop
  | 0 => G
  | s + 1 => ConsI I (cn s) (lvl I cn G s) (lvl I cn G s)
/-- the model up to a stratum -/
def mlv (l : List RRule) (L : List Int) (G : RAt → Prop) : Nat → RAt → Prop
  | 0 => G
  | s + 1 => Cons (fun r => r ∈ l ∧ L.getD r.1.1.toNat 0 = (s : Int)) (mlv l L G s) (mlv l L G s)
def cnS (l : List RRule) (L : List Int) (s k : Nat) : Bool := L.getD (l.getD k ((0, []), [])).1.1.toNat 0 == (s : Int)
theorem ConsI.congr {I : List PIn} {cnt cnt' : Nat → Bool} {S S' K K' : Int → Prop} (hc : ∀ k, cnt k = true → cnt' k = true) (hS : ∀ f, S f → S' f) (hK : ∀ f, K' f → K f) {c : Int} (h : ConsI I cnt S K c) : ConsI I cnt' S' K' c := by
  induction h with
  | given h => exact .given (hS _ h)
  | step h1 h2 _ h4 ih => exact .step h1 (hc _ h2) ih fun c hb hk => h4 c hb (hK _ hk)
theorem mlv_ok {l : List RRule} (hl : RuV l) {I : List PIn} {Rc : Int → Prop} (hI : Ground l I Rc) {L : List Int} {G : RAt → Prop} (hG : ∀ f, G f → FcR f ∧ Rc (pcd f)) : ∀ s f, mlv l L G s f → FcR f ∧ Rc (pcd f)
  | 0, f, h => hG f h
  | s + 1, _, h => ⟨cons_valid hl (fun _ hr => hr.1) (fun f hf => (mlv_ok hl hI hG s f hf).1) h, cons_rch hI (fun _ hr => hr.1) (fun f hf => (mlv_ok hl hI hG s f hf).2) h⟩
theorem lvl_mlv {l : List RRule} (hl : RuV l) {I : List PIn} {Rc : Int → Prop} (hI : Ground l I Rc) {L : List Int} {G : RAt → Prop} (hG : ∀ f, G f → FcR f ∧ Rc (pcd f)) : ∀ s c, lvl I (cnS l L) (fun c => ∃ f, G f ∧ pcd f = c) s c ↔ ∃ f, mlv l L G s f ∧ pcd f = c
  | 0, c => Iff.rfl
  | s + 1, c => by
    have ih := lvl_mlv hl hI (L := L) hG s
    have hok := mlv_ok hl hI (L := L) hG s
    have hgc := ground_cons hl hI (cnS l L s) (mlv l L G s) (fun c => ∃ f, mlv l L G s f ∧ pcd f = c) hok c
    have hrs : ∀ r : RRule, (∃ k, l[k]? = some r ∧ cnS l L s k = true) ↔ (r ∈ l ∧ L.getD r.1.1.toNat 0 = (s : Int)) := fun r => by
      constructor
      · rintro ⟨k, hk, hc⟩
        refine ⟨List.mem_of_getElem? hk, ?_⟩
        unfold cnS at hc
        rw [List.getD_eq_getElem?_getD (l := l), hk] at hc
        simpa using hc
      · rintro ⟨hm, hc⟩
        obtain ⟨k, hk, e⟩ := List.getElem_of_mem hm
        refine ⟨k, by rw [List.getElem?_eq_getElem hk, e], ?_⟩
        unfold cnS
        rw [List.getD_eq_getElem?_getD (l := l), List.getElem?_eq_getElem hk, e]
        simpa using hc
    have hK : ∀ f, FcR f → ((∃ g, mlv l L G s g ∧ pcd g = pcd f) ↔ mlv l L G s f) := fun f hf => ⟨fun ⟨g, h1, h2⟩ => by rw [← pcd_inj (hok g h1).1 hf h2]; exact h1, fun h => ⟨f, h, rfl⟩⟩
    show ConsI I (cnS l L s) (lvl I (cnS l L) (fun c => ∃ f, G f ∧ pcd f = c) s) (lvl I (cnS l L) (fun c => ∃ f, G f ∧ pcd f = c) s) c ↔ ∃ f, Cons (fun r => r ∈ l ∧ L.getD r.1.1.toNat 0 = (s : Int)) (mlv l L G s) (mlv l L G s) f ∧ pcd f = c
    constructor
    · intro h
      obtain ⟨f, h1, h2⟩ := hgc.1 (h.congr (fun _ h => h) (fun c => (ih c).1) fun c => (ih c).2)
      exact ⟨f, h1.congrV hl (fun r hr => ⟨(hrs r).1 hr, ((hrs r).1 hr).1⟩) (fun _ h => h) fun f hf h => (hK f hf).2 h, h2⟩
    · rintro ⟨f, h1, h2⟩
      refine ConsI.congr (fun _ h => h) (fun c => (ih c).2) (fun c => (ih c).1) (hgc.2 ⟨f, h1.congrV hl (fun r hr => ⟨(hrs r).2 hr, hr.1⟩) (fun _ h => h) fun f hf h => (hK f hf).1 h, h2⟩)
/-- the facts of a set in their order -/
structure SrtF (cs : List RAt) (P : RAt → Prop) : Prop where
  mem : ∀ f, f ∈ cs ↔ P f
  asc : cs.Pairwise fun a b => pcd a < pcd b
  fcs : ∀ f, f ∈ cs → FcR f
theorem SrtF.congr {cs : List RAt} {P P' : RAt → Prop} (h : SrtF cs P) (hp : ∀ f, P f ↔ P' f) : SrtF cs P' := ⟨fun f => (h.mem f).trans (hp f), h.asc, h.fcs⟩
theorem srtF_eq : ∀ {cs ds : List RAt} {P : RAt → Prop} (_ : SrtF cs P) (_ : SrtF ds P), cs = ds := by
  have key : ∀ (cs ds : List RAt), (∀ f, f ∈ cs ↔ f ∈ ds) → cs.Pairwise (fun a b => pcd a < pcd b) → ds.Pairwise (fun a b => pcd a < pcd b) → cs = ds := by
    intro cs
    induction cs with
    | nil => intro ds h _ _; cases ds with | nil => rfl | cons d ds => exact absurd ((h d).2 (by simp)) (by simp)
    | cons c cs ih =>
      intro ds h h1 h2
      cases ds with
      | nil => exact absurd ((h c).1 (by simp)) (by simp)
      | cons d ds =>
        rw [List.pairwise_cons] at h1 h2
        have e : c = d := by
          rcases List.mem_cons.1 ((h c).1 (by simp)) with e | e
          · exact e
          · rcases List.mem_cons.1 ((h d).2 (by simp)) with e2 | e2
            · exact e2.symm
            · have a := h2.1 c e
              have b := h1.1 d e2
              omega
        subst e
        rw [ih ds (fun f => ?_) h1.2 h2.2]
        constructor
        · intro hf
          rcases List.mem_cons.1 ((h f).1 (List.mem_cons_of_mem _ hf)) with e | e
          · subst e; have := h1.1 f hf; omega
          · exact e
        · intro hf
          rcases List.mem_cons.1 ((h f).2 (List.mem_cons_of_mem _ hf)) with e | e
          · subst e; have := h2.1 f hf; omega
          · exact e
  intro cs ds P h k
  exact key _ _ (fun f => (h.mem f).trans (k.mem f).symm) h.asc k.asc
theorem srtF_of {L : List Int} {p : Int → Prop} {P : RAt → Prop} (h1 : ∀ v, v ∈ L ↔ p v) (h2 : L.Pairwise fun a b => a < b) (hp : ∀ c, p c ↔ ∃ f, P f ∧ pcd f = c) (hP : ∀ f, P f → FcR f) : SrtF (L.map unpc) P := by
  have hu : ∀ c, c ∈ L → FcR (unpc c) ∧ pcd (unpc c) = c ∧ P (unpc c) := fun c hc => by
    obtain ⟨f, hf, e⟩ := (hp c).1 ((h1 c).1 hc)
    have hs := unpc_spec ⟨f, hP f hf, e⟩
    have : unpc c = f := by rw [← e]; exact unpc_pcd (hP f hf)
    exact ⟨hs.1, hs.2, this ▸ hf⟩
  refine ⟨fun f => ?_, ?_, fun f hf => ?_⟩
  · rw [List.mem_map]
    constructor
    · rintro ⟨c, hc, rfl⟩; exact (hu c hc).2.2
    · intro hf
      exact ⟨pcd f, (h1 _).2 ((hp _).2 ⟨f, hf, rfl⟩), unpc_pcd (hP f hf)⟩
  · rw [List.pairwise_map]
    refine h2.imp_of_mem fun {a b} ha hb hab => ?_
    rw [(hu a ha).2.1, (hu b hb).2.1]; exact hab
  · obtain ⟨c, hc, rfl⟩ := List.mem_map.1 hf
    exact (hu c hc).1
#print axioms lvl_mlv
#print axioms srtF_eq
end Go.Proofs.Ythndplkjhbmfmaa
