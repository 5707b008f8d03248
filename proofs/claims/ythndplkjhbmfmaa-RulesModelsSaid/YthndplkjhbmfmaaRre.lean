/- Contract of (*program).reach: a fact is reached. -/
import Derived.Test.YthndplkjhbmfmaaRps
namespace Go.Proofs.Ythndplkjhbmfmaa
open Go.RowKit
theorem KSet.le {w : World} {b n : Nat} {p : Int → Prop} (h : KSet w b n p) : n ≤ 294 := by
  obtain ⟨L, h1, h2, h3⟩ := h.count
  have := len_le (l := L) (m := (List.range 294).map fun i : Nat => (i : Int)) h1 fun x hx => by
    have hv := h.vok ((h3 x).1 hx)
    exact List.mem_map.2 ⟨x.toNat, List.mem_range.2 (by obtain ⟨a, b⟩ := hv; omega), by obtain ⟨a, b⟩ := hv; omega⟩
  rw [← h2]
  simpa using this
theorem oq_form {base : Nat} {w : World} {v : Value} {L : List Int} (h : OQ base w v L) : ∃ a n c, v = .slice a n c := by
  obtain ⟨a, c, e⟩ := h.slice
  exact ⟨a, _, c, e⟩
open Classical in
noncomputable def reachS (S : PSt) (c : Int) : PSt := ⟨S.I, if S.rch c then S.R else upd S.R 303 (S.R 303 ++ [c]), fun x => S.rch x ∨ x = c⟩
theorem reachS_in {S : PSt} {c : Int} (h : S.rch c) : reachS S c = ⟨S.I, S.R, fun x => S.rch x ∨ x = c⟩ := by unfold reachS; rw [if_pos h]
theorem reachS_new {S : PSt} {c : Int} (h : ¬ S.rch c) : reachS S c = ⟨S.I, upd S.R 303 (S.R 303 ++ [c]), fun x => S.rch x ∨ x = c⟩ := by unfold reachS; rw [if_neg h]
theorem PG.congr {base bnd : Nat} {w : World} {bp : Nat} {rl : Value} {M : PMem} {S : PSt} (h : PG base bnd w bp rl M S) {p : Int → Prop} (hp : ∀ c, S.rch c ↔ p c) : PG base bnd w bp rl M ⟨S.I, S.R, p⟩ :=
  ⟨h.blk, h.ge, h.rows, h.apart, h.ins, h.bl, by
    obtain ⟨n, hs, hn⟩ := h.set
    exact ⟨n, hs.congr hp, hn⟩⟩
/-- the known facts' rows are the same -/
def SameK (M M' : PMem) : Prop := ∀ j, 297 ≤ j → j < 303 → M'.v j = M.v j
theorem SameK.refl (M : PMem) : SameK M M := fun _ _ _ => rfl
theorem SameK.trans {M M' M2 : PMem} (h : SameK M M') (k : SameK M' M2) : SameK M M2 := fun j a b => (k j a b).trans (h j a b)
/-- what reach, add and join leave -/
def PgE (base bnd : Nat) (w w' : World) (bp : Nat) (rl : Value) (M : PMem) (S' : PSt) (e : Ending) : Prop := e = .returned (.tuple #[]) ∧ ∃ M', PG base bnd w' bp rl M' S' ∧ Mv w w' (Lv bp M) (Lv bp M') ∧ SameK M M'
theorem row303 : rowJ 303 := .inr ⟨by omega, by omega⟩
set_option maxRecDepth 100000 in
set_option maxHeartbeats 4000000 in
theorem reach_any {base bnd : Nat} {w : World} {bp : Nat} {rl : Value} {M : PMem} {S : PSt} (h : PG base bnd w bp rl M S) (hbase : base ≤ w.heap.size) (c : Int) (hc : KOk c) (hQ : (S.R 303).length ≤ 9000000000) :
    Calls Try.prog 119 #[.pointer (some ⟨bp, 0, none⟩), .int .i64 c] w fun e w' => PgE base bnd w w' bp rl M (reachS S c) e := by
  obtain ⟨n, hs, hn⟩ := h.set
  have hle := hs.le
  have H := Lib.hid h
  have HS := Lib.hid hs
  have g0 := h.cell (j := 296) (by omega)
  rw [if_neg (by omega), if_neg (by omega), if_pos rfl] at g0
  by_cases hr : S.rch c
  · have hl := hs.look hc true ⟨fun _ => hr, fun _ => rfl⟩
    have HE := Lib.hid (show PG base bnd w bp rl M (reachS S c) from by
      rw [reachS_in hr]
      exact h.congr fun x => ⟨.inl, fun k => k.elim id fun e => e ▸ hr⟩)
    clear h hs hr
    go_enter Try.func119, Try.ntmps119
    go_wp2_with fail
    go_end0
    exact ⟨rfl, M, HE.out, Mv.refl _ _, .refl _⟩
  · have hl := hs.look hc false ⟨fun k => (by cases k), fun k => absurd k hr⟩
    have Hc := Lib.hid hc
    have Hr := Lib.hid hr
    clear h hs hr hc
    go_enter Try.func119, Try.ntmps119
    go_upto_region 2 with (first | (at_mapUpdate; refine wpList_put_set rfl _ rfl _ _ _ rfl rfl rfl rfl HS.out Hc.out (by omega) ?_; intro w2 n2 hs2 hn2 hg2))
    obtain ⟨h2, m2⟩ := H.out.putMap hg2 hs2 (by omega)
    have H2 := Lib.hid h2
    have M2 := Lib.hid m2
    have hsz := hg2.size
    clear hs2 hn2 hg2 h2 m2 hl g0
    obtain ⟨w3, hw3⟩ : ∃ x, x = w2.alloc (.cells #[.int .i64 c] 3) := ⟨_, rfl⟩
    have hb3 : Below w2.heap.size w2 w3 := by rw [hw3]; exact below_alloc _ _
    obtain ⟨bl, hbl⟩ : ∃ x, x = w2.heap.size := ⟨_, rfl⟩
    have HL := Lib.hid (show w3.heap[bl]? = some (.cells #[.int .i64 c] 3 (0, 0)) from by rw [hw3, hbl]; exact heap_alloc_new _ _)
    have H3 := Lib.hid (H2.out.keep hb3)
    have M3 := Lib.hid (M2.out.trans (Mv.of_below hb3))
    have hb3s : base ≤ w3.heap.size := by have := hb3.size; omega
    have g3 := H2.out.cellR row303
    have Hw3 := Lib.hid hw3
    have Hbl := Lib.hid hbl
    clear hw3 hb3 hbl
    go_wp2_with (first | (at_builtin; rw [← Hw3.out, ← Hbl.out]; refine wpList_app_q rfl (.tmp 20) (.tmp 22) rfl rfl (H3.out.rows 303 row303) (Nat.le_trans hQ (by omega)) hb3s rfl (aCell HL.out 0 rfl) ?_; intro v5 w5 h51 h52 h53; obtain ⟨pa, pn, pk, rfl⟩ := oq_form h51; have HP := Lib.hid (H3.out.put row303 h52 h51 h53); have hbk := (h52.block bp H3.out.bpLt (fun e => (H3.out.kinds row303 e.symm).1 rfl)).trans H3.out.blk; have x1 := cell_of_row w5 bp 303 _ _ _ hbk; rw [pcs_at _ _ (by omega)] at x1; have x2 := frozen_of_row w5 bp 303 _ _ hbk; clear hbk h51 h52 h53 g3))
    go_end0
    exact ⟨rfl, _, by rw [reachS_new Hr.out]; exact HP.out.1, M3.out.trans HP.out.2, fun j h1 h2 => upd_other _ _ (by omega)⟩
#print axioms reach_any
end Go.Proofs.Ythndplkjhbmfmaa
