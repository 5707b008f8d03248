/- Steps of the program of ground instances: a row is stored, a fact is reached, an instance is added. -/
import Derived.Test.YthndplkjhbmfmaaRpg
namespace Go.Proofs.Ythndplkjhbmfmaa
open Go.RowKit
theorem PG.mbNe {base bnd : Nat} {w : World} {bp : Nat} {rl : Value} {M : PMem} {S : PSt} (h : PG base bnd w bp rl M S) : M.mb ≠ bp ∧ M.vi.ownBlock ≠ some M.mb ∧ M.vi.ownBlock ≠ some bp := by
  obtain ⟨n, hs, _⟩ := h.set
  obtain ⟨es, clock, hm, _⟩ := hs.len_run
  refine ⟨fun e => ?_, fun e => ?_, fun e => ?_⟩
  · have hb := h.blk
    rw [← e, hm] at hb
    injection hb with hb
    cases hb
  · obtain ⟨us, _, h2, _⟩ := h.ins
    rcases h2.2 with ⟨e2, _⟩ | ⟨g', cap, cur', e2, _, hh, _⟩
    · rw [e2] at e; cases e
    · rw [e2] at e
      have e3 : g' = M.mb := Option.some.inj e
      rw [e3, hm] at hh
      injection hh with hh
      cases hh
  · obtain ⟨us, _, h2, _⟩ := h.ins
    rcases h2.2 with ⟨e2, _⟩ | ⟨g', cap, cur', e2, _, hh, _⟩
    · rw [e2] at e; cases e
    · rw [e2] at e
      have e3 : g' = bp := Option.some.inj e
      rw [e3, h.blk] at hh
      injection hh with hh
      injection hh with _ hh _
      exact absurd hh (by decide)
/-- a row is stored -/
theorem PG.put {base bnd : Nat} {w w' : World} {bp : Nat} {rl : Value} {M : PMem} {S : PSt} (h : PG base bnd w bp rl M S) {j : Nat} (hj : rowJ j) {v' : Value} {L' : List Int} (hg : w.grownBy w' (M.v j).ownBlock) (ho : OQ base w' v' L')
    (hor : v'.ownBlock = (M.v j).ownBlock ∨ ∀ k, v'.ownBlock = some k → w.heap.size ≤ k) :
    PG base bnd (w'.setCell ⟨bp, j, none⟩ v') bp rl { M with v := upd M.v j v' } { S with R := upd S.R j L' } ∧ Mv w (w'.setCell ⟨bp, j, none⟩ v') (Lv bp M) (Lv bp { M with v := upd M.v j v' }) := by
  have hbp : some bp ≠ (M.v j).ownBlock := fun e => (h.kinds hj e.symm).1 rfl
  have hmb : some M.mb ≠ (M.v j).ownBlock := fun e => (h.kinds hj e.symm).2.1 rfl
  have hvi : ∀ k, M.vi.ownBlock = some k → some k ≠ (M.v j).ownBlock := fun k hk e => (h.kinds hj e.symm).2.2 hk
  have hbpl := h.bpLt
  have hb' : w'.heap[bp]? = some (.cells (pcs rl M) 195 (0, 0)) := (hg.block bp hbpl hbp).trans h.blk
  have hblk : ∀ k, k < w.heap.size → k ≠ bp → some k ≠ (M.v j).ownBlock → (w'.setCell ⟨bp, j, none⟩ v').heap[k]? = w.heap[k]? := fun k hk h1 h2 =>
    (heap_setCell_other w' ⟨bp, j, none⟩ k v' h1).trans (hg.block k hk h2)
  have hnew : ∀ k, v'.ownBlock = some k → (M.v j).ownBlock = some k ∨ w.heap.size ≤ k := fun k hk => hor.elim (fun e => .inl (e ▸ hk)) fun e => .inr (e k hk)
  have hv'bp : ∀ k, v'.ownBlock = some k → k ≠ bp := fun k hk e => by
    rcases hnew k hk with q | q
    · exact hbp (by rw [q, e])
    · omega
  have hLv : ∀ k, Lv bp { M with v := upd M.v j v' } k → Lv bp M k ∨ w.heap.size ≤ k := fun k hk => by
    rcases hk with e | e | e | ⟨i, hi, e⟩
    · exact .inl (.inl e)
    · exact .inl (.inr (.inl e))
    · exact .inl (.inr (.inr (.inl e)))
    · by_cases q : i = j
      · subst q
        have e : v'.ownBlock = some k := by have e2 : (upd M.v i v' i).ownBlock = some k := e; rwa [upd_same] at e2
        rcases hnew k e with q | q
        · exact .inl (.inr (.inr (.inr ⟨i, hi, q⟩)))
        · exact .inr q
      · have e : (M.v i).ownBlock = some k := by have e2 : (upd M.v j v' i).ownBlock = some k := e; rwa [upd_other _ _ q] at e2
        exact .inl (.inr (.inr (.inr ⟨i, hi, e⟩)))
  have hMv : Mv w (w'.setCell ⟨bp, j, none⟩ v') (Lv bp M) (Lv bp { M with v := upd M.v j v' }) :=
    ⟨hg.os, hg.tape, hg.output, by simpa using hg.size, fun k hk hn => hblk k hk (fun e => hn (.inl e)) (fun e => hn (.inr (.inr (.inr ⟨j, hj, e.symm⟩)))), hLv⟩
  refine ⟨⟨?_, fun k hk => ?_, fun i hi => ?_, fun i k hi hk hne g hig => ?_, ?_, Nat.le_trans h.bl hMv.size, ?_⟩, hMv⟩
  · rw [heap_setCell_same w' bp j _ _ v' hb', pcs_row hj]
  · rcases hk with e | e | e | ⟨i, hi, e⟩
    · exact h.ge k (.inl e)
    · exact h.ge k (.inr (.inl e))
    · exact h.ge k (.inr (.inr (.inl e)))
    · by_cases q : i = j
      · subst q
        have e : v'.ownBlock = some k := by have e2 : (upd M.v i v' i).ownBlock = some k := e; rwa [upd_same] at e2
        exact (ho.lt e).1
      · have e : (M.v i).ownBlock = some k := by have e2 : (upd M.v j v' i).ownBlock = some k := e; rwa [upd_other _ _ q] at e2
        exact h.ge k (.inr (.inr (.inr ⟨i, hi, e⟩)))
  · by_cases q : i = j
    · subst q
      show OQ base _ (upd M.v i v' i) (upd S.R i L' i)
      rw [upd_same, upd_same]
      exact ho.block fun g hgv => heap_setCell_other w' ⟨bp, i, none⟩ g v' (hv'bp g hgv)
    · show OQ base _ (upd M.v j v' i) (upd S.R j L' i)
      rw [upd_other _ _ q, upd_other _ _ q]
      exact (h.rows i hi).block fun g hgv => hblk g ((h.rows i hi).lt hgv).2 (h.kinds hi hgv).1 fun e => h.apart i j hi hj q g hgv e.symm
  · have hig : (upd M.v j v' i).ownBlock = some g := hig
    show (upd M.v j v' k).ownBlock ≠ some g
    by_cases q : i = j
    · subst q
      rw [upd_same] at hig
      rw [upd_other _ _ (fun e => hne e.symm)]
      intro e
      rcases hnew g hig with q | q
      · exact h.apart i k hi hk hne g q e
      · have := ((h.rows k hk).lt e).2; omega
    · have hig2 : (M.v i).ownBlock = some g := by
        have e2 := hig
        rwa [upd_other _ _ q] at e2
      by_cases q2 : k = j
      · subst q2
        rw [upd_same]
        intro e
        rcases hnew g e with q | q
        · exact h.apart i k hi hk hne g hig2 q
        · have := ((h.rows i hi).lt hig2).2; omega
      · rw [upd_other _ _ q2]
        exact h.apart i k hi hk hne g hig2
  · exact h.ins.chg h.bl (fun k hk => hblk k (h.lvLt (.inr (.inr (.inl hk)))) (fun e => h.mbNe.2.2 (by rw [hk, e])) (hvi k hk)) (fun k hk hn => hMv.blk k (Nat.lt_of_lt_of_le hk h.bl) hn) hLv
  · obtain ⟨n, hs, hn⟩ := h.set
    exact ⟨n, hs.kept (row := some bp) ⟨rfl, rfl, rfl, Nat.le_refl _, fun _ _ _ => rfl⟩ (by simp [h.mbNe.1]) |>.kept hg hmb |>.kept (grown_setCell w' bp j v') (by simp [h.mbNe.1]), hn⟩
/-- a fact is reached -/
theorem PG.putMap {base bnd : Nat} {w w' : World} {bp : Nat} {rl : Value} {M : PMem} {S : PSt} (h : PG base bnd w bp rl M S) {n : Nat} {p : Int → Prop} (hg : w.grownBy w' (some M.mb)) (hs : KSet w' M.mb n p) (hn : n ≤ 1000) :
    PG base bnd w' bp rl M { S with rch := p } ∧ Mv w w' (Lv bp M) (Lv bp M) := by
  have hne := h.mbNe
  refine ⟨⟨(hg.block bp h.bpLt (fun e => hne.1 (Option.some.inj e).symm)).trans h.blk, h.ge, fun j hj => (h.rows j hj).block fun g hgv => hg.block g ((h.rows j hj).lt hgv).2 fun e => (h.kinds hj hgv).2.1 (Option.some.inj e), h.apart,
    h.ins.chg h.bl (fun k hk => hg.block k (h.lvLt (.inr (.inr (.inl hk)))) fun e => hne.2.1 (by rw [hk, e])) (fun k hk hd => hg.block k (Nat.lt_of_lt_of_le hk h.bl) fun e => hd (.inr (.inl (Option.some.inj e)))) (fun k hk => .inl hk), Nat.le_trans h.bl hg.size, n, hs, hn⟩,
    ⟨hg.os, hg.tape, hg.output, hg.size, fun k hk hd => hg.block k hk fun e => hd (.inr (.inl (Option.some.inj e))), fun k hk => .inl hk⟩⟩
theorem inC_len : ∀ {l : List PIn} {us : List (Value × Value)}, us.length = l.length → (inC l us).length = l.length * 4
  | [], [], _ => rfl
  | a :: l, v :: vs, h => by
    have := inC_len (l := l) (us := vs) (by simpa using h)
    simp only [inC, List.length_cons] at *
    omega
theorem inC_snoc : ∀ {l : List PIn} {us : List (Value × Value)} (_ : us.length = l.length) (a : PIn) (v : Value × Value), inC (l ++ [a]) (us ++ [v]) = inC l us ++ [.int .i64 a.rule, .int .i64 a.head, v.1, v.2]
  | [], [], _, _, _ => rfl
  | b :: l, u :: us, h, a, v => by
    have := inC_snoc (l := l) (us := us) (by simpa using h) a v
    show Value.int .i64 b.rule :: .int .i64 b.head :: u.1 :: u.2 :: inC (l ++ [a]) (us ++ [v]) = _
    rw [this]; rfl
/-- an instance is added -/
theorem PG.putIns {base bnd : Nat} {w w' : World} {bp : Nat} {rl : Value} {M : PMem} {S : PSt} (h : PG base bnd w bp rl M S) {us : List (Value × Value)} (h1 : us.length = S.I.length) (h3 : ∀ i (h : i < S.I.length) (h' : i < us.length), (Ints w us[i].1 S.I[i].need ∧ Old bnd (Lv bp M) us[i].1) ∧ Ints w us[i].2 S.I[i].avoid ∧ Old bnd (Lv bp M) us[i].2)
    {a : PIn} {x y v' : Value} (hx : Ints w x a.need ∧ Old bnd (Lv bp M) x) (hy : Ints w y a.avoid ∧ Old bnd (Lv bp M) y) (hg : w.grownBy w' M.vi.ownBlock) (ho : w'.ownsRow base 207 4 v' (S.I.length + 1) (inC S.I us ++ [.int .i64 a.rule, .int .i64 a.head, x, y]))
    (hor : v'.ownBlock = M.vi.ownBlock ∨ ∀ k, v'.ownBlock = some k → w.heap.size ≤ k) :
    PG base bnd (w'.setCell ⟨bp, 1, none⟩ v') bp rl { M with vi := v' } { S with I := S.I ++ [a] } ∧ Mv w (w'.setCell ⟨bp, 1, none⟩ v') (Lv bp M) (Lv bp { M with vi := v' }) := by
  have hne := h.mbNe
  have hbp : some bp ≠ M.vi.ownBlock := fun e => hne.2.2 e.symm
  have hmb : some M.mb ≠ M.vi.ownBlock := fun e => hne.2.1 e.symm
  have hbpl := h.bpLt
  have hb' : w'.heap[bp]? = some (.cells (pcs rl M) 195 (0, 0)) := (hg.block bp hbpl hbp).trans h.blk
  have hblk : ∀ k, k < w.heap.size → k ≠ bp → some k ≠ M.vi.ownBlock → (w'.setCell ⟨bp, 1, none⟩ v').heap[k]? = w.heap[k]? := fun k hk h1 h2 =>
    (heap_setCell_other w' ⟨bp, 1, none⟩ k v' h1).trans (hg.block k hk h2)
  have hnew : ∀ k, v'.ownBlock = some k → M.vi.ownBlock = some k ∨ w.heap.size ≤ k := fun k hk => hor.elim (fun e => .inl (e ▸ hk)) fun e => .inr (e k hk)
  have hv'bp : ∀ k, v'.ownBlock = some k → k ≠ bp := fun k hk e => by
    rcases hnew k hk with q | q
    · exact hbp (by rw [q, e])
    · omega
  have hLv : ∀ k, Lv bp { M with vi := v' } k → Lv bp M k ∨ w.heap.size ≤ k := fun k hk => by
    rcases hk with e | e | e | ⟨i, hi, e⟩
    · exact .inl (.inl e)
    · exact .inl (.inr (.inl e))
    · rcases hnew k e with q | q
      · exact .inl (.inr (.inr (.inl q)))
      · exact .inr q
    · exact .inl (.inr (.inr (.inr ⟨i, hi, e⟩)))
  have hMv : Mv w (w'.setCell ⟨bp, 1, none⟩ v') (Lv bp M) (Lv bp { M with vi := v' }) :=
    ⟨hg.os, hg.tape, hg.output, by simpa using hg.size, fun k hk hn => hblk k hk (fun e => hn (.inl e)) (fun e => hn (.inr (.inr (.inl e.symm)))), hLv⟩
  have hold : ∀ {L : List Int} {x : Value}, Ints w x L ∧ Old bnd (Lv bp M) x → Ints (w'.setCell ⟨bp, 1, none⟩ v') x L ∧ Old bnd (Lv bp { M with vi := v' }) x := fun ⟨a1, a2⟩ =>
    ⟨ints_blk a1 fun k hk2 => hMv.blk k (Nat.lt_of_lt_of_le (a2 k hk2).2 h.bl) (a2 k hk2).1, fun k hk2 => ⟨fun hd => by
      rcases hLv k hd with e | e
      · exact (a2 k hk2).1 e
      · have := (a2 k hk2).2; have := h.bl; omega, (a2 k hk2).2⟩⟩
  refine ⟨⟨?_, fun k hk => ?_, fun i hi => (h.rows i hi).block fun g hgv => hblk g ((h.rows i hi).lt hgv).2 (h.kinds hi hgv).1 fun e => (h.kinds hi hgv).2.2 e.symm, h.apart, ⟨us ++ [(x, y)], by simp [h1], ?_, fun i a1 a2 => ?_⟩, Nat.le_trans h.bl hMv.size, ?_⟩, hMv⟩
  · rw [heap_setCell_same w' bp 1 _ _ v' hb', pcs_ins]
  · rcases hk with e | e | e | ⟨i, hi, e⟩
    · exact h.ge k (.inl e)
    · exact h.ge k (.inr (.inl e))
    · exact (own_lt ho e).1
    · exact h.ge k (.inr (.inr (.inr ⟨i, hi, e⟩)))
  · show (w'.setCell ⟨bp, 1, none⟩ v').ownsRow base _ 4 v' (S.I ++ [a]).length _
    rw [List.length_append, inC_snoc h1]
    exact own_block ho fun g hgv => heap_setCell_other w' ⟨bp, 1, none⟩ g v' (hv'bp g hgv)
  · have a1' : i < S.I.length + 1 := by have e : i < (S.I ++ [a]).length := a1; simpa using e
    by_cases e : i < S.I.length
    · have e1 : (us ++ [(x, y)])[i] = us[i] := List.getElem_append_left (by omega)
      have e2 : (S.I ++ [a])[i] = S.I[i] := List.getElem_append_left e
      obtain ⟨b1, b2, b3⟩ := h3 i e (by omega)
      rw [e1]
      show (Ints _ _ (S.I ++ [a])[i].need ∧ _) ∧ Ints _ _ (S.I ++ [a])[i].avoid ∧ _
      rw [e2]
      exact ⟨hold b1, hold ⟨b2, b3⟩⟩
    · have e3 : i = S.I.length := by omega
      subst e3
      have e1 : (us ++ [(x, y)])[S.I.length] = (x, y) := by rw [List.getElem_append_right (by omega)]; simp [h1]
      have e2 : (S.I ++ [a])[S.I.length] = a := by simp
      rw [e1]
      show (Ints _ _ (S.I ++ [a])[S.I.length].need ∧ _) ∧ Ints _ _ (S.I ++ [a])[S.I.length].avoid ∧ _
      rw [e2]
      exact ⟨hold hx, hold hy⟩
  · obtain ⟨n, hs, hn⟩ := h.set
    exact ⟨n, (hs.kept hg hmb).kept (grown_setCell w' bp 1 v') (by simp [hne.1]), hn⟩
#print axioms PG.put
#print axioms PG.putMap
#print axioms PG.putIns
end Go.Proofs.Ythndplkjhbmfmaa
