/- Contract of transform. -/
import Derived.Test.YtbnlkmblkokooaaBle
import Derived.Test.YtbnlkmblkokooaaLf
import Derived.Test.YtbnlkmblkokooaaLng
namespace Go.Proofs.Ytbnlkmblkokooaa
open Go.RowKit
theorem Bld.keep {B b : Nat} {l : Bs} {w w' : World} (h : Bld B b l w) (hb : Below w.heap.size w w') : Bld B b l w' := by
  have key : ∀ p, Lib.BuilderAt 63 5 B b p (Lib.byteCells l) w → Lib.BuilderAt 63 5 B b p (Lib.byteCells l) w' := by
    rintro p ⟨h1, v, h2, h3, h4⟩
    exact ⟨h1, v, (hb.block b (Array.getElem?_eq_some_iff.1 h2).1).trans h2, owns_keep h3 hb, h4⟩
  exact h.imp (key _) (key _)
theorem Bld.at {B b : Nat} {l : Bs} {w : World} (h : Bld B b l w) : ∃ cs, w.heap[b]? = some (.cells cs 63 (0, 0)) := by
  rcases h with ⟨_, v, h, _⟩ | ⟨_, v, h, _⟩ <;> exact ⟨_, h⟩
theorem Bld.base {B b : Nat} {l : Bs} {w : World} (h : Bld B b l w) : B ≤ b := by rcases h with h | h <;> exact h.1
theorem others_owns {B b : Nat} {l : Bs} {w w' : World} {base : Nat} {e : TypeId} {size n : Nat} {v : Value} {xs : List Value} (hB : Bld B b l w) (h : w.ownsRow base e size v n xs) (hk : Lib.OthersKept 5 (some b) w w') (h1 : e ≠ 63) (h2 : e ≠ 5) : w'.ownsRow base e size v n xs := by
  refine ⟨h.1, ?_⟩
  rcases h.2 with h0 | ⟨g, cap, cur, hv, hbg, hg, rest⟩
  · exact .inl h0
  · refine .inr ⟨g, cap, cur, hv, hbg, hk g _ hg (fun e1 => ?_) (fun c fz e1 => ?_), rest⟩
    · obtain ⟨cs, hcs⟩ := hB.at
      rw [← Option.some.inj e1, hg] at hcs
      injection hcs with hcs
      injection hcs with _ ht
      exact h1 ht
    · injection e1 with _ ht
      exact h2 ht
theorem bld_new (w : World) : Bld w.heap.size w.heap.size [] (w.alloc (.cells #[.pointer none, .slice none 0 0] 63)) := Lib.fresh_isBuilder _ _ w
theorem tr_get {l : Bs} {k : Nat} (h : k ≤ l.length) : (tr l).take (k + 1) = (tr l).take k ++ [tc l k] := by
  have hk : k < (tr l).length := by rw [tr_length]; omega
  rw [List.take_succ_eq_append_getElem hk]
  simp [tr]
set_option maxRecDepth 100000 in
set_option maxHeartbeats 4000000 in
theorem transform_any (s : ByteArray) (hs : s.size ≤ 1000) (w : World) :
    Calls Try.prog 57 #[.string s] w fun e w' => e = .returned (strV (tr (bs s))) ∧ Below w.heap.size w w' := by
  have HS := Lib.hid (suffixes_any s hs)
  have HB0 := Lib.hid (bld_new w)
  obtain ⟨n, hn⟩ : ∃ n, n = s.size := ⟨_, rfl⟩
  have HN := Lib.hid hn
  have hn1 : n ≤ 1000 := by omega
  have hszn : (s.size : Int) = (n : Int) := by omega
  clear hs hn
  go_enter Try.func57, Try.ntmps57
  go_wp2_with fail
  refine (HS.out _).mono ?_
  rintro e w2 ⟨v', rfl, ho, hb⟩
  obtain ⟨b, hb0⟩ : ∃ b, b = w.heap.size := ⟨_, rfl⟩
  have hB2 : Bld b b [] w2 := by rw [hb0]; exact HB0.out.keep hb
  have HBw := Lib.hid (show Below w.heap.size w w2 from Below.tr (below_alloc w _) hb)
  have ho2 := ho.base (show b ≤ (w.alloc (.cells #[.pointer none, .slice none 0 0] 63)).heap.size by rw [hb0]; simp)
  have HO := Lib.hid ho2
  have HB2 := Lib.hid hB2
  obtain ⟨a3, b3, off3, cap3, rfl, hle3, ha3, hc3⟩ := Ints.nats ho2.ints
  have hsl : (sa (bs s)).length = n + 1 := by rw [sa_length, bs_len, HN.out]
  rw [hsl] at ha3 hle3 hc3 HO ⊢
  obtain rfl := ha3 (by omega)
  have Hsl := Lib.hid hsl
  have hix3 := run_ix (P := Try.prog) (t := 23) (a := some ⟨b3, off3, none⟩) (len := n + 1) (cap := cap3) (b := b3) (off := off3) (s := 1) Try.underlying23 (by intro w; kernel_rfl) (fun _ => rfl)
  simp only [Nat.mul_one] at hix3
  have Hix3 := Lib.hid hix3
  have HWP := Lib.hid (fun l c w h hl hB => wbyte_any b b l c w h hl hB)
  have Hb0 := Lib.hid hb0
  rw [← hb0]
  rw [← hb0] at HBw
  have Hc3 := Lib.hid (show ∀ i, i < n + 1 → w2.cell? ⟨b3, off3 + i, none⟩ = some (.int .i64 (saAt (bs s) i : Nat)) from hc3)
  have HSa := Lib.hid (show ∀ i, saAt (bs s) i ≤ n from fun i => by have := saAt_le (bs s) i; rw [bs_len] at this; omega)
  have HT := Lib.hid (show ∀ i (h : 0 < saAt (bs s) i) (h2 : saAt (bs s) i - 1 < s.size), s[saAt (bs s) i - 1] = tc (bs s) i from fun i h h2 => by
    have h2' : saAt (bs s) i - 1 < (bs s).length := by rw [bs_len]; exact h2
    unfold tc chB
    rw [if_neg (by omega), bs_get h2]
    simp [List.getD, List.getElem?_eq_getElem h2'])
  have HTz := Lib.hid (show ∀ i, saAt (bs s) i = 0 → tc (bs s) i = 10 from fun i h => by unfold tc chB; rw [if_pos h])
  have Htr := Lib.hid (fun k (h : k ≤ n) => tr_get (l := bs s) (k := k) (by rw [bs_len]; omega))
  clear hb ho ho2 hc3 hix3 hB2 hb0 ha3 hsl hle3
  go_wp2_with fail
  go_loopw [9] (fun i wr => ∃ k : Nat, i = .int .i64 k ∧ k ≤ n + 1 ∧ Bld b b ((tr (bs s)).take k) wr ∧ Below b w wr ∧ OwnInts b wr (.slice (some ⟨b3, off3, none⟩) (n + 1) cap3) (castN (sa (bs s)))) (fun i _ => n + 1 - (intOf i).toNat)
  case atStart => exact ⟨0, rfl, Nat.zero_le _, by simpa using HB2.out, HBw.out, HO.out⟩
  case round =>
    obtain ⟨k, rfl, hk, hbl, hbe, hown⟩ := hrel
    have HBl := Lib.hid hbl
    have HBe := Lib.hid hbe
    have HOw := Lib.hid hown
    clear hbl hbe hown
    by_cases hlt : k < n + 1
    · have hixk := Hix3.out k
      obtain ⟨j, hj⟩ : ∃ j, j = saAt (bs s) k := ⟨_, rfl⟩
      have hck : wr.cell? ⟨b3, off3 + k, none⟩ = some (.int .i64 (j : Nat)) := by
        obtain ⟨a4, b4, off4, cap4, hv4, -, ha4, hc4⟩ := Ints.nats HOw.out.ints
        rw [Hsl.out] at ha4 hc4 hv4
        rw [ha4 (by omega)] at hv4
        injection hv4 with hv4 _ _
        injection hv4 with hv4
        injection hv4 with e2 e3 _
        rw [hj, e2, e3]
        exact hc4 k hlt
      have hjn := HSa.out k
      rw [← hj] at hjn
      have hB : b ≤ wr.heap.size := by have := HBe.out.size; rw [Hb0.out]; exact this
      have htl : ((tr (bs s)).take k).length ≤ 1000000 := by rw [List.length_take]; omega
      by_cases h0 : j = 0
      · subst h0
        have HC := Lib.hid (HWP.out _ 10 _ HBl.out htl hB)
        have e10 : ((10 : UInt8).toNat : Int) = 10 := rfl
        rw [e10] at HC
        have HTk := Lib.hid (HTz.out k hj.symm)
        clear e10 hj htl
        go_wp2_with fail
        refine HC.out.mono ?_
        rintro e w3 ⟨rfl, h1, h2, h3⟩
        have H1 := Lib.hid h1
        have H2 := Lib.hid (show Below b w w3 from HBe.out.trans h2)
        have H3 := Lib.hid (others_owns HBl.out HOw.out h3 (by decide) (by decide))
        clear h1 h2 h3
        go_wp2_with fail
        go_roundw
        case rel => exact ⟨k + 1, by go_num, by omega, by rw [Htr.out k (by omega), HTk.out]; exact H1.out, H2.out, H3.out⟩
        case measure => simp [intOf] <;> omega
      · have hjs : j - 1 < s.size := by omega
        have HC := Lib.hid (HWP.out _ s[j - 1] _ HBl.out htl hB)
        have HTk := Lib.hid (show s[j - 1] = tc (bs s) k by subst hj; exact HT.out k (by omega) hjs)
        clear hj htl
        go_wp2_with fail
        refine HC.out.mono ?_
        rintro e w3 ⟨rfl, h1, h2, h3⟩
        have H1 := Lib.hid h1
        have H2 := Lib.hid (show Below b w w3 from HBe.out.trans h2)
        have H3 := Lib.hid (others_owns HBl.out HOw.out h3 (by decide) (by decide))
        clear h1 h2 h3
        go_wp2_with fail
        go_roundw
        case rel => exact ⟨k + 1, by go_num, by omega, by rw [Htr.out k (by omega), ← HTk.out]; exact H1.out, H2.out, H3.out⟩
        case measure => simp [intOf] <;> omega
    · obtain rfl : k = n + 1 := by omega
      have hB : b ≤ wr.heap.size := by have := HBe.out.size; rw [Hb0.out]; exact this
      have HC := Lib.hid (Try.Builder_String_any b b _ wr HBl.out hB)
      have htk : (tr (bs s)).take (n + 1) = tr (bs s) := List.take_of_length_le (by rw [tr_length, bs_len]; omega)
      rw [htk] at HC
      clear htk
      go_wp2_with fail
      refine HC.out.mono ?_
      rintro e w3 ⟨rfl, h1⟩
      have H1 := Lib.hid (show Below b w w3 from HBe.out.trans h1)
      clear h1
      go_wp2_with fail
      go_ret
      exact ⟨rfl, by have := H1.out; rwa [Hb0.out] at this⟩
#print axioms transform_any
end Go.Proofs.Ytbnlkmblkokooaa
