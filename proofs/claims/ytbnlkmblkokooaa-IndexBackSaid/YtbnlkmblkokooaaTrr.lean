/- Contracts of Transform and of the reference's Transform. -/
import Derived.Test.YtbnlkmblkokooaaTrn
import Derived.Laws.BytesArg
import Derived.Laws.IdiomStrings
namespace Go.Proofs.Ytbnlkmblkokooaa
open Go.RowKit
/-- bytes in a slice -/
def Byts (w : World) (v : Value) (l : Bs) : Prop := Rd w v 1 l.length (Lib.byteCells l)
def OwnByts (base : Nat) (w : World) (v : Value) (l : Bs) : Prop := w.ownsRow base 5 1 v l.length (Lib.byteCells l)
theorem OwnByts.byts {base : Nat} {w : World} {v : Value} {l : Bs} (h : OwnByts base w v l) : Byts w v l := owns_rd h
theorem Byts.keep {w w' : World} {v : Value} {l : Bs} (h : Byts w v l) (hb : Below w.heap.size w w') : Byts w' v l := Rd.keep h hb
theorem ownByts_nil (base : Nat) (w : World) : OwnByts base w (.slice none 0 0) [] := World.ownsRow_nil _ _ _ _
theorem OwnByts.snoc {base : Nat} {w : World} {v : Value} {l : Bs} {c : UInt8} (h : w.ownsRow base 5 1 v (l.length + 1) (Lib.byteCells l ++ [.int .u8 c.toNat])) : OwnByts base w v (l ++ [c]) := by
  unfold OwnByts
  rw [bcells_snoc, List.length_append, List.length_singleton]
  exact h
theorem Byts.get {w : World} {v : Value} {l : Bs} (h : Byts w v l) : ∃ a b off cap, v = .slice a l.length cap ∧ l.length ≤ 9223372036854775807 ∧ (0 < l.length → a = some ⟨b, off, none⟩) ∧
    ∀ i (hi : i < l.length), w.cell? ⟨b, off + i, none⟩ = some (.int .u8 l[i].toNat) := by
  obtain ⟨h1, h2, a, b, off, cap, h3, h4, h5⟩ := h
  exact ⟨a, b, off, cap, h3, h2, h4.1, fun i hi => by rw [h5 i (by rw [bcells_len]; exact hi)]; simp [Lib.byteCells]⟩
theorem conv_str {w : World} {v : Value} {l : Bs} (h : Byts w v l) : (convert 53 9 v).run Try.prog w = .ok (strV l) w := by
  obtain ⟨a, b, off, cap, rfl, _, ha, hc⟩ := h.get
  cases a with
  | none =>
    have h0 : l = [] := by
      cases l with
      | nil => rfl
      | cons x m => exact absurd (ha (by simp)) (by simp)
    subst h0
    exact run_convert_bytes_nil (P := Try.prog) w 53 5 Try.underlying53 Try.underlying5 _ _ 9 Try.underlying9
  | some ad =>
    exact run_convert_bytes_back w 53 9 5 ad cap l Try.underlying53 Try.underlying5 Try.underlying9 fun j hj => by
      have := ha (by omega)
      injection this with this
      subst this
      rw [Addr.add_lit]
      exact hc j hj
#print axioms conv_str
set_option maxRecDepth 100000 in
set_option maxHeartbeats 4000000 in
theorem transformR_any (s : ByteArray) (hs : s.size ≤ 1000) (w : World) :
    Calls Try.prog 29 #[.string s] w fun e w' => e = .returned (strV (tr (bs s))) ∧ Below w.heap.size w w' := by
  have HS := Lib.hid (sortR_any s hs)
  obtain ⟨n, hn⟩ : ∃ n, n = s.size := ⟨_, rfl⟩
  have HN := Lib.hid hn
  have hn1 : n ≤ 1000 := by omega
  have hszn : (s.size : Int) = (n : Int) := by omega
  clear hs hn
  go_enter Try.func29, Try.ntmps29
  go_wp2_with fail
  refine (HS.out _).mono ?_
  rintro e w2 ⟨v', rfl, ho, hb⟩
  have HBw := Lib.hid hb
  have HO := Lib.hid ho
  obtain ⟨a3, b3, off3, cap3, rfl, hle3, ha3, hc3⟩ := Ints.nats ho.ints
  have hsl : (sa (bs s)).length = n + 1 := by rw [sa_length, bs_len, HN.out]
  rw [hsl] at ha3 hle3 hc3 HO ⊢
  obtain rfl := ha3 (by omega)
  have hix3 := run_ix (P := Try.prog) (t := 23) (a := some ⟨b3, off3, none⟩) (len := n + 1) (cap := cap3) (b := b3) (off := off3) (s := 1) Try.underlying23 (by intro w; kernel_rfl) (fun _ => rfl)
  simp only [Nat.mul_one] at hix3
  have Hix3 := Lib.hid hix3
  have Hc3 := Lib.hid (show ∀ i, i < n + 1 → w2.cell? ⟨b3, off3 + i, none⟩ = some (.int .i64 (saAt (bs s) i : Nat)) from hc3)
  have HSa := Lib.hid (show ∀ i, saAt (bs s) i ≤ n from fun i => by have := saAt_le (bs s) i; rw [bs_len] at this; omega)
  have HT := Lib.hid (show ∀ i (h : 0 < saAt (bs s) i) (h2 : saAt (bs s) i - 1 < s.size), s[saAt (bs s) i - 1] = tc (bs s) i from fun i h h2 => by
    have h2' : saAt (bs s) i - 1 < (bs s).length := by rw [bs_len]; exact h2
    unfold tc chB
    rw [if_neg (by omega), bs_get h2]
    simp [List.getD, List.getElem?_eq_getElem h2'])
  have HTz := Lib.hid (show ∀ i, saAt (bs s) i = 0 → tc (bs s) i = 10 from fun i h => by unfold tc chB; rw [if_pos h])
  have Htr := Lib.hid (fun k (h : k ≤ n) => tr_get (l := bs s) (k := k) (by rw [bs_len]; omega))
  have Htl := Lib.hid (show ∀ k, k ≤ n + 1 → ((tr (bs s)).take k).length = k from fun k hk => by rw [List.length_take, tr_length, bs_len, ← HN.out]; omega)
  clear hb ho hc3 hix3 ha3 hsl hle3
  obtain ⟨wo, hwo⟩ : ∃ wo : World, wo = w2 := ⟨_, rfl⟩
  subst hwo
  go_wp2_with fail
  go_loopw [3, 9] (fun o i wr => ∃ k : Nat, i = .int .i64 k ∧ k ≤ n + 1 ∧ Below wo.heap.size wo wr ∧ OwnByts wo.heap.size wr o ((tr (bs s)).take k)) (fun _ i _ => n + 1 - (intOf i).toNat)
  case atStart => exact ⟨0, rfl, Nat.zero_le _, Below.refl _ _, by simpa using ownByts_nil _ _⟩
  case round =>
    obtain ⟨k, rfl, hk, hbe, hown⟩ := hrel
    have HBe := Lib.hid hbe
    have HOw := Lib.hid hown
    clear hbe hown
    by_cases hlt : k < n + 1
    · have hixk := Hix3.out k
      obtain ⟨j, hj⟩ : ∃ j, j = saAt (bs s) k := ⟨_, rfl⟩
      have hck : wr.cell? ⟨b3, off3 + k, none⟩ = some (.int .i64 (j : Nat)) := by rw [hj]; exact Below.keep HBe.out (Hc3.out k hlt)
      have hjn := HSa.out k
      rw [← hj] at hjn
      have hownA : ∀ o : Obj, (wr.alloc o).ownsRow wo.heap.size 5 1 u3 k (Lib.byteCells ((tr (bs s)).take k)) := fun o => by have := HOw.out.alloc (o := o); rwa [Htl.out k hk] at this
      have HOA := Lib.hid hownA
      clear hownA
      by_cases h0 : j = 0
      · subst h0
        have HTk := Lib.hid (HTz.out k hj.symm)
        clear hj
        go_wp2_with (at_builtin; refine append_own rfl (.tmp 15) (.tmp 16) 53 rfl elemBytes rfl (HOA.out _) [.int .u8 10] rfl rfl ?c1 ?c2 ?c3 ?c4 ?_)
        case c1 => intro q u hq; exact new_one _ _ _ hq
        case c2 => intro u hu; simp at hu; subst hu; rfl
        case c3 => omega
        case c4 => have := HBe.out.size; simp; omega
        intro v7 w7 hown7 hb7 _
        have HO7 := Lib.hid (show OwnByts wo.heap.size w7 v7 ((tr (bs s)).take (k + 1)) from by
          rw [Htr.out k (by omega), HTk.out]
          refine OwnByts.snoc ?_
          rw [Htl.out k hk]
          exact hown7)
        have hb' := Lib.hid (show Below wo.heap.size wo w7 from (Below.alloc HBe.out HBe.out.size _).trans hb7)
        clear hown7 hb7
        go_wp2_with fail
        go_roundw
        case rel => exact ⟨k + 1, by go_num, by omega, hb'.out, HO7.out⟩
        case measure => simp [intOf] <;> omega
      · have hjs : j - 1 < s.size := by omega
        have HTk := Lib.hid (show s[j - 1] = tc (bs s) k by subst hj; exact HT.out k (by omega) hjs)
        clear hj
        go_wp2_with (at_builtin; refine append_own rfl (.tmp 18) (.tmp 23) 53 rfl elemBytes rfl (HOA.out _) [.int .u8 s[j - 1].toNat] rfl rfl ?c1 ?c2 ?c3 ?c4 ?_)
        case c1 => intro q u hq; exact new_one _ _ _ hq
        case c2 => intro u hu; simp at hu; subst hu; rfl
        case c3 => omega
        case c4 => have := HBe.out.size; simp; omega
        intro v7 w7 hown7 hb7 _
        have HO7 := Lib.hid (show OwnByts wo.heap.size w7 v7 ((tr (bs s)).take (k + 1)) from by
          rw [Htr.out k (by omega), ← HTk.out]
          refine OwnByts.snoc ?_
          rw [Htl.out k hk]
          exact hown7)
        have hb' := Lib.hid (show Below wo.heap.size wo w7 from (Below.alloc HBe.out HBe.out.size _).trans hb7)
        clear hown7 hb7
        go_wp2_with fail
        go_roundw
        case rel => exact ⟨k + 1, by go_num, by omega, hb'.out, HO7.out⟩
        case measure => simp [intOf] <;> omega
    · obtain rfl : k = n + 1 := by omega
      have htk : (tr (bs s)).take (n + 1) = tr (bs s) := List.take_of_length_le (by rw [tr_length, bs_len, ← HN.out]; omega)
      have hcv := conv_str HOw.out.byts
      rw [htk] at hcv
      clear htk
      go_wp2_with fail
      go_ret
      exact ⟨rfl, Below.tr HBw.out HBe.out⟩
theorem transE_bad {s : ByteArray} (hs : s.size ≤ 1000) (h : ¬ Lab (bs s)) (w : World) :
    Calls Try.prog 26 #[.string s] w fun e w' => e = .returned (.tuple #[strV [], .int .i64 2]) ∧ w = w' := by
  have H := Lib.hid (isLabel_b s hs false (decide_eq_false h))
  clear h
  go_enter Try.func26, Try.ntmps26
  go_wp2_with fail
  refine (H.out _).mono ?_
  rintro e w1 ⟨rfl, rfl⟩
  go_wp2_with fail
  go_ret2
  exact ⟨rfl, rfl⟩
theorem transE_any {s : ByteArray} (h : Lab (bs s)) (w : World) :
    Calls Try.prog 26 #[.string s] w fun e w' => e = .returned (.tuple #[strV (tr (bs s)), .int .i64 0]) ∧ Below w.heap.size w w' := by
  have hs := lab_size h
  have H := Lib.hid (isLabel_b s (by omega) true (decide_eq_true h))
  have H2 := Lib.hid (transform_any s (by omega))
  clear h
  go_enter Try.func26, Try.ntmps26
  go_wp2_with fail
  refine (H.out _).mono ?_
  rintro e w1 ⟨rfl, rfl⟩
  go_wp2_with fail
  refine (H2.out _).mono ?_
  rintro e w1 ⟨rfl, hb⟩
  have Hb := Lib.hid hb
  clear hb
  go_wp2_with fail
  go_ret2
  exact ⟨rfl, Hb.out⟩
#print axioms transE_any
#print axioms transformR_any
end Go.Proofs.Ytbnlkmblkokooaa
