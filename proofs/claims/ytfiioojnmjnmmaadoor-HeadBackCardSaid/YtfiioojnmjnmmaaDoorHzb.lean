/- The statement HeadBack. -/
import Derived.Test.YtfiioojnmjnmmaaDoorHza
namespace Go.Proofs.YtfiioojnmjnmmaaDoor
open Go Go.RowKit

/-! Where a line stands in the bytes of all. -/
theorem lineB_len (h : Hd) : (lineB h).length = h.1.length + h.2.length + 4 := by simp [lineB]; omega
theorem bytesL_take {L : List Hd} {k : Nat} (hk : k < L.length) : bytesL L = bytesL (L.take k) ++ (lineB L[k] ++ bytesL (L.drop (k + 1))) := by
  unfold bytesL
  rw [← List.flatMap_cons, ← List.flatMap_append, ← List.drop_eq_getElem_cons hk, List.take_append_drop]
theorem bytesL_next {L : List Hd} {k : Nat} (hk : k < L.length) : (bytesL (L.take (k + 1))).length = (bytesL (L.take k)).length + (lineB L[k]).length := by
  rw [← List.take_append_getElem hk, bytesL_snoc, List.length_append]
theorem bytesL_pre (L : List Hd) (k : Nat) : (bytesL (L.take k)).length ≤ (bytesL L).length := by
  have : bytesL L = bytesL (L.take k) ++ bytesL (L.drop k) := by unfold bytesL; rw [← List.flatMap_append, List.take_append_drop]
  rw [this, List.length_append]; omega
theorem bytesL_at {L : List Hd} {k : Nat} (hk : k < L.length) (j : Nat) (hj : j < (lineB L[k]).length) (h : (bytesL (L.take k)).length + j < (bytesL L).length) : (bytesL L)[(bytesL (L.take k)).length + j] = (lineB L[k])[j] := by
  have e : (bytesL L)[(bytesL (L.take k)).length + j]? = (lineB L[k])[j]? := by
    rw [bytesL_take hk, List.getElem?_append_right (by omega), Nat.add_sub_cancel_left, List.getElem?_append_left hj]
  rw [List.getElem?_eq_getElem h, List.getElem?_eq_getElem hj] at e
  exact Option.some.inj e
theorem line_byte {h : Hd} (ho : okH h = true) (j : Nat) (hj : j < (lineB h).length) : (j + 2 < (lineB h).length → (lineB h)[j] ≠ 13) ∧ (j + 2 = (lineB h).length → (lineB h)[j] = 13) ∧ (j + 1 = (lineB h).length → (lineB h)[j] = 10) := by
  obtain ⟨h1, h2⟩ := okH_one.1 ho
  have hl := lineB_len h
  have e : lineB h = (h.1 ++ [58, 32] ++ h.2) ++ [13, 10] := rfl
  have hx : (h.1 ++ [58, 32] ++ h.2).length = h.1.length + h.2.length + 2 := by simp; omega
  refine ⟨fun hlt => ?_, fun hlt => ?_, fun hlt => ?_⟩
  · have hm : (lineB h)[j] ∈ h.1 ++ [58, 32] ++ h.2 := by
      have : (lineB h)[j] = (h.1 ++ [58, 32] ++ h.2)[j]'(by omega) := by
        simp only [e]
        rw [List.getElem_append_left]
      rw [this]
      exact List.getElem_mem _
    intro e13
    rw [e13] at hm
    simp only [List.mem_append, List.mem_cons, List.not_mem_nil, or_false] at hm
    rcases hm with (hm | hm) | hm
    · have := nm_at h1 13 hm; revert this; decide
    · revert hm; decide
    · have := vl_at h2 13 hm; revert this; decide
  · have : (lineB h)[j] = ([13, 10] : List UInt8)[0] := by
      simp only [e]
      rw [List.getElem_append_right (by omega)]
      congr 1
      omega
    rw [this]; rfl
  · have : (lineB h)[j] = ([13, 10] : List UInt8)[1] := by
      simp only [e]
      rw [List.getElem_append_right (by omega)]
      congr 1
      omega
    rw [this]; rfl
/-- What the walk along the bytes keeps: the place, where the line began, how many lines were read. -/
def Along (L : List Hd) (k i : Nat) : Prop :=
  (0 < k ∧ i + 1 = (bytesL (L.take k)).length) ∨ ((bytesL (L.take k)).length ≤ i ∧ (∀ h : k < L.length, i + 2 ≤ (bytesL (L.take k)).length + (lineB L[k]).length) ∧ (k = L.length → i = (bytesL L).length))
/-- The three ways of a round. -/
theorem along_go {L : List Hd} (hok : ∀ h ∈ L, okH h = true) {k i : Nat} (hk : k ≤ L.length) (ha : Along L k i) (hi : i + 1 < (bytesL L).length) :
    k < L.length ∧ (((bytesL L)[i] ≠ 13 ∧ Along L k (i + 1)) ∨
      ((bytesL L)[i] = 13 ∧ (bytesL L)[i + 1] = 10 ∧ (bytesL (L.take k)).length ≤ i ∧ ((bytesL L).drop (bytesL (L.take k)).length).take (i - (bytesL (L.take k)).length) = L[k]!.1 ++ [58, 32] ++ L[k]!.2 ∧ i + 2 = (bytesL (L.take (k + 1))).length)) := by
  have hkl : k < L.length := by
    rcases Nat.lt_or_ge k L.length with h | h
    · exact h
    · exfalso
      obtain rfl : k = L.length := by omega
      rcases ha with ⟨_, ha⟩ | ⟨_, _, ha⟩
      · rw [List.take_length] at ha; omega
      · have := ha rfl; omega
  refine ⟨hkl, ?_⟩
  have hn := bytesL_next hkl
  have hp := bytesL_pre L (k + 1)
  have hl4 := lineB_len L[k]
  rcases ha with ⟨h0, h1⟩ | ⟨h1, h2, _⟩
  · left
    obtain ⟨m, rfl⟩ : ∃ m, k = m + 1 := ⟨k - 1, by omega⟩
    have hm : m < L.length := by omega
    have hn' := bytesL_next hm
    have hl4' := lineB_len L[m]
    have hb := line_byte (hok L[m] (List.getElem_mem hm)) ((lineB L[m]).length - 1) (by omega)
    have hat := bytesL_at hm ((lineB L[m]).length - 1) (by omega) (by omega)
    have hx : (bytesL L)[i] = 10 := by
      have : (bytesL (L.take m)).length + ((lineB L[m]).length - 1) = i := by omega
      simp only [this] at hat
      rw [hat]
      exact hb.2.2 (by omega)
    refine ⟨by rw [hx]; decide, .inr ⟨by omega, fun h => by omega, fun h => by omega⟩⟩
  · have h2 := h2 hkl
    have hj : i - (bytesL (L.take k)).length < (lineB L[k]).length := by omega
    have hb := line_byte (hok L[k] (List.getElem_mem hkl)) _ hj
    have hat := bytesL_at hkl _ hj (by omega)
    have hi' : (bytesL (L.take k)).length + (i - (bytesL (L.take k)).length) = i := by omega
    simp only [hi'] at hat
    by_cases he : i + 2 = (bytesL (L.take k)).length + (lineB L[k]).length
    · right
      have hat2 := bytesL_at hkl (i + 1 - (bytesL (L.take k)).length) (by omega) (by omega)
      have hi2 : (bytesL (L.take k)).length + (i + 1 - (bytesL (L.take k)).length) = i + 1 := by omega
      simp only [hi2] at hat2
      have hb2 := line_byte (hok L[k] (List.getElem_mem hkl)) (i + 1 - (bytesL (L.take k)).length) (by omega)
      refine ⟨by rw [hat]; exact hb.2.1 (by omega), by rw [hat2]; exact hb2.2.2 (by omega), h1, ?_, by omega⟩
      rw [bytesL_take hkl, List.drop_left, List.take_append_of_le_length (by omega), getElem!_pos L k hkl]
      have e : lineB L[k] = (L[k].1 ++ [58, 32] ++ L[k].2) ++ [13, 10] := rfl
      have hx : (L[k].1 ++ [58, 32] ++ L[k].2).length = i - (bytesL (L.take k)).length := by simp; omega
      rw [e, ← hx, List.take_left']
      rfl
    · left
      refine ⟨by rw [hat]; exact hb.1 (by omega), .inr ⟨by omega, fun _ => by omega, fun h => by omega⟩⟩
theorem along_end {L : List Hd} {k i : Nat} (hk : k ≤ L.length) (ha : Along L k i) (hi : ¬ i + 1 < (bytesL L).length) : k = L.length := by
  rcases Nat.lt_or_ge k L.length with h | h
  · exfalso
    have hn := bytesL_next h
    have hp := bytesL_pre L (k + 1)
    have hl4 := lineB_len L[k]
    rcases ha with ⟨_, ha⟩ | ⟨_, ha, _⟩
    · omega
    · have := ha h; omega
  · omega
theorem along_le {L : List Hd} {i : Nat} (ha : Along L L.length i) : i ≤ (bytesL L).length := by
  rcases ha with ⟨_, h⟩ | ⟨_, _, h⟩
  · rw [List.take_length] at h; omega
  · have := h rfl; omega
theorem along_next {L : List Hd} {k i : Nat} (h : i + 2 = (bytesL (L.take (k + 1))).length) : Along L (k + 1) (i + 1) := .inl ⟨by omega, by omega⟩
theorem along_start {L : List Hd} : Along L 0 0 := by
  refine .inr ⟨Nat.zero_le _, fun h => ?_, fun h => ?_⟩
  · have := lineB_len L[0]; omega
  · have : L = [] := List.eq_nil_of_length_eq_zero h.symm
    subst this; rfl

theorem fine_chk (l : List Hd) : chkE (fineL l) = 0 := chkE_full (by have := fineL_len l; omega) (List.all_eq_true.2 fineL_ok)
theorem byte_at {w : World} {A : Option Addr} {B : List UInt8} (h : Rd w A (Lib.byteCells B)) (i : Nat) (hi : i < B.length) : ∃ g off, A = some ⟨g, off, none⟩ ∧ g < w.heap.size ∧ w.cell? ⟨g, off + i, none⟩ = some (.int .u8 (B[i].toNat : Int)) := by
  obtain ⟨g, off, e, hl, hc⟩ := h i (by simpa [Lib.byteCells] using hi)
  exact ⟨g, off, e, hl, by rw [hc]; simp [Lib.byteCells]⟩
theorem conv_part {w : World} {g off : Nat} {B : List UInt8} (h : Rd w (some ⟨g, off, none⟩) (Lib.byteCells B)) (f n c : Nat) (hn : f + n ≤ B.length) (z : List UInt8) (hz : (B.drop f).take n = z) :
    (convert 38 9 (.slice (some ⟨g, off + f, none⟩) n c)).run Tryd.prog w = .ok (.string ⟨z.toArray⟩) w := by
  subst hz
  have hl : ((B.drop f).take n).length = n := by rw [List.length_take, List.length_drop]; omega
  have := run_convert_bytes_back (P := Tryd.prog) w 38 9 5 ⟨g, off + f, none⟩ c ((B.drop f).take n) Tryd.underlying38 Tryd.underlying5 Tryd.underlying9 fun j hj => by
    rw [hl] at hj
    obtain ⟨g', off', e, _, hc⟩ := byte_at h (f + j) (by omega)
    injection e with e
    injection e with e1 e2
    subst e1 e2
    rw [add_pl, show off + f + j = off + (f + j) by omega, hc, List.getElem_take, List.getElem_drop]
  rw [hl] at this
  exact this

set_option maxHeartbeats 4000000 in
theorem headBack_any (A : Option Addr) (c : Nat) (l : List Hd) (w : World) (hr : Rd w A (hv l)) (hm : Mx l) (hlen : l.length ≤ maxLen) :
    Calls Tryd.prog 6 #[.slice A l.length c] w fun e w' => e = .returned (.bool true) ∧ Below w.heap.size w w' := by
  have SL := fineL_sm l
  have hok := Lib.hid (fineL_ok (l := l))
  have L12 := fineL_len l
  have hch := fine_chk l
  have cw := Lib.hid (works_any w)
  have c1 := Lib.hid fun w1 (h : Below w.heap.size w w1) => fine_any A c l w1 (hr.below h) hm hlen
  generalize fineL l = L at *
  have hby : byR L = bytesL L := by unfold byR; rw [if_pos hch]
  have hbl : (bytesL L).length ≤ 12 * 2004 := Nat.le_trans (bytesL_le SL.2) (by omega)
  clear hr hm hlen
  go_enter Tryd.func6, Tryd.ntmps6
  go_wp2_with fail
  go_at_call 28
  refine cw.out.mono ?_
  rintro e w1 ⟨rfl, b1⟩
  have c1' := Lib.hid (c1.out w1 b1)
  have B1 := Lib.hid b1
  clear b1 c1 cw
  go_wp2_with fail
  refine c1'.out.mono ?_
  rintro e w2 ⟨u0, rfl, h0, b2⟩
  have H0 := Lib.hid h0.hs
  have B2 := Lib.hid (Below.and B1.out b2)
  have ca := Lib.hid (bytes_own u0 L w2 H0.out SL)
  rw [hch, hby] at ca
  clear h0 b2 c1' B1 hch hby
  obtain ⟨A0, d0, rfl, _, _, hr0⟩ := id H0.out
  have HR0 := Lib.hid hr0
  clear hr0
  go_wp2_with fail
  refine ca.out.mono ?_
  rintro e w3 ⟨ub, rfl, hb, b3⟩
  have HR := Lib.hid (HR0.out.below b3)
  have B3 := Lib.hid (Below.and B2.out b3)
  obtain ⟨Ab, cb, rfl, hcb, _, hrb⟩ := Rd.own hb
  have HB := Lib.hid hrb
  obtain ⟨N, hN⟩ : ∃ N, (bytesL L).length = N := ⟨_, rfl⟩
  rw [hN] at hbl hcb ⊢
  have HN := Lib.hid hN
  clear hb b3 hrb B2 ca HR0 H0 hN
  go_wp2_with fail
  go_loopw [5, 6, 7] (fun a f i wr => ∃ k j : Nat, k ≤ L.length ∧ a = .int .i64 k ∧ f = .int .i64 ((bytesL (L.take k)).length : Nat) ∧ i = .int .i64 j ∧ Hid (Along L k j) ∧ Below w3.heap.size w3 wr) (fun _ _ i _ => N - (intOf i).toNat)
  case atStart => exact ⟨0, 0, Nat.zero_le _, rfl, rfl, rfl, along_start, Below.refl _ _⟩
  case round =>
    obtain ⟨k, j, hk, rfl, rfl, rfl, hal, hb⟩ := hrel
    by_cases hlt : j + 1 < N
    · obtain ⟨hkl, hw⟩ := along_go hok.out hk hal.out (by rw [HN.out]; exact hlt)
      obtain ⟨g, off, rfl, hgl, e1⟩ := byte_at (HB.out.below hb) j (by rw [HN.out]; omega)
      obtain ⟨g', off', eq, _, e2⟩ := byte_at (HB.out.below hb) (j + 1) (by rw [HN.out]; omega)
      injection eq with eq
      injection eq with eq1 eq2
      subst eq1 eq2
      have i1 : (0 : Int) ≤ j := by omega
      have i2 : (j : Int) + 1 < N := by omega
      have i3 : (j : Int) < N := by omega
      rcases hw with ⟨hne, hal'⟩ | ⟨h13, h10, hle, hpart, hnx⟩
      · have hj : j < (bytesL L).length := by rw [HN.out]; omega
        generalize (bytesL L)[j]'hj = x at *
        have hx : ((x.toNat : Int) != 13) = true := by
          rw [bne_iff_ne]
          intro e
          exact hne (UInt8.toNat_inj.1 (by rw [show (13 : UInt8).toNat = 13 from rfl]; omega))
        have HA := Lib.hid hal'
        clear hne hal' hal e2
        go_wp2_with fail
        go_roundw
        case rel => exact ⟨k, j + 1, hk, rfl, rfl, by go_num, HA, hb⟩
        case measure => simp [intOf]; omega
      · rw [h13] at e1
        rw [h10] at e2
        have e1 : wr.cell? ⟨g, off + j, none⟩ = some (.int .u8 13) := e1
        have e2 : wr.cell? ⟨g, off + (j + 1), none⟩ = some (.int .u8 10) := e2
        have hlp := lineP_back (hok.out L[k] (List.getElem_mem hkl))
        rw [getElem!_pos L k hkl] at hpart
        have HAl := Lib.hid (along_next hnx)
        have hcv := conv_part (HB.out.below hb) (bytesL (L.take k)).length (j - (bytesL (L.take k)).length) (cb - (bytesL (L.take k)).length) (by rw [HN.out]; omega) _ hpart
        obtain ⟨z1, z2⟩ := SL.2 L[k] (List.getElem_mem hkl)
        obtain ⟨b, o, rfl, hbl, h1, h2⟩ := (HR.out.below hb).head k hkl
        obtain ⟨y1, y2⟩ := okH_one.1 (hok.out L[k] (List.getElem_mem hkl))
        have y1 := isNm_len y1
        have y2 := isVl_len y2
        have ca := Lib.hid (line_anyL (L[k].1 ++ [58, 32] ++ L[k].2) wr (by simp; omega))
        clear y1 y2
        rw [hlp] at ca
        have HX := Lib.hid hnx
        clear hlp hpart hal h13 h10 hnx
        unfold lineV at ca
        dsimp only at ca
        generalize L[k].1 = p at *
        generalize L[k].2 = q at *
        generalize hF : (bytesL (L.take k)).length = F at *
        generalize p ++ [58, 32] ++ q = z at *
        have j1 : (F : Int) ≤ j := by omega
        have j2 : (j : Int) ≤ cb := by omega
        have j3 : (0 : Int) ≤ F := by omega
        clear hF
        go_wp2_with fail
        refine ca.out.mono ?_
        rintro e w5 ⟨rfl, b5⟩
        obtain ⟨d1, d2⟩ := alloc_head w5 (.string ⟨p.toArray⟩) (.string ⟨q.toArray⟩)
        have b6 := Below.and b5 (below_new w5 (.cells #[.string ⟨p.toArray⟩, .string ⟨q.toArray⟩] 28))
        have h1 := (b6.cell (p := ⟨b, o + k * 2, none⟩) hbl).trans h1
        have h2 := (b6.cell (p := ⟨b, o + k * 2 + 1, none⟩) hbl).trans h2
        have HBe := Lib.hid (hb.trans (b6.mono hb.size))
        clear ca b5 b6 hb e1 e2
        have NQ := fun w => neq_head w p q p q
        rw [show (!(p == p && q == q)) = false by simp] at NQ
        have i4 : (0 : Int) ≤ k := by omega
        have i5 : (k : Int) < L.length := by omega
        have i6 : ¬ ((L.length : Int) ≤ k) := by omega
        go_wp2_with fail
        generalize w5.alloc (.cells #[.string ⟨p.toArray⟩, .string ⟨q.toArray⟩] 28) = w6 at *
        generalize w5.heap.size = g5 at *
        go_quiet (fail)
        go_wp2_with fail
        go_roundw
        case rel => exact ⟨k + 1, j + 1, by omega, by go_num, by rw [← HX.out]; go_num, by go_num, HAl, below_drewN HBe.out _⟩
        case measure => simp [intOf]; omega
    · obtain rfl := along_end hk hal.out (by rw [HN.out]; exact hlt)
      have jn := along_le hal.out
      rw [HN.out] at jn
      have HBe := Lib.hid hb
      clear hb hal
      rw [List.take_length, HN.out]
      have i2 : ¬ ((j : Int) + 1 < N) := by omega
      go_wp2_with fail
      go_ret
      exact ⟨ret_bool rfl, Below.and B3.out HBe.out⟩
end Go.Proofs.YtfiioojnmjnmmaaDoor
