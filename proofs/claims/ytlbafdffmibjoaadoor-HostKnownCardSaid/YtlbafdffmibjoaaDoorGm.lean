/- What is told of an authority, written and told again: plain facts; HostOnce. -/
import Derived.Test.YtlbafdffmibjoaaDoorGl
namespace Go.Proofs.YtlbafdffmibjoaaDoor
open Go Go.RowKit Pl

theorem isPl_no {h : List UInt8} (hp : isPl h = true) {c : UInt8} (hc : fitB c = false) : c ∉ h := fun hm => by
  have := (List.all_eq_true.1 (isPl_fit hp)) c hm
  rw [hc] at this; cases this
theorem low_fit {c : UInt8} (h : fitB c = true) : lowB c = c := by
  have := fitB_iff.1 h
  exact lowB_id (by omega)
theorem isPl_low {h : List UInt8} (hp : isPl h = true) : lowS h = h := by
  have ha := List.all_eq_true.1 (isPl_fit hp)
  unfold lowS
  conv => rhs; rw [← List.map_id h]
  exact List.map_congr_left fun c hc => low_fit (ha c hc)
def textW (h : List UInt8) (n : Int) : List UInt8 := if n = 80 then h else h ++ 58 :: Lib.itoa n
theorem writeP_some {h : List UInt8} {n : Int} (hp : isPl h = true) (hn : isP n = true) : writeP h n = some (textW h n) := by unfold writeP textW; rw [hp, hn]; rfl
theorem itoa_port {n : Int} (hn : isP n = true) : portV (Lib.itoa n) = n := by
  have h := isP_iff.1 hn
  rw [show Lib.itoa n = Lib.decDigits n.toNat by rw [← Lib.itoa_nonneg, show ((n.toNat : Nat) : Int) = n by omega], portV_dec (by omega) (by omega)]
  omega
theorem portV_text {l : List UInt8} (h : portV l ≠ 0) : l = Lib.itoa (portV l) := by
  unfold portV at *
  split at h
  · rename_i hc
    rw [if_pos hc]
    simp only [Bool.and_eq_true, decide_eq_true_iff] at hc
    rw [Lib.itoa_nonneg, dec_of_val _ l rfl hc.1.1.1]
  · exact absurd rfl h
theorem norm_text {h : List UInt8} {n : Int} (hp : isPl h = true) (hn : isP n = true) : normP (textW h n) = some (h, n) := by
  have h58 := isPl_no hp (c := 58) (by decide)
  have hl := isPl_low hp
  have hr := isP_iff.1 hn
  unfold textW
  by_cases h80 : n = 80
  · rw [if_pos h80]
    unfold normP portN hasC
    rw [(hdC_none h58).1, hl, hp, decide_eq_false h58, h80]; rfl
  · rw [if_neg h80]
    unfold normP portN hasC
    rw [(hdC_app h58).1, (hdC_app h58).2, hl, hp, decide_eq_true (show (58 : UInt8) ∈ h ++ 58 :: Lib.itoa n by simp), if_pos rfl, itoa_port hn, decide_eq_true (show n ≠ 0 by omega)]; rfl
theorem norm_some {l h : List UInt8} {n : Int} (e : normP l = some (h, n)) : isPl h = true ∧ isP n = true ∧ (textW h n).length ≤ l.length := by
  unfold normP at e
  split at e
  · rename_i hc
    rw [Bool.and_eq_true, decide_eq_true_iff] at hc
    injection e with e
    injection e with e1 e2
    subst e1 e2
    have hlen : (lowS (hdC 58 l)).length = (hdC 58 l).length := lowS_len _
    by_cases hm : 58 ∈ l
    · have ht : portN l = portV (tlC 58 l) := by unfold portN hasC; rw [decide_eq_true hm]; rfl
      rw [ht] at hc ⊢
      have hp : isP (portV (tlC 58 l)) = true := by rw [isP_portV]; exact decide_eq_true hc.2
      refine ⟨hc.1, hp, ?_⟩
      have hd := hdC_tlC hm
      unfold textW
      split
      · rw [hlen]; exact hdC_le _ _
      · rw [← portV_text hc.2, List.length_append, hlen, List.length_cons]
        have := congrArg List.length hd
        simp at this; omega
    · have ht : portN l = 80 := by unfold portN hasC; rw [decide_eq_false hm]; rfl
      rw [ht] at hc ⊢
      refine ⟨hc.1, by decide, ?_⟩
      unfold textW
      rw [if_pos rfl, hlen]; exact hdC_le _ _
  · cases e

theorem okE_true : okE true = 0 := rfl
set_option maxRecDepth 100000 in
set_option maxHeartbeats 1000000 in
theorem hostOnce_any (s : ByteArray) (w : World) (hG : Gl w) (hs : s.size ≤ maxLen) : Calls Tryd.prog 6 #[.string s] w (BoolP true w) := by
  unfold maxLen at hs
  have HG := Lib.hid hG
  have HB := Lib.hid (Below.refl w.heap.size w)
  clear hG
  unfold BoolP
  by_cases h : s.size ≤ 100
  · have h1 : (s.size : Int) ≤ 100 := by omega
    have h2 : min (s.size : Int) 100 = (s.size : Int) := by omega
    have HZ : Hid (s.size ≤ 1000000) := Lib.hid (by omega)
    go_enter Tryd.func6, Tryd.ntmps6
    go_wp2_with fail
    clear h1 h2 h
    cases hn : normP s.data.toList with
    | none =>
      refine (norm_prog _ _ (HG.out.below HB.out) HZ.out).mono ?_
      unfold NormP
      rw [hn]
      unfold normV
      rintro e w1 ⟨rfl, hb⟩
      have HB := Lib.hid (Below.and HB.out hb)
      clear hb hn
      go_wp2_with (go_at_call 17; refine (works_any _ (HG.out.below HB.out)).mono ?_; unfold BoolP; rintro e w1 ⟨rfl, hb⟩; have HB := Lib.hid (Below.and HB.out hb); clear hb)
      go_ret
      exact ⟨rfl, HB.out⟩
    | some v =>
      obtain ⟨x, n⟩ := v
      obtain ⟨hp, hi, hle⟩ := norm_some hn
      refine (norm_prog _ _ (HG.out.below HB.out) HZ.out).mono ?_
      unfold NormP
      rw [hn]
      unfold normV
      simp only
      rintro e w1 ⟨rfl, hb⟩
      have HB := Lib.hid (Below.and HB.out hb)
      clear hb hn
      have hx : x.length ≤ 60 := isPl_len hp
      have CW : Hid (∀ w, Gl w → Calls Tryd.prog 18 #[.string ⟨x.toArray⟩, .int .i64 n] w fun e w' => e = .returned (.tuple #[.string ⟨(textW x n).toArray⟩, .int .i64 0]) ∧ Below w.heap.size w w') := Lib.hid fun w hg =>
        write_some ⟨x.toArray⟩ n (textW x n) w hg (by rw [size_mk]; omega) (decide_eq_true (writeP_some hp hi))
      have hT : (textW x n).length ≤ s.size := by rw [Lib.size_eq]; exact hle
      have hz2 : (textW x n).length ≤ 1000000 := by have := HZ.out; omega
      have CN : Hid (∀ w, Gl w → Calls Tryd.prog 11 #[.string ⟨(textW x n).toArray⟩] w fun e w' => e = .returned (.tuple #[.string ⟨x.toArray⟩, .int .i64 n, .int .i64 0]) ∧ Below w.heap.size w w') := Lib.hid fun w hg =>
        (norm_prog ⟨(textW x n).toArray⟩ w hg (by rw [size_mk]; exact hz2)).mono fun e w' ⟨he, hb⟩ => ⟨by rw [he]; show Ending.returned (normV (normP (textW x n))) = _; rw [norm_text hp hi]; rfl, hb⟩
      have CP : Hid (∀ w, Calls Tryd.prog 13 #[.string ⟨x.toArray⟩] w fun e w' => e = .returned (.int .i64 0) ∧ Below w.heap.size w w') := Lib.hid fun w =>
        (plain_prog ⟨x.toArray⟩ w (by rw [size_mk]; omega)).mono fun e w' ⟨he, hb⟩ => ⟨by rw [he]; show Ending.returned (.int .i64 (okE (isPl x))) = _; rw [hp]; rfl, hb⟩
      have s1 := size_mk x
      have s2 := size_mk (textW x n)
      generalize textW x n = t at *
      clear hp hi hle
      have hx1 : ((⟨x.toArray⟩ : ByteArray).size : Int) ≤ 60 := by rw [s1]; omega
      have hx2 : ((⟨t.toArray⟩ : ByteArray).size : Int) ≤ (s.size : Int) := by rw [s2]; omega
      have hx3 : (t.length : Int) ≤ (s.size : Int) := by omega
      have hx4 : (x.length : Int) ≤ 60 := by omega
      have hx5 : decide (t.length ≤ s.size) = true := decide_eq_true hT
      clear hx hT hz2 s1 s2
      go_wp2_with (first
        | (go_at_call 18; refine (CW.out _ (HG.out.below HB.out)).mono ?_; rintro e w1 ⟨rfl, hb⟩; have HB := Lib.hid (Below.and HB.out hb); clear hb)
        | (go_at_call 11; refine (CN.out _ (HG.out.below HB.out)).mono ?_; rintro e w1 ⟨rfl, hb⟩; have HB := Lib.hid (Below.and HB.out hb); clear hb)
        | (go_at_call 13; refine (CP.out _).mono ?_; rintro e w1 ⟨rfl, hb⟩; have HB := Lib.hid (Below.and HB.out hb); clear hb)
        | (go_at_call 17; refine (works_any _ (HG.out.below HB.out)).mono ?_; unfold BoolP; rintro e w1 ⟨rfl, hb⟩; have HB := Lib.hid (Below.and HB.out hb); clear hb))
      go_ret
      exact ⟨rfl, HB.out⟩
  · have h2 : min (s.size : Int) 100 = 100 := by omega
    have h1 : ¬ (s.size : Int) ≤ 100 := by omega
    have HZ : Hid ((s.extract 0 100).size ≤ 1000000) := Lib.hid (by rw [ByteArray.size_extract]; omega)
    go_enter Tryd.func6, Tryd.ntmps6
    go_wp2_with fail
    clear h1 h2 h
    generalize s.extract 0 100 = T at *
    cases hn : normP T.data.toList with
    | none =>
      refine (norm_prog _ _ (HG.out.below HB.out) HZ.out).mono ?_
      unfold NormP
      rw [hn]
      unfold normV
      rintro e w1 ⟨rfl, hb⟩
      have HB := Lib.hid (Below.and HB.out hb)
      clear hb hn
      go_wp2_with (go_at_call 17; refine (works_any _ (HG.out.below HB.out)).mono ?_; unfold BoolP; rintro e w1 ⟨rfl, hb⟩; have HB := Lib.hid (Below.and HB.out hb); clear hb)
      go_ret
      exact ⟨rfl, HB.out⟩
    | some v =>
      obtain ⟨x, n⟩ := v
      obtain ⟨hp, hi, hle⟩ := norm_some hn
      refine (norm_prog _ _ (HG.out.below HB.out) HZ.out).mono ?_
      unfold NormP
      rw [hn]
      unfold normV
      simp only
      rintro e w1 ⟨rfl, hb⟩
      have HB := Lib.hid (Below.and HB.out hb)
      clear hb hn
      have hx : x.length ≤ 60 := isPl_len hp
      have CW : Hid (∀ w, Gl w → Calls Tryd.prog 18 #[.string ⟨x.toArray⟩, .int .i64 n] w fun e w' => e = .returned (.tuple #[.string ⟨(textW x n).toArray⟩, .int .i64 0]) ∧ Below w.heap.size w w') := Lib.hid fun w hg =>
        write_some ⟨x.toArray⟩ n (textW x n) w hg (by rw [size_mk]; omega) (decide_eq_true (writeP_some hp hi))
      have hT : (textW x n).length ≤ T.size := by rw [Lib.size_eq]; exact hle
      have hz2 : (textW x n).length ≤ 1000000 := by have := HZ.out; omega
      have CN : Hid (∀ w, Gl w → Calls Tryd.prog 11 #[.string ⟨(textW x n).toArray⟩] w fun e w' => e = .returned (.tuple #[.string ⟨x.toArray⟩, .int .i64 n, .int .i64 0]) ∧ Below w.heap.size w w') := Lib.hid fun w hg =>
        (norm_prog ⟨(textW x n).toArray⟩ w hg (by rw [size_mk]; exact hz2)).mono fun e w' ⟨he, hb⟩ => ⟨by rw [he]; show Ending.returned (normV (normP (textW x n))) = _; rw [norm_text hp hi]; rfl, hb⟩
      have CP : Hid (∀ w, Calls Tryd.prog 13 #[.string ⟨x.toArray⟩] w fun e w' => e = .returned (.int .i64 0) ∧ Below w.heap.size w w') := Lib.hid fun w =>
        (plain_prog ⟨x.toArray⟩ w (by rw [size_mk]; omega)).mono fun e w' ⟨he, hb⟩ => ⟨by rw [he]; show Ending.returned (.int .i64 (okE (isPl x))) = _; rw [hp]; rfl, hb⟩
      have s1 := size_mk x
      have s2 := size_mk (textW x n)
      generalize textW x n = t at *
      clear hp hi hle
      have hx1 : ((⟨x.toArray⟩ : ByteArray).size : Int) ≤ 60 := by rw [s1]; omega
      have hx2 : ((⟨t.toArray⟩ : ByteArray).size : Int) ≤ (T.size : Int) := by rw [s2]; omega
      have hx3 : (t.length : Int) ≤ (T.size : Int) := by omega
      have hx4 : (x.length : Int) ≤ 60 := by omega
      have hx5 : decide (t.length ≤ T.size) = true := decide_eq_true hT
      clear hx hT hz2 s1 s2
      go_wp2_with (first
        | (go_at_call 18; refine (CW.out _ (HG.out.below HB.out)).mono ?_; rintro e w1 ⟨rfl, hb⟩; have HB := Lib.hid (Below.and HB.out hb); clear hb)
        | (go_at_call 11; refine (CN.out _ (HG.out.below HB.out)).mono ?_; rintro e w1 ⟨rfl, hb⟩; have HB := Lib.hid (Below.and HB.out hb); clear hb)
        | (go_at_call 13; refine (CP.out _).mono ?_; rintro e w1 ⟨rfl, hb⟩; have HB := Lib.hid (Below.and HB.out hb); clear hb)
        | (go_at_call 17; refine (works_any _ (HG.out.below HB.out)).mono ?_; unfold BoolP; rintro e w1 ⟨rfl, hb⟩; have HB := Lib.hid (Below.and HB.out hb); clear hb))
      go_ret
      exact ⟨rfl, HB.out⟩
end Go.Proofs.YtlbafdffmibjoaaDoor
