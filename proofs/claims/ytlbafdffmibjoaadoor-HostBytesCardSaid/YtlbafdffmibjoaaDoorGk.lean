/- The statements' helpers of layer 6: cut, norms, works. -/
import Derived.Test.YtlbafdffmibjoaaDoorGj
namespace Go.Proofs.YtlbafdffmibjoaaDoor
open Go Go.RowKit Pl

theorem cut6_any (s : ByteArray) (w : World) (hs : s.size ≤ maxLen) :
    Calls Tryd.prog 10 #[.string s] w fun e w' => e = .returned (.string (s.extract 0 (min s.size 100))) ∧ w = w' := by
  unfold maxLen at hs
  by_cases h : s.size ≤ 100
  · have e : min s.size 100 = s.size := by omega
    rw [e, extract_all s (Nat.le_refl _)]
    have h1 : (s.size : Int) ≤ 100 := by omega
    have h2 : min (s.size : Int) 100 = (s.size : Int) := by omega
    go_enter Tryd.func10, Tryd.ntmps10
    go_wp2
    go_ret
    exact ⟨ret_str (by simp), rfl⟩
  · have e : min s.size 100 = 100 := by omega
    rw [e]
    have h2 : min (s.size : Int) 100 = 100 := by omega
    have h1 : ¬ (s.size : Int) ≤ 100 := by omega
    go_enter Tryd.func10, Tryd.ntmps10
    go_wp2
    go_ret
    exact ⟨rfl, rfl⟩

def okN (s t : List UInt8) (n : Int) : Bool := if n = 0 then decide (normP s = none) else decide (normP s = some (t, n))
set_option maxRecDepth 100000 in
theorem norms_ok (s t : ByteArray) (n : Int) (w : World) (hG : Gl w) (hs : s.size ≤ 1000000) (h : okN s.data.toList t.data.toList n = true) :
    Calls Tryd.prog 35 #[.string s, .string t, .int .i64 n] w fun e w' => e = .returned (.bool true) ∧ Below w.heap.size w w' := by
  have CN := norm_prog s w hG hs
  unfold NormP at CN
  unfold okN at h
  by_cases h0 : n = 0
  · rw [if_pos h0] at h
    rw [of_decide_eq_true h] at CN
    have CN := Lib.hid CN
    subst h0
    clear h
    go_enter Tryd.func35, Tryd.ntmps35
    go_wp2_with (go_at_call 11; refine CN.out.mono ?_; unfold normV; rintro e w1 ⟨rfl, hb⟩)
    go_ret
    exact ⟨rfl, hb⟩
  · rw [if_neg h0] at h
    rw [of_decide_eq_true h] at CN
    unfold normV at CN
    simp only [mk_data] at CN
    have CN := Lib.hid CN
    have h1 : (n == 0) = false := by rw [beq_eq_false_iff_ne]; exact h0
    clear h
    go_enter Tryd.func35, Tryd.ntmps35
    go_wp2_with (go_at_call 11; refine CN.out.mono ?_; rintro e w1 ⟨rfl, hb⟩)
    go_ret
    exact ⟨rfl, hb⟩
theorem write_some (s : ByteArray) (n : Int) (v : List UInt8) (w : World) (hG : Gl w) (hs : s.size ≤ 1000000) (h : decide (writeP s.data.toList n = some v) = true) :
    Calls Tryd.prog 18 #[.string s, .int .i64 n] w fun e w' => e = .returned (.tuple #[.string ⟨v.toArray⟩, .int .i64 0]) ∧ Below w.heap.size w w' := (write_prog s n w hG hs).mono fun e w' ⟨he, hb⟩ => ⟨by rw [he, of_decide_eq_true h]; rfl, hb⟩
theorem write_none (s : ByteArray) (n : Int) (w : World) (hG : Gl w) (hs : s.size ≤ 1000000) (h : decide (writeP s.data.toList n = none) = true) :
    Calls Tryd.prog 18 #[.string s, .int .i64 n] w fun e w' => e = .returned (.tuple #[.string ⟨#[]⟩, .int .i64 60]) ∧ Below w.heap.size w w' := (write_prog s n w hG hs).mono fun e w' ⟨he, hb⟩ => ⟨by rw [he, of_decide_eq_true h]; rfl, hb⟩
theorem match_is (p h : ByteArray) (b : Bool) (w : World) (hp : p.size ≤ 1000000) (hh : h.size ≤ 1000000) (hm : decide (matchP p.data.toList h.data.toList = b) = true) :
    Calls Tryd.prog 20 #[.string p, .string h] w (BoolP b w) := by rw [← of_decide_eq_true hm]; exact match_prog p h w hp hh
set_option maxRecDepth 100000 in
set_option maxHeartbeats 4000000 in
theorem works_any (w : World) (hG : Gl w) : Calls Tryd.prog 17 #[] w (BoolP true w) := by
  have HG := Lib.hid hG
  have HB := Lib.hid (Below.refl w.heap.size w)
  clear hG
  unfold BoolP
  go_enter Tryd.func17, Tryd.ntmps17
  go_wp2_with (first
    | (go_at_call 35; refine (norms_ok _ _ _ _ (HG.out.below HB.out) (by decide) (by decide +kernel)).mono ?_; rintro e w1 ⟨rfl, hb⟩; have HB := Lib.hid (Below.and HB.out hb); clear hb)
    | (go_at_call 18; first
        | (refine (write_some _ _ [97] _ (HG.out.below HB.out) (by decide) (by decide +kernel)).mono ?_; rintro e w1 ⟨rfl, hb⟩; have HB := Lib.hid (Below.and HB.out hb); clear hb)
        | (refine (write_some _ _ [97, 58, 52, 52, 51] _ (HG.out.below HB.out) (by decide) (by decide +kernel)).mono ?_; rintro e w1 ⟨rfl, hb⟩; have HB := Lib.hid (Below.and HB.out hb); clear hb)
        | (refine (write_none _ _ _ (HG.out.below HB.out) (by decide) (by decide +kernel)).mono ?_; rintro e w1 ⟨rfl, hb⟩; have HB := Lib.hid (Below.and HB.out hb); clear hb))
    | (go_at_call 20; first
        | (refine (match_is _ _ true _ (by decide) (by decide) (by decide +kernel)).mono ?_; rintro e w1 ⟨rfl, hb⟩; have HB := Lib.hid (Below.and HB.out hb); clear hb)
        | (refine (match_is _ _ false _ (by decide) (by decide) (by decide +kernel)).mono ?_; rintro e w1 ⟨rfl, hb⟩; have HB := Lib.hid (Below.and HB.out hb); clear hb)))
  go_ret
  exact ⟨rfl, HB.out⟩
end Go.Proofs.YtlbafdffmibjoaaDoor
