/- HostNorms and HostWrites. -/
import Derived.Test.YtlbafdffmibjoaaDoorGk
namespace Go.Proofs.YtlbafdffmibjoaaDoor
open Go Go.RowKit Pl

theorem cut6_size (s : ByteArray) : (s.extract 0 (min s.size 100)).size ≤ 100 := by rw [ByteArray.size_extract]; omega
set_option maxRecDepth 100000 in
set_option maxHeartbeats 1000000 in
theorem hostNorms_any (s : ByteArray) (w : World) (hG : Gl w) (hs : s.size ≤ maxLen) : Calls Tryd.prog 3 #[.string s] w (BoolP true w) := by
  have CC := Lib.hid (cut6_any s w hs)
  have hz := cut6_size s
  generalize s.extract 0 (min s.size 100) = t at *
  have HZ : Hid (t.size ≤ 1000000) := Lib.hid (by omega)
  have HG := Lib.hid hG
  have HB := Lib.hid (Below.refl w.heap.size w)
  have C1 : Hid (∀ w, Gl w → Calls Tryd.prog 11 #[.string t] w (NormP t.data.toList w)) := Lib.hid fun w hg => norm_prog t w hg HZ.out
  have C2 : Hid (∀ w, Calls Tryd.prog 12 #[.string t] w (NormP t.data.toList w)) := Lib.hid fun w => norm_ref t w HZ.out
  unfold NormP at C1 C2
  clear hG hs hz
  unfold BoolP
  cases hn : normP t.data.toList with
  | none =>
    rw [hn] at C1 C2
    unfold normV at C1 C2
    clear hn
    go_enter Tryd.func3, Tryd.ntmps3
    go_wp2_with (first
      | (go_at_call 10; refine CC.out.mono ?_; rintro e w1 ⟨rfl, rfl⟩)
      | (go_at_call 11; refine (C1.out _ (HG.out.below HB.out)).mono ?_; rintro e w1 ⟨rfl, hb⟩; have HB := Lib.hid (Below.and HB.out hb); clear hb)
      | (go_at_call 12; refine (C2.out _).mono ?_; rintro e w1 ⟨rfl, hb⟩; have HB := Lib.hid (Below.and HB.out hb); clear hb)
      | (go_at_call 13; refine (plain_prog _ _ HZ.out).mono ?_; rintro e w1 ⟨rfl, hb⟩; have HB := Lib.hid (Below.and HB.out hb); clear hb)
      | (go_at_call 14; refine (plain_ref _ _ HZ.out).mono ?_; rintro e w1 ⟨rfl, rfl⟩)
      | (go_at_call 15; refine (pattern_prog _ _ HZ.out).mono ?_; rintro e w1 ⟨rfl, hb⟩; have HB := Lib.hid (Below.and HB.out hb); clear hb)
      | (go_at_call 16; refine (pattern_ref _ _ HZ.out).mono ?_; unfold errV; rintro e w1 ⟨rfl, rfl⟩)
      | (go_at_call 17; refine (works_any _ (HG.out.below HB.out)).mono ?_; unfold BoolP; rintro e w1 ⟨rfl, hb⟩; have HB := Lib.hid (Below.and HB.out hb); clear hb))
    go_ret
    exact ⟨rfl, HB.out⟩
  | some v =>
    obtain ⟨x, n⟩ := v
    rw [hn] at C1 C2
    unfold normV at C1 C2
    simp only at C1 C2
    clear hn
    go_enter Tryd.func3, Tryd.ntmps3
    go_wp2_with (first
      | (go_at_call 10; refine CC.out.mono ?_; rintro e w1 ⟨rfl, rfl⟩)
      | (go_at_call 11; refine (C1.out _ (HG.out.below HB.out)).mono ?_; rintro e w1 ⟨rfl, hb⟩; have HB := Lib.hid (Below.and HB.out hb); clear hb)
      | (go_at_call 12; refine (C2.out _).mono ?_; rintro e w1 ⟨rfl, hb⟩; have HB := Lib.hid (Below.and HB.out hb); clear hb)
      | (go_at_call 13; refine (plain_prog _ _ HZ.out).mono ?_; rintro e w1 ⟨rfl, hb⟩; have HB := Lib.hid (Below.and HB.out hb); clear hb)
      | (go_at_call 14; refine (plain_ref _ _ HZ.out).mono ?_; rintro e w1 ⟨rfl, rfl⟩)
      | (go_at_call 15; refine (pattern_prog _ _ HZ.out).mono ?_; rintro e w1 ⟨rfl, hb⟩; have HB := Lib.hid (Below.and HB.out hb); clear hb)
      | (go_at_call 16; refine (pattern_ref _ _ HZ.out).mono ?_; unfold errV; rintro e w1 ⟨rfl, rfl⟩)
      | (go_at_call 17; refine (works_any _ (HG.out.below HB.out)).mono ?_; unfold BoolP; rintro e w1 ⟨rfl, hb⟩; have HB := Lib.hid (Below.and HB.out hb); clear hb))
    go_ret
    exact ⟨rfl, HB.out⟩

set_option maxRecDepth 100000 in
set_option maxHeartbeats 1000000 in
theorem hostWrites_any (s u : ByteArray) (n : Int) (w : World) (hG : Gl w) (hs : s.size ≤ maxLen) (hu : u.size ≤ maxLen) : Calls Tryd.prog 4 #[.string s, .string u, .int .i64 n] w (BoolP true w) := by
  have CC := cut6_any s w hs
  have CD := cut6_any u w hu
  have hz := cut6_size s
  have hy := cut6_size u
  generalize s.extract 0 (min s.size 100) = t at *
  generalize u.extract 0 (min u.size 100) = v at *
  have CC := Lib.hid CC
  have CD := Lib.hid CD
  have ha : ((⟨#[42, 46]⟩ : ByteArray) ++ v).size ≤ 1000000 := by rw [ByteArray.size_append]; show 2 + v.size ≤ _; omega
  have HG := Lib.hid hG
  have HB := Lib.hid (Below.refl w.heap.size w)
  have C1 : Hid (∀ w, Gl w → Calls Tryd.prog 18 #[.string t, .int .i64 n] w (WriteP t.data.toList n w)) := Lib.hid fun w hg => write_prog t n w hg (by omega)
  have C2 : Hid (∀ w, Calls Tryd.prog 19 #[.string t, .int .i64 n] w fun e w' => e = .returned (writeV (writeP t.data.toList n)) ∧ w = w') := Lib.hid fun w => write_ref t n w (by omega)
  have M1 : Hid (∀ w, Calls Tryd.prog 20 #[.string t, .string v] w (BoolP (matchP t.data.toList v.data.toList) w)) := Lib.hid fun w => match_prog t v w (by omega) (by omega)
  have M2 : Hid (∀ w, Calls Tryd.prog 21 #[.string t, .string v] w fun e w' => e = .returned (.bool (matchP t.data.toList v.data.toList)) ∧ w = w') := Lib.hid fun w => match_ref t v w (by omega) (by omega)
  have M3 : Hid (∀ w, Calls Tryd.prog 20 #[.string (⟨#[42, 46]⟩ ++ v), .string t] w (BoolP (matchP ((⟨#[42, 46]⟩ : ByteArray) ++ v).data.toList t.data.toList) w)) := Lib.hid fun w => match_prog _ t w ha (by omega)
  have M4 : Hid (∀ w, Calls Tryd.prog 21 #[.string (⟨#[42, 46]⟩ ++ v), .string t] w fun e w' => e = .returned (.bool (matchP ((⟨#[42, 46]⟩ : ByteArray) ++ v).data.toList t.data.toList)) ∧ w = w') := Lib.hid fun w => match_ref _ t w ha (by omega)
  unfold WriteP at C1
  unfold BoolP at M1 M3 ⊢
  generalize matchP t.data.toList v.data.toList = b1 at *
  generalize matchP ((⟨#[42, 46]⟩ : ByteArray) ++ v).data.toList t.data.toList = b2 at *
  clear hG hs hu
  cases hn : writeP t.data.toList n with
  | none =>
    rw [hn] at C1 C2
    unfold writeV at C1 C2
    clear hn
    go_enter Tryd.func4, Tryd.ntmps4
    go_wp2_with (first
      | (go_at_call 10; first | ((with_reducible refine CC.out.mono ?_); rintro e w1 ⟨rfl, rfl⟩) | ((with_reducible refine CD.out.mono ?_); rintro e w1 ⟨rfl, rfl⟩))
      | (go_at_call 18; refine (C1.out _ (HG.out.below HB.out)).mono ?_; rintro e w1 ⟨rfl, hb⟩; have HB := Lib.hid (Below.and HB.out hb); clear hb)
      | (go_at_call 19; refine (C2.out _).mono ?_; rintro e w1 ⟨rfl, rfl⟩)
      | (go_at_call 20; first | ((with_reducible refine (M1.out _).mono ?_); rintro e w1 ⟨rfl, hb⟩; have HB := Lib.hid (Below.and HB.out hb); clear hb) | ((with_reducible refine (M3.out _).mono ?_); rintro e w1 ⟨rfl, hb⟩; have HB := Lib.hid (Below.and HB.out hb); clear hb))
      | (go_at_call 21; first | ((with_reducible refine (M2.out _).mono ?_); rintro e w1 ⟨rfl, rfl⟩) | ((with_reducible refine (M4.out _).mono ?_); rintro e w1 ⟨rfl, rfl⟩))
      | (go_at_call 17; refine (works_any _ (HG.out.below HB.out)).mono ?_; unfold BoolP; rintro e w1 ⟨rfl, hb⟩; have HB := Lib.hid (Below.and HB.out hb); clear hb))
    go_ret
    exact ⟨rfl, HB.out⟩
  | some x =>
    rw [hn] at C1 C2
    unfold writeV at C1 C2
    simp only at C1 C2
    clear hn
    go_enter Tryd.func4, Tryd.ntmps4
    go_wp2_with (first
      | (go_at_call 10; first | ((with_reducible refine CC.out.mono ?_); rintro e w1 ⟨rfl, rfl⟩) | ((with_reducible refine CD.out.mono ?_); rintro e w1 ⟨rfl, rfl⟩))
      | (go_at_call 18; refine (C1.out _ (HG.out.below HB.out)).mono ?_; rintro e w1 ⟨rfl, hb⟩; have HB := Lib.hid (Below.and HB.out hb); clear hb)
      | (go_at_call 19; refine (C2.out _).mono ?_; rintro e w1 ⟨rfl, rfl⟩)
      | (go_at_call 20; first | ((with_reducible refine (M1.out _).mono ?_); rintro e w1 ⟨rfl, hb⟩; have HB := Lib.hid (Below.and HB.out hb); clear hb) | ((with_reducible refine (M3.out _).mono ?_); rintro e w1 ⟨rfl, hb⟩; have HB := Lib.hid (Below.and HB.out hb); clear hb))
      | (go_at_call 21; first | ((with_reducible refine (M2.out _).mono ?_); rintro e w1 ⟨rfl, rfl⟩) | ((with_reducible refine (M4.out _).mono ?_); rintro e w1 ⟨rfl, rfl⟩))
      | (go_at_call 17; refine (works_any _ (HG.out.below HB.out)).mono ?_; unfold BoolP; rintro e w1 ⟨rfl, hb⟩; have HB := Lib.hid (Below.and HB.out hb); clear hb))
    go_ret
    exact ⟨rfl, HB.out⟩
end Go.Proofs.YtlbafdffmibjoaaDoor
