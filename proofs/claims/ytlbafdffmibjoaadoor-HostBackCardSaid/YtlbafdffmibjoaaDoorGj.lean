/- The chapter's Digits (of layer 1), Write and Match. -/
import Derived.Test.YtlbafdffmibjoaaDoorGi
import Derived.Lib.ItoaLen
namespace Go.Proofs.YtlbafdffmibjoaaDoor
open Go Go.RowKit

theorem dig_piece_fin : ∀ i : Fin 10, (⟨#[48, 49, 50, 51, 52, 53, 54, 55, 56, 57]⟩ : ByteArray).extract i.val (i.val + 1) = ⟨#[UInt8.ofNat (48 + i.val)]⟩ := by decide +kernel
theorem dig_piece (i : Nat) (h : i < 10) : (⟨#[48, 49, 50, 51, 52, 53, 54, 55, 56, 57]⟩ : ByteArray).extract i (i + 1) = ⟨#[UInt8.ofNat (48 + i)]⟩ := dig_piece_fin ⟨i, h⟩

theorem refDigits_any (n : Nat) (w : World) (h : n ≤ 9007199254740991) :
    Calls Tryd.prog 38 #[.int .i64 n] w fun e w' => e = .returned (.tuple #[.string ⟨(Lib.decDigits n).toArray⟩, .int .i64 0]) ∧ w = w' := by
  have h1 : ¬ (n : Int) < 0 := by omega
  have h2 : ¬ 9007199254740991 < (n : Int) := by omega
  go_enter Tryd.func38, Tryd.ntmps38
  go_wp2_with fail
  go_loop [0, 4] (fun i v => ∃ (m : Nat) (t : List UInt8), m ≤ n ∧ i = .int .i64 m ∧ v = .string ⟨t.toArray⟩ ∧ Hid (Lib.decDigits n = Lib.decDigits m ++ t)) (fun i _ => (intOf i).toNat)
  case atStart => exact ⟨n, [], Nat.le_refl _, rfl, rfl, by simp [Hid]⟩
  case round =>
    obtain ⟨m, t, hm, rfl, rfl, heq⟩ := hrel
    have htl : t.length ≤ 21 := by
      have h3 := Lib.itoa_length_le n (by omega) (by omega)
      rw [Lib.itoa_nonneg, heq.out, List.length_append] at h3; omega
    by_cases h9 : 9 < m
    · go_wp2_with fail
      go_round
      case rel =>
        refine ⟨m / 10, UInt8.ofNat (48 + m % 10) :: t, by omega, rfl, ?_, ?_⟩
        · rw [dig_piece _ (by omega)]; exact congrArg Value.string (ByteArray.mk_append_mk [UInt8.ofNat (48 + m % 10)] t)
        · show _ = _
          rw [heq.out, Pl.dec_step (n := m) (by omega)]; simp
      case measure => simp [intOf]; omega
    · go_wp2_with fail
      go_ret2
      refine ⟨?_, rfl⟩
      have e := ByteArray.mk_append_mk [UInt8.ofNat (48 + m)] t
      have h3 := heq.out
      rw [Lib.decDigits_one (i := m) (by omega)] at h3
      rw [h3, ← e]
      show Ending.returned (.tuple #[.string (_ ++ _), _]) = _
      rw [dig_piece m (by omega)]; rfl


open Pl
set_option maxRecDepth 100000 in
set_option maxHeartbeats 1000000 in
theorem write_ref (s : ByteArray) (n : Int) (w : World) (hs : s.size ≤ 1000000) : Calls Tryd.prog 19 #[.string s, .int .i64 n] w fun e w' => e = .returned (writeV (writeP s.data.toList n)) ∧ w = w' := by
  have CP := Lib.hid (plain_ref s w hs)
  unfold writeP
  cases hb : isPl s.data.toList <;> rw [hb] at CP
  · clear hb
    go_enter Tryd.func19, Tryd.ntmps19
    go_wp2_with (go_at_call 14; refine CP.out.mono ?_; rintro e w1 ⟨rfl, rfl⟩)
    go_ret2
    exact ⟨rfl, rfl⟩
  · clear hb
    by_cases h1 : n < 1
    · have hp : isP n = false := by unfold isP; rw [decide_eq_false (by omega)]; rfl
      rw [hp]
      clear hp
      go_enter Tryd.func19, Tryd.ntmps19
      go_wp2_with (go_at_call 14; refine CP.out.mono ?_; rintro e w1 ⟨rfl, rfl⟩)
      go_ret2
      exact ⟨rfl, rfl⟩
    by_cases h2 : 65535 < n
    · have hp : isP n = false := by unfold isP; rw [decide_eq_false (p := n ≤ 65535) (by omega)]; simp
      rw [hp]
      clear hp
      go_enter Tryd.func19, Tryd.ntmps19
      go_wp2_with (go_at_call 14; refine CP.out.mono ?_; rintro e w1 ⟨rfl, rfl⟩)
      go_ret2
      exact ⟨rfl, rfl⟩
    have hp : isP n = true := isP_iff.2 ⟨by omega, by omega⟩
    have hi := itoa_len hp
    rw [hp]
    clear hp
    by_cases h80 : n = 80
    · subst h80
      clear hi
      go_enter Tryd.func19, Tryd.ntmps19
      go_wp2_with (go_at_call 14; refine CP.out.mono ?_; rintro e w1 ⟨rfl, rfl⟩)
      go_ret2
      exact ⟨rfl, rfl⟩
    · rw [if_neg h80]
      have h81 : (n == 80) = false := by rw [beq_eq_false_iff_ne]; exact h80
      have HT := Lib.hid (write_text s n)
      have CI := refDigits_any n.toNat w (by omega)
      rw [show ((n.toNat : Nat) : Int) = n by omega] at CI
      rw [show Lib.itoa n = Lib.decDigits n.toNat by rw [← Lib.itoa_nonneg, show ((n.toNat : Nat) : Int) = n by omega]] at hi HT
      have CI := Lib.hid CI
      rw [show Lib.itoa n = Lib.decDigits n.toNat by rw [← Lib.itoa_nonneg, show ((n.toNat : Nat) : Int) = n by omega]]
      go_enter Tryd.func19, Tryd.ntmps19
      go_wp2_with (first
        | (go_at_call 14; refine CP.out.mono ?_; rintro e w1 ⟨rfl, rfl⟩)
        | (go_at_call 38; refine CI.out.mono ?_; rintro e w2 ⟨rfl, rfl⟩))
      go_ret2
      exact ⟨by rw [HT.out]; rfl, rfl⟩
theorem rest_piece (s : ByteArray) (h : 46 ∈ s.data.toList) : (s.extract (hdC 46 s.data.toList).length s.size).data.toList = 46 :: tlC 46 s.data.toList := by
  rw [piece_mid, take_all s (Nat.le_refl _)]
  have e := hdC_tlC h
  have : ∀ (l a b : List UInt8), l = a ++ 46 :: b → l.drop a.length = 46 :: b := by intro l a b e; subst e; simp
  exact this _ _ _ e
set_option maxRecDepth 100000 in
set_option maxHeartbeats 1000000 in
theorem match_ref (p h : ByteArray) (w : World) (hp : p.size ≤ 1000000) (hh : h.size ≤ 1000000) : Calls Tryd.prog 21 #[.string p, .string h] w fun e w' => e = .returned (.bool (matchP p.data.toList h.data.toList)) ∧ w = w' := by
  have CP := Lib.hid (pattern_ref p w hp)
  have CH := Lib.hid (plain_ref h w hh)
  unfold matchP
  cases hb : isPat p.data.toList <;> rw [hb] at CP
  · clear hb
    go_enter Tryd.func21, Tryd.ntmps21
    go_wp2_with (go_at_call 16; refine CP.out.mono ?_; unfold errV okE; rintro e w1 ⟨rfl, rfl⟩)
    go_ret
    exact ⟨rfl, rfl⟩
  · cases hc : isPl h.data.toList <;> rw [hc] at CH
    · clear hb hc
      go_enter Tryd.func21, Tryd.ntmps21
      go_wp2_with (first
        | (go_at_call 16; refine CP.out.mono ?_; unfold errV okE; rintro e w1 ⟨rfl, rfl⟩)
        | (go_at_call 14; refine CH.out.mono ?_; rintro e w1 ⟨rfl, rfl⟩))
      go_ret
      exact ⟨rfl, rfl⟩
    · clear hb hc
      have hz := Lib.size_eq h
      obtain ⟨K, hK⟩ : ∃ K, K = (hdC 46 h.data.toList).length := ⟨_, rfl⟩
      have hKs : K ≤ h.size := by rw [hK, hz]; exact hdC_le _ _
      have FB : Hid (∀ k, k < K → ∀ hk : k < h.size, ¬ (((h[k]'hk).toNat : Int) = 46)) := Lib.hid fun k hl hk e => hdC_before h 46 k (by rw [← hK]; exact hl) hk (by rw [eqB]; show (h[k]'hk).toNat = 46; omega)
      have e1 := eq_beq p h
      rw [← e1]
      clear e1
      by_cases hm : 46 ∈ h.data.toList
      · have hlt2 : K < h.size := by rw [hK, hz]; exact hdC_lt hm
        have n46 : (((h[K]'hlt2).toNat : Int) != 46) = false := by
          subst hK
          rw [hdC_stop h 46 hm hlt2]; rfl
        have hr := rest_piece h hm
        rw [← hK] at hr
        have e2 := eq_beq p ((⟨#[42]⟩ : ByteArray) ++ h.extract K h.size)
        have e3 : ((⟨#[42]⟩ : ByteArray) ++ h.extract K h.size).data.toList = 42 :: 46 :: tlC 46 h.data.toList := by
          rw [← mk_data (h.extract K h.size), hr]
          show ((⟨[42].toArray⟩ : ByteArray) ++ ⟨(46 :: tlC 46 h.data.toList).toArray⟩).data.toList = _
          rw [str_app]; rfl
        rw [e3] at e2
        rw [show hasC 46 h.data.toList = true from decide_eq_true hm, Bool.true_and, ← e2]
        have c1 : (0 : Int) ≤ ↑K := by omega
        have c2 : (↑K : Int) ≤ ↑h.size := by omega
        have c3 : (h.extract K h.size).size ≤ 1000000 := by rw [ByteArray.size_extract]; omega
        clear hz hK hm hr e2 e3
        go_enter Tryd.func21, Tryd.ntmps21
        go_wp2_with (first
          | (go_at_call 16; refine CP.out.mono ?_; unfold errV okE; rintro e w1 ⟨rfl, rfl⟩)
          | (go_at_call 14; refine CH.out.mono ?_; rintro e w1 ⟨rfl, rfl⟩))
        go_loop [5] (fun i => ∃ k : Nat, k ≤ K ∧ i = .int .i64 k) (fun i => K - (intOf i).toNat)
        case atStart => exact ⟨0, Nat.zero_le _, rfl⟩
        case round =>
          obtain ⟨k, hk, rfl⟩ := hrel
          by_cases hlt : k < K
          · have hks : k < h.size := by omega
            have n1 : (((h[k]'hks).toNat : Int) != 46) = true := by rw [bne_iff_ne]; exact FB.out k hlt hks
            go_wp2_with fail
            go_round
            case rel => exact ⟨k + 1, by omega, by go_num⟩
            case measure => simp [intOf]; omega
          · obtain rfl : K = k := by omega
            cases hx : p.toList == h.toList <;> cases hy : p.toList == ((⟨#[42]⟩ : ByteArray) ++ h.extract K h.size).toList
            all_goals
              go_wp2_with fail
              go_ret
              exact ⟨rfl, rfl⟩
      · have hlt2 : K = h.size := by rw [hK, hz, (hdC_none hm).1]
        rw [show hasC 46 h.data.toList = false from decide_eq_false hm]
        have n2 : ¬ K < h.size := by omega
        have n3 : decide (K < h.size) = false := decide_eq_false n2
        clear hz hK hm hlt2
        go_enter Tryd.func21, Tryd.ntmps21
        go_wp2_with (first
          | (go_at_call 16; refine CP.out.mono ?_; unfold errV okE; rintro e w1 ⟨rfl, rfl⟩)
          | (go_at_call 14; refine CH.out.mono ?_; rintro e w1 ⟨rfl, rfl⟩))
        go_loop [5] (fun i => ∃ k : Nat, k ≤ K ∧ i = .int .i64 k) (fun i => K - (intOf i).toNat)
        case atStart => exact ⟨0, Nat.zero_le _, rfl⟩
        case round =>
          obtain ⟨k, hk, rfl⟩ := hrel
          by_cases hlt : k < K
          · have hks : k < h.size := by omega
            have n1 : (((h[k]'hks).toNat : Int) != 46) = true := by rw [bne_iff_ne]; exact FB.out k hlt hks
            go_wp2_with fail
            go_round
            case rel => exact ⟨k + 1, by omega, by go_num⟩
            case measure => simp [intOf]; omega
          · obtain rfl : K = k := by omega
            cases hx : p.toList == h.toList
            all_goals
              go_wp2_with fail
              go_ret
              exact ⟨rfl, rfl⟩
end Go.Proofs.YtlbafdffmibjoaaDoor
