/- The chapter's Norm, Write, Match of layer 6. -/
import Derived.Test.YtiakbmllpnabnaaGreatDoorGh
namespace Go.Proofs.YtiakbmllpnabnaaGreatDoor
open Go Go.RowKit Pl

theorem hdC_before (s : ByteArray) (c : UInt8) (k : Nat) (hk : k < (hdC c s.data.toList).length) (hs : k < s.size) : (s[k]'hs) ≠ c := by
  intro e
  have h1 : (hdC c s.data.toList)[k] = s.data.toList[k]'(by rw [← Lib.size_eq]; exact hs) := by
    have h2 := take_hdC c s.data.toList
    have h3 : (s.data.toList.take (hdC c s.data.toList).length)[k]'(by rw [h2]; exact hk) = (hdC c s.data.toList)[k] := by simp only [h2]
    rw [← h3, List.getElem_take]
  rw [at_list s k hs, e] at h1
  have hm : (hdC c s.data.toList)[k] ∈ hdC c s.data.toList := List.getElem_mem hk
  rw [h1] at hm
  exact hdC_not c s.data.toList hm
theorem hdC_stop (s : ByteArray) (c : UInt8) (h : c ∈ s.data.toList) (hs : (hdC c s.data.toList).length < s.size) : (s[(hdC c s.data.toList).length]'hs) = c := by
  have e := hdC_tlC h
  have h1 : s.data.toList[(hdC c s.data.toList).length]'(hdC_lt h) = c := by
    have : ∀ (l a b : List UInt8) (hl : a.length < l.length), l = a ++ c :: b → l[a.length]'hl = c := by
      intro l a b hl e; subst e; simp
    exact this _ _ _ _ e
  rw [← at_list s _ hs]; exact h1
set_option maxRecDepth 100000 in
set_option maxHeartbeats 1000000 in
theorem norm_ref (s : ByteArray) (w : World) (hs : s.size ≤ 1000000) : Calls Tryz.prog 38 #[.string s] w (NormP s.data.toList w) := by
  have hz := Lib.size_eq s
  obtain ⟨K, hK⟩ : ∃ K, K = (hdC 58 s.data.toList).length := ⟨_, rfl⟩
  have hKs : K ≤ s.size := by rw [hK, hz]; exact hdC_le _ _
  have FB : Hid (∀ k, k < K → ∀ hk : k < s.size, ¬ (((s[k]'hk).toNat : Int) = 58)) := Lib.hid fun k h hk e => hdC_before s 58 k (by rw [← hK]; exact h) hk (by rw [eqB]; show (s[k]'hk).toNat = 58; omega)
  have HT : Hid (lowS (s.data.toList.take K) = lowS (hdC 58 s.data.toList)) := Lib.hid (by rw [hK, take_hdC])
  have HN : Hid (normP s.data.toList = if isPl (lowS (hdC 58 s.data.toList)) && decide (portN s.data.toList ≠ 0) then some (lowS (hdC 58 s.data.toList), portN s.data.toList) else none) := Lib.hid rfl
  have CP : Hid (∀ w, Calls Tryz.prog 57 #[.string ⟨(lowS (hdC 58 s.data.toList)).toArray⟩] w fun e w' => e = .returned (.int .i64 (okE (isPl (lowS (hdC 58 s.data.toList))))) ∧ w = w') :=
    Lib.hid fun w => plain_ref ⟨(lowS (hdC 58 s.data.toList)).toArray⟩ w (by rw [size_mk, lowS_len]; have := hdC_le 58 s.data.toList; omega)
  by_cases hc : 58 ∈ s.data.toList
  · have hlt2 : K < s.size := by rw [hK, hz]; exact hdC_lt hc
    have n58 : (((s[K]'hlt2).toNat : Int) != 58) = false := by
      subst hK
      rw [hdC_stop s 58 hc hlt2]; rfl
    have CO : Hid (∀ w, Calls Tryz.prog 55 #[.string (s.extract (K + 1) s.size)] w fun e w' => e = .returned (.int .i64 (portN s.data.toList)) ∧ w = w') := Lib.hid fun w => by
      have := port_ref (s.extract (K + 1) s.size) w (by rw [ByteArray.size_extract]; omega)
      rw [hK, tlC_piece] at this
      unfold portN
      rw [if_pos (show hasC 58 s.data.toList = true from decide_eq_true hc), hK, tlC_piece]
      exact this
    generalize portN s.data.toList = pn at *
    generalize lowS (hdC 58 s.data.toList) = lo at *
    generalize isPl lo = b at *
    unfold NormP
    generalize normP s.data.toList = r at *
    have c1 : (0 : Int) ≤ ↑K + 1 := by omega
    have c2 : (↑K + 1 : Int) ≤ ↑s.size := by omega
    clear hz hK hc
    go_enter Tryz.func38, Tryz.ntmps38
    go_wp2_with fail
    go_loop [5] (fun i => ∃ k : Nat, k ≤ K ∧ i = .int .i64 k) (fun i => K - (intOf i).toNat)
    case atStart => exact ⟨0, Nat.zero_le _, rfl⟩
    case round =>
      obtain ⟨k, hk, rfl⟩ := hrel
      by_cases hlt : k < K
      · have hks : k < s.size := by omega
        have n1 : (((s[k]'hks).toNat : Int) != 58) = true := by rw [bne_iff_ne]; exact FB.out k hlt hks
        go_wp2_with fail
        go_round
        case rel => exact ⟨k + 1, by omega, by go_num⟩
        case measure => simp [intOf]; omega
      · obtain rfl : K = k := by omega
        go_wp2_with (go_at_call 55; refine (CO.out _).mono ?_; rintro e w1 ⟨rfl, rfl⟩)
        clear n58 c1 c2
        go_loopw [7, 8] (fun v i wr => ∃ k : Nat, k ≤ K ∧ i = .int .i64 k ∧ OwnB wr w.heap.size v (lowS (s.data.toList.take k)) ∧ Below w.heap.size w wr) (fun _ i _ => K - (intOf i).toNat)
        case atStart => exact ⟨0, Nat.zero_le _, rfl, OwnB.nil _ _, Below.refl _ _⟩
        case round =>
          obtain ⟨k, hk, rfl, hown, hb⟩ := hrel
          by_cases hlt : k < K
          · have hks : k < s.size := by omega
            have hst := Lib.hid (lowS_step s k hks)
            have hlen : (lowS (s.data.toList.take k)).length ≤ 1000000000 := by rw [lowS_len, List.length_take, ← Lib.size_eq]; omega
            generalize lowS (s.data.toList.take k) = cur at *
            have CS := Lib.hid (small_ref (s[k]'hks))
            go_wp2_with (first
              | (go_at_call 56; refine (CS.out _).mono ?_; rintro e w1 ⟨rfl, rfl⟩)
              | (at_builtin; refine wpList_pushb rfl (.tmp 35) (.tmp 40) rfl _ w.heap.size _ _ _ (lowB (s[k]'hks)) rfl rfl hown rfl hb.size hlen ?_; intro v3 w3 hown3 hb3))
            go_roundw
            case rel => exact ⟨k + 1, by omega, by go_num, by rw [hst.out]; exact hown3, hb.trans hb3⟩
            case measure => simp [intOf]; omega
          · obtain rfl : K = k := by omega
            rw [HT.out] at hown
            have hcv := hown.conv
            clear hown
            cases h0 : decide (pn = 0)
            · have n0 : (pn == 0) = false := by rw [beq_eq_false_iff_ne]; exact of_decide_eq_false h0
              have E0 := Lib.hid (show decide (pn ≠ 0) = true from decide_eq_true (of_decide_eq_false h0))
              clear h0
              cases b
              · go_wp2_with (go_at_call 57; refine (CP.out _).mono ?_; rintro e w1 ⟨rfl, rfl⟩)
                go_ret3
                exact ⟨by rw [HN.out]; rfl, hb⟩
              · go_wp2_with (go_at_call 57; refine (CP.out _).mono ?_; rintro e w1 ⟨rfl, rfl⟩)
                go_ret3
                exact ⟨by rw [HN.out, E0.out]; rfl, hb⟩
            · obtain rfl : pn = 0 := of_decide_eq_true h0
              clear h0
              go_wp2_with fail
              go_ret3
              exact ⟨by rw [HN.out]; simp [normV], hb⟩
  · have hlt2 : K = s.size := by rw [hK, hz, (hdC_none hc).1]
    have EP : portN s.data.toList = 80 := by unfold portN; rw [if_neg]; unfold hasC; rw [decide_eq_false hc]; simp
    rw [EP] at HN
    clear EP
    generalize lowS (hdC 58 s.data.toList) = lo at *
    generalize isPl lo = b at *
    unfold NormP
    generalize normP s.data.toList = r at *
    clear hz hK hc
    have n2 : ¬ K < s.size := by omega
    have n3 : decide (K < s.size) = false := decide_eq_false n2
    clear hlt2
    go_enter Tryz.func38, Tryz.ntmps38
    go_wp2_with fail
    go_loop [5] (fun i => ∃ k : Nat, k ≤ K ∧ i = .int .i64 k) (fun i => K - (intOf i).toNat)
    case atStart => exact ⟨0, Nat.zero_le _, rfl⟩
    case round =>
      obtain ⟨k, hk, rfl⟩ := hrel
      by_cases hlt : k < K
      · have hks : k < s.size := by omega
        have n1 : (((s[k]'hks).toNat : Int) != 58) = true := by rw [bne_iff_ne]; exact FB.out k hlt hks
        go_wp2_with fail
        go_round
        case rel => exact ⟨k + 1, by omega, by go_num⟩
        case measure => simp [intOf]; omega
      · obtain rfl : K = k := by omega
        go_wp2_with fail
        go_loopw [7, 8] (fun v i wr => ∃ k : Nat, k ≤ K ∧ i = .int .i64 k ∧ OwnB wr w.heap.size v (lowS (s.data.toList.take k)) ∧ Below w.heap.size w wr) (fun _ i _ => K - (intOf i).toNat)
        case atStart => exact ⟨0, Nat.zero_le _, rfl, OwnB.nil _ _, Below.refl _ _⟩
        case round =>
          obtain ⟨k, hk, rfl, hown, hb⟩ := hrel
          by_cases hlt : k < K
          · have hks : k < s.size := by omega
            have hst := Lib.hid (lowS_step s k hks)
            have hlen : (lowS (s.data.toList.take k)).length ≤ 1000000000 := by rw [lowS_len, List.length_take, ← Lib.size_eq]; omega
            generalize lowS (s.data.toList.take k) = cur at *
            have CS := Lib.hid (small_ref (s[k]'hks))
            go_wp2_with (first
              | (go_at_call 56; refine (CS.out _).mono ?_; rintro e w1 ⟨rfl, rfl⟩)
              | (at_builtin; refine wpList_pushb rfl (.tmp 35) (.tmp 40) rfl _ w.heap.size _ _ _ (lowB (s[k]'hks)) rfl rfl hown rfl hb.size hlen ?_; intro v3 w3 hown3 hb3))
            go_roundw
            case rel => exact ⟨k + 1, by omega, by go_num, by rw [hst.out]; exact hown3, hb.trans hb3⟩
            case measure => simp [intOf]; omega
          · obtain rfl : K = k := by omega
            rw [HT.out] at hown
            have hcv := hown.conv
            clear hown
            cases b
            all_goals
              go_wp2_with (go_at_call 57; refine (CP.out _).mono ?_; rintro e w1 ⟨rfl, rfl⟩)
              go_ret3
              exact ⟨by rw [HN.out]; rfl, hb⟩
end Go.Proofs.YtiakbmllpnabnaaGreatDoor
