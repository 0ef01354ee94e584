/- The chapter's functions of layer 6: Plain, Pattern, port, Norm, Write, Match. -/
import Derived.Test.YtiakbmllpnabnaaGreatDoorGf
namespace Go.Proofs.YtiakbmllpnabnaaGreatDoor
open Go Go.RowKit Pl

/-- the piece of a text between two places -/
theorem piece_mid (s : ByteArray) (f t : Nat) : (s.extract f t).data.toList = (s.data.toList.take t).drop f := by
  rw [ByteArray.data_extract, Array.toList_extract]
  simp [List.extract, List.drop_take]
set_option maxRecDepth 100000 in
set_option maxHeartbeats 1000000 in
theorem plain_ref (s : ByteArray) (w : World) (hs : s.size ≤ 1000000) : Calls Tryz.prog 57 #[.string s] w fun e w' => e = .returned (.int .i64 (okE (isPl s.data.toList))) ∧ w = w' := by
  have hz := Lib.size_eq s
  by_cases h60 : 60 < (s.size : Int)
  · rw [isPl_long (l := s.data.toList) (by omega)]
    clear hz
    go_enter Tryz.func57, Tryz.ntmps57
    go_wp2_with fail
    go_ret
    exact ⟨rfl, rfl⟩
  have E := Lib.hid (isPl_parts (l := s.data.toList) (by omega))
  rw [E.out]
  clear E hz
  go_enter Tryz.func57, Tryz.ntmps57
  go_wp2_with fail
  go_loop [3, 4] (fun f i => ∃ a k : Nat, k ≤ s.size + 1 ∧ a ≤ k ∧ f = .int .i64 a ∧ i = .int .i64 k ∧ Hid ((k ≤ s.size → RP s.data.toList a k) ∧ (k = s.size + 1 → (parts s.data.toList).all isLab = true))) (fun _ i => s.size + 1 - (intOf i).toNat)
  case atStart => exact ⟨0, 0, Nat.zero_le _, Nat.le_refl _, rfl, rfl, Lib.hid ⟨fun _ => rp_start _, fun h => by omega⟩⟩
  case round =>
    obtain ⟨a, k, hk, hak, rfl, rfl, hR⟩ := hrel
    by_cases hlt : k ≤ s.size
    · by_cases hend : k = s.size
      · subst hend
        have hr := rp_end (l := s.data.toList) (fr := a) (by rw [← Lib.size_eq]; exact hR.out.1 (Nat.le_refl _))
        rw [← Lib.size_eq, ← piece_mid] at hr
        have c1 : (0 : Int) ≤ ↑a := by omega
        have c2 : (↑a : Int) ≤ ↑s.size := by omega
        have CP := Lib.hid (part_ref (s.extract a s.size) w (by rw [ByteArray.size_extract]; omega))
        cases hb : isLab (s.extract a s.size).data.toList <;> rw [hb] at CP hr
        · have HR := Lib.hid hr
          clear hb hr hR
          go_wp2_with (go_at_call 78; refine CP.out.mono ?_; rintro e w1 ⟨rfl, rfl⟩)
          go_ret
          exact ⟨ret_int (by rw [HR.out] <;> rfl), rfl⟩
        · have HR := Lib.hid hr
          clear hb hr hR
          go_wp2_with (go_at_call 78; refine CP.out.mono ?_; rintro e w1 ⟨rfl, rfl⟩)
          go_round
          case rel => exact ⟨s.size + 1, s.size + 1, Nat.le_refl _, Nat.le_refl _, by go_num, by go_num, Lib.hid ⟨fun h => by omega, fun _ => HR.out⟩⟩
          case measure => simp [intOf] <;> omega
      · have hk1 : k < s.size := by omega
        have hl1 : k < s.data.toList.length := by rw [← Lib.size_eq]; exact hk1
        have n1 : ((k : Int) == (s.size : Int)) = false := by rw [beq_eq_false_iff_ne]; omega
        have n2 : (k == s.size) = false := by rw [beq_eq_false_iff_ne]; omega
        have ha := at_list s k hk1
        by_cases h46 : (s[k]'hk1) = 46
        · have d1 : (((s[k]'hk1).toNat : Int) == 46) = true := by rw [h46]; rfl
          have c1 : (0 : Int) ≤ ↑a := by omega
          have c2 : (↑a : Int) ≤ ↑k := by omega
          have c3 : (↑k : Int) ≤ ↑s.size := by omega
          have CP := Lib.hid (part_ref (s.extract a k) w (by rw [ByteArray.size_extract]; omega))
          have hr := hR.out.1 (by omega)
          cases hb : isLab (s.extract a k).data.toList <;> rw [hb] at CP <;> rw [piece_mid] at hb
          · have HR := Lib.hid (rp_bad hr hl1 (by rw [ha]; exact h46) hb)
            clear hb hr hR ha h46 hl1
            go_wp2_with (go_at_call 78; refine CP.out.mono ?_; rintro e w1 ⟨rfl, rfl⟩)
            go_ret
            exact ⟨ret_int (by rw [HR.out] <;> rfl), rfl⟩
          · have HR := Lib.hid (rp_dot hr hl1 (by rw [ha]; exact h46) hb)
            clear hb hr hR ha h46 hl1
            go_wp2_with (go_at_call 78; refine CP.out.mono ?_; rintro e w1 ⟨rfl, rfl⟩)
            go_round
            case rel => exact ⟨k + 1, k + 1, by omega, Nat.le_refl _, by go_num, by go_num, Lib.hid ⟨fun _ => HR.out, fun h => by omega⟩⟩
            case measure => simp [intOf]; omega
        · have d1 : (((s[k]'hk1).toNat : Int) == 46) = false := by
            rw [beq_eq_false_iff_ne]; intro e; exact h46 (by rw [eqB]; show (s[k]'hk1).toNat = 46; omega)
          have HR := Lib.hid (rp_more (hR.out.1 (by omega)) hl1 hak (by rw [ha]; exact h46))
          clear hR ha h46 hl1
          go_wp2_with fail
          go_round
          case rel => exact ⟨a, k + 1, by omega, by omega, rfl, by go_num, Lib.hid ⟨fun _ => HR.out, fun h => by omega⟩⟩
          case measure => simp [intOf]; omega
    · have HR := Lib.hid (hR.out.2 (by omega))
      clear hR
      go_wp2_with fail
      go_ret
      exact ⟨ret_int (by rw [HR.out] <;> rfl), rfl⟩

def errV (b : Bool) : Value := .int .i64 (okE b)
theorem isPat_two {l : List UInt8} (h : l.length ≤ 2) (h2 : wildP l = true) : isPat l = false := by
  have : l = [42, 46] := by
    unfold wildP at h2
    match l, h, h2 with
    | [], _, h2 => simp at h2
    | [_], _, h2 => simp [List.isPrefixOf] at h2
    | [a, b], _, h2 => simp [List.isPrefixOf] at h2; rw [← h2.1, ← h2.2]
  rw [this]; exact isPat_star
theorem wild_take {l : List UInt8} (h : 2 < l.length) : wildP l = decide (l.take 2 = [42, 46]) := by
  match l, h with
  | a :: b :: r, _ =>
    rw [Bool.eq_iff_iff, decide_eq_true_iff]
    unfold wildP
    rw [List.isPrefixOf_cons_cons, List.isPrefixOf_cons_cons, Bool.and_eq_true, Bool.and_eq_true, beq_iff_eq, beq_iff_eq]
    constructor
    · rintro ⟨e1, e2, _⟩; rw [← e1, ← e2]; rfl
    · intro e; injection e with e1 e2; injection e2 with e2 _; exact ⟨e1.symm, e2.symm, rfl⟩
/-- the chapter's test for *. -/
theorem isPat_ref {l : List UInt8} (h : l.length ≤ 60) : isPat l = if decide (2 < l.length) && decide (l.take 2 = [42, 46]) then isPl (l.drop 2) else isPl l := by
  rw [isPat_rest h]
  by_cases h2 : 2 < l.length
  · rw [decide_eq_true h2, Bool.true_and, ← wild_take h2]
    unfold restP
    exact apply_ite isPl _ _ _
  · rw [decide_eq_false h2, Bool.false_and, if_neg (by simp)]
    unfold restP
    cases hw : wildP l
    · rfl
    · have := isPat_two (by omega) hw
      rw [isPat_rest h] at this
      unfold restP at this
      rw [hw] at this
      rw [if_pos rfl] at this ⊢
      rw [this, not_pl_star hw]
end Go.Proofs.YtiakbmllpnabnaaGreatDoor
