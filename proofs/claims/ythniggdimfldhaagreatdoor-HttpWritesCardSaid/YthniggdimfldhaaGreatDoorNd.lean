/- The library: strconv.ParseUint of at most four signs, in base 10 and in base 16. -/
import Derived.Test.YthniggdimfldhaaGreatDoorNc
import Derived.Test.YthniggdimfldhaaGreatDoorHd
import Derived.Test.YthniggdimfldhaaGreatDoorNp
import Derived.ChangeArms
namespace Go.Proofs.YthniggdimfldhaaGreatDoor
open Go Go.RowKit

/-- a letter made small -/
def lowN (n : Nat) : Nat := n ||| 32
set_option maxRecDepth 100000 in
theorem lower_lib (c : UInt8) (w : World) : Calls Tryz.prog 153 #[.int .u8 (c.toNat : Int)] w fun e w' => e = .returned (.int .u8 (lowN c.toNat : Int)) ∧ w = w' := by
  have hb : bits .or .u8 (c.toNat : Int) 32 = (lowN c.toNat : Int) := (by decide +kernel : ∀ x : Fin 256, bits .or .u8 (x.val : Int) 32 = (lowN x.val : Int)) ⟨c.toNat, c.toNat_lt⟩
  go_enter Tryz.func153, Tryz.ntmps153
  go_wp2
  go_ret
  exact ⟨rfl, rfl⟩
def valN (b n : Nat) : Option Nat := if 48 ≤ n ∧ n ≤ 57 then some (n - 48) else if b = 16 ∧ 97 ≤ n ∧ n ≤ 102 then some (n - 87) else if b = 16 ∧ 65 ≤ n ∧ n ≤ 70 then some (n - 55) else none
theorem val_n (b : Nat) (c : UInt8) : valD b c = valN b c.toNat := rfl
theorem let_yes (c : UInt8) (h0 : ¬ (48 ≤ c.toNat ∧ c.toNat ≤ 57)) (h1 : 97 ≤ lowN c.toNat) (h3 : lowN c.toNat ≤ 102) : valD 16 c = some (lowN c.toNat - 87) := by
  have := (by decide +kernel : ∀ x : Fin 256, (48 ≤ x.val ∧ x.val ≤ 57) ∨ lowN x.val < 97 ∨ 102 < lowN x.val ∨ valN 16 x.val = some (lowN x.val - 87)) ⟨c.toNat, c.toNat_lt⟩
  rw [val_n]
  rcases this with h | h | h | h
  · exact absurd h h0
  · exact absurd h (Nat.not_lt.2 h1)
  · exact absurd h (Nat.not_lt.2 h3)
  · exact h
theorem let_no (c : UInt8) (h0 : ¬ (48 ≤ c.toNat ∧ c.toNat ≤ 57)) (h1 : lowN c.toNat < 97 ∨ 102 < lowN c.toNat) : valD 16 c = none := by
  have := (by decide +kernel : ∀ x : Fin 256, (48 ≤ x.val ∧ x.val ≤ 57) ∨ (97 ≤ lowN x.val ∧ lowN x.val ≤ 102) ∨ valN 16 x.val = none) ⟨c.toNat, c.toNat_lt⟩
  rw [val_n]
  rcases this with h | h | h
  · exact absurd h h0
  · have h : 97 ≤ lowN c.toNat ∧ lowN c.toNat ≤ 102 := h
    omega
  · exact h
theorem ten_no (c : UInt8) (h0 : ¬ (48 ≤ c.toNat ∧ c.toNat ≤ 57)) : valD 10 c = none := by
  unfold valD
  rw [if_neg h0, if_neg (by omega), if_neg (by omega)]
theorem dig_val (b : Nat) (c : UInt8) (h1 : 48 ≤ c.toNat) (h2 : c.toNat ≤ 57) : valD b c = some (c.toNat - 48) := by
  unfold valD
  rw [if_pos ⟨h1, h2⟩]
theorem low_lt (c : UInt8) : lowN c.toNat < 256 := (by decide +kernel : ∀ x : Fin 256, lowN x.val < 256) ⟨c.toNat, c.toNat_lt⟩
theorem numF_app (b : Nat) : ∀ (s : List UInt8) (n : Nat) (t : List UInt8), numF b n (s ++ t) = (numF b n s).bind fun v => numF b v t
  | [], n, t => rfl
  | c :: s, n, t => by
    rw [List.cons_append]
    show (match valD b c with | none => none | some v => numF b (b * n + v) (s ++ t)) = (match valD b c with | none => none | some v => numF b (b * n + v) s).bind _
    cases valD b c with
    | none => rfl
    | some v => exact numF_app b s _ t
theorem numF_snoc {b : Nat} {s : List UInt8} {k v d : Nat} (hk : k < s.length) (h : numF b 0 (s.take k) = some v) (hd : valD b s[k] = some d) : numF b 0 (s.take (k + 1)) = some (b * v + d) := by
  rw [← List.take_append_getElem hk, numF_app, h]
  show numF b v [s[k]] = _
  unfold numF
  rw [hd]
  rfl
theorem numF_stop {b : Nat} {s : List UInt8} {k v : Nat} (hk : k < s.length) (h : numF b 0 (s.take k) = some v) (hd : valD b s[k] = none) : numF b 0 s = none := by
  have e : s = s.take k ++ (s[k] :: s.drop (k + 1)) := by rw [List.getElem_cons_drop, List.take_append_drop]
  rw [e, numF_app, h]
  show numF b v (s[k] :: _) = _
  unfold numF
  rw [hd]
/-- what the library's own ParseUint hands back: a number, or the error's number -/
def puV : Option Nat → Value
  | some n => .tuple #[.int .u64 (n : Int), .nilIface]
  | none => .tuple #[.int .u64 0, .iface 147 (.int .i64 2)]
theorem bytes_at (s : List UInt8) (k : Nat) (h : k < s.length) : (⟨s.toArray⟩ : ByteArray).data.toList.getD k 0 = s[k] := by
  rw [mk_toList, List.getD_eq_getElem?_getD, List.getElem?_eq_getElem h]; rfl

set_option maxRecDepth 100000 in
set_option maxHeartbeats 2000000 in
theorem puint10_any (s : List UInt8) (hl : s.length ≤ 4) (w : World) : Calls Tryz.prog 135 #[.string ⟨s.toArray⟩, .int .i64 10, .int .i64 16] w fun e w' =>
    e = .returned (puV (numO 10 s)) ∧ Below w.heap.size w w' := by
  have hsz := mk_size s
  by_cases h0 : s.length = 0
  · obtain rfl : s = [] := List.eq_nil_of_length_eq_zero h0
    go_enter Tryz.func135, Tryz.ntmps135
    go_wp2
    go_ret2
    exact ⟨rfl, Below.refl _ _⟩
  have hne : (s == []) = false := by cases s with | nil => exact absurd rfl h0 | cons c s => rfl
  have hcv := bytes_conv w ⟨s.toArray⟩
  have hrow := Lib.hid (bytesWorld_row w ⟨s.toArray⟩)
  have hbel := Lib.hid (bytesWorld_below w ⟨s.toArray⟩)
  have e1 := Lib.hid (bytes_at s)
  have hO : numO 10 s = numF 10 0 s := by unfold numO; rw [if_pos (by omega)]
  rw [hO]
  clear hO
  rw [hsz] at hcv hrow
  generalize Lib.bytesWorld w 5 ⟨s.toArray⟩ = w1 at *
  generalize grownCap w s.length 0 5 = cap at *
  have HL := Lib.hid hl
  have HN := Lib.hid h0
  clear hl h0
  have hlen : s.length ≤ 4 := HL.out
  generalize hg : w.heap.size = g at *
  go_enter Tryz.func135, Tryz.ntmps135
  go_wp2_with fail
  go_loop [12, 13, 101] (fun u n i => ∃ (k v : Nat) (a : Int), k ≤ s.length ∧ u = .bool false ∧ i = .int .i64 k ∧ n = .int .u64 a ∧ Hid (a = v) ∧ Hid (v < 10 ^ k) ∧ Hid (numF 10 0 (s.take k) = some v)) (fun _ _ i => s.length - (intOf i).toNat)
  case atStart => exact ⟨0, 0, 0, Nat.zero_le _, rfl, rfl, rfl, rfl, show 0 < 10 ^ 0 by decide, rfl⟩
  case round =>
    obtain ⟨k, v, a, hk, rfl, rfl, rfl, ha, hv, hN⟩ := hrel
    by_cases hlt : k < s.length
    · have hc := hrow.out.cell k hlt
      rw [e1.out k hlt] at hc
      have hv3 : v < 1000 := Nat.lt_of_lt_of_le hv.out (Nat.le_trans (Nat.pow_le_pow_right (by decide) (show k ≤ 3 by omega)) (by decide))
      have HV := hv
      have a0 : 0 ≤ a := by have := ha.out; omega
      have a1 : a ≤ 999 := by have := ha.out; omega
      have HV3 := Lib.hid hv3
      clear hv hv3
      have S1 := Lib.hid fun d (hd : valD 10 s[k] = some d) => numF_snoc hlt hN.out hd
      have S2 := Lib.hid fun (hd : valD 10 s[k] = none) => numF_stop hlt hN.out hd
      have D := Lib.hid (dig_val 10 s[k])
      have Tn := Lib.hid (ten_no s[k])
      have c256 := s[k].toNat_lt
      have l256 := low_lt s[k]
      have LW := Lib.hid fun w => lower_lib s[k] w
      have hpow : ∀ d : Nat, d < 10 → 10 * v + d < 10 ^ (k + 1) := fun d hd => by
        have := HV.out
        rw [Nat.pow_succ]
        have := Nat.mul_le_mul_left 10 (Nat.succ_le_of_lt this)
        omega
      have HP := Lib.hid hpow
      clear hpow hN
      generalize hcc : s[k].toNat = c at *
      generalize hll : lowN c = l at *
      by_cases c95 : c = 95
      · have hl127 : l = 127 := by rw [← hll, c95]; rfl
        subst c95
        subst hl127
        have hno := Lib.hid (S2.out (Tn.out (by omega)))
        have LW' : Hid (∀ w, Calls Tryz.prog 153 #[.int .u8 95] w fun e w' => e = .returned (.int .u8 127) ∧ w = w') := LW
        clear LW hcc hll
        go_wp2_with (go_at_call 153; refine (LW'.out _).mono ?_; rintro e w' ⟨rfl, rfl⟩)
        go_ret2
        exact ⟨by rw [hno.out]; rfl, hbel.out⟩
      have n95 : ((c : Int) == 95) = false := by rw [beq_eq_false_iff_ne]; omega
      by_cases d1 : 48 ≤ c
      · by_cases d2 : c ≤ 57
        · have iov : a * 10 + ((c : Int) - 48) ≤ 65535 := by omega
          have HA : Hid (a * 10 + ((c : Int) - 48) = ((10 * v + (c - 48) : Nat) : Int)) := by show _ = _; have := ha.out; omega
          go_wp2_with fail
          go_round
          case rel => exact ⟨k + 1, 10 * v + (c - 48), _, by omega, rfl, by go_num, rfl, HA, HP.out _ (by omega), S1.out _ (D.out d1 d2)⟩
          case measure => simp [intOf]; omega
        · have a3 : ¬ (48 ≤ c ∧ c ≤ 57) := fun h => d2 h.2
          have hno := Lib.hid (S2.out (Tn.out a3))
          by_cases b1 : 97 ≤ l
          · by_cases b3 : l ≤ 122
            · go_wp2_with (go_at_call 153; refine (LW.out _).mono ?_; rintro e w' ⟨rfl, rfl⟩)
              go_ret2
              exact ⟨by rw [hno.out]; rfl, hbel.out⟩
            · go_wp2_with (go_at_call 153; refine (LW.out _).mono ?_; rintro e w' ⟨rfl, rfl⟩)
              go_ret2
              exact ⟨by rw [hno.out]; rfl, hbel.out⟩
          · go_wp2_with (go_at_call 153; refine (LW.out _).mono ?_; rintro e w' ⟨rfl, rfl⟩)
            go_ret2
            exact ⟨by rw [hno.out]; rfl, hbel.out⟩
      · have a3 : ¬ (48 ≤ c ∧ c ≤ 57) := fun h => d1 h.1
        have hno := Lib.hid (S2.out (Tn.out a3))
        by_cases b1 : 97 ≤ l
        · by_cases b3 : l ≤ 122
          · go_wp2_with (go_at_call 153; refine (LW.out _).mono ?_; rintro e w' ⟨rfl, rfl⟩)
            go_ret2
            exact ⟨by rw [hno.out]; rfl, hbel.out⟩
          · go_wp2_with (go_at_call 153; refine (LW.out _).mono ?_; rintro e w' ⟨rfl, rfl⟩)
            go_ret2
            exact ⟨by rw [hno.out]; rfl, hbel.out⟩
        · go_wp2_with (go_at_call 153; refine (LW.out _).mono ?_; rintro e w' ⟨rfl, rfl⟩)
          go_ret2
          exact ⟨by rw [hno.out]; rfl, hbel.out⟩
    · have hfin : Hid (numF 10 0 s = some v) := by have := hN.out; rwa [List.take_of_length_le (by omega)] at this
      clear hN hv
      go_wp2_with fail
      go_ret2
      exact ⟨by rw [hfin.out, show a = (v : Int) from ha.out]; rfl, hbel.out⟩

set_option maxRecDepth 100000 in
set_option maxHeartbeats 2000000 in
theorem puint16_any (s : List UInt8) (hl : s.length ≤ 4) (w : World) : Calls Tryz.prog 135 #[.string ⟨s.toArray⟩, .int .i64 16, .int .i64 16] w fun e w' =>
    e = .returned (puV (numO 16 s)) ∧ Below w.heap.size w w' := by
  have hsz := mk_size s
  by_cases h0 : s.length = 0
  · obtain rfl : s = [] := List.eq_nil_of_length_eq_zero h0
    go_enter Tryz.func135, Tryz.ntmps135
    go_wp2
    go_ret2
    exact ⟨rfl, Below.refl _ _⟩
  have hne : (s == []) = false := by cases s with | nil => exact absurd rfl h0 | cons c s => rfl
  have hcv := bytes_conv w ⟨s.toArray⟩
  have hrow := Lib.hid (bytesWorld_row w ⟨s.toArray⟩)
  have hbel := Lib.hid (bytesWorld_below w ⟨s.toArray⟩)
  have e1 := Lib.hid (bytes_at s)
  have hO : numO 16 s = numF 16 0 s := by unfold numO; rw [if_pos (by omega)]
  rw [hO]
  clear hO
  rw [hsz] at hcv hrow
  generalize Lib.bytesWorld w 5 ⟨s.toArray⟩ = w1 at *
  generalize grownCap w s.length 0 5 = cap at *
  have HL := Lib.hid hl
  have HN := Lib.hid h0
  clear hl h0
  have hlen : s.length ≤ 4 := HL.out
  generalize hg : w.heap.size = g at *
  go_enter Tryz.func135, Tryz.ntmps135
  go_wp2_with fail
  go_loop [12, 13, 101] (fun u n i => ∃ (k v : Nat) (a : Int), k ≤ s.length ∧ u = .bool false ∧ i = .int .i64 k ∧ n = .int .u64 a ∧ Hid (a = v) ∧ Hid (v < 16 ^ k) ∧ Hid (numF 16 0 (s.take k) = some v)) (fun _ _ i => s.length - (intOf i).toNat)
  case atStart => exact ⟨0, 0, 0, Nat.zero_le _, rfl, rfl, rfl, rfl, show 0 < 16 ^ 0 by decide, rfl⟩
  case round =>
    obtain ⟨k, v, a, hk, rfl, rfl, rfl, ha, hv, hN⟩ := hrel
    by_cases hlt : k < s.length
    · have hc := hrow.out.cell k hlt
      rw [e1.out k hlt] at hc
      have hv3 : v < 4096 := Nat.lt_of_lt_of_le hv.out (Nat.le_trans (Nat.pow_le_pow_right (by decide) (show k ≤ 3 by omega)) (by decide))
      have HV := hv
      have a0 : 0 ≤ a := by have := ha.out; omega
      have a1 : a ≤ 4095 := by have := ha.out; omega
      have HV3 := Lib.hid hv3
      clear hv hv3
      have S1 := Lib.hid fun d (hd : valD 16 s[k] = some d) => numF_snoc hlt hN.out hd
      have S2 := Lib.hid fun (hd : valD 16 s[k] = none) => numF_stop hlt hN.out hd
      have D := Lib.hid (dig_val 16 s[k])
      have Ly := Lib.hid (let_yes s[k])
      have Ln := Lib.hid (let_no s[k])
      have c256 := s[k].toNat_lt
      have l256 := low_lt s[k]
      have LW := Lib.hid fun w => lower_lib s[k] w
      have hpow : ∀ d : Nat, d < 16 → 16 * v + d < 16 ^ (k + 1) := fun d hd => by
        have := HV.out
        rw [Nat.pow_succ]
        have := Nat.mul_le_mul_left 16 (Nat.succ_le_of_lt this)
        omega
      have HP := Lib.hid hpow
      clear hpow hN
      generalize hcc : s[k].toNat = c at *
      generalize hll : lowN c = l at *
      by_cases c95 : c = 95
      · have hl127 : l = 127 := by rw [← hll, c95]; rfl
        subst c95
        subst hl127
        have hno := Lib.hid (S2.out (Ln.out (by omega) (.inr (by omega))))
        have LW' : Hid (∀ w, Calls Tryz.prog 153 #[.int .u8 95] w fun e w' => e = .returned (.int .u8 127) ∧ w = w') := LW
        clear LW hcc hll
        go_wp2_with (go_at_call 153; refine (LW'.out _).mono ?_; rintro e w' ⟨rfl, rfl⟩)
        go_ret2
        exact ⟨by rw [hno.out]; rfl, hbel.out⟩
      have n95 : ((c : Int) == 95) = false := by rw [beq_eq_false_iff_ne]; omega
      by_cases d1 : 48 ≤ c
      · by_cases d2 : c ≤ 57
        · have iov : a * 16 + ((c : Int) - 48) ≤ 65535 := by omega
          have HA : Hid (a * 16 + ((c : Int) - 48) = ((16 * v + (c - 48) : Nat) : Int)) := by show _ = _; have := ha.out; omega
          go_wp2_with fail
          go_round
          case rel => exact ⟨k + 1, 16 * v + (c - 48), _, by omega, rfl, by go_num, rfl, HA, HP.out _ (by omega), S1.out _ (D.out d1 d2)⟩
          case measure => simp [intOf]; omega
        · have a3 : ¬ (48 ≤ c ∧ c ≤ 57) := fun h => d2 h.2
          by_cases b1 : 97 ≤ l
          · by_cases b2 : l ≤ 102
            · have iov : a * 16 + ((l : Int) - 97 + 10) ≤ 65535 := by omega
              have HA : Hid (a * 16 + ((l : Int) - 97 + 10) = ((16 * v + (l - 87) : Nat) : Int)) := by show _ = _; have := ha.out; omega
              go_wp2_with (go_at_call 153; refine (LW.out _).mono ?_; rintro e w' ⟨rfl, rfl⟩)
              go_round
              case rel => exact ⟨k + 1, 16 * v + (l - 87), _, by omega, rfl, by go_num, rfl, HA, HP.out _ (by omega), S1.out _ (Ly.out a3 b1 b2)⟩
              case measure => simp [intOf]; omega
            · have hno := Lib.hid (S2.out (Ln.out a3 (.inr (by omega))))
              by_cases b3 : l ≤ 122
              · go_wp2_with (go_at_call 153; refine (LW.out _).mono ?_; rintro e w' ⟨rfl, rfl⟩)
                go_ret2
                exact ⟨by rw [hno.out]; rfl, hbel.out⟩
              · go_wp2_with (go_at_call 153; refine (LW.out _).mono ?_; rintro e w' ⟨rfl, rfl⟩)
                go_ret2
                exact ⟨by rw [hno.out]; rfl, hbel.out⟩
          · have hno := Lib.hid (S2.out (Ln.out a3 (.inl (by omega))))
            go_wp2_with (go_at_call 153; refine (LW.out _).mono ?_; rintro e w' ⟨rfl, rfl⟩)
            go_ret2
            exact ⟨by rw [hno.out]; rfl, hbel.out⟩
      · have a3 : ¬ (48 ≤ c ∧ c ≤ 57) := fun h => d1 h.1
        by_cases b1 : 97 ≤ l
        · by_cases b2 : l ≤ 102
          · have iov : a * 16 + ((l : Int) - 97 + 10) ≤ 65535 := by omega
            have HA : Hid (a * 16 + ((l : Int) - 97 + 10) = ((16 * v + (l - 87) : Nat) : Int)) := by show _ = _; have := ha.out; omega
            go_wp2_with (go_at_call 153; refine (LW.out _).mono ?_; rintro e w' ⟨rfl, rfl⟩)
            go_round
            case rel => exact ⟨k + 1, 16 * v + (l - 87), _, by omega, rfl, by go_num, rfl, HA, HP.out _ (by omega), S1.out _ (Ly.out a3 b1 b2)⟩
            case measure => simp [intOf]; omega
          · have hno := Lib.hid (S2.out (Ln.out a3 (.inr (by omega))))
            by_cases b3 : l ≤ 122
            · go_wp2_with (go_at_call 153; refine (LW.out _).mono ?_; rintro e w' ⟨rfl, rfl⟩)
              go_ret2
              exact ⟨by rw [hno.out]; rfl, hbel.out⟩
            · go_wp2_with (go_at_call 153; refine (LW.out _).mono ?_; rintro e w' ⟨rfl, rfl⟩)
              go_ret2
              exact ⟨by rw [hno.out]; rfl, hbel.out⟩
        · have hno := Lib.hid (S2.out (Ln.out a3 (.inl (by omega))))
          go_wp2_with (go_at_call 153; refine (LW.out _).mono ?_; rintro e w' ⟨rfl, rfl⟩)
          go_ret2
          exact ⟨by rw [hno.out]; rfl, hbel.out⟩
    · have hfin : Hid (numF 16 0 s = some v) := by have := hN.out; rwa [List.take_of_length_le (by omega)] at this
      clear hN hv
      go_wp2_with fail
      go_ret2
      exact ⟨by rw [hfin.out, show a = (v : Int) from ha.out]; rfl, hbel.out⟩
end Go.Proofs.YthniggdimfldhaaGreatDoor
