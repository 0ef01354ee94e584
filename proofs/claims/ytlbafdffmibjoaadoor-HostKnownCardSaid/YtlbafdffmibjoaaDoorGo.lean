/- Letters made capital; HostBack. -/
import Derived.Test.YtlbafdffmibjoaaDoorGn
namespace Go.Proofs.YtlbafdffmibjoaaDoor
open Go Go.RowKit Pl

def upB (c : UInt8) : UInt8 := UInt8.ofNat (c.toNat - 32)
/-- a byte, or the capital of a letter -/
def LB (c d : UInt8) : Prop := d = c ∨ (letB c = true ∧ d = upB c)
def LoudL : List UInt8 → List UInt8 → Prop
  | [], [] => True
  | c :: l, d :: z => LB c d ∧ LoudL l z
  | _, _ => False
theorem upB_nat {c : UInt8} (h : letB c = true) : (upB c).toNat = c.toNat - 32 := by
  have := letB_iff.1 h
  unfold upB; rw [UInt8.toNat_ofNat']; omega
theorem LB.low {c d : UInt8} (h : LB c d) : lowB d = lowB c := by
  rcases h with rfl | ⟨h, rfl⟩
  · rfl
  · have h1 := upB_nat h
    have h2 := letB_iff.1 h
    rw [lowB_id (c := c) (by omega)]
    apply UInt8.toNat_inj.1
    rw [lowB_up (by omega) (by omega)]; omega
theorem LoudL.snoc : ∀ {l z : List UInt8} {c d : UInt8}, LoudL l z → LB c d → LoudL (l ++ [c]) (z ++ [d])
  | [], [], _, _, _, h => ⟨h, trivial⟩
  | _ :: _, _ :: _, _, _, ⟨h0, h1⟩, h => ⟨h0, LoudL.snoc h1 h⟩
  | [], _ :: _, _, _, h, _ => h.elim
  | _ :: _, [], _, _, h, _ => h.elim
theorem LoudL.len : ∀ {l z : List UInt8}, LoudL l z → z.length = l.length
  | [], [], _ => rfl
  | _ :: _, _ :: _, ⟨_, h⟩ => by simp [LoudL.len h]
  | [], _ :: _, h => h.elim
  | _ :: _, [], h => h.elim
theorem LoudL.low : ∀ {l z : List UInt8}, LoudL l z → lowS z = lowS l
  | [], [], _ => rfl
  | _ :: _, _ :: _, ⟨h0, h⟩ => by
    have h1 := LoudL.low h
    unfold lowS at *
    rw [List.map_cons, List.map_cons, h0.low, h1]
  | [], _ :: _, h => h.elim
  | _ :: _, [], h => h.elim
theorem LB.eq {c d : UInt8} (h : LB c d) (hc : letB c = false) : d = c := by
  rcases h with h | ⟨h, _⟩
  · exact h
  · rw [hc] at h; cases h
theorem LB.ne58 {c d : UInt8} (h : LB c d) (hc : c ≠ 58) : d ≠ 58 := by
  rcases h with rfl | ⟨h, rfl⟩
  · exact hc
  · have h1 := upB_nat h
    have h2 := letB_iff.1 h
    intro e
    have := congrArg UInt8.toNat e
    rw [h1] at this
    have e58 : (58 : UInt8).toNat = 58 := rfl
    omega
theorem LoudL.no58 : ∀ {l z : List UInt8}, LoudL l z → 58 ∉ l → 58 ∉ z
  | [], [], _, _ => by simp
  | c :: l, d :: z, ⟨h0, h⟩, hn => by
    simp only [List.mem_cons, not_or] at hn ⊢
    exact ⟨Ne.symm (h0.ne58 (Ne.symm hn.1)), LoudL.no58 h hn.2⟩
  | [], _ :: _, h, _ => h.elim
  | _ :: _, [], h, _ => h.elim
theorem LoudL.digits : ∀ {l z : List UInt8}, LoudL l z → l.all digB = true → z = l
  | [], [], _, _ => rfl
  | c :: l, d :: z, ⟨h0, h⟩, ha => by
    simp only [List.all_cons, Bool.and_eq_true] at ha
    have hd := digB_iff.1 ha.1
    rw [h0.eq (by cases e : letB c with | false => rfl | true => have := letB_iff.1 e; omega), LoudL.digits h ha.2]
  | [], _ :: _, h, _ => h.elim
  | _ :: _, [], h, _ => h.elim
theorem LoudL.split : ∀ {a b z : List UInt8}, LoudL (a ++ 58 :: b) z → ∃ a' b', z = a' ++ 58 :: b' ∧ LoudL a a' ∧ LoudL b b'
  | [], b, d :: z, ⟨h0, h⟩ => ⟨[], z, by rw [h0.eq (by decide)]; rfl, trivial, h⟩
  | c :: a, b, d :: z, ⟨h0, h⟩ => by
    obtain ⟨a', b', e, h1, h2⟩ := LoudL.split h
    exact ⟨d :: a', b', by rw [e]; rfl, ⟨h0, h1⟩, h2⟩
  | [], _, [], h => h.elim
  | _ :: _, _, [], h => h.elim
theorem itoa_dig {n : Int} (hn : isP n = true) : (Lib.itoa n).all digB = true := by
  have h := isP_iff.1 hn
  rw [show Lib.itoa n = Lib.decDigits n.toNat by rw [← Lib.itoa_nonneg, show ((n.toNat : Nat) : Int) = n by omega]]
  exact dec_dig _
/-- capitals change nothing of what is told -/
theorem norm_loud {h z : List UInt8} {n : Int} (hp : isPl h = true) (hn : isP n = true) (hz : LoudL (textW h n) z) : normP z = some (h, n) := by
  have h58 := isPl_no hp (c := 58) (by decide)
  have hl := isPl_low hp
  have hr := isP_iff.1 hn
  unfold textW at hz
  by_cases h80 : n = 80
  · rw [if_pos h80] at hz
    have hz58 := hz.no58 h58
    unfold normP portN hasC
    rw [(hdC_none hz58).1, hz.low, hl, hp, decide_eq_false hz58, h80]; rfl
  · rw [if_neg h80] at hz
    obtain ⟨a', b', rfl, h1, h2⟩ := hz.split
    have hb := h2.digits (itoa_dig hn)
    subst hb
    have ha := h1.no58 h58
    unfold normP portN hasC
    rw [(hdC_app ha).1, (hdC_app ha).2, h1.low, hl, hp, decide_eq_true (show (58 : UInt8) ∈ a' ++ 58 :: Lib.itoa n by simp), if_pos rfl, itoa_port hn, decide_eq_true (show n ≠ 0 by omega)]; rfl
theorem textW_len {h : List UInt8} {n : Int} (hp : isPl h = true) (hn : isP n = true) : (textW h n).length ≤ 66 := by
  have h1 := isPl_len hp
  have h2 := itoa_len hn
  unfold textW
  split
  · omega
  · rw [List.length_append, List.length_cons]; omega

theorem take_step (s : ByteArray) (k : Nat) (h : k < s.size) : s.data.toList.take (k + 1) = s.data.toList.take k ++ [s[k]'h] := by
  rw [List.take_succ_eq_append_getElem (by rw [← Lib.size_eq]; exact h), at_list s k h]
set_option maxRecDepth 100000 in
set_option maxHeartbeats 2000000 in
theorem loud_any (s : ByteArray) (bits : Int) (w : World) (hs : s.size ≤ 100000) (_hb0 : 0 ≤ bits) (_hb1 : bits < 2147483648) : Calls Tryd.prog 24 #[.string s, .int .i64 bits] w (TextP (fun t => LoudL s.data.toList t) w) := by
  unfold TextP
  go_enter Tryd.func24, Tryd.ntmps24
  go_wp2
  go_loopw [5, 6] (fun v i wr => ∃ (k : Nat) (z : List UInt8), k ≤ s.size ∧ i = .int .i64 k ∧ LoudL (s.data.toList.take k) z ∧ OwnB wr w.heap.size v z ∧ Below w.heap.size w wr) (fun _ i _ => s.size - (intOf i).toNat)
  case atStart => exact ⟨0, [], Nat.zero_le _, rfl, trivial, OwnB.nil _ _, Below.refl _ _⟩
  case round =>
    obtain ⟨k, z, hk, rfl, hz, hown, hb⟩ := hrel
    by_cases hlt : k < s.size
    · have hlen : z.length ≤ 1000000000 := by rw [hz.len, List.length_take, ← Lib.size_eq]; omega
      have HZ := Lib.hid hz
      clear hz
      by_cases hu : 97 ≤ (s[k]'hlt).toNat ∧ (s[k]'hlt).toNat ≤ 122
      · have HU := Lib.hid (letB_iff.2 hu)
        have HN := Lib.hid (upB_nat HU.out)
        obtain ⟨u1, u2⟩ := hu
        cases hq : (Go.bits BinOp.and IntKind.i64 (bits / 2 ^ (k % 31)) 1 == 1)
        · go_wp2_with (at_builtin; refine wpList_pushb rfl (.tmp 34) (.tmp 36) rfl _ w.heap.size _ _ _ (s[k]'hlt) ?_ rfl hown rfl hb.size hlen ?_; rotate_left; intro v3 w3 hown3 hb3)
          · go_roundw
            case rel => exact ⟨k + 1, _, by omega, by go_num, by rw [take_step s k hlt]; exact HZ.out.snoc (.inl rfl), hown3, hb.trans hb3⟩
            case measure => simp [intOf]; omega
          · rfl
        · go_wp2_with (at_builtin; refine wpList_pushb rfl (.tmp 34) (.tmp 36) rfl _ w.heap.size _ _ _ (upB (s[k]'hlt)) ?_ rfl hown rfl hb.size hlen ?_; rotate_left; intro v3 w3 hown3 hb3)
          · go_roundw
            case rel => exact ⟨k + 1, _, by omega, by go_num, by rw [take_step s k hlt]; exact HZ.out.snoc (.inr ⟨HU.out, rfl⟩), hown3, hb.trans hb3⟩
            case measure => simp [intOf]; omega
          · rw [HN.out]; omega
      · by_cases u1 : 97 ≤ (s[k]'hlt).toNat
        · have u2 : 122 < (s[k]'hlt).toNat := by omega
          clear hu
          go_wp2_with (at_builtin; refine wpList_pushb rfl (.tmp 34) (.tmp 36) rfl _ w.heap.size _ _ _ (s[k]'hlt) ?_ rfl hown rfl hb.size hlen ?_; rotate_left; intro v3 w3 hown3 hb3)
          · go_roundw
            case rel => exact ⟨k + 1, _, by omega, by go_num, by rw [take_step s k hlt]; exact HZ.out.snoc (.inl rfl), hown3, hb.trans hb3⟩
            case measure => simp [intOf]; omega
          · rfl
        · clear hu
          go_wp2_with (at_builtin; refine wpList_pushb rfl (.tmp 34) (.tmp 36) rfl _ w.heap.size _ _ _ (s[k]'hlt) ?_ rfl hown rfl hb.size hlen ?_; rotate_left; intro v3 w3 hown3 hb3)
          · go_roundw
            case rel => exact ⟨k + 1, _, by omega, by go_num, by rw [take_step s k hlt]; exact HZ.out.snoc (.inl rfl), hown3, hb.trans hb3⟩
            case measure => simp [intOf]; omega
          · rfl
    · rw [take_all s (by omega)] at hz
      have hcv := hown.conv
      have HZ := Lib.hid hz
      clear hz hown
      go_wp2
      go_ret
      exact ⟨z, HZ.out, rfl, hb⟩

theorem isPat_pl {h : List UInt8} (hp : isPl h = true) : isPat h = true := by
  have hw : wildP h = false := by
    cases e : wildP h with
    | false => rfl
    | true => rw [not_pl_star e] at hp; cases hp
  rw [isPat_rest (isPl_len hp)]
  unfold restP
  rw [hw]; exact hp
theorem plain_yes {h : List UInt8} (hp : isPl h = true) (w : World) : Calls Tryd.prog 13 #[.string ⟨h.toArray⟩] w fun e w' => e = .returned (.int .i64 0) ∧ Below w.heap.size w w' :=
  (plain_prog ⟨h.toArray⟩ w (by rw [size_mk]; have := isPl_len hp; omega)).mono fun e w' ⟨he, hb⟩ => ⟨by rw [he]; show Ending.returned (.int .i64 (okE (isPl h))) = _; rw [hp]; rfl, hb⟩
theorem pattern_yes {h : List UInt8} (hp : isPl h = true) (w : World) : Calls Tryd.prog 15 #[.string ⟨h.toArray⟩] w fun e w' => e = .returned (.int .i64 0) ∧ Below w.heap.size w w' :=
  (pattern_prog ⟨h.toArray⟩ w (by rw [size_mk]; have := isPl_len hp; omega)).mono fun e w' ⟨he, hb⟩ => ⟨by rw [he]; show Ending.returned (.int .i64 (okE (isPat h))) = _; rw [isPat_pl hp]; rfl, hb⟩
theorem write_yes {h : List UInt8} {n : Int} (hp : isPl h = true) (hn : isP n = true) (w : World) (hG : Gl w) : Calls Tryd.prog 18 #[.string ⟨h.toArray⟩, .int .i64 n] w fun e w' => e = .returned (.tuple #[.string ⟨(textW h n).toArray⟩, .int .i64 0]) ∧ Below w.heap.size w w' :=
  write_some ⟨h.toArray⟩ n (textW h n) w hG (by rw [size_mk]; have := isPl_len hp; omega) (decide_eq_true (writeP_some hp hn))
theorem norm_yes {z h : List UInt8} {n : Int} (hz : normP z = some (h, n)) (hl : z.length ≤ 1000000) (w : World) (hG : Gl w) : Calls Tryd.prog 11 #[.string ⟨z.toArray⟩] w fun e w' => e = .returned (.tuple #[.string ⟨h.toArray⟩, .int .i64 n, .int .i64 0]) ∧ Below w.heap.size w w' :=
  (norm_prog ⟨z.toArray⟩ w hG (by rw [size_mk]; exact hl)).mono fun e w' ⟨he, hb⟩ => ⟨by rw [he]; show Ending.returned (normV (normP z)) = _; rw [hz]; rfl, hb⟩
theorem loud_l (l : List UInt8) (bits : Int) (w : World) (hs : l.length ≤ 100000) (hb0 : 0 ≤ bits) (hb1 : bits < 2147483648) : Calls Tryd.prog 24 #[.string ⟨l.toArray⟩, .int .i64 bits] w (TextP (fun t => LoudL l t) w) := loud_any ⟨l.toArray⟩ bits w (by rw [size_mk]; exact hs) hb0 hb1

set_option maxRecDepth 100000 in
set_option maxHeartbeats 2000000 in
theorem hostBack_any (A : Option Addr) (n c : Nat) (port bits : Int) (w : World) (hG : Gl w) (hi : IntsIn w A n) (hn : n ≤ maxLen) : Calls Tryd.prog 5 #[.slice A n c, .int .i64 port, .int .i64 bits] w (BoolP true w) := by
  have hp0 := Int.emod_nonneg port (show (65535 : Int) ≠ 0 by decide)
  have hp1 := Int.emod_lt_of_pos port (show (0 : Int) < 65535 by decide)
  have hq0 := Int.emod_nonneg bits (show (2147483648 : Int) ≠ 0 by decide)
  have hq1 := Int.emod_lt_of_pos bits (show (0 : Int) < 2147483648 by decide)
  have B1 := Lib.hid fun w => bring_any port 65535 w (by decide) (by decide)
  have B2 := Lib.hid fun w => bring_any bits 2147483648 w (by decide) (by decide)
  generalize port % 65535 = pt at *
  generalize bits % 2147483648 = bt at *
  have HN : Hid (isP (1 + pt) = true) := Lib.hid (isP_iff.2 ⟨by omega, by omega⟩)
  have HQ : Hid (0 ≤ bt ∧ bt < 2147483648) := Lib.hid ⟨hq0, hq1⟩
  have HG := Lib.hid hG
  have HI := Lib.hid hi
  have HB := Lib.hid (Below.refl w.heap.size w)
  clear hG hi hq0 hq1
  unfold BoolP
  go_enter Tryd.func5, Tryd.ntmps5
  go_wp2_with (first
    | (go_at_call 17; refine (works_any _ (HG.out.below HB.out)).mono ?_; unfold BoolP; rintro e w1 ⟨rfl, hb⟩; have HB := Lib.hid (Below.and HB.out hb); clear hb)
    | (go_at_call 22; refine (plain_any _ _ _ _ (HI.out.below HB.out) hn).mono ?_; rintro e w1 ⟨h, hh, rfl, hb⟩; have HP := Lib.hid hh.1; have HB := Lib.hid (Below.and HB.out hb); clear hb hh)
    | (go_at_call 23; first | ((with_reducible refine (B1.out _).mono ?_); rintro e w1 ⟨rfl, rfl⟩) | ((with_reducible refine (B2.out _).mono ?_); rintro e w1 ⟨rfl, rfl⟩))
    | (go_at_call 18; (with_reducible refine (write_yes HP.out HN.out _ (HG.out.below HB.out)).mono ?_); rintro e w1 ⟨rfl, hb⟩; have HB := Lib.hid (Below.and HB.out hb); clear hb)
    | (go_at_call 13; refine (plain_yes HP.out _).mono ?_; rintro e w1 ⟨rfl, hb⟩; have HB := Lib.hid (Below.and HB.out hb); clear hb)
    | (go_at_call 15; refine (pattern_yes HP.out _).mono ?_; rintro e w1 ⟨rfl, hb⟩; have HB := Lib.hid (Below.and HB.out hb); clear hb)
    | (go_at_call 24; refine (loud_l _ _ _ (by have := textW_len HP.out HN.out; omega) HQ.out.1 HQ.out.2).mono ?_; rintro e w1 ⟨z, hz, rfl, hb⟩; have HZ := Lib.hid (norm_loud HP.out HN.out hz); have HZL : Hid (z.length ≤ 1000000) := Lib.hid (by have := hz.len; have := textW_len HP.out HN.out; omega); have HB := Lib.hid (Below.and HB.out hb); clear hb hz)
    | (go_at_call 11; refine (norm_yes HZ.out HZL.out _ (HG.out.below HB.out)).mono ?_; rintro e w1 ⟨rfl, hb⟩; have HB := Lib.hid (Below.and HB.out hb); clear hb))
  go_ret
  exact ⟨rfl, HB.out⟩
end Go.Proofs.YtlbafdffmibjoaaDoor
