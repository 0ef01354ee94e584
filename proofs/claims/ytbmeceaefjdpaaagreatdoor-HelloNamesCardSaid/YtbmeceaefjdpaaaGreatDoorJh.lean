/- The chapter's cursor: number. -/
import Derived.Test.YtbmeceaefjdpaaaGreatDoorJg
import Derived.Laws.BitsAllLaws
namespace Go.Proofs.YtbmeceaefjdpaaaGreatDoor
open Go Go.RowKit

theorem tkV_len (st : Cu) (k : Nat) : (tkV st k).length ≤ k := by
  unfold tkV
  split
  · split
    · rw [List.length_take]; omega
    · exact Nat.zero_le _
  · exact Nat.zero_le _
theorem be_step {X : List UInt8} {k : Nat} (h : k < X.length) : be (X.take (k + 1)) = be (X.take k) * 256 + X[k].toNat := by
  rw [List.take_succ_eq_append_getElem h, be_snoc]
theorem or_byte (y x : Nat) (hy : y < 65536) (hx : x < 256) : bits BinOp.or IntKind.i64 ((y : Int) * 256) x = ((y * 256 + x : Nat) : Int) := by
  rw [show (y : Int) * 256 = ((y * 256 : Nat) : Int) by omega]
  show IntKind.i64.wrap ((BitVec.ofInt 64 ((y * 256 : Nat) : Int) ||| BitVec.ofInt 64 (x : Int)).toNat : Int) = _
  have e : y * 256 ||| x = y * 256 + x := by rw [show y * 256 = 2 ^ 8 * y by omega, Nat.two_pow_add_eq_or_of_lt (by omega)]
  rw [BitVec.toNat_or, ofInt_u64 _ (by omega), ofInt_u64 x (by omega), e]
  simp [IntKind.wrap, IntKind.bits, IntKind.signed]
  split <;> omega
set_option maxRecDepth 100000 in
set_option maxHeartbeats 400000 in
theorem number_ref7 {w : World} {g D : Nat} {st : Cu} {A : Option Addr} {n c : Nat} (h : Cur w g D st A n c) (k : Nat) (hk : k ≤ 3) :
    Calls Tryz.prog 28 #[.pointer (some ⟨g, 0, none⟩), .int .i64 k] w fun e w' => e = .returned (.int .i64 (nmV st k : Nat)) ∧ CurP g D (tkC st k) w w' := by
  have CT := Lib.hid (take_ref7 h k (by omega))
  have hl := tkV_len st k
  have HV : Hid (nmV st k = be (tkV st k)) := Lib.hid rfl
  unfold TakeP at CT
  generalize tkV st k = X at *
  generalize nmV st k = N at *
  generalize tkC st k = S at *
  clear h
  go_enter Tryz.func28, Tryz.ntmps28
  go_wp2_with (go_at_call 30; refine CT.out.mono ?_; rintro e w1 ⟨A1, c1, rfl, hr1, hc1⟩; have R1 := Lib.hid hr1; have C1 := Lib.hid hc1; clear hr1 hc1)
  have R2 := Lib.hid R1.out.rb
  go_loop [5, 7] (fun v i => ∃ j : Nat, j ≤ X.length ∧ i = .int .i64 j ∧ v = .int .i64 (be (X.take j) : Nat)) (fun _ i => X.length - (intOf i).toNat)
  case atStart => exact ⟨0, Nat.zero_le _, rfl, rfl⟩
  case round =>
    obtain ⟨j, hj, rfl, rfl⟩ := hrel
    by_cases hlt : j < X.length
    · obtain ⟨b, off, rfl, _, hc⟩ := R2.out.rd j hlt
      have q0 : (0 : Int) ≤ j := by omega
      have q1 : (j : Int) < X.length := by omega
      have hbe : be (X.take j) < 65536 := by
        have h1 := be_lt (X.take j)
        have h2 : (X.take j).length ≤ 2 := by rw [List.length_take]; omega
        have h3 : (256 : Nat) ^ (X.take j).length ≤ 256 ^ 2 := Nat.pow_le_pow_right (by decide) h2
        omega
      have HE := Lib.hid (be_step hlt)
      generalize be (X.take j) = y at *
      have hx := (X[j]'hlt).toNat_lt
      generalize (X[j]'hlt).toNat = x at *
      go_wp2_with fail
      rw [or_byte y x hbe hx]
      exact ⟨⟨j + 1, by omega, by go_num, by rw [HE.out]⟩, by simp [intOf]; omega⟩
    · obtain rfl : X.length = j := by omega
      rw [List.take_length]
      go_wp2_with fail
      go_ret
      exact ⟨by rw [HV.out] <;> rfl, C1.out⟩
theorem nmV_lt (st : Cu) (k : Nat) (hk : k ≤ 3) : nmV st k ≤ 1000000000 := by
  have h1 := be_lt (tkV st k)
  have h3 : (256 : Nat) ^ (tkV st k).length ≤ 256 ^ 3 := Nat.pow_le_pow_right (by decide) (Nat.le_trans (tkV_len st k) hk)
  unfold nmV
  omega
set_option maxRecDepth 100000 in
set_option maxHeartbeats 400000 in
theorem cfilled_ref7 {w : World} {g D : Nat} {st : Cu} {A : Option Addr} {n c : Nat} (h : Cur w g D st A n c) (k : Nat) (hk : k ≤ 3) :
    Calls Tryz.prog 31 #[.pointer (some ⟨g, 0, none⟩), .int .i64 k] w fun e w' => ∃ A c, e = .returned (.slice A (flV st k).length c) ∧ RowG w' w.heap.size A c (flV st k) ∧ CurP g D (flC st k) w w' := by
  have CN := Lib.hid (number_ref7 h k hk)
  have hm := nmV_lt st k hk
  have CT := Lib.hid fun (w1 : World) (A1 : Option Addr) (n1 c1 : Nat) (h1 : Cur w1 g D (tkC st k) A1 n1 c1) => take_ref7 h1 (nmV st k) hm
  unfold flV flC
  generalize nmV st k = N at *
  unfold TakeP CurP at *
  generalize tkV (tkC st k) N = X at *
  generalize tkC (tkC st k) N = S2 at *
  generalize tkC st k = S at *
  clear h hm
  go_enter Tryz.func31, Tryz.ntmps31
  go_wp2_with (first
    | (go_at_call 28; refine CN.out.mono ?_; rintro e w1 ⟨rfl, hk1, A1, n1, c1, hc1⟩; have K1 := Lib.hid hk1; have C1 := Lib.hid hc1; clear hk1 hc1)
    | (go_at_call 30; refine (CT.out _ _ _ _ C1.out).mono ?_; rintro e w2 ⟨A2, c2, rfl, hr2, hk2, hc2⟩; have R2 := Lib.hid hr2; have K2 := Lib.hid hk2; have C2 := Lib.hid hc2; clear hr2 hk2 hc2))
  go_ret
  exact ⟨A2, c2, rfl, R2.out.up K1.out.size, K1.out.trans (K2.out.mono K1.out.size), C2.out⟩
end Go.Proofs.YtbmeceaefjdpaaaGreatDoor
