/- The program: number; first lines. -/
import Derived.Test.YthniggdimfldhaaGreatDoorNc
import Derived.Test.YthniggdimfldhaaGreatDoorNd
import Derived.Test.YthniggdimfldhaaGreatDoorNa
import Derived.Test.YthniggdimfldhaaGreatDoorNt
namespace Go.Proofs.YthniggdimfldhaaGreatDoor
open Go Go.RowKit

/-- what strconv.ParseUint hands back: whether there is an error is all that anybody asks -/
def IsErr (v : Value) : Prop := v = .iface 149 (.pointer none) ∨ ∃ N, v = .iface 149 (.pointer (some ⟨N, 0, none⟩))
def numV (o : Option Nat) : Value := .tuple #[.int .i64 ((o.getD 0 : Nat) : Int), .bool o.isSome]
set_option maxRecDepth 100000 in
theorem pubuint10_any (s : List UInt8) (hl : s.length ≤ 4) (w : World) (hG : Gl w) (o : Option Nat) (ho : numO 10 s = o) : Calls Tryz.prog 113 #[.string ⟨s.toArray⟩, .int .i64 10, .int .i64 16] w fun e w' =>
    (∃ v, e = .returned (.tuple #[.int .u64 ((o.getD 0 : Nat) : Int), v]) ∧ ((o.isSome = true ∧ v = .nilIface) ∨ (o.isSome = false ∧ ∃ N : Nat, v = .iface 149 (.pointer (some ⟨N, 0, none⟩))))) ∧ Below w.heap.size w w' := by
  have C := Lib.hid fun w => puint10_any s hl w
  rw [ho] at C
  obtain ⟨tp, p, hes⟩ := hG.es
  have HG := Lib.hid hG
  have HS : Hid ((⟨s.toArray⟩ : ByteArray).size ≤ 281474976710656) := by show _ ≤ _; rw [mk_size]; omega
  clear hl ho
  cases o with
  | some n =>
    go_enter Tryz.func113, Tryz.ntmps113
    go_wp2_with (go_at_call 135; refine (C.out _).mono ?_; rintro e w' ⟨rfl, hb⟩; unfold puV)
    go_ret2
    exact ⟨⟨_, rfl, .inl ⟨rfl, rfl⟩⟩, hb⟩
  | none =>
    go_enter Tryz.func113, Tryz.ntmps113
    go_wp2_with fail
    go_at_call 135
    refine (C.out _).mono ?_
    rintro e w1 ⟨rfl, hb⟩
    unfold puV
    have hes' := (hb.cell (p := ⟨5, 0, none⟩) (Nat.lt_of_lt_of_le (by decide) HG.out.size)).trans hes
    have HE := Lib.hid hes'
    have HB := Lib.hid hb
    clear hb hes' hes
    go_wp2_with (go_at_call 136; refine (Tryz.strconv_toError_syntax _ _ _ _ _ _ HS.out HE.out (.inr ⟨_, _, rfl⟩)).mono ?_; rintro e w2 ⟨N, rfl, _, _, hb2⟩)
    go_ret2
    exact ⟨⟨_, rfl, .inr ⟨rfl, N, rfl⟩⟩, Below.and HB.out hb2⟩
set_option maxRecDepth 100000 in
theorem pubuint16_any (s : List UInt8) (hl : s.length ≤ 4) (w : World) (hG : Gl w) (o : Option Nat) (ho : numO 16 s = o) : Calls Tryz.prog 113 #[.string ⟨s.toArray⟩, .int .i64 16, .int .i64 16] w fun e w' =>
    (∃ v, e = .returned (.tuple #[.int .u64 ((o.getD 0 : Nat) : Int), v]) ∧ ((o.isSome = true ∧ v = .nilIface) ∨ (o.isSome = false ∧ ∃ N : Nat, v = .iface 149 (.pointer (some ⟨N, 0, none⟩))))) ∧ Below w.heap.size w w' := by
  have C := Lib.hid fun w => puint16_any s hl w
  rw [ho] at C
  obtain ⟨tp, p, hes⟩ := hG.es
  have HG := Lib.hid hG
  have HS : Hid ((⟨s.toArray⟩ : ByteArray).size ≤ 281474976710656) := by show _ ≤ _; rw [mk_size]; omega
  clear hl ho
  cases o with
  | some n =>
    go_enter Tryz.func113, Tryz.ntmps113
    go_wp2_with (go_at_call 135; refine (C.out _).mono ?_; rintro e w' ⟨rfl, hb⟩; unfold puV)
    go_ret2
    exact ⟨⟨_, rfl, .inl ⟨rfl, rfl⟩⟩, hb⟩
  | none =>
    go_enter Tryz.func113, Tryz.ntmps113
    go_wp2_with fail
    go_at_call 135
    refine (C.out _).mono ?_
    rintro e w1 ⟨rfl, hb⟩
    unfold puV
    have hes' := (hb.cell (p := ⟨5, 0, none⟩) (Nat.lt_of_lt_of_le (by decide) HG.out.size)).trans hes
    have HE := Lib.hid hes'
    have HB := Lib.hid hb
    clear hb hes' hes
    go_wp2_with (go_at_call 136; refine (Tryz.strconv_toError_syntax _ _ _ _ _ _ HS.out HE.out (.inr ⟨_, _, rfl⟩)).mono ?_; rintro e w2 ⟨N, rfl, _, _, hb2⟩)
    go_ret2
    exact ⟨⟨_, rfl, .inr ⟨rfl, N, rfl⟩⟩, Below.and HB.out hb2⟩
theorem numF_lt {b : Nat} (hb : b = 10 ∨ b = 16) : ∀ (s : List UInt8) (n v : Nat), numF b n s = some v → v < (n + 1) * b ^ s.length
  | [], n, v, h => by
    have h : some n = some v := h
    cases h
    simp
  | c :: s, n, v, h => by
    have h : (match valD b c with | none => none | some d => numF b (b * n + d) s) = some v := h
    cases hd : valD b c with
    | none => rw [hd] at h; cases h
    | some d =>
      rw [hd] at h
      have h := numF_lt hb s _ v h
      have hdb : d < b := by
        unfold valD at hd
        rcases hb with rfl | rfl
        · split at hd
          · cases hd; omega
          · split at hd
            · omega
            · split at hd
              · omega
              · cases hd
        · split at hd
          · cases hd; omega
          · split at hd
            · cases hd; omega
            · split at hd
              · cases hd; omega
              · cases hd
      have e : (n + 1) * b ^ (c :: s).length = (b * n + b) * b ^ s.length := by
        rw [List.length_cons, Nat.pow_succ, Nat.mul_comm (b ^ s.length) b, ← Nat.mul_assoc, Nat.add_mul, Nat.mul_comm n b, Nat.one_mul]
      rw [e]
      exact Nat.lt_of_lt_of_le h (Nat.mul_le_mul_right _ (by omega))
theorem numO_lt {b : Nat} (hb : b = 10 ∨ b = 16) {s : List UInt8} {v : Nat} (h : numO b s = some v) : v < 65536 := by
  unfold numO at h
  split at h
  · rename_i hl
    have := numF_lt hb s 0 v h
    have h2 : b ^ s.length ≤ 65536 := by
      rcases hb with rfl | rfl
      · exact Nat.le_trans (Nat.pow_le_pow_right (by decide) hl.2) (by decide)
      · exact Nat.le_trans (Nat.pow_le_pow_right (by decide) hl.2) (by decide)
    omega
  · cases h
set_option maxRecDepth 100000 in
theorem number_long (b : Int) (s : List UInt8) (hs : s.length ≤ 1000000) (hl : ¬ s.length ≤ 4) (w : World) : Calls Tryz.prog 96 #[.string ⟨s.toArray⟩, .int .i64 b] w fun e w' => e = .returned (numV none) ∧ Below w.heap.size w w' := by
  have hsz := mk_size s
  go_enter Tryz.func96, Tryz.ntmps96
  go_wp2
  go_ret2
  exact ⟨rfl, Below.refl _ _⟩
set_option maxRecDepth 100000 in
theorem number10_any (s : List UInt8) (hs : s.length ≤ 1000000) (w : World) (hG : Gl w) : Calls Tryz.prog 96 #[.string ⟨s.toArray⟩, .int .i64 10] w fun e w' => e = .returned (numV (numO 10 s)) ∧ Below w.heap.size w w' := by
  by_cases hl : s.length ≤ 4
  · have C := pubuint10_any s hl w hG _ rfl
    have hlt : (numO 10 s).getD 0 < 65536 := by
      cases ho : numO 10 s with
      | none => decide
      | some v => exact numO_lt (.inl rfl) ho
    generalize numO 10 s = o at *
    have hsz := mk_size s
    go_enter Tryz.func96, Tryz.ntmps96
    go_wp2_with fail
    go_at_call 113
    refine C.mono ?_
    rintro e w1 ⟨⟨v, rfl, hv⟩, hb⟩
    clear C
    have HV := Lib.hid hv
    clear hv
    rcases HV.out with ⟨ho, rfl⟩ | ⟨ho, N, rfl⟩
    · go_wp2_with fail
      go_region
      go_wp2
      go_ret2
      exact ⟨by unfold numV; rw [ho]; rfl, below_drewN hb 1⟩
    · go_wp2_with fail
      go_region
      go_wp2
      go_ret2
      exact ⟨by unfold numV; rw [ho]; rfl, below_drewN hb 1⟩
  · have : numO 10 s = none := by unfold numO; rw [if_neg (by omega)]
    rw [this]
    exact number_long 10 s hs hl w
set_option maxRecDepth 100000 in
theorem number16_any (s : List UInt8) (hs : s.length ≤ 1000000) (w : World) (hG : Gl w) : Calls Tryz.prog 96 #[.string ⟨s.toArray⟩, .int .i64 16] w fun e w' => e = .returned (numV (numO 16 s)) ∧ Below w.heap.size w w' := by
  by_cases hl : s.length ≤ 4
  · have C := pubuint16_any s hl w hG _ rfl
    have hlt : (numO 16 s).getD 0 < 65536 := by
      cases ho : numO 16 s with
      | none => decide
      | some v => exact numO_lt (.inr rfl) ho
    generalize numO 16 s = o at *
    have hsz := mk_size s
    go_enter Tryz.func96, Tryz.ntmps96
    go_wp2_with fail
    go_at_call 113
    refine C.mono ?_
    rintro e w1 ⟨⟨v, rfl, hv⟩, hb⟩
    clear C
    have HV := Lib.hid hv
    clear hv
    rcases HV.out with ⟨ho, rfl⟩ | ⟨ho, N, rfl⟩
    · go_wp2_with fail
      go_region
      go_wp2
      go_ret2
      exact ⟨by unfold numV; rw [ho]; rfl, below_drewN hb 1⟩
    · go_wp2_with fail
      go_region
      go_wp2
      go_ret2
      exact ⟨by unfold numV; rw [ho]; rfl, below_drewN hb 1⟩
  · have : numO 16 s = none := by unfold numO; rw [if_neg (by omega)]
    rw [this]
    exact number_long 16 s hs hl w
end Go.Proofs.YthniggdimfldhaaGreatDoor
