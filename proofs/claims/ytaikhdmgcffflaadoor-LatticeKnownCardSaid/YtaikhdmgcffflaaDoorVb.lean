/- Walks of Name, Code, Find, Decode and Leq of a lattice. -/
import Derived.Test.YtaikhdmgcffflaaDoorVa
import Derived.Test.YtaikhdmgcffflaaDoorWl
import Derived.Deep.RegionWith
namespace Go.Proofs.YtaikhdmgcffflaaDoor
open Go Go.RowKit

/-- The label of a code, of any number. -/
def decI (n : Nat) (A : Nat → Nat) (c : Int) : Option Nat := (List.range n).find? fun a => ((clo A a : Nat) : Int) == c
def decV (n : Nat) (A : Nat → Nat) (c : Int) : Int × Int := match decI n A c with
  | some a => (a, 0)
  | none => (0, 4)
/-- The label of a name. -/
def findN (n : Nat) (N : List (List UInt8)) (y : List UInt8) : Option Nat := (List.range n).find? fun a => N.getD a [] == y
def findV (n : Nat) (N : List (List UInt8)) (y : List UInt8) : Int × Bool := match findN n N y with
  | some a => (a, true)
  | none => (0, false)
theorem decI_nat (n : Nat) (A : Nat → Nat) (c : Nat) : decI n A (c : Int) = decO n A c := find_same fun a _ => by rw [Bool.eq_iff_iff]; simp; omega

section
variable {w : World} {b n : Nat} {N : List (List UInt8)} {A : Nat → Nat} {lo hi : Nat} {d s : Int} {j m : Nat}
theorem latDecode_any (h : LatM w b n N A lo hi d s j m) (hn : n ≤ 10) (c : Int) : Calls Tryd.prog 12 #[.pointer (some ⟨b, 0, none⟩), .int .i64 c] w fun e w' =>
    e = .returned (.tuple #[.int .i64 (decV n A c).1, .int .i64 (decV n A c).2]) ∧ w = w' := by
  have hm := h.many
  have HH := Lib.hid h
  clear h
  go_enter Tryd.func12, Tryd.ntmps12
  go_wp2_with (go_at_call 19; refine (latMany_any b n _ hm).mono ?_; rintro e w' ⟨rfl, rfl⟩)
  go_loop [9] (fun i => ∃ k : Nat, k ≤ n ∧ i = .int .i64 k ∧ Hid (∀ x, x < k → (((clo A x : Nat) : Int) == c) = false)) (fun i => n - (intOf i).toNat)
  case atStart => exact ⟨0, Nat.zero_le _, rfl, fun x hx => by omega⟩
  case round =>
    obtain ⟨k, hk, rfl, hall⟩ := hrel
    by_cases hlt : k < n
    · have hc := HH.out.code (i := k) (by omega) hlt
      have i1 : (0 : Int) ≤ k := by omega
      have i2 : (k : Int) < 10 := by omega
      cases hq : (((clo A k : Nat) : Int) == c) with
      | true =>
        have hfin : Hid (decV n A c = ((k : Int), 0)) := by
          show _ = _
          unfold decV decI
          rw [find_first hlt hall.out hq]
        clear hall
        go_wp2_with fail
        go_ret2
        rw [hfin.out]
        exact ⟨rfl, rfl⟩
      | false =>
        have hall' : Hid (∀ x, x < k + 1 → (((clo A x : Nat) : Int) == c) = false) := fun x hx => by
          rcases Nat.lt_or_ge x k with h1 | h1
          · exact hall.out x h1
          · rw [show x = k by omega]; exact hq
        clear hall
        go_wp2_with fail
        go_round
        case rel => exact ⟨k + 1, by omega, by go_num, hall'⟩
        case measure => simp [intOf]; omega
    · have hfin : Hid (decV n A c = (0, 4)) := by
        show _ = _
        unfold decV decI
        rw [find_none fun x hx => hall.out x (by omega)]
      clear hall
      go_wp2_with fail
      go_ret2
      rw [hfin.out]
      exact ⟨rfl, rfl⟩
theorem latDecode_nil (c : Int) (w : World) : Calls Tryd.prog 12 #[.pointer none, .int .i64 c] w fun e w' =>
    e = .returned (.tuple #[.int .i64 0, .int .i64 4]) ∧ w = w' := by
  go_enter Tryd.func12, Tryd.ntmps12
  go_wp2_with (go_at_call 19; refine (latMany_nil _).mono ?_; rintro e w' ⟨rfl, rfl⟩)
  refine wp_loop_rounds 1 ?_
  rw [rounds_succ]
  go_wp2_with fail
  go_ret2
  exact ⟨rfl, rfl⟩

theorem latFind_any (h : LatM w b n N A lo hi d s j m) (hn : n ≤ 10) (y : List UInt8) : Calls Tryd.prog 10 #[.pointer (some ⟨b, 0, none⟩), .string ⟨y.toArray⟩] w fun e w' =>
    e = .returned (.tuple #[.int .i64 (findV n N y).1, .bool (findV n N y).2]) ∧ w = w' := by
  have hm := h.many
  have HH := Lib.hid h
  clear h
  go_enter Tryd.func10, Tryd.ntmps10
  go_wp2_with (go_at_call 19; refine (latMany_any b n _ hm).mono ?_; rintro e w' ⟨rfl, rfl⟩)
  go_loop [9] (fun i => ∃ k : Nat, k ≤ n ∧ i = .int .i64 k ∧ Hid (∀ x, x < k → (N.getD x [] == y) = false)) (fun i => n - (intOf i).toNat)
  case atStart => exact ⟨0, Nat.zero_le _, rfl, fun x hx => by omega⟩
  case round =>
    obtain ⟨k, hk, rfl, hall⟩ := hrel
    by_cases hlt : k < n
    · have hc := HH.out.name (i := k) (by omega)
      have i1 : (0 : Int) ≤ k := by omega
      have i2 : (k : Int) < 10 := by omega
      generalize hz : N.getD k [] = z at hc
      cases hq : (z == y) with
      | true =>
        have hfin : Hid (findV n N y = ((k : Int), true)) := by
          show _ = _
          unfold findV findN
          rw [find_first hlt hall.out (by rw [hz]; exact hq)]
        clear hall hz
        go_wp2_with fail
        go_ret2
        rw [hfin.out]
        exact ⟨rfl, rfl⟩
      | false =>
        have hall' : Hid (∀ x, x < k + 1 → (N.getD x [] == y) = false) := fun x hx => by
          rcases Nat.lt_or_ge x k with h1 | h1
          · exact hall.out x h1
          · rw [show x = k by omega, hz]; exact hq
        clear hall hz
        go_wp2_with fail
        go_round
        case rel => exact ⟨k + 1, by omega, by go_num, hall'⟩
        case measure => simp [intOf]; omega
    · have hfin : Hid (findV n N y = (0, false)) := by
        show _ = _
        unfold findV findN
        rw [find_none fun x hx => hall.out x (by omega)]
      clear hall
      go_wp2_with fail
      go_ret2
      rw [hfin.out]
      exact ⟨rfl, rfl⟩
theorem latFind_nil (y : List UInt8) (w : World) : Calls Tryd.prog 10 #[.pointer none, .string ⟨y.toArray⟩] w fun e w' =>
    e = .returned (.tuple #[.int .i64 0, .bool false]) ∧ w = w' := by
  go_enter Tryd.func10, Tryd.ntmps10
  go_wp2_with (go_at_call 19; refine (latMany_nil _).mono ?_; rintro e w' ⟨rfl, rfl⟩)
  refine wp_loop_rounds 1 ?_
  rw [rounds_succ]
  go_wp2_with fail
  go_ret2
  exact ⟨rfl, rfl⟩

/-! Name, Code, Leq: of any number. -/
def isLb (n : Nat) (a : Int) : Bool := decide (0 ≤ a ∧ a < n)
theorem isLb_nat {n : Nat} {a : Int} (h : 0 ≤ a ∧ a < n) : ∃ k : Nat, a = k ∧ k < n := ⟨a.toNat, by omega, by omega⟩
def nameI (n : Nat) (N : List (List UInt8)) (a : Int) : List UInt8 := if isLb n a then N.getD a.toNat [] else []
def codeI (n : Nat) (A : Nat → Nat) (a : Int) : Nat := if isLb n a then clo A a.toNat else 0
def leqI (n : Nat) (A : Nat → Nat) (a c : Int) : Bool := isLb n a && isLb n c && le A a.toNat c.toNat
theorem ret_strV {a b : List UInt8} (h : a = b) : Ending.returned (.string ⟨a.toArray⟩) = .returned (.string ⟨b.toArray⟩) := by rw [h]

theorem latName_any (h : LatM w b n N A lo hi d s j m) (hn : n ≤ 10) (a : Int) : Calls Tryd.prog 27 #[.pointer (some ⟨b, 0, none⟩), .int .i64 a] w fun e w' =>
    e = .returned (.string ⟨(nameI n N a).toArray⟩) ∧ w = w' := by
  have hm := h.many
  by_cases ha : 0 ≤ a ∧ a < n
  · obtain ⟨k, rfl, hk⟩ := isLb_nat ha
    have hc := h.name (i := k) (by omega)
    have i1 : (0 : Int) ≤ k := by omega
    have i2 : (k : Int) < 10 := by omega
    have e1 : nameI n N k = N.getD k [] := by simp [nameI, isLb, hk]
    rw [e1]
    clear h ha e1
    go_enter Tryd.func27, Tryd.ntmps27
    go_wp2_with (go_at_call 46; refine (latHas_yes b n _ _ hm hk).mono ?_; rintro e w' ⟨rfl, rfl⟩)
    go_ret
    exact ⟨rfl, rfl⟩
  · have e1 : nameI n N a = [] := by simp only [nameI, isLb, decide_eq_false ha]; rfl
    rw [e1]
    clear h
    go_enter Tryd.func27, Tryd.ntmps27
    go_wp2_with (go_at_call 46; refine (latHas_no b n _ _ hm ha).mono ?_; rintro e w' ⟨rfl, rfl⟩)
    go_ret
    exact ⟨rfl, rfl⟩
theorem latName_nil (a : Int) (w : World) : Calls Tryd.prog 27 #[.pointer none, .int .i64 a] w fun e w' => e = .returned (.string ⟨#[]⟩) ∧ w = w' := by
  go_enter Tryd.func27, Tryd.ntmps27
  go_wp2_with (go_at_call 46; refine (latHas_nil _ _).mono ?_; rintro e w' ⟨rfl, rfl⟩)
  go_ret
  exact ⟨rfl, rfl⟩

theorem latCode_any (h : LatM w b n N A lo hi d s j m) (hn : n ≤ 10) (a : Int) : Calls Tryd.prog 23 #[.pointer (some ⟨b, 0, none⟩), .int .i64 a] w fun e w' =>
    e = .returned (.int .i64 (codeI n A a : Nat)) ∧ w = w' := by
  have hm := h.many
  by_cases ha : 0 ≤ a ∧ a < n
  · obtain ⟨k, rfl, hk⟩ := isLb_nat ha
    have hc := h.code (i := k) (by omega) hk
    have i1 : (0 : Int) ≤ k := by omega
    have i2 : (k : Int) < 10 := by omega
    have e1 : codeI n A k = clo A k := by simp [codeI, isLb, hk]
    rw [e1]
    clear h ha e1
    go_enter Tryd.func23, Tryd.ntmps23
    go_wp2_with (go_at_call 46; refine (latHas_yes b n _ _ hm hk).mono ?_; rintro e w' ⟨rfl, rfl⟩)
    go_ret
    exact ⟨rfl, rfl⟩
  · have e1 : codeI n A a = 0 := by simp only [codeI, isLb, decide_eq_false ha]; rfl
    rw [e1]
    clear h
    go_enter Tryd.func23, Tryd.ntmps23
    go_wp2_with (go_at_call 46; refine (latHas_no b n _ _ hm ha).mono ?_; rintro e w' ⟨rfl, rfl⟩)
    go_ret
    exact ⟨rfl, rfl⟩
theorem latCode_nil (a : Int) (w : World) : Calls Tryd.prog 23 #[.pointer none, .int .i64 a] w fun e w' => e = .returned (.int .i64 0) ∧ w = w' := by
  go_enter Tryd.func23, Tryd.ntmps23
  go_wp2_with (go_at_call 46; refine (latHas_nil _ _).mono ?_; rintro e w' ⟨rfl, rfl⟩)
  go_ret
  exact ⟨rfl, rfl⟩

theorem within_le {n : Nat} {A : Nat → Nat} (g : Good n A) {x y : Nat} (hx : x < n) (hy : y < n) : (clo A x &&& clo A y == clo A x) = le A x y := by
  rw [Bool.eq_iff_iff, beq_iff_eq]
  constructor
  · intro h
    have := congrArg (fun s => s.testBit x) h
    simp only [Nat.testBit_and, tb_le, le_refl g hx, Bool.true_and] at this
    exact this
  · intro h
    apply Nat.eq_of_testBit_eq
    intro i
    rw [Nat.testBit_and, tb_le, tb_le]
    cases h1 : le A i x with
    | false => rfl
    | true => rw [le_trans g hx hy h1 h]; rfl
theorem swap_q {P : Program} {f : FuncId} {args : Array Value} {v : Value} {w : World} (h : Calls P f args w fun e w' => e = .returned v ∧ w = w') : Calls P f args w fun e w' => e = .returned v ∧ w' = w :=
  h.mono fun _ _ ⟨he, hw⟩ => ⟨he, hw.symm⟩
theorem latHas_yesQ (b n a : Nat) (w : World) (hm : w.cell? ⟨b, 0, none⟩ = some (.int .i64 n)) (ha : a < n) (k : Nat) : Calls Tryd.prog 46 #[.pointer (some ⟨b, 0, none⟩), .int .i64 a] (w.drewN k) fun e w' => e = .returned (.bool true) ∧ ∃ i, w' = w.drewN i :=
  Calls.quiet_of_same (swap_q (latHas_yes b n a (w.drewN k) hm ha))
theorem latHas_noQ (b n : Nat) (a : Int) (w : World) (hm : w.cell? ⟨b, 0, none⟩ = some (.int .i64 n)) (ha : ¬ (0 ≤ a ∧ a < n)) (k : Nat) : Calls Tryd.prog 46 #[.pointer (some ⟨b, 0, none⟩), .int .i64 a] (w.drewN k) fun e w' => e = .returned (.bool false) ∧ ∃ i, w' = w.drewN i :=
  Calls.quiet_of_same (swap_q (latHas_no b n a (w.drewN k) hm ha))
theorem latLeq_any (h : LatM w b n N A lo hi d s j m) (g : 0 < n → Good n A) (hn : n ≤ 10) (a c : Int) : Calls Tryd.prog 24 #[.pointer (some ⟨b, 0, none⟩), .int .i64 a, .int .i64 c] w fun e w' =>
    e = .returned (.bool (leqI n A a c)) ∧ ∃ k, w' = w.drewN k := by
  have hm := h.many
  by_cases ha : 0 ≤ a ∧ a < n
  · obtain ⟨x, rfl, hx⟩ := isLb_nat ha
    by_cases hc : 0 ≤ c ∧ c < n
    · obtain ⟨y, rfl, hy⟩ := isLb_nat hc
      have g' := g (by omega)
      have h1 := h.code (i := x) (by omega) hx
      have h2 := h.code (i := y) (by omega) hy
      have i1 : (0 : Int) ≤ x := by omega
      have i2 : (x : Int) < 10 := by omega
      have i3 : (0 : Int) ≤ y := by omega
      have i4 : (y : Int) < 10 := by omega
      have l1 := clo_lt10 g' hn hx
      have l2 := clo_lt10 g' hn hy
      have e1 : leqI n A x y = (clo A x &&& clo A y == clo A x) := by rw [within_le g' hx hy]; simp [leqI, isLb, hx, hy]
      rw [e1]
      clear h ha hc e1
      generalize clo A x = cx at *
      generalize clo A y = cy at *
      go_enter Tryd.func24, Tryd.ntmps24
      go_wp2
      go_quiet (first
        | (go_at_call_of 46 (Value.int .i64 (x : Int)); exact latHas_yesQ b n x w hm hx _)
        | (go_at_call_of 46 (Value.int .i64 (y : Int)); exact latHas_yesQ b n y w hm hy _)
        | (go_at_call 49; exact Calls.quiet_of_same (swap_q (within_any _ _ (by omega) (by omega) _))))
      go_wp2
      go_ret
      exact ⟨rfl, _, rfl⟩
    · have e1 : leqI n A x c = false := by simp only [leqI, isLb, decide_eq_false hc, Bool.and_false, Bool.false_and]
      rw [e1]
      clear h
      go_enter Tryd.func24, Tryd.ntmps24
      go_wp2
      go_quiet (first
        | (go_at_call_of 46 (Value.int .i64 (x : Int)); exact latHas_yesQ b n x w hm hx _)
        | (go_at_call_of 46 (Value.int .i64 c); exact latHas_noQ b n c w hm hc _))
      go_wp2
      go_ret
      exact ⟨rfl, _, rfl⟩
  · have e1 : leqI n A a c = false := by simp only [leqI, isLb, decide_eq_false ha, Bool.false_and]
    rw [e1]
    clear h
    go_enter Tryd.func24, Tryd.ntmps24
    go_wp2
    go_quiet ((go_at_call 46; exact latHas_noQ b n a w hm ha _))
    go_wp2
    go_ret
    exact ⟨rfl, _, rfl⟩
theorem latLeq_nil (a c : Int) (w : World) : Calls Tryd.prog 24 #[.pointer none, .int .i64 a, .int .i64 c] w fun e w' => e = .returned (.bool false) ∧ ∃ k, w' = w.drewN k := by
  go_enter Tryd.func24, Tryd.ntmps24
  go_wp2
  go_quiet ((go_at_call 46; exact Calls.quiet_of_same (swap_q (latHas_nil a _))))
  go_wp2
  go_ret
  exact ⟨rfl, _, rfl⟩
end
end Go.Proofs.YtaikhdmgcffflaaDoor
