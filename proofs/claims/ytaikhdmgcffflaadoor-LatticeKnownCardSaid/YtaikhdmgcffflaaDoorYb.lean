/- Walks of the chapter's own Join, Meet, JoinAll, Name, Find. -/
import Derived.Test.YtaikhdmgcffflaaDoorYa
import Derived.Test.YtaikhdmgcffflaaDoorVe
import Derived.Test.YtaikhdmgcffflaaDoorVf
namespace Go.Proofs.YtaikhdmgcffflaaDoor
open Go Go.RowKit

/-- What Join and Meet answer, of a table. -/
def twoT (n : Nat) (J : Nat → Int) (top : Nat) (a c : Int) : Int := if 0 ≤ a ∧ a < n then (if 0 ≤ c ∧ c < n then J (a.toNat * 10 + c.toNat) else top) else top
section
variable {w : World} {b o n : Nat} {v : Value} {Le : Nat → Bool} {J M : Nat → Int}
theorem lrJoin_any (h : LatR w b o n v Le J M) (hn : n ≤ 10) (a c : Int) : Calls Tryd.prog 42 #[.pointer (some ⟨b, 0, none⟩), .int .i64 a, .int .i64 c] w fun e w' =>
    e = .returned (.int .i64 (twoT n J (highT n Le) a c)) ∧ w = w' := by
  have HH := Lib.hid h
  by_cases ha : 0 ≤ a ∧ a < n
  · obtain ⟨x, rfl⟩ : ∃ x : Nat, a = x := ⟨a.toNat, by omega⟩
    have hx : x < n := by omega
    by_cases hc : 0 ≤ c ∧ c < n
    · obtain ⟨y, rfl⟩ : ∃ y : Nat, c = y := ⟨c.toNat, by omega⟩
      have hy : y < n := by omega
      have hl := h.join (x := x) (y := y) (by omega) (by omega)
      have hfin : Hid (twoT n J (highT n Le) x y = J (x * 10 + y)) := by show _ = _; simp [twoT, hx, hy]
      have i1 : (0 : Int) ≤ x := by omega
      have i2 : (x : Int) < 10 := by omega
      have j1 : (0 : Int) ≤ y := by omega
      have j2 : (y : Int) < 10 := by omega
      generalize J (x * 10 + y) = z at *
      clear h ha hc
      go_enter Tryd.func42, Tryd.ntmps42
      go_wp2_with fail
      refine Calls.mono (lrIs_yes HH.out hx) ?_
      rintro e w' ⟨rfl, rfl⟩
      go_wp2_with fail
      refine Calls.mono (lrIs_yes HH.out hy) ?_
      rintro e w' ⟨rfl, rfl⟩
      go_wp2_with fail
      go_ret
      rw [hfin.out]
      exact ⟨rfl, rfl⟩
    · have hfin : Hid (twoT n J (highT n Le) x c = highT n Le) := by
        show _ = _
        unfold twoT
        rw [if_neg hc]
        simp
      have HC := Lib.hid hc
      clear h ha hc
      go_enter Tryd.func42, Tryd.ntmps42
      go_wp2_with fail
      refine Calls.mono (lrIs_yes HH.out hx) ?_
      rintro e w' ⟨rfl, rfl⟩
      go_wp2_with fail
      refine Calls.mono (lrIs_no HH.out HC.out) ?_
      rintro e w' ⟨rfl, rfl⟩
      go_wp2_with fail
      refine Calls.mono (lrHigh_any HH.out hn) ?_
      rintro e w' ⟨rfl, rfl⟩
      go_wp2_with fail
      go_ret
      rw [hfin.out]
      exact ⟨rfl, rfl⟩
  · have hfin : Hid (twoT n J (highT n Le) a c = highT n Le) := by
      show _ = _
      unfold twoT
      rw [if_neg ha]
    have HA := Lib.hid ha
    clear h ha
    go_enter Tryd.func42, Tryd.ntmps42
    go_wp2_with fail
    refine Calls.mono (lrIs_no HH.out HA.out) ?_
    rintro e w' ⟨rfl, rfl⟩
    go_wp2_with fail
    refine Calls.mono (lrHigh_any HH.out hn) ?_
    rintro e w' ⟨rfl, rfl⟩
    go_wp2_with fail
    go_ret
    rw [hfin.out]
    exact ⟨rfl, rfl⟩
theorem lrMeet_any (h : LatR w b o n v Le J M) (hn : n ≤ 10) (a c : Int) : Calls Tryd.prog 43 #[.pointer (some ⟨b, 0, none⟩), .int .i64 a, .int .i64 c] w fun e w' =>
    e = .returned (.int .i64 (twoT n M (lowT n Le) a c)) ∧ w = w' := by
  have HH := Lib.hid h
  by_cases ha : 0 ≤ a ∧ a < n
  · obtain ⟨x, rfl⟩ : ∃ x : Nat, a = x := ⟨a.toNat, by omega⟩
    have hx : x < n := by omega
    by_cases hc : 0 ≤ c ∧ c < n
    · obtain ⟨y, rfl⟩ : ∃ y : Nat, c = y := ⟨c.toNat, by omega⟩
      have hy : y < n := by omega
      have hl := h.meet (x := x) (y := y) (by omega) (by omega)
      have hfin : Hid (twoT n M (lowT n Le) x y = M (x * 10 + y)) := by show _ = _; simp [twoT, hx, hy]
      have i1 : (0 : Int) ≤ x := by omega
      have i2 : (x : Int) < 10 := by omega
      have j1 : (0 : Int) ≤ y := by omega
      have j2 : (y : Int) < 10 := by omega
      generalize M (x * 10 + y) = z at *
      clear h ha hc
      go_enter Tryd.func43, Tryd.ntmps43
      go_wp2_with fail
      refine Calls.mono (lrIs_yes HH.out hx) ?_
      rintro e w' ⟨rfl, rfl⟩
      go_wp2_with fail
      refine Calls.mono (lrIs_yes HH.out hy) ?_
      rintro e w' ⟨rfl, rfl⟩
      go_wp2_with fail
      go_ret
      rw [hfin.out]
      exact ⟨rfl, rfl⟩
    · have hfin : Hid (twoT n M (lowT n Le) x c = lowT n Le) := by
        show _ = _
        unfold twoT
        rw [if_neg hc]
        simp
      have HC := Lib.hid hc
      clear h ha hc
      go_enter Tryd.func43, Tryd.ntmps43
      go_wp2_with fail
      refine Calls.mono (lrIs_yes HH.out hx) ?_
      rintro e w' ⟨rfl, rfl⟩
      go_wp2_with fail
      refine Calls.mono (lrIs_no HH.out HC.out) ?_
      rintro e w' ⟨rfl, rfl⟩
      go_wp2_with fail
      refine Calls.mono (lrLow_any HH.out hn) ?_
      rintro e w' ⟨rfl, rfl⟩
      go_wp2_with fail
      go_ret
      rw [hfin.out]
      exact ⟨rfl, rfl⟩
  · have hfin : Hid (twoT n M (lowT n Le) a c = lowT n Le) := by
      show _ = _
      unfold twoT
      rw [if_neg ha]
    have HA := Lib.hid ha
    clear h ha
    go_enter Tryd.func43, Tryd.ntmps43
    go_wp2_with fail
    refine Calls.mono (lrIs_no HH.out HA.out) ?_
    rintro e w' ⟨rfl, rfl⟩
    go_wp2_with fail
    refine Calls.mono (lrLow_any HH.out hn) ?_
    rintro e w' ⟨rfl, rfl⟩
    go_wp2_with fail
    go_ret
    rw [hfin.out]
    exact ⟨rfl, rfl⟩

/-- What JoinAll answers. -/
def allT (n : Nat) (Le : Nat → Bool) (J : Nat → Int) (l : List Int) : Int := l.foldl (fun (x : Int) a => twoT n J (highT n Le) x a) (lowT n Le)
theorem allT_take (n : Nat) (Le : Nat → Bool) (J : Nat → Int) (l : List Int) (k : Nat) (hk : k < l.length) : allT n Le J (l.take (k + 1)) = twoT n J (highT n Le) (allT n Le J (l.take k)) l[k] := by
  unfold allT
  rw [List.take_succ_eq_append_getElem hk, List.foldl_append]
  rfl
theorem lrJoinAll_any (h : LatR w b o n v Le J M) (hn : n ≤ 10) (As : Option Addr) (cs : Nat) (l : List Int) (hl : Rd w As (lv l)) (hll : l.length ≤ 1000000) :
    Calls Tryd.prog 44 #[.pointer (some ⟨b, 0, none⟩), .slice As l.length cs] w fun e w' => e = .returned (.int .i64 (allT n Le J l)) ∧ w = w' := by
  have HH := Lib.hid h
  have HR := Lib.hid hl
  clear h hl
  go_enter Tryd.func44, Tryd.ntmps44
  go_wp2_with (go_at_call 38; refine (lrLow_any HH.out hn).mono ?_; rintro e w' ⟨rfl, rfl⟩)
  go_loop [5, 6] (fun v i => ∃ k : Nat, k ≤ l.length ∧ i = .int .i64 k ∧ v = .int .i64 (allT n Le J (l.take k))) (fun _ i => l.length - (intOf i).toNat)
  case atStart => exact ⟨0, Nat.zero_le _, rfl, rfl⟩
  case round =>
    obtain ⟨k, hk, rfl, rfl⟩ := hrel
    by_cases hlt : k < l.length
    · obtain ⟨bb, off, rfl, hbb, hc⟩ := HR.out.lab k hlt
      have hst := Lib.hid (allT_take n Le J l k hlt)
      have k1 : (0 : Int) ≤ k := by omega
      have k2 : (k : Int) < l.length := by omega
      go_wp2_with (go_at_call 42; refine (lrJoin_any HH.out hn _ _).mono ?_; rintro e w2 ⟨rfl, rfl⟩)
      go_round
      case rel => exact ⟨k + 1, by omega, by go_num, by rw [hst.out]⟩
      case measure => simp [intOf]; omega
    · have e : l.take k = l := List.take_of_length_le (by omega)
      rw [e]
      go_wp2_with fail
      go_ret
      exact ⟨rfl, rfl⟩

theorem lrName_any {An : Option Addr} {cn : Nat} {N : List (List UInt8)} (h : LatR w b o n (.slice An n cn) Le J M) (hN : N.length = n) (hr : Rd w An (sv N)) (a : Int) : Calls Tryd.prog 40 #[.pointer (some ⟨b, 0, none⟩), .int .i64 a] w fun e w' =>
    e = .returned (.string ⟨(nameI n N a).toArray⟩) ∧ w = w' := by
  have HH := Lib.hid h
  have hv := h.row
  by_cases ha : 0 ≤ a ∧ a < n
  · obtain ⟨k, rfl, hk⟩ := isLb_nat ha
    obtain ⟨bb, off, rfl, hbb, hc⟩ := hr.str k (by omega)
    have i1 : (0 : Int) ≤ k := by omega
    have i2 : (k : Int) < n := by omega
    have e1 : Hid (nameI n N k = N[k]) := by show _ = _; simp [nameI, isLb, hk, List.getD_eq_getElem?_getD, show k < N.length by omega]
    clear h ha hr
    go_enter Tryd.func40, Tryd.ntmps40
    go_wp2_with (go_at_call 62; refine (lrIs_yes HH.out hk).mono ?_; rintro e w' ⟨rfl, rfl⟩)
    go_ret
    rw [e1.out]
    exact ⟨rfl, rfl⟩
  · have e1 : Hid (nameI n N a = []) := by show _ = _; simp only [nameI, isLb, decide_eq_false ha]; rfl
    have HA := Lib.hid ha
    clear h hr ha
    go_enter Tryd.func40, Tryd.ntmps40
    go_wp2_with (go_at_call 62; refine (lrIs_no HH.out HA.out).mono ?_; rintro e w' ⟨rfl, rfl⟩)
    go_ret
    rw [e1.out]
    exact ⟨rfl, rfl⟩

theorem lrFind_any {An : Option Addr} {cn : Nat} {N : List (List UInt8)} (h : LatR w b o n (.slice An n cn) Le J M) (hN : N.length = n) (hr : Rd w An (sv N)) (hn : n ≤ 1000) (y : List UInt8) : Calls Tryd.prog 11 #[.pointer (some ⟨b, 0, none⟩), .string ⟨y.toArray⟩] w fun e w' =>
    e = .returned (.tuple #[.int .i64 (findV n N y).1, .bool (findV n N y).2]) ∧ w = w' := by
  have hv := h.row
  have HR := Lib.hid hr
  have HN := Lib.hid hN
  clear h hr hN
  go_enter Tryd.func11, Tryd.ntmps11
  go_wp2_with fail
  go_loop [6] (fun i => ∃ k : Nat, k ≤ n ∧ i = .int .i64 k ∧ Hid (∀ x, x < k → (N.getD x [] == y) = false)) (fun i => n - (intOf i).toNat)
  case atStart => exact ⟨0, Nat.zero_le _, rfl, fun x hx => by omega⟩
  case round =>
    obtain ⟨k, hk, rfl, hall⟩ := hrel
    by_cases hlt : k < n
    · obtain ⟨bb, off, rfl, hbb, hc⟩ := HR.out.str k (by rw [HN.out]; exact hlt)
      have i1 : (0 : Int) ≤ k := by omega
      have i2 : (k : Int) < n := by omega
      have hz : Hid (N.getD k [] = N[k]'(by rw [HN.out]; exact hlt)) := by show _ = _; simp [List.getD_eq_getElem?_getD, show k < N.length by rw [HN.out]; exact hlt]
      generalize N[k]'(by rw [HN.out]; exact hlt) = z at hc hz
      cases hq : (z == y) with
      | true =>
        have hfin : Hid (findV n N y = ((k : Int), true)) := by
          show _ = _
          unfold findV findN
          rw [find_first hlt hall.out (by rw [hz.out]; exact hq)]
        clear hall hz
        go_wp2_with fail
        go_ret2
        rw [hfin.out]
        exact ⟨rfl, rfl⟩
      | false =>
        have hall' : Hid (∀ x, x < k + 1 → (N.getD x [] == y) = false) := fun x hx => by
          rcases Nat.lt_or_ge x k with h1 | h1
          · exact hall.out x h1
          · rw [show x = k by omega, hz.out]; exact hq
        clear hall hz
        go_wp2_with fail
        go_round
        case rel => exact ⟨k + 1, by omega, by go_num, hall'⟩
        case measure => simp [intOf]; omega
    · have hfin : Hid (findV n N y = (0, false)) := by
        show _ = _
        unfold findV findN
        rw [find_none fun x hx => hall.out x (by omega)]
      clear hall
      go_wp2_with fail
      go_ret2
      rw [hfin.out]
      exact ⟨rfl, rfl⟩
end
end Go.Proofs.YtaikhdmgcffflaaDoor
