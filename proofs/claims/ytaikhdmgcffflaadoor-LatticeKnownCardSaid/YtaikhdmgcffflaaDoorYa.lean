/- The chapter's own lattice in memory; walks of Is, Leq, Low, High. -/
import Derived.Test.YtaikhdmgcffflaaDoorVa
import Derived.Test.YtaikhdmgcffflaaDoorWl
namespace Go.Proofs.YtaikhdmgcffflaaDoor
open Go Go.RowKit

/-- The cells of the chapter's lattice: names, order, which is at most which, joins, meets. -/
def refF (v : Value) (o : Nat) (Le : Nat → Bool) (J M : Nat → Int) (i : Nat) : Value :=
  if i = 0 then v else if i = 1 then .pointer (some ⟨o, 0, none⟩) else if i < 102 then .bool (Le (i - 2)) else if i < 202 then .int .i64 (J (i - 102)) else .int .i64 (M (i - 202))
/-- Block b is the chapter's lattice, over the order in block o, of n labels. -/
structure LatR (w : World) (b o n : Nat) (v : Value) (Le : Nat → Bool) (J M : Nat → Int) : Prop where
  blk : Blk w b 91 302 (refF v o Le J M)
  many : w.cell? ⟨o, 0, none⟩ = some (.int .i64 n)
section
variable {w : World} {b o n : Nat} {v : Value} {Le : Nat → Bool} {J M : Nat → Int}
theorem LatR.row (h : LatR w b o n v Le J M) : w.cell? ⟨b, 0, none⟩ = some v := (Blk.cell h.blk (by omega)).trans (by simp [refF])
theorem LatR.ord (h : LatR w b o n v Le J M) : w.cell? ⟨b, 1, none⟩ = some (.pointer (some ⟨o, 0, none⟩)) := (Blk.cell h.blk (by omega)).trans (by simp [refF])
theorem LatR.le (h : LatR w b o n v Le J M) {x y : Nat} (hx : x < 10) (hy : y < 10) : w.cell? ⟨b, 2 + x * 10 + y, none⟩ = some (.bool (Le (x * 10 + y))) := by
  refine (Blk.cell h.blk (by omega)).trans ?_
  unfold refF
  rw [if_neg (by omega), if_neg (by omega), if_pos (by omega), show 2 + x * 10 + y - 2 = x * 10 + y by omega]
theorem LatR.join (h : LatR w b o n v Le J M) {x y : Nat} (hx : x < 10) (hy : y < 10) : w.cell? ⟨b, 102 + x * 10 + y, none⟩ = some (.int .i64 (J (x * 10 + y))) := by
  refine (Blk.cell h.blk (by omega)).trans ?_
  unfold refF
  rw [if_neg (by omega), if_neg (by omega), if_neg (by omega), if_pos (by omega), show 102 + x * 10 + y - 102 = x * 10 + y by omega]
theorem LatR.meet (h : LatR w b o n v Le J M) {x y : Nat} (hx : x < 10) (hy : y < 10) : w.cell? ⟨b, 202 + x * 10 + y, none⟩ = some (.int .i64 (M (x * 10 + y))) := by
  refine (Blk.cell h.blk (by omega)).trans ?_
  unfold refF
  rw [if_neg (by omega), if_neg (by omega), if_neg (by omega), if_neg (by omega), show 202 + x * 10 + y - 202 = x * 10 + y by omega]
theorem LatR.drewN (h : LatR w b o n v Le J M) (k : Nat) : LatR (w.drewN k) b o n v Le J M := ⟨h.blk, h.many⟩
theorem LatR.below {w' : World} (h : LatR w b o n v Le J M) (hb : Below w.heap.size w w') : LatR w' b o n v Le J M := by
  refine ⟨h.blk.below hb h.blk.lt, ?_⟩
  have hl := World.block_lt_of_cell? w _ h.many
  rw [World.cell?_of_block (hb.block o hl)]
  exact h.many

theorem lrIs_any (h : LatR w b o n v Le J M) (a : Int) : Calls Tryd.prog 62 #[.pointer (some ⟨b, 0, none⟩), .int .i64 a] w fun e w' =>
    e = .returned (.bool (decide (0 ≤ a ∧ a < n))) ∧ w = w' := by
  have h1 := h.ord
  have h2 := h.many
  clear h
  go_enter Tryd.func62, Tryd.ntmps62
  go_wp2_with (go_at_call 34; refine (refIs_any o n a _ h2).mono ?_; rintro e w' ⟨rfl, rfl⟩)
  go_ret
  exact ⟨ret_bool (by simp), rfl⟩
theorem lrIs_yes (h : LatR w b o n v Le J M) {a : Nat} (ha : a < n) : Calls Tryd.prog 62 #[.pointer (some ⟨b, 0, none⟩), .int .i64 a] w fun e w' =>
    e = .returned (.bool true) ∧ w = w' := (lrIs_any h a).mono fun _ _ ⟨he, hw⟩ => ⟨he.trans (ret_bool (by simp; omega)), hw⟩
theorem lrIs_no (h : LatR w b o n v Le J M) {a : Int} (ha : ¬ (0 ≤ a ∧ a < n)) : Calls Tryd.prog 62 #[.pointer (some ⟨b, 0, none⟩), .int .i64 a] w fun e w' =>
    e = .returned (.bool false) ∧ w = w' := (lrIs_any h a).mono fun _ _ ⟨he, hw⟩ => ⟨he.trans (ret_bool (by simpa using ha)), hw⟩

/-- The lowest, the highest, of a table. -/
def lowT (n : Nat) (Le : Nat → Bool) : Nat := ((List.range n).find? fun a => (List.range n).all fun b => Le (a * 10 + b)).getD 0
def highT (n : Nat) (Le : Nat → Bool) : Nat := ((List.range n).find? fun a => (List.range n).all fun b => Le (b * 10 + a)).getD 0
theorem all_range_succ (p : Nat → Bool) (k : Nat) : (List.range (k + 1)).all p = ((List.range k).all p && p k) := by
  rw [List.range_succ, List.all_append]; simp

theorem lrLow_any (h : LatR w b o n v Le J M) (hn : n ≤ 10) : Calls Tryd.prog 38 #[.pointer (some ⟨b, 0, none⟩)] w fun e w' =>
    e = .returned (.int .i64 (lowT n Le : Nat)) ∧ w = w' := by
  have h1 := h.ord
  have h2 := h.many
  have HH := Lib.hid h
  clear h
  go_enter Tryd.func38, Tryd.ntmps38
  go_wp2_with fail
  go_loop [3] (fun i => ∃ k : Nat, k ≤ n ∧ i = .int .i64 k ∧ Hid (∀ x, x < k → ((List.range n).all fun b => Le (x * 10 + b)) = false)) (fun i => n - (intOf i).toNat)
  case atStart => exact ⟨0, Nat.zero_le _, rfl, fun x hx => by omega⟩
  case round =>
    obtain ⟨k, hk, rfl, hall⟩ := hrel
    by_cases hlt : k < n
    · have i1 : (0 : Int) ≤ k := by omega
      have i2 : (k : Int) < 10 := by omega
      go_wp2_with fail
      go_loop [4, 5] (fun u i => ∃ d : Nat, d ≤ n ∧ i = .int .i64 d ∧ u = .bool ((List.range d).all fun b => Le (k * 10 + b))) (fun _ i => n - (intOf i).toNat)
      case atStart => exact ⟨0, Nat.zero_le _, rfl, rfl⟩
      case round =>
        obtain ⟨d, hd, rfl, rfl⟩ := hrel
        by_cases hlt2 : d < n
        · have hc := HH.out.le (x := k) (y := d) (by omega) (by omega)
          have hsu := Lib.hid (all_range_succ (fun b => Le (k * 10 + b)) d)
          have j1 : (0 : Int) ≤ d := by omega
          have j2 : (d : Int) < 10 := by omega
          generalize hu : (List.range d).all (fun b => Le (k * 10 + b)) = u at *
          generalize hl : Le (k * 10 + d) = l at *
          have HU := Lib.hid hu
          have HL := Lib.hid hl
          clear hu hl
          cases u with
          | true =>
            go_wp2_with fail
            go_round
            case rel => exact ⟨d + 1, by omega, by go_num, by rw [hsu.out]; simp⟩
            case measure => simp [intOf]; omega
          | false =>
            go_wp2_with fail
            go_round
            case rel => exact ⟨d + 1, by omega, by go_num, by rw [hsu.out]; simp⟩
            case measure => simp [intOf]; omega
        · obtain rfl : d = n := by omega
          cases hq : (List.range d).all (fun b => Le (k * 10 + b)) with
          | true =>
            have hfin : Hid (lowT d Le = k) := by
              show _ = _
              unfold lowT
              rw [find_first hlt hall.out hq]
              rfl
            clear hall hq
            go_wp2_with fail
            go_ret
            rw [hfin.out]
            exact ⟨rfl, rfl⟩
          | false =>
            have hall' : Hid (∀ x, x < k + 1 → ((List.range d).all fun b => Le (x * 10 + b)) = false) := fun x hx => by
              rcases Nat.lt_or_ge x k with h1 | h1
              · exact hall.out x h1
              · rw [show x = k by omega]; exact hq
            clear hall hq
            go_wp2_with fail
            go_round
            case rel => exact ⟨k + 1, by omega, by go_num, hall'⟩
            case measure => simp [intOf]; omega
    · have hfin : Hid (lowT n Le = 0) := by
        show _ = _
        unfold lowT
        rw [find_none fun x hx => hall.out x (by omega)]
        rfl
      clear hall
      go_wp2_with fail
      go_ret
      rw [hfin.out]
      exact ⟨rfl, rfl⟩
theorem lrHigh_any (h : LatR w b o n v Le J M) (hn : n ≤ 10) : Calls Tryd.prog 39 #[.pointer (some ⟨b, 0, none⟩)] w fun e w' =>
    e = .returned (.int .i64 (highT n Le : Nat)) ∧ w = w' := by
  have h1 := h.ord
  have h2 := h.many
  have HH := Lib.hid h
  clear h
  go_enter Tryd.func39, Tryd.ntmps39
  go_wp2_with fail
  go_loop [3] (fun i => ∃ k : Nat, k ≤ n ∧ i = .int .i64 k ∧ Hid (∀ x, x < k → ((List.range n).all fun b => Le (b * 10 + x)) = false)) (fun i => n - (intOf i).toNat)
  case atStart => exact ⟨0, Nat.zero_le _, rfl, fun x hx => by omega⟩
  case round =>
    obtain ⟨k, hk, rfl, hall⟩ := hrel
    by_cases hlt : k < n
    · have i1 : (0 : Int) ≤ k := by omega
      have i2 : (k : Int) < 10 := by omega
      go_wp2_with fail
      go_loop [4, 5] (fun u i => ∃ d : Nat, d ≤ n ∧ i = .int .i64 d ∧ u = .bool ((List.range d).all fun b => Le (b * 10 + k))) (fun _ i => n - (intOf i).toNat)
      case atStart => exact ⟨0, Nat.zero_le _, rfl, rfl⟩
      case round =>
        obtain ⟨d, hd, rfl, rfl⟩ := hrel
        by_cases hlt2 : d < n
        · have hc := HH.out.le (x := d) (y := k) (by omega) (by omega)
          have hsu := Lib.hid (all_range_succ (fun b => Le (b * 10 + k)) d)
          have j1 : (0 : Int) ≤ d := by omega
          have j2 : (d : Int) < 10 := by omega
          generalize hu : (List.range d).all (fun b => Le (b * 10 + k)) = u at *
          generalize hl : Le (d * 10 + k) = l at *
          have HU := Lib.hid hu
          have HL := Lib.hid hl
          clear hu hl
          cases u with
          | true =>
            go_wp2_with fail
            go_round
            case rel => exact ⟨d + 1, by omega, by go_num, by rw [hsu.out]; simp⟩
            case measure => simp [intOf]; omega
          | false =>
            go_wp2_with fail
            go_round
            case rel => exact ⟨d + 1, by omega, by go_num, by rw [hsu.out]; simp⟩
            case measure => simp [intOf]; omega
        · obtain rfl : d = n := by omega
          cases hq : (List.range d).all (fun b => Le (b * 10 + k)) with
          | true =>
            have hfin : Hid (highT d Le = k) := by
              show _ = _
              unfold highT
              rw [find_first hlt hall.out hq]
              rfl
            clear hall hq
            go_wp2_with fail
            go_ret
            rw [hfin.out]
            exact ⟨rfl, rfl⟩
          | false =>
            have hall' : Hid (∀ x, x < k + 1 → ((List.range d).all fun b => Le (b * 10 + x)) = false) := fun x hx => by
              rcases Nat.lt_or_ge x k with h1 | h1
              · exact hall.out x h1
              · rw [show x = k by omega]; exact hq
            clear hall hq
            go_wp2_with fail
            go_round
            case rel => exact ⟨k + 1, by omega, by go_num, hall'⟩
            case measure => simp [intOf]; omega
    · have hfin : Hid (highT n Le = 0) := by
        show _ = _
        unfold highT
        rw [find_none fun x hx => hall.out x (by omega)]
        rfl
      clear hall
      go_wp2_with fail
      go_ret
      rw [hfin.out]
      exact ⟨rfl, rfl⟩

/-- What Leq answers. -/
def leqT (n : Nat) (Le : Nat → Bool) (a c : Int) : Bool := decide (0 ≤ a ∧ a < n) && (decide (0 ≤ c ∧ c < n) && Le (a.toNat * 10 + c.toNat))
theorem lrLeq_any (h : LatR w b o n v Le J M) (hn : n ≤ 10) (a c : Int) : Calls Tryd.prog 41 #[.pointer (some ⟨b, 0, none⟩), .int .i64 a, .int .i64 c] w fun e w' =>
    e = .returned (.bool (leqT n Le a c)) ∧ w = w' := by
  have HH := Lib.hid h
  by_cases ha : 0 ≤ a ∧ a < n
  · obtain ⟨x, rfl⟩ : ∃ x : Nat, a = x := ⟨a.toNat, by omega⟩
    have hx : x < n := by omega
    by_cases hc : 0 ≤ c ∧ c < n
    · obtain ⟨y, rfl⟩ : ∃ y : Nat, c = y := ⟨c.toNat, by omega⟩
      have hy : y < n := by omega
      have hl := h.le (x := x) (y := y) (by omega) (by omega)
      have hfin : Hid (leqT n Le x y = Le (x * 10 + y)) := by show _ = _; simp [leqT, hx, hy]
      have i1 : (0 : Int) ≤ x := by omega
      have i2 : (x : Int) < 10 := by omega
      have j1 : (0 : Int) ≤ y := by omega
      have j2 : (y : Int) < 10 := by omega
      clear h ha hc
      go_enter Tryd.func41, Tryd.ntmps41
      go_wp2_with fail
      refine Calls.mono (lrIs_yes HH.out hx) ?_
      rintro e w' ⟨rfl, rfl⟩
      go_wp2_with fail
      refine Calls.mono (lrIs_yes HH.out hy) ?_
      rintro e w' ⟨rfl, rfl⟩
      go_wp2_with fail
      go_ret
      rw [hfin.out]
      exact ⟨rfl, rfl⟩
    · have hfin : Hid (leqT n Le x c = false) := by
        show _ = _
        unfold leqT
        rw [decide_eq_false hc]
        simp
      have HC := Lib.hid hc
      clear h ha hc
      go_enter Tryd.func41, Tryd.ntmps41
      go_wp2_with fail
      refine Calls.mono (lrIs_yes HH.out hx) ?_
      rintro e w' ⟨rfl, rfl⟩
      go_wp2_with fail
      refine Calls.mono (lrIs_no HH.out HC.out) ?_
      rintro e w' ⟨rfl, rfl⟩
      go_wp2_with fail
      go_ret
      rw [hfin.out]
      exact ⟨rfl, rfl⟩
  · have hfin : Hid (leqT n Le a c = false) := by
      show _ = _
      unfold leqT
      rw [decide_eq_false ha]
      simp
    have HA := Lib.hid ha
    clear h ha
    go_enter Tryd.func41, Tryd.ntmps41
    go_wp2_with fail
    refine Calls.mono (lrIs_no HH.out HA.out) ?_
    rintro e w' ⟨rfl, rfl⟩
    go_wp2_with fail
    go_ret
    rw [hfin.out]
    exact ⟨rfl, rfl⟩
end
end Go.Proofs.YtaikhdmgcffflaaDoor
