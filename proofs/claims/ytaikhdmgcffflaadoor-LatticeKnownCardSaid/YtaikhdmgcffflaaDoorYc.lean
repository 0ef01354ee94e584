/- Walks of the chapter's own join and meet: the least above both, the greatest below both, by a table. -/
import Derived.Test.YtaikhdmgcffflaaDoorYa
namespace Go.Proofs.YtaikhdmgcffflaaDoor
open Go Go.RowKit

/-- Is c the least above a and x, by the table? -/
def isJT (n : Nat) (Le : Nat → Bool) (a x c : Nat) : Bool := (Le (a * 10 + c) && Le (x * 10 + c)) && (List.range n).all fun d => (!Le (a * 10 + d) || !Le (x * 10 + d)) || Le (c * 10 + d)
def isMT (n : Nat) (Le : Nat → Bool) (a x c : Nat) : Bool := (Le (c * 10 + a) && Le (c * 10 + x)) && (List.range n).all fun d => (!Le (d * 10 + a) || !Le (d * 10 + x)) || Le (d * 10 + c)
def optI (o : Option Nat) : Int := match o with
  | some c => c
  | none => -1
def joinZ (n : Nat) (Le : Nat → Bool) (a x : Nat) : Int := optI ((List.range n).find? (isJT n Le a x))
def meetZ (n : Nat) (Le : Nat → Bool) (a x : Nat) : Int := optI ((List.range n).find? (isMT n Le a x))
theorem all_cut {p : Nat → Bool} {d n : Nat} (hd : d ≤ n) (h : (List.range d).all p = false) : (List.range n).all p = false := by
  rw [← Bool.not_eq_true, List.all_eq_true] at h ⊢
  exact fun h' => h fun y hy => h' y (List.mem_range.2 (Nat.lt_of_lt_of_le (List.mem_range.1 hy) hd))
theorem pre_cut {q : Bool} {p : Nat → Bool} {d n : Nat} (hd : d ≤ n) (h : (q && (List.range d).all p) = false) : (q && (List.range n).all p) = false := by
  cases q with
  | false => rfl
  | true => exact all_cut hd h
section
variable {w : World} {b o n : Nat} {v : Value} {Le : Nat → Bool} {J M : Nat → Int}
set_option maxHeartbeats 1000000 in
set_option maxRecDepth 100000 in
theorem lrjoin_any (h : LatR w b o n v Le J M) (hn : n ≤ 10) (a x : Nat) (ha : a < n) (hx : x < n) : Calls Tryd.prog 59 #[.pointer (some ⟨b, 0, none⟩), .int .i64 a, .int .i64 x] w fun e w' =>
    e = .returned (.int .i64 (joinZ n Le a x)) ∧ w = w' := by
  have h1 := h.ord
  have h2 := h.many
  have HH := Lib.hid h
  have a1 : (0 : Int) ≤ a := by omega
  have a2 : (a : Int) < 10 := by omega
  have x1 : (0 : Int) ≤ x := by omega
  have x2 : (x : Int) < 10 := by omega
  clear h
  go_enter Tryd.func59, Tryd.ntmps59
  go_wp2_with fail
  go_loop [7] (fun i => ∃ k : Nat, k ≤ n ∧ i = .int .i64 k ∧ Hid (∀ c, c < k → isJT n Le a x c = false)) (fun i => n - (intOf i).toNat)
  case atStart => exact ⟨0, Nat.zero_le _, rfl, fun c hc => by omega⟩
  case round =>
    obtain ⟨k, hk, rfl, hall⟩ := hrel
    by_cases hlt : k < n
    · have i1 : (0 : Int) ≤ k := by omega
      have i2 : (k : Int) < 10 := by omega
      have c1 := HH.out.le (x := a) (y := k) (by omega) (by omega)
      have c2 := HH.out.le (x := x) (y := k) (by omega) (by omega)
      obtain ⟨q, hq⟩ : ∃ q, q = (Le (a * 10 + k) && Le (x * 10 + k)) := ⟨_, rfl⟩
      obtain ⟨p, hp⟩ : ∃ p : Nat → Bool, p = fun d => (!Le (a * 10 + d) || !Le (x * 10 + d)) || Le (k * 10 + d) := ⟨_, rfl⟩
      have hj : Hid (isJT n Le a x k = (q && (List.range n).all p)) := by show _ = _; rw [hq, hp]; rfl
      have HP := Lib.hid hp
      clear hp
      have hst : Hid ((Le (a * 10 + k) && Le (x * 10 + k)) = q) := hq.symm
      clear hq
      cases h1k : Le (a * 10 + k) with
      | true =>
        rw [h1k] at c1
        have hst' : Hid (Le (x * 10 + k) = q) := by have := hst.out; rw [h1k] at this; exact this
        rw [hst'.out] at c2
        clear hst h1k
        go_wp2_with fail
        go_loop [8, 9] (fun u i => ∃ d : Nat, d ≤ n ∧ i = .int .i64 d ∧ u = .bool (q && (List.range d).all p)) (fun _ i => n - (intOf i).toNat)
        case atStart => exact ⟨0, Nat.zero_le _, rfl, by simp⟩
        case round =>
          obtain ⟨d, hd, rfl, rfl⟩ := hrel
          cases hu : (q && (List.range d).all p) with
          | false =>
            have hall' : Hid (∀ c, c < k + 1 → isJT n Le a x c = false) := fun c hc => by
              rcases Nat.lt_or_ge c k with h1 | h1
              · exact hall.out c h1
              · rw [show c = k by omega, hj.out]; exact pre_cut hd hu
            clear hall hu
            by_cases hlt2 : d < n
            · go_wp2_with fail
              go_round
              case rel => exact ⟨k + 1, by omega, by go_num, hall'⟩
              case measure => simp [intOf]; omega
            · go_wp2_with fail
              go_round
              case rel => exact ⟨k + 1, by omega, by go_num, hall'⟩
              case measure => simp [intOf]; omega
          | true =>
            by_cases hlt2 : d < n
            · have d1 := HH.out.le (x := a) (y := d) (by omega) (by omega)
              have d2 := HH.out.le (x := x) (y := d) (by omega) (by omega)
              have d3 := HH.out.le (x := k) (y := d) (by omega) (by omega)
              have j1 : (0 : Int) ≤ d := by omega
              have j2 : (d : Int) < 10 := by omega
              have hsu : Hid ((q && (List.range (d + 1)).all p) = ((!Le (a * 10 + d) || !Le (x * 10 + d)) || Le (k * 10 + d))) := by
                show _ = _
                rw [all_range_succ, ← Bool.and_assoc, hu, Bool.true_and, HP.out]
              generalize Le (a * 10 + d) = l1 at d1 hsu
              generalize Le (x * 10 + d) = l2 at d2 hsu
              generalize Le (k * 10 + d) = l3 at d3 hsu
              clear hu
              cases l1 with
              | false =>
                go_wp2_with fail
                go_round
                case rel => exact ⟨d + 1, by omega, by go_num, by rw [hsu.out]; rfl⟩
                case measure => simp [intOf]; omega
              | true =>
                cases l2 with
                | false =>
                  go_wp2_with fail
                  go_round
                  case rel => exact ⟨d + 1, by omega, by go_num, by rw [hsu.out]; rfl⟩
                  case measure => simp [intOf]; omega
                | true =>
                  go_wp2_with fail
                  go_round
                  case rel => exact ⟨d + 1, by omega, by go_num, by rw [hsu.out]; simp⟩
                  case measure => simp [intOf]; omega
            · obtain rfl : d = n := by omega
              have hfin : Hid (joinZ d Le a x = k) := by
                show _ = _
                unfold joinZ
                rw [find_first hlt hall.out (by rw [hj.out]; exact hu)]
                rfl
              clear hall hu
              go_wp2_with fail
              go_ret
              rw [hfin.out]
              exact ⟨rfl, rfl⟩
      | false =>
        rw [h1k] at c1
        have hst' : Hid (false = q) := by have := hst.out; rw [h1k] at this; exact this
        obtain rfl := hst'.out
        clear hst h1k hst'
        go_wp2_with fail
        go_loop [8, 9] (fun u i => ∃ d : Nat, d ≤ n ∧ i = .int .i64 d ∧ u = .bool (false && (List.range d).all p)) (fun _ i => n - (intOf i).toNat)
        case atStart => exact ⟨0, Nat.zero_le _, rfl, by simp⟩
        case round =>
          obtain ⟨d, hd, rfl, rfl⟩ := hrel
          cases hu : (false && (List.range d).all p) with
          | false =>
            have hall' : Hid (∀ c, c < k + 1 → isJT n Le a x c = false) := fun c hc => by
              rcases Nat.lt_or_ge c k with h1 | h1
              · exact hall.out c h1
              · rw [show c = k by omega, hj.out]; exact pre_cut hd hu
            clear hall hu
            by_cases hlt2 : d < n
            · go_wp2_with fail
              go_round
              case rel => exact ⟨k + 1, by omega, by go_num, hall'⟩
              case measure => simp [intOf]; omega
            · go_wp2_with fail
              go_round
              case rel => exact ⟨k + 1, by omega, by go_num, hall'⟩
              case measure => simp [intOf]; omega
          | true =>
            by_cases hlt2 : d < n
            · have d1 := HH.out.le (x := a) (y := d) (by omega) (by omega)
              have d2 := HH.out.le (x := x) (y := d) (by omega) (by omega)
              have d3 := HH.out.le (x := k) (y := d) (by omega) (by omega)
              have j1 : (0 : Int) ≤ d := by omega
              have j2 : (d : Int) < 10 := by omega
              have hsu : Hid ((false && (List.range (d + 1)).all p) = ((!Le (a * 10 + d) || !Le (x * 10 + d)) || Le (k * 10 + d))) := by
                show _ = _
                rw [all_range_succ, ← Bool.and_assoc, hu, Bool.true_and, HP.out]
              generalize Le (a * 10 + d) = l1 at d1 hsu
              generalize Le (x * 10 + d) = l2 at d2 hsu
              generalize Le (k * 10 + d) = l3 at d3 hsu
              clear hu
              cases l1 with
              | false =>
                go_wp2_with fail
                go_round
                case rel => exact ⟨d + 1, by omega, by go_num, by rw [hsu.out]; rfl⟩
                case measure => simp [intOf]; omega
              | true =>
                cases l2 with
                | false =>
                  go_wp2_with fail
                  go_round
                  case rel => exact ⟨d + 1, by omega, by go_num, by rw [hsu.out]; rfl⟩
                  case measure => simp [intOf]; omega
                | true =>
                  go_wp2_with fail
                  go_round
                  case rel => exact ⟨d + 1, by omega, by go_num, by rw [hsu.out]; simp⟩
                  case measure => simp [intOf]; omega
            · obtain rfl : d = n := by omega
              have hfin : Hid (joinZ d Le a x = k) := by
                show _ = _
                unfold joinZ
                rw [find_first hlt hall.out (by rw [hj.out]; exact hu)]
                rfl
              clear hall hu
              go_wp2_with fail
              go_ret
              rw [hfin.out]
              exact ⟨rfl, rfl⟩
    · have hfin : Hid (joinZ n Le a x = -1) := by
        show _ = _
        unfold joinZ
        rw [find_none fun c hc => hall.out c (by omega)]
        rfl
      clear hall
      go_wp2_with fail
      go_ret
      rw [hfin.out]
      exact ⟨rfl, rfl⟩
set_option maxHeartbeats 1000000 in
set_option maxRecDepth 100000 in
theorem lrmeet_any (h : LatR w b o n v Le J M) (hn : n ≤ 10) (a x : Nat) (ha : a < n) (hx : x < n) : Calls Tryd.prog 60 #[.pointer (some ⟨b, 0, none⟩), .int .i64 a, .int .i64 x] w fun e w' =>
    e = .returned (.int .i64 (meetZ n Le a x)) ∧ w = w' := by
  have h1 := h.ord
  have h2 := h.many
  have HH := Lib.hid h
  have a1 : (0 : Int) ≤ a := by omega
  have a2 : (a : Int) < 10 := by omega
  have x1 : (0 : Int) ≤ x := by omega
  have x2 : (x : Int) < 10 := by omega
  clear h
  go_enter Tryd.func60, Tryd.ntmps60
  go_wp2_with fail
  go_loop [7] (fun i => ∃ k : Nat, k ≤ n ∧ i = .int .i64 k ∧ Hid (∀ c, c < k → isMT n Le a x c = false)) (fun i => n - (intOf i).toNat)
  case atStart => exact ⟨0, Nat.zero_le _, rfl, fun c hc => by omega⟩
  case round =>
    obtain ⟨k, hk, rfl, hall⟩ := hrel
    by_cases hlt : k < n
    · have i1 : (0 : Int) ≤ k := by omega
      have i2 : (k : Int) < 10 := by omega
      have c1 := HH.out.le (x := k) (y := a) (by omega) (by omega)
      have c2 := HH.out.le (x := k) (y := x) (by omega) (by omega)
      obtain ⟨q, hq⟩ : ∃ q, q = (Le (k * 10 + a) && Le (k * 10 + x)) := ⟨_, rfl⟩
      obtain ⟨p, hp⟩ : ∃ p : Nat → Bool, p = fun d => (!Le (d * 10 + a) || !Le (d * 10 + x)) || Le (d * 10 + k) := ⟨_, rfl⟩
      have hj : Hid (isMT n Le a x k = (q && (List.range n).all p)) := by show _ = _; rw [hq, hp]; rfl
      have HP := Lib.hid hp
      clear hp
      have hst : Hid ((Le (k * 10 + a) && Le (k * 10 + x)) = q) := hq.symm
      clear hq
      cases h1k : Le (k * 10 + a) with
      | true =>
        rw [h1k] at c1
        have hst' : Hid (Le (k * 10 + x) = q) := by have := hst.out; rw [h1k] at this; exact this
        rw [hst'.out] at c2
        clear hst h1k
        go_wp2_with fail
        go_loop [8, 9] (fun u i => ∃ d : Nat, d ≤ n ∧ i = .int .i64 d ∧ u = .bool (q && (List.range d).all p)) (fun _ i => n - (intOf i).toNat)
        case atStart => exact ⟨0, Nat.zero_le _, rfl, by simp⟩
        case round =>
          obtain ⟨d, hd, rfl, rfl⟩ := hrel
          cases hu : (q && (List.range d).all p) with
          | false =>
            have hall' : Hid (∀ c, c < k + 1 → isMT n Le a x c = false) := fun c hc => by
              rcases Nat.lt_or_ge c k with h1 | h1
              · exact hall.out c h1
              · rw [show c = k by omega, hj.out]; exact pre_cut hd hu
            clear hall hu
            by_cases hlt2 : d < n
            · go_wp2_with fail
              go_round
              case rel => exact ⟨k + 1, by omega, by go_num, hall'⟩
              case measure => simp [intOf]; omega
            · go_wp2_with fail
              go_round
              case rel => exact ⟨k + 1, by omega, by go_num, hall'⟩
              case measure => simp [intOf]; omega
          | true =>
            by_cases hlt2 : d < n
            · have d1 := HH.out.le (x := d) (y := a) (by omega) (by omega)
              have d2 := HH.out.le (x := d) (y := x) (by omega) (by omega)
              have d3 := HH.out.le (x := d) (y := k) (by omega) (by omega)
              have j1 : (0 : Int) ≤ d := by omega
              have j2 : (d : Int) < 10 := by omega
              have hsu : Hid ((q && (List.range (d + 1)).all p) = ((!Le (d * 10 + a) || !Le (d * 10 + x)) || Le (d * 10 + k))) := by
                show _ = _
                rw [all_range_succ, ← Bool.and_assoc, hu, Bool.true_and, HP.out]
              generalize Le (d * 10 + a) = l1 at d1 hsu
              generalize Le (d * 10 + x) = l2 at d2 hsu
              generalize Le (d * 10 + k) = l3 at d3 hsu
              clear hu
              cases l1 with
              | false =>
                go_wp2_with fail
                go_round
                case rel => exact ⟨d + 1, by omega, by go_num, by rw [hsu.out]; rfl⟩
                case measure => simp [intOf]; omega
              | true =>
                cases l2 with
                | false =>
                  go_wp2_with fail
                  go_round
                  case rel => exact ⟨d + 1, by omega, by go_num, by rw [hsu.out]; rfl⟩
                  case measure => simp [intOf]; omega
                | true =>
                  go_wp2_with fail
                  go_round
                  case rel => exact ⟨d + 1, by omega, by go_num, by rw [hsu.out]; simp⟩
                  case measure => simp [intOf]; omega
            · obtain rfl : d = n := by omega
              have hfin : Hid (meetZ d Le a x = k) := by
                show _ = _
                unfold meetZ
                rw [find_first hlt hall.out (by rw [hj.out]; exact hu)]
                rfl
              clear hall hu
              go_wp2_with fail
              go_ret
              rw [hfin.out]
              exact ⟨rfl, rfl⟩
      | false =>
        rw [h1k] at c1
        have hst' : Hid (false = q) := by have := hst.out; rw [h1k] at this; exact this
        obtain rfl := hst'.out
        clear hst h1k hst'
        go_wp2_with fail
        go_loop [8, 9] (fun u i => ∃ d : Nat, d ≤ n ∧ i = .int .i64 d ∧ u = .bool (false && (List.range d).all p)) (fun _ i => n - (intOf i).toNat)
        case atStart => exact ⟨0, Nat.zero_le _, rfl, by simp⟩
        case round =>
          obtain ⟨d, hd, rfl, rfl⟩ := hrel
          cases hu : (false && (List.range d).all p) with
          | false =>
            have hall' : Hid (∀ c, c < k + 1 → isMT n Le a x c = false) := fun c hc => by
              rcases Nat.lt_or_ge c k with h1 | h1
              · exact hall.out c h1
              · rw [show c = k by omega, hj.out]; exact pre_cut hd hu
            clear hall hu
            by_cases hlt2 : d < n
            · go_wp2_with fail
              go_round
              case rel => exact ⟨k + 1, by omega, by go_num, hall'⟩
              case measure => simp [intOf]; omega
            · go_wp2_with fail
              go_round
              case rel => exact ⟨k + 1, by omega, by go_num, hall'⟩
              case measure => simp [intOf]; omega
          | true =>
            by_cases hlt2 : d < n
            · have d1 := HH.out.le (x := d) (y := a) (by omega) (by omega)
              have d2 := HH.out.le (x := d) (y := x) (by omega) (by omega)
              have d3 := HH.out.le (x := d) (y := k) (by omega) (by omega)
              have j1 : (0 : Int) ≤ d := by omega
              have j2 : (d : Int) < 10 := by omega
              have hsu : Hid ((false && (List.range (d + 1)).all p) = ((!Le (d * 10 + a) || !Le (d * 10 + x)) || Le (d * 10 + k))) := by
                show _ = _
                rw [all_range_succ, ← Bool.and_assoc, hu, Bool.true_and, HP.out]
              generalize Le (d * 10 + a) = l1 at d1 hsu
              generalize Le (d * 10 + x) = l2 at d2 hsu
              generalize Le (d * 10 + k) = l3 at d3 hsu
              clear hu
              cases l1 with
              | false =>
                go_wp2_with fail
                go_round
                case rel => exact ⟨d + 1, by omega, by go_num, by rw [hsu.out]; rfl⟩
                case measure => simp [intOf]; omega
              | true =>
                cases l2 with
                | false =>
                  go_wp2_with fail
                  go_round
                  case rel => exact ⟨d + 1, by omega, by go_num, by rw [hsu.out]; rfl⟩
                  case measure => simp [intOf]; omega
                | true =>
                  go_wp2_with fail
                  go_round
                  case rel => exact ⟨d + 1, by omega, by go_num, by rw [hsu.out]; simp⟩
                  case measure => simp [intOf]; omega
            · obtain rfl : d = n := by omega
              have hfin : Hid (meetZ d Le a x = k) := by
                show _ = _
                unfold meetZ
                rw [find_first hlt hall.out (by rw [hj.out]; exact hu)]
                rfl
              clear hall hu
              go_wp2_with fail
              go_ret
              rw [hfin.out]
              exact ⟨rfl, rfl⟩
    · have hfin : Hid (meetZ n Le a x = -1) := by
        show _ = _
        unfold meetZ
        rw [find_none fun c hc => hall.out c (by omega)]
        rfl
      clear hall
      go_wp2_with fail
      go_ret
      rw [hfin.out]
      exact ⟨rfl, rfl⟩
end
end Go.Proofs.YtaikhdmgcffflaaDoor
