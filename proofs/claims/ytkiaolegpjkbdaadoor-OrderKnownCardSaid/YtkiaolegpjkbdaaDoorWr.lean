/- The law OrderPartial. -/
import Derived.Test.YtkiaolegpjkbdaaDoorWq
namespace Go.Proofs.YtkiaolegpjkbdaaDoor
open Go Go.RowKit Go.Shelf

theorem OSt.back {w w1 W : World} {b n : Nat} {A : Nat → Nat} (h : OSt w1 b n A W) (hb : Below w.heap.size w w1) : OSt w b n A W :=
  ⟨h.tab, h.ord, hb.trans (h.bel.mono hb.size), Nat.le_trans hb.size h.ge⟩
theorem am {w W : World} {b n : Nat} {A : Nat → Nat} (g : Good n A) (S : OSt w b n A W) {x y : Nat} (hx : x < n) (hy : y < n) :
    Calls Tryd.prog 19 #[.pointer (some ⟨b, 0, none⟩), .int .i64 x, .int .i64 y] W fun e W' => e = .returned (.bool (le A x y)) ∧ OSt w b n A W' :=
  (atMost_yes b n A g x y W S.tab S.ord hx hy).mono fun _ _ ⟨he, hb⟩ => ⟨he, S.below hb⟩
theorem am_is {w W : World} {b n : Nat} {A : Nat → Nat} (g : Good n A) (S : OSt w b n A W) {x y : Nat} (hx : x < n) (hy : y < n) {r : Bool} (h : le A x y = r) :
    Calls Tryd.prog 19 #[.pointer (some ⟨b, 0, none⟩), .int .i64 x, .int .i64 y] W fun e W' => e = .returned (.bool r) ∧ OSt w b n A W' := by
  rw [← h]; exact am g S hx hy

set_option maxHeartbeats 2000000 in
theorem orderPartial_any (many : Int) (A1 : Option Addr) (c1 : Nat) (l : List (Int × Int)) (w : World) (hT : Tab w) (hl : Rd w A1 (pvI l)) :
    Calls Tryd.prog 4 #[.int .i64 many, .slice A1 l.length c1] w fun e w' => e = .returned (.bool true) ∧ Below w.heap.size w w' := by
  have h1 := manyOf_pos many
  have h2 := manyOf_le many
  go_enter Tryd.func4, Tryd.ntmps4
  go_wp2_with fail
  refine (works_any w hT).mono ?_
  rintro e w1 ⟨rfl, hb1⟩
  have hT1 := hT.below hb1 hT.lt
  have hl1 := hl.below hb1
  go_wp2_with fail
  refine (made_any many A1 c1 l w1 hT1 hl1).mono ?_
  rintro e w2 ⟨b, v, T, rfl, S0, hTook, hT40, _, _⟩
  have S := S0.back hb1
  clear S0 hT1 hl1 hb1 hT hl
  generalize manyOf many = n at *
  have g := hTook.good h1 h2
  have t := hTook.anti h1 h2
  generalize ofL T = A at *
  clear hTook hT40
  go_wp2_with fail
  refine (many_any b n A w2 S.ord).mono ?_
  rintro e w' ⟨rfl, rfl⟩
  go_wp2_with fail
  go_loopw [8] (fun i wr => ∃ x : Nat, x ≤ n ∧ i = .int .i64 x ∧ OSt w b n A wr) (fun i _ => n - (intOf i).toNat)
  case atStart => exact ⟨0, Nat.zero_le _, rfl, S⟩
  case round =>
    obtain ⟨x, hx, rfl, S1⟩ := hrel
    clear S
    obtain ⟨wo, rfl⟩ : ∃ wo : World, wo = wr := ⟨_, rfl⟩
    by_cases hxn : x < n
    · go_wp2_with fail
      refine (am_is g S1 hxn hxn (le_refl g hxn)).mono ?_
      rintro e w3 ⟨rfl, S2⟩
      clear S1
      go_wp2_with fail
      go_loopw [9] (fun i wr => ∃ y : Nat, y ≤ n ∧ i = .int .i64 y ∧ OSt w b n A wr) (fun i _ => n - (intOf i).toNat)
      case atStart => exact ⟨0, Nat.zero_le _, rfl, S2⟩
      case round =>
        obtain ⟨y, hy, rfl, S3⟩ := hrel
        clear S2
        obtain ⟨wp, rfl⟩ : ∃ wp : World, wp = wr := ⟨_, rfl⟩
        by_cases hyn : y < n
        · go_upto_region 15 with fail
          go_cut [52] from 38 to 52 (fun u wx => u = .bool false ∧ OSt w b n A wx)
          case first =>
            by_cases exy : x = y
            · have hne : ((x : Int) != y) = false := by simp [exy]
              clear exy
              go_wp2_with fail
              go_meet
              case rel => exact ⟨rfl, S3⟩
            · have hne : ((x : Int) != y) = true := by simp; omega
              have HXY := Lib.hid exy
              clear exy
              go_wp2_with fail
              cases hle : le A x y with
              | true =>
                refine (am_is g S3 hxn hyn hle).mono ?_
                rintro e w4 ⟨rfl, S4⟩
                have hle2 : le A y x = false := by
                  cases h : le A y x with
                  | false => rfl
                  | true => exact absurd (le_anti g t hxn hyn hle h) HXY.out
                clear S3 hle
                go_wp2_with fail
                refine (am_is g S4 hyn hxn hle2).mono ?_
                rintro e w5 ⟨rfl, S5⟩
                clear S4 hle2
                go_wp2_with fail
                go_meet
                case rel => exact ⟨rfl, S5⟩
              | false =>
                refine (am_is g S3 hxn hyn hle).mono ?_
                rintro e w4 ⟨rfl, S4⟩
                clear S3 hle
                go_wp2_with fail
                go_meet
                case rel => exact ⟨rfl, S4⟩
          case rest =>
            obtain ⟨rfl, S4⟩ := hcut
            clear S3
            go_wp2_with fail
            go_loopw [10] (fun i wr => ∃ z : Nat, z ≤ n ∧ i = .int .i64 z ∧ OSt w b n A wr) (fun i _ => n - (intOf i).toNat)
            case atStart => exact ⟨0, Nat.zero_le _, rfl, S4⟩
            case round =>
              obtain ⟨z, hz, rfl, S5⟩ := hrel
              clear S4
              obtain ⟨wq, rfl⟩ : ∃ wq : World, wq = wr := ⟨_, rfl⟩
              by_cases hzn : z < n
              · go_wp2_with fail
                cases hle : le A x y with
                | true =>
                  refine (am_is g S5 hxn hyn hle).mono ?_
                  rintro e w4 ⟨rfl, S6⟩
                  clear S5
                  go_wp2_with fail
                  cases hle2 : le A y z with
                  | true =>
                    refine (am_is g S6 hyn hzn hle2).mono ?_
                    rintro e w5 ⟨rfl, S7⟩
                    have hle3 := le_trans g hyn hzn hle hle2
                    clear S6 hle hle2
                    go_wp2_with fail
                    refine (am_is g S7 hxn hzn hle3).mono ?_
                    rintro e w6 ⟨rfl, S8⟩
                    clear S7 hle3
                    go_wp2_with fail
                    go_roundw
                    case rel => exact ⟨z + 1, by omega, by go_num, S8⟩
                    case measure => simp [intOf]; omega
                  | false =>
                    refine (am_is g S6 hyn hzn hle2).mono ?_
                    rintro e w5 ⟨rfl, S7⟩
                    clear S6 hle hle2
                    go_wp2_with fail
                    go_roundw
                    case rel => exact ⟨z + 1, by omega, by go_num, S7⟩
                    case measure => simp [intOf]; omega
                | false =>
                  refine (am_is g S5 hxn hyn hle).mono ?_
                  rintro e w4 ⟨rfl, S6⟩
                  clear S5 hle
                  go_wp2_with fail
                  go_roundw
                  case rel => exact ⟨z + 1, by omega, by go_num, S6⟩
                  case measure => simp [intOf]; omega
              · go_wp2_with fail
                go_roundw
                case rel => exact ⟨y + 1, by omega, by go_num, S5⟩
                case measure => simp [intOf]; omega
        · go_wp2_with fail
          go_roundw
          case rel => exact ⟨x + 1, by omega, by go_num, S3⟩
          case measure => simp [intOf]; omega
    · go_wp2_with fail
      go_ret
      exact ⟨rfl, S1.bel⟩
end Go.Proofs.YtkiaolegpjkbdaaDoor
