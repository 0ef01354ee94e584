/- The law OrderWays. -/
import Derived.Test.YtkiaolegpjkbdaaDoorWr
namespace Go.Proofs.YtkiaolegpjkbdaaDoor
open Go Go.RowKit Go.Shelf

theorem filt_split {n y : Nat} (p : Nat → Bool) (hy : y < n) : ∃ r, (List.range n).filter p = (List.range y).filter p ++ ((if p y then [y] else []) ++ r) := by
  refine ⟨((List.range (n - y - 1)).map (y + 1 + ·)).filter p, ?_⟩
  have e : List.range n = List.range y ++ ([y] ++ (List.range (n - y - 1)).map (y + 1 + ·)) := by
    have : n = y + (1 + (n - y - 1)) := by omega
    conv => lhs; rw [this, List.range_add, Nat.add_comm 1, List.range_succ_eq_map]
    simp only [List.map_cons, Nat.add_zero, List.map_map, List.cons_append, List.nil_append]
    congr 2
    apply List.map_congr_left
    intro a _
    simp only [Function.comp]
    omega
  rw [e, List.filter_append, List.filter_append]
  cases h : p y <;> simp [h]
theorem filt_yes {n y : Nat} {p : Nat → Bool} (hy : y < n) (h : p y = true) : ((List.range y).filter p).length < ((List.range n).filter p).length ∧ ∀ hk : ((List.range y).filter p).length < ((List.range n).filter p).length, ((List.range n).filter p)[((List.range y).filter p).length] = y := by
  obtain ⟨r, e⟩ := filt_split p hy
  rw [h, if_pos rfl] at e
  constructor
  · rw [e]; simp
  · intro hk
    have : ((List.range n).filter p)[((List.range y).filter p).length]? = some y := by rw [e]; simp
    rw [List.getElem?_eq_getElem hk] at this
    injection this
theorem filt_no {n y k : Nat} {p : Nat → Bool} (h : p y = false) (hk : k < ((List.range n).filter p).length) : ((List.range n).filter p)[k] ≠ y := by
  intro e
  have := List.getElem_mem hk
  rw [List.mem_filter, e, h] at this
  cases this.2
theorem filt_len {n y : Nat} {p : Nat → Bool} (hy : y ≤ n) : ((List.range y).filter p).length ≤ ((List.range n).filter p).length := by
  have e : List.range n = List.range y ++ (List.range (n - y)).map (y + ·) := by rw [← List.range_add]; congr 1; omega
  rw [e, List.filter_append, List.length_append]
  omega

/-- How many of the first y. -/
def cnt (p : Nat → Bool) (y : Nat) : Nat := ((List.range y).filter p).length
theorem cnt_succ (p : Nat → Bool) (y : Nat) : cnt p (y + 1) = cnt p y + if p y then 1 else 0 := filter_len_succ
theorem cnt_le (p : Nat → Bool) (y : Nat) : cnt p y ≤ y := filter_len_le y
/-- Does the row go on with y? -/
theorem goes_on {w : World} {A : Option Addr} {n y : Nat} {p : Nat → Bool} {U : List Nat} (hU : U = (List.range n).filter p) (h : Rd w A (nv U)) (hy : y < n) :
    (p y = true ∧ ∃ b off, A = some ⟨b, off, none⟩ ∧ cnt p y < U.length ∧ w.cell? ⟨b, off + cnt p y, none⟩ = some (.int .i64 (y : Nat))) ∨
    (p y = false ∧ ¬ cnt p y < U.length) ∨
    (p y = false ∧ ∃ b off c, A = some ⟨b, off, none⟩ ∧ cnt p y < U.length ∧ w.cell? ⟨b, off + cnt p y, none⟩ = some (.int .i64 (c : Nat)) ∧ c ≠ y) := by
  subst hU
  unfold cnt
  cases hp : p y with
  | true =>
    obtain ⟨h1, h2⟩ := filt_yes hy hp
    obtain ⟨b, off, e, _, hc⟩ := h.nat _ h1
    exact .inl ⟨rfl, b, off, e, h1, by rw [hc, h2 h1]⟩
  | false =>
    rcases Nat.lt_or_ge ((List.range y).filter p).length ((List.range n).filter p).length with h1 | h1
    · obtain ⟨b, off, e, _, hc⟩ := h.nat _ h1
      exact .inr (.inr ⟨rfl, b, off, _, e, h1, hc, filt_no hp h1⟩)
    · exact .inr (.inl ⟨rfl, by omega⟩)

set_option maxHeartbeats 4000000 in
set_option maxRecDepth 100000 in
theorem orderWays_any (many : Int) (A1 : Option Addr) (c1 : Nat) (l : List (Int × Int)) (w : World) (hT : Tab w) (hl : Rd w A1 (pvI l)) :
    Calls Tryd.prog 8 #[.int .i64 many, .slice A1 l.length c1] w fun e w' => e = .returned (.bool true) ∧ Below w.heap.size w w' := by
  have h1 := manyOf_pos many
  have h2 := manyOf_le many
  go_enter Tryd.func8, Tryd.ntmps8
  go_wp2_with fail
  refine (made_any many A1 c1 l w hT hl).mono ?_
  rintro e w2 ⟨b, v, T, rfl, S, hTook, hT40, _, _⟩
  clear hT hl
  generalize manyOf many = n at *
  have g := hTook.good h1 h2
  generalize ofL T = A at *
  clear hTook hT40
  go_wp2_with fail
  refine (many_any b n A w2 S.ord).mono ?_
  rintro e w' ⟨rfl, rfl⟩
  go_wp2_with fail
  go_loopw [8] (fun i wr => ∃ x : Nat, x ≤ n ∧ i = .int .i64 x ∧ OSt w b n A wr) (fun i _ => n - (intOf i).toNat)
  case atStart => exact ⟨0, Nat.zero_le _, rfl, S⟩
  case round =>
    obtain ⟨x, hx, rfl, S1⟩ := hrel
    clear S
    obtain ⟨wo, rfl⟩ : ∃ wo : World, wo = wr := ⟨_, rfl⟩
    by_cases hxn : x < n
    · go_wp2_with fail
      refine (up_yes b n A g x hxn wo S1.tab S1.ord).mono ?_
      rintro e w3 ⟨v9, rfl, ⟨A9, c9, rfl, hr9⟩, hb3⟩
      have S3 := S1.below hb3
      clear S1 hb3
      go_wp2_with fail
      refine (down_yes b n A g x hxn w3 S3.tab S3.ord).mono ?_
      rintro e w4 ⟨v10, rfl, ⟨A10, c10, rfl, hr10⟩, hb4⟩
      have S4 := S3.below hb4
      have hr9' := hr9.below hb4
      clear S3 hb4 hr9
      have HR9 := Lib.hid hr9'
      have HR10 := Lib.hid hr10
      clear hr9' hr10
      have hl9 : (upL n A x).length ≤ n := filter_len_le n
      have hl10 : (dnL n A x).length ≤ n := filter_len_le n
      have HU : Hid ((upL n A x).length = cnt (fun c => le A x c) n) := rfl
      have HV : Hid ((dnL n A x).length = cnt (fun c => le A c x) n) := rfl
      go_wp2_with fail
      go_loopw [11, 12, 13] (fun k j i wr => ∃ y : Nat, y ≤ n ∧ i = .int .i64 y ∧ k = .int .i64 (cnt (fun c => le A x c) y : Nat) ∧ j = .int .i64 (cnt (fun c => le A c x) y : Nat) ∧ Below w4.heap.size w4 wr) (fun _ _ i _ => n - (intOf i).toNat)
      case atStart => exact ⟨0, Nat.zero_le _, rfl, rfl, rfl, Below.refl _ _⟩
      case round =>
        obtain ⟨y, hy, rfl, rfl, rfl, hB⟩ := hrel
        obtain ⟨wp, rfl⟩ : ∃ wp : World, wp = wr := ⟨_, rfl⟩
        have So := S4.below hB
        have hc1 := cnt_le (fun c => le A x c) y
        have hc2 := cnt_le (fun c => le A c x) y
        have HS1 := Lib.hid (cnt_succ (fun c => le A x c) y)
        have HS2 := Lib.hid (cnt_succ (fun c => le A c x) y)
        by_cases hyn : y < n
        · go_upto_region 13 with fail
          go_cut [51] from 40 to 51 (fun u wx => u = .bool (le A x y) ∧ wx = wp)
          case first =>
            rcases goes_on (p := fun c => le A x c) (U := upL n A x) rfl (HR9.out.below hB) hyn with ⟨hp, bb, off, hAe, hlt, hc⟩ | ⟨hp, hlt⟩ | ⟨hp, bb, off, c, hAe, hlt, hc, hne⟩
            · subst hAe
              have i1 : (0 : Int) ≤ cnt (fun c => le A x c) y := by omega
              have i2 : ((cnt (fun c => le A x c) y : Nat) : Int) < (upL n A x).length := by omega
              have HP := Lib.hid hp
              clear hp
              go_wp2_with fail
              go_meet
              case rel => exact ⟨by rw [show _ = true from HP.out], rfl⟩
            · have HP := Lib.hid hp
              have hd : decide (cnt (fun c => le A x c) y < (upL n A x).length) = false := decide_eq_false hlt
              clear hp hlt
              go_wp2_with fail
              go_meet
              case rel => exact ⟨by rw [show _ = false from HP.out], rfl⟩
            · subst hAe
              have i1 : (0 : Int) ≤ cnt (fun c => le A x c) y := by omega
              have i2 : ((cnt (fun c => le A x c) y : Nat) : Int) < (upL n A x).length := by omega
              have hn2 : ((c : Int) == y) = false := by rw [beq_eq_false_iff_ne]; omega
              have HP := Lib.hid hp
              clear hp hne
              go_wp2_with fail
              go_meet
              case rel => exact ⟨by rw [show _ = false from HP.out], rfl⟩
          case rest =>
            obtain ⟨rfl, rfl⟩ := hcut
            go_upto_if 51 with fail
            go_cut [11] from 51 to 62 (fun u wx => u = .int .i64 (cnt (fun c => le A x c) (y + 1) : Nat) ∧ Below w4.heap.size w4 wx)
            case first =>
              cases hle : le A x y with
              | true =>
                have HC : Hid ((cnt (fun c => le A x c) y : Int) + 1 = (cnt (fun c => le A x c) (y + 1) : Nat)) := by show _ = _; rw [HS1.out, hle]; simp
                go_wp2_with fail
                refine (atMost_yes b n A g x y _ So.tab So.ord hxn hyn).mono ?_
                rw [hle]
                rintro e w5 ⟨rfl, hb5⟩
                clear hle
                go_wp2_with fail
                go_meet
                case rel => exact ⟨by rw [← HC.out], hB.trans (hb5.mono hB.size)⟩
              | false =>
                have HC : Hid (cnt (fun c => le A x c) (y + 1) = cnt (fun c => le A x c) y) := by show _ = _; rw [HS1.out, hle]; simp
                go_wp2_with fail
                refine (atMost_yes b n A g x y _ So.tab So.ord hxn hyn).mono ?_
                rw [hle]
                rintro e w5 ⟨rfl, hb5⟩
                clear hle
                go_wp2_with fail
                go_meet
                case rel => exact ⟨by rw [HC.out], hB.trans (hb5.mono hB.size)⟩
            case rest =>
              obtain ⟨rfl, hB6⟩ := hcut
              clear So hB
              obtain ⟨w6, rfl⟩ : ∃ w6 : World, w6 = wc := ⟨_, rfl⟩
              have So := S4.below hB6
              go_upto_region 19 with fail
              go_cut [74] from 63 to 74 (fun u wx => u = .bool (le A y x) ∧ wx = w6)
              case first =>
                rcases goes_on (p := fun c => le A c x) (U := dnL n A x) rfl (HR10.out.below hB6) hyn with ⟨hp, bb, off, hAe, hlt, hc⟩ | ⟨hp, hlt⟩ | ⟨hp, bb, off, c, hAe, hlt, hc, hne⟩
                · subst hAe
                  have i1 : (0 : Int) ≤ cnt (fun c => le A c x) y := by omega
                  have i2 : ((cnt (fun c => le A c x) y : Nat) : Int) < (dnL n A x).length := by omega
                  have HP := Lib.hid hp
                  clear hp
                  go_wp2_with fail
                  go_meet
                  case rel => exact ⟨by rw [show _ = true from HP.out], rfl⟩
                · have HP := Lib.hid hp
                  have hd : decide (cnt (fun c => le A c x) y < (dnL n A x).length) = false := decide_eq_false hlt
                  clear hp hlt
                  go_wp2_with fail
                  go_meet
                  case rel => exact ⟨by rw [show _ = false from HP.out], rfl⟩
                · subst hAe
                  have i1 : (0 : Int) ≤ cnt (fun c => le A c x) y := by omega
                  have i2 : ((cnt (fun c => le A c x) y : Nat) : Int) < (dnL n A x).length := by omega
                  have hn2 : ((c : Int) == y) = false := by rw [beq_eq_false_iff_ne]; omega
                  have HP := Lib.hid hp
                  clear hp hne
                  go_wp2_with fail
                  go_meet
                  case rel => exact ⟨by rw [show _ = false from HP.out], rfl⟩
              case rest =>
                obtain ⟨rfl, rfl⟩ := hcut
                cases hle : le A y x with
                | true =>
                  have HC : Hid ((cnt (fun c => le A c x) y : Int) + 1 = (cnt (fun c => le A c x) (y + 1) : Nat)) := by show _ = _; rw [HS2.out, hle]; simp
                  go_wp2_with fail
                  refine (atMost_yes b n A g y x _ So.tab So.ord hyn hxn).mono ?_
                  rw [hle]
                  rintro e w5 ⟨rfl, hb5⟩
                  clear hle
                  go_wp2_with fail
                  go_roundw
                  case rel => exact ⟨y + 1, by omega, by go_num, rfl, by rw [← HC.out], hB6.trans (hb5.mono hB6.size)⟩
                  case measure => simp [intOf]; omega
                | false =>
                  have HC : Hid (cnt (fun c => le A c x) (y + 1) = cnt (fun c => le A c x) y) := by show _ = _; rw [HS2.out, hle]; simp
                  go_wp2_with fail
                  refine (atMost_yes b n A g y x _ So.tab So.ord hyn hxn).mono ?_
                  rw [hle]
                  rintro e w5 ⟨rfl, hb5⟩
                  clear hle
                  go_wp2_with fail
                  go_roundw
                  case rel => exact ⟨y + 1, by omega, by go_num, rfl, by rw [HC.out], hB6.trans (hb5.mono hB6.size)⟩
                  case measure => simp [intOf]; omega
        · obtain rfl : y = n := by omega
          have e1 : (((cnt (fun c => le A x c) y : Nat) : Int) != (upL y A x).length) = false := by rw [HU.out]; simp
          have e2 : (((cnt (fun c => le A c x) y : Nat) : Int) != (dnL y A x).length) = false := by rw [HV.out]; simp
          go_wp2_with fail
          go_roundw
          case rel => exact ⟨x + 1, by omega, by go_num, So⟩
          case measure => simp [intOf]; omega
    · go_wp2_with fail
      refine (works_any wo S1.tab).mono ?_
      rintro e w6 ⟨rfl, hb6⟩
      have S6 := S1.below hb6
      go_wp2_with fail
      go_ret
      exact ⟨rfl, S6.bel⟩
end Go.Proofs.YtkiaolegpjkbdaaDoor
