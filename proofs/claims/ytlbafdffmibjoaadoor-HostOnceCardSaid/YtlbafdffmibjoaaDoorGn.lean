/- Hosts of parts: part, plain. -/
import Derived.Test.YtlbafdffmibjoaaDoorGm
namespace Go.Proofs.YtlbafdffmibjoaaDoor
open Go Go.RowKit Pl

def TextP (P : List UInt8 → Prop) (w : World) (e : Ending) (w' : World) : Prop := ∃ t : List UInt8, P t ∧ e = .returned (.string ⟨t.toArray⟩) ∧ Below w.heap.size w w'
def partT : List (List UInt8) := [[97], [98], [115, 104, 111, 112], [120, 45, 49], [48], [119, 57, 119], [101, 120, 97, 109, 112, 108, 101], [97, 98, 99, 100, 101, 102, 103, 104, 105, 106, 107, 108, 109, 110, 111, 112, 113, 114, 115, 116]]
theorem partT_lab : ∀ i : Fin 8, isLab (partT.getD i.val []) = true := by decide +kernel
set_option maxRecDepth 100000 in
set_option maxHeartbeats 1000000 in
theorem part_any (n : Int) (w : World) : Calls Tryd.prog 25 #[.int .i64 n] w (TextP (fun t => isLab t = true) w) := by
  have h0 := Int.emod_nonneg n (show (8 : Int) ≠ 0 by decide)
  have h8 := Int.emod_lt_of_pos n (show (0 : Int) < 8 by decide)
  obtain ⟨k, hk⟩ : ∃ k : Nat, n % 8 = (k : Int) := ⟨(n % 8).toNat, by omega⟩
  have hk8 : k < 8 := by omega
  have CB : Hid (∀ w, Calls Tryd.prog 23 #[.int .i64 n, .int .i64 8] w fun e w' => e = .returned (.int .i64 (k : Int)) ∧ w = w') := Lib.hid fun w => by
    have := bring_any n 8 w (by decide) (by decide)
    rwa [hk] at this
  have HL : Hid (isLab (partT.getD k []) = true) := Lib.hid (partT_lab ⟨k, hk8⟩)
  unfold TextP
  clear h0 h8 hk
  have hcases : k = 0 ∨ k = 1 ∨ k = 2 ∨ k = 3 ∨ k = 4 ∨ k = 5 ∨ k = 6 ∨ k = 7 := by omega
  clear hk8
  rcases hcases with rfl | rfl | rfl | rfl | rfl | rfl | rfl | rfl
  all_goals
    go_enter Tryd.func25, Tryd.ntmps25
    go_wp2_with (go_at_call 23; refine (CB.out _).mono ?_; rintro e w1 ⟨rfl, rfl⟩)
    go_ret
    exact ⟨_, HL.out, rfl, below_new _ _⟩

theorem partsGo_app (r : List UInt8) : ∀ (s cur : List UInt8), partsGo cur (s ++ 46 :: r) = partsGo cur s ++ parts r := by
  intro s
  induction s with
  | nil => intro cur; simp [partsGo, parts]
  | cons c s ih =>
    intro cur
    rw [List.cons_append, partsGo, partsGo]
    split
    · rw [ih]; rfl
    · rw [ih]
theorem parts_app (s r : List UInt8) : parts (s ++ 46 :: r) = parts s ++ parts r := partsGo_app r s []
theorem lab_no46 {p : List UInt8} (h : isLab p = true) : 46 ∉ p := fun hm => by
  have := (List.all_eq_true.1 (isLab_all h)) 46 hm
  revert this; decide
theorem isPl_lab {p : List UInt8} (h : isLab p = true) : isPl p = true := by
  have hl : p.length ≤ 20 := by unfold isLab at h; simp only [Bool.and_eq_true, decide_eq_true_iff] at h; exact h.1.1.1.2
  rw [isPl_parts (by omega), parts_no (lab_no46 h), List.all_cons, h]; rfl
theorem isPl_app {s p : List UInt8} (hs : isPl s = true) (hp : isPl p = true) (hl : s.length + 1 + p.length ≤ 60) : isPl (s ++ 46 :: p) = true := by
  have h1 := isPl_parts (isPl_len hs)
  have h2 := isPl_parts (isPl_len hp)
  rw [isPl_parts (by simp; omega), parts_app, List.all_append, ← h1, ← h2, hs, hp]; rfl
theorem lab_len {p : List UInt8} (h : isLab p = true) : p.length ≤ 20 ∧ 1 ≤ p.length := by
  have h0 := h
  unfold isLab at h
  simp only [Bool.and_eq_true, decide_eq_true_iff] at h
  refine ⟨h.1.1.1.2, ?_⟩
  cases p with
  | nil => simp at h
  | cons _ _ => simp

theorem dot_text (t p : List UInt8) : (⟨t.toArray⟩ : ByteArray) ++ ⟨#[46]⟩ ++ ⟨p.toArray⟩ = ⟨(t ++ 46 :: p).toArray⟩ := by
  show (⟨t.toArray⟩ : ByteArray) ++ ⟨[46].toArray⟩ ++ ⟨p.toArray⟩ = _
  rw [str_app, str_app]; simp
/-- whole numbers that a slice holds -/
def IntsIn (w : World) (A : Option Addr) (n : Nat) : Prop := ∀ i, i < n → ∃ b off z, A = some ⟨b, off, none⟩ ∧ b < w.heap.size ∧ w.cell? ⟨b, off + i, none⟩ = some (.int .i64 z)
theorem IntsIn.below {w w' : World} {A : Option Addr} {n : Nat} (h : IntsIn w A n) (hb : Below w.heap.size w w') : IntsIn w' A n := fun i hi => by
  obtain ⟨b, off, z, e, hl, hc⟩ := h i hi
  exact ⟨b, off, z, e, Nat.lt_of_lt_of_le hl hb.size, (hb.cell (p := ⟨b, off + i, none⟩) hl).trans hc⟩
set_option maxRecDepth 100000 in
set_option maxHeartbeats 1000000 in
theorem plain_any (A : Option Addr) (n c : Nat) (w : World) (hi : IntsIn w A n) (hn : n ≤ maxLen) : Calls Tryd.prog 22 #[.slice A n c] w (TextP (fun t => isPl t = true ∧ t.length ≤ 58) w) := by
  unfold maxLen at hn
  unfold TextP
  by_cases h0 : n = 0
  · subst h0
    clear hi hn
    go_enter Tryd.func22, Tryd.ntmps22
    go_wp2
    go_loop [3, 4] (fun s i => s = .string ⟨#[97]⟩ ∧ i = .int .i64 1) (fun _ _ => 0)
    case atStart => exact ⟨rfl, rfl⟩
    case round =>
      obtain ⟨rfl, rfl⟩ := hrel
      go_wp2_with fail
      go_ret
      exact ⟨[97], by decide, rfl, Below.refl _ _⟩
  · obtain ⟨b, off, z0, rfl, hlt, hc0⟩ := hi 0 (by omega)
    have HC : Hid (∀ i, i < n → ∀ wx, Below w.heap.size w wx → ∃ z, wx.cell? ⟨b, off + i, none⟩ = some (.int .i64 z)) := Lib.hid fun i hin wx hb => by
      obtain ⟨b', off', z, e, hl, hc⟩ := hi i hin
      cases e
      exact ⟨z, (hb.cell (p := ⟨b, off + i, none⟩) hl).trans hc⟩
    have h1 : 0 < (n : Int) := by omega
    have h2 : 0 < n := by omega
    rw [Nat.add_zero] at hc0
    clear hi h0
    go_enter Tryd.func22, Tryd.ntmps22
    go_wp2_with (go_at_call 25; refine (part_any _ _).mono ?_; rintro e w1 ⟨t, ht, rfl, hb1⟩)
    have hp := isPl_lab ht
    have hl20 := (lab_len ht).1
    clear ht hc0
    go_loopw [3, 4] (fun s i wr => ∃ (t : List UInt8) (k : Nat), 1 ≤ k ∧ k ≤ 5 ∧ i = .int .i64 k ∧ s = .string ⟨t.toArray⟩ ∧ Hid (isPl t = true) ∧ t.length ≤ 58 ∧ Below w.heap.size w wr) (fun _ i _ => 5 - (intOf i).toNat)
    case atStart => exact ⟨t, 1, Nat.le_refl _, by omega, rfl, rfl, hp, by omega, hb1⟩
    case round =>
      clear hp hl20 hb1
      obtain ⟨t, k, hk1, hk5, rfl, rfl, hp, hl, hb⟩ := hrel
      by_cases hlt5 : (k : Int) < 5
      · by_cases hkn : k < n
        · obtain ⟨z, hz⟩ := HC.out k hkn wr hb
          have q1 : (0 : Int) ≤ ↑k := by omega
          have q2 : (↑k : Int) < ↑n := by omega
          go_wp2_with (go_at_call 25; refine (part_any _ _).mono ?_; rintro e w2 ⟨p, ht, rfl, hb2⟩; have HP := Lib.hid ht; have hl20 := (lab_len ht).1; clear ht)
          all_goals
            go_roundw
            case rel => first
              | (have hlen : (t.length : Int) + (p.length : Int) < 58 := by assumption
                 exact ⟨t ++ 46 :: p, k + 1, by omega, by omega, by go_num, congrArg Value.string (dot_text t p), Lib.hid (isPl_app hp.out (isPl_lab HP.out) (by omega)), by rw [List.length_append, List.length_cons]; omega, hb.trans (hb2.mono hb.size)⟩)
              | exact ⟨t, k + 1, by omega, by omega, by go_num, rfl, hp, hl, hb.trans (hb2.mono hb.size)⟩
            case measure => simp [intOf]; omega
        · have q3 : ¬ (k : Int) < (n : Int) := by omega
          have q4 : decide (k < n) = false := decide_eq_false hkn
          go_wp2_with fail
          go_ret
          exact ⟨t, ⟨hp.out, hl⟩, rfl, hb⟩
      · by_cases hkn : k < n
        · have q4 : decide (k < n) = true := decide_eq_true hkn
          go_wp2_with fail
          go_ret
          exact ⟨t, ⟨hp.out, hl⟩, rfl, hb⟩
        · have q4 : decide (k < n) = false := decide_eq_false hkn
          go_wp2_with fail
          go_ret
          exact ⟨t, ⟨hp.out, hl⟩, rfl, hb⟩
end Go.Proofs.YtlbafdffmibjoaaDoor
