/- Differences as plain lists; the program's alike, alikeAtEnd. -/
import Derived.Test.YtajkbkllgbalkaaUn
namespace Go.Proofs.Ytajkbkllgbalkaa
open Go Go.RowKit

/-- how many texts are equal at the beginning -/
def alk : List Bs → List Bs → Nat
  | x :: xs, y :: ys => if x = y then alk xs ys + 1 else 0
  | _, _ => 0
theorem alk_le (a b : List Bs) : alk a b ≤ a.length ∧ alk a b ≤ b.length := by
  induction a generalizing b with
  | nil => cases b <;> simp [alk]
  | cons x xs ih =>
    cases b with
    | nil => simp [alk]
    | cons y ys =>
      rw [alk]
      split
      · have := ih ys; simp; omega
      · simp
theorem alk_same {a b : List Bs} {k : Nat} (h1 : k < a.length) (h2 : k < b.length) (he : a[k] = b[k]) : alk (a.drop k) (b.drop k) = alk (a.drop (k + 1)) (b.drop (k + 1)) + 1 := by
  rw [List.drop_eq_getElem_cons h1, List.drop_eq_getElem_cons h2, alk, if_pos he]
theorem alk_not {a b : List Bs} {k : Nat} (h1 : k < a.length) (h2 : k < b.length) (he : a[k] ≠ b[k]) : alk (a.drop k) (b.drop k) = 0 := by
  rw [List.drop_eq_getElem_cons h1, List.drop_eq_getElem_cons h2, alk, if_neg he]
theorem alk_end {a b : List Bs} {k : Nat} (h : a.length ≤ k ∨ b.length ≤ k) : alk (a.drop k) (b.drop k) = 0 := by
  rcases h with h | h
  · rw [List.drop_eq_nil_of_le h]; cases b.drop k <;> rfl
  · rw [List.drop_eq_nil_of_le h]; cases a.drop k <;> rfl
set_option maxRecDepth 100000 in
theorem alike_any {D D' : Nat} {w : World} {A B : Option Addr} {c d n m : Nat} {xs ys : List Bs} (hx : Ts D w A c xs) (hy : Ts D' w B d ys) (hn : n = xs.length) (hm : m = ys.length) (h1 : n ≤ 1000000) (_ : m ≤ 1000000) :
    Calls Try.prog 61 #[.slice A n c, .slice B m d] w fun e w' => e = .returned (.int .i64 (alk xs ys : Nat)) ∧ ∃ q, w' = w.drewN q := by
  have HX := Lib.hid hx
  have HY := Lib.hid hy
  have HN := Lib.hid hn
  have HM := Lib.hid hm
  have hc1 := hx.cap
  have hc2 := hy.cap
  rw [← hn] at hc1
  rw [← hm] at hc2
  clear hx hy hn hm
  obtain ⟨t, ht, ht1, ht2, ht3⟩ : ∃ t : Nat, min (n : Int) m = t ∧ t ≤ n ∧ t ≤ m ∧ (n ≤ t ∨ m ≤ t) := ⟨min n m, by omega, by omega, by omega, by omega⟩
  go_enter Try.func61, Try.ntmps61
  go_wp2_with fail
  go_loopw [5] (fun i wr => ∃ (k q : Nat), k ≤ t ∧ i = .int .i64 k ∧ wr = w.drewN q ∧ Hid (alk xs ys = k + alk (xs.drop k) (ys.drop k))) (fun i _ => t - (intOf i).toNat)
  case atStart => exact ⟨0, 0, Nat.zero_le _, rfl, rfl, Lib.hid (by simp)⟩
  case round =>
    obtain ⟨k, q, hk, rfl, rfl, hall⟩ := hrel
    by_cases hlt : k < t
    · have g1 : k < xs.length := by have := HN.out; omega
      have g2 : k < ys.length := by have := HM.out; omega
      obtain ⟨b1, o1, rfl, _, hcx⟩ := HX.out.rd k g1
      obtain ⟨b2, o2, rfl, _, hcy⟩ := HY.out.rd k g2
      have q0 : (0 : Int) ≤ k := by omega
      have q1 : (k : Int) < n := by omega
      have q2 : (k : Int) < m := by omega
      have q3 : (k : Int) < t := by omega
      have hcx' : (w.drewN q).drew.cell? ⟨b1, o1 + k, none⟩ = some (.string ⟨(xs[k]'g1).toArray⟩) := hcx
      have hcy' : (w.drewN q).drew.cell? ⟨b2, o2 + k, none⟩ = some (.string ⟨(ys[k]'g2).toArray⟩) := hcy
      have HA1 : Hid ((xs[k]'g1) = ys[k]'g2 → alk xs ys = (k + 1) + alk (xs.drop (k + 1)) (ys.drop (k + 1))) := Lib.hid fun h1 => by rw [hall.out, alk_same g1 g2 h1]; omega
      have HA2 : Hid ((xs[k]'g1) ≠ ys[k]'g2 → alk xs ys = k) := Lib.hid fun h1 => by rw [hall.out, alk_not g1 g2 h1]; rfl
      clear hall hcx hcy
      generalize xs[k]'g1 = z1 at *
      generalize ys[k]'g2 = z2 at *
      cases hq : (z1 == z2) with
      | true =>
        have HF := Lib.hid (HA1.out (by simpa using hq))
        clear HA1 HA2
        go_wp2_with fail
        go_region_held3 (fun w' => w'.cell? ⟨b1, o1 + k, none⟩ = some (.string ⟨z1.toArray⟩) ∧ w'.cell? ⟨b2, o2 + k, none⟩ = some (.string ⟨z2.toArray⟩)) (first | exact ⟨hcx', hcy'⟩ | go_keep) (fail)
        go_wp2_with fail
        go_roundw
        case rel => exact ⟨k + 1, q + 1, by omega, by go_num, rfl, HF⟩
        case measure => simp [intOf]; omega
      | false =>
        have HF := Lib.hid (HA2.out (by simpa using hq))
        clear HA1 HA2
        go_wp2_with fail
        go_region_held3 (fun w' => w'.cell? ⟨b1, o1 + k, none⟩ = some (.string ⟨z1.toArray⟩) ∧ w'.cell? ⟨b2, o2 + k, none⟩ = some (.string ⟨z2.toArray⟩)) (first | exact ⟨hcx', hcy'⟩ | go_keep) (fail)
        go_wp2_with fail
        go_ret
        rw [HF.out]
        exact ⟨rfl, q + 1, rfl⟩
    · have HF : Hid (alk xs ys = k) := Lib.hid (by
        rw [hall.out, alk_end (by have := HN.out; have := HM.out; omega)]; rfl)
      have q3 : ¬ (k : Int) < t := by omega
      clear hall
      go_wp2_with fail
      go_region
      go_wp2_with fail
      go_ret
      rw [HF.out]
      exact ⟨rfl, q + 1, rfl⟩
/-- how many texts are equal at the end -/
def alkE (a b : List Bs) : Nat := alk a.reverse b.reverse
theorem rev_at {a : List Bs} {k : Nat} (h : k < a.length) (h' : a.length - 1 - k < a.length := by omega) : a.reverse[k]'(by rw [List.length_reverse]; exact h) = a[a.length - 1 - k] := by rw [List.getElem_reverse]
set_option maxRecDepth 100000 in
theorem alikeEnd_any {D D' : Nat} {w : World} {A B : Option Addr} {c d n m : Nat} {xs ys : List Bs} (hx : Ts D w A c xs) (hy : Ts D' w B d ys) (hn : n = xs.length) (hm : m = ys.length) (h1 : n ≤ 1000000) (h2 : m ≤ 1000000) :
    Calls Try.prog 62 #[.slice A n c, .slice B m d] w fun e w' => e = .returned (.int .i64 (alkE xs ys : Nat)) ∧ ∃ q, w' = w.drewN q := by
  have HX := Lib.hid hx
  have HY := Lib.hid hy
  have HN := Lib.hid hn
  have HM := Lib.hid hm
  have hc1 := hx.cap
  have hc2 := hy.cap
  rw [← hn] at hc1
  rw [← hm] at hc2
  clear hx hy hn hm
  obtain ⟨t, ht, ht1, ht2, ht3⟩ : ∃ t : Nat, min (n : Int) m = t ∧ t ≤ n ∧ t ≤ m ∧ (n ≤ t ∨ m ≤ t) := ⟨min n m, by omega, by omega, by omega, by omega⟩
  go_enter Try.func62, Try.ntmps62
  go_wp2_with fail
  go_loopw [5] (fun i wr => ∃ (k q : Nat), k ≤ t ∧ i = .int .i64 k ∧ wr = w.drewN q ∧ Hid (alkE xs ys = k + alk (xs.reverse.drop k) (ys.reverse.drop k))) (fun i _ => t - (intOf i).toNat)
  case atStart => exact ⟨0, 0, Nat.zero_le _, rfl, rfl, Lib.hid (by simp [alkE])⟩
  case round =>
    obtain ⟨k, q, hk, rfl, rfl, hall⟩ := hrel
    by_cases hlt : k < t
    · have g1 : k < xs.length := by have := HN.out; omega
      have g2 : k < ys.length := by have := HM.out; omega
      obtain ⟨j1, hj1⟩ : ∃ j1 : Nat, j1 = n - 1 - k := ⟨_, rfl⟩
      obtain ⟨j2, hj2⟩ : ∃ j2 : Nat, j2 = m - 1 - k := ⟨_, rfl⟩
      have p1 : j1 < xs.length := by have := HN.out; omega
      have p2 : j2 < ys.length := by have := HM.out; omega
      obtain ⟨b1, o1, rfl, _, hcx⟩ := HX.out.rd j1 p1
      obtain ⟨b2, o2, rfl, _, hcy⟩ := HY.out.rd j2 p2
      obtain ⟨n1, hn1⟩ : ∃ n1 : Nat, n1 = n - 1 := ⟨_, rfl⟩
      obtain ⟨m1, hm1⟩ : ∃ m1 : Nat, m1 = m - 1 := ⟨_, rfl⟩
      have u1 : IntKind.i64.wrap ((n : Int) - 1) = n1 := by rw [IntKind.wrap_i64]; omega
      have u2 : IntKind.i64.wrap ((m : Int) - 1) = m1 := by rw [IntKind.wrap_i64]; omega
      have u3 : IntKind.i64.wrap ((n1 : Int) - k) = j1 := by rw [IntKind.wrap_i64]; omega
      have u4 : IntKind.i64.wrap ((m1 : Int) - k) = j2 := by rw [IntKind.wrap_i64]; omega
      have q1 : (j1 : Int) < n := by omega
      have q2 : (j2 : Int) < m := by omega
      have q3 : (k : Int) < t := by omega
      have hcx' : (w.drewN q).drew.cell? ⟨b1, o1 + j1, none⟩ = some (.string ⟨(xs[j1]'p1).toArray⟩) := hcx
      have hcy' : (w.drewN q).drew.cell? ⟨b2, o2 + j2, none⟩ = some (.string ⟨(ys[j2]'p2).toArray⟩) := hcy
      have e1 : xs.reverse[k]'(by rw [List.length_reverse]; exact g1) = xs[j1]'p1 := by rw [List.getElem_reverse]; congr 1; have := HN.out; omega
      have e2 : ys.reverse[k]'(by rw [List.length_reverse]; exact g2) = ys[j2]'p2 := by rw [List.getElem_reverse]; congr 1; have := HM.out; omega
      have HA1 : Hid ((xs[j1]'p1) = ys[j2]'p2 → alkE xs ys = (k + 1) + alk (xs.reverse.drop (k + 1)) (ys.reverse.drop (k + 1))) := Lib.hid fun h1 => by rw [hall.out, alk_same (by rw [List.length_reverse]; exact g1) (by rw [List.length_reverse]; exact g2) (by rw [e1, e2]; exact h1)]; omega
      have HA2 : Hid ((xs[j1]'p1) ≠ ys[j2]'p2 → alkE xs ys = k) := Lib.hid fun h1 => by rw [hall.out, alk_not (by rw [List.length_reverse]; exact g1) (by rw [List.length_reverse]; exact g2) (by rw [e1, e2]; exact h1)]; rfl
      clear hall hcx hcy e1 e2
      generalize xs[j1]'p1 = z1 at *
      generalize ys[j2]'p2 = z2 at *
      clear hj1 hj2 hn1 hm1
      cases hq : (z1 == z2) with
      | true =>
        have HF := Lib.hid (HA1.out (by simpa using hq))
        clear HA1 HA2
        go_wp2_with fail
        go_region_held3 (fun w' => w'.cell? ⟨b1, o1 + j1, none⟩ = some (.string ⟨z1.toArray⟩) ∧ w'.cell? ⟨b2, o2 + j2, none⟩ = some (.string ⟨z2.toArray⟩)) (first | exact ⟨hcx', hcy'⟩ | go_keep) (fail)
        go_wp2_with fail
        go_roundw
        case rel => exact ⟨k + 1, q + 1, by omega, by go_num, rfl, HF⟩
        case measure => simp [intOf]; omega
      | false =>
        have HF := Lib.hid (HA2.out (by simpa using hq))
        clear HA1 HA2
        go_wp2_with fail
        go_region_held3 (fun w' => w'.cell? ⟨b1, o1 + j1, none⟩ = some (.string ⟨z1.toArray⟩) ∧ w'.cell? ⟨b2, o2 + j2, none⟩ = some (.string ⟨z2.toArray⟩)) (first | exact ⟨hcx', hcy'⟩ | go_keep) (fail)
        go_wp2_with fail
        go_ret
        rw [HF.out]
        exact ⟨rfl, q + 1, rfl⟩
    · have HF : Hid (alkE xs ys = k) := Lib.hid (by
        rw [hall.out, alk_end (by rw [List.length_reverse, List.length_reverse]; have := HN.out; have := HM.out; omega)]; rfl)
      have q3 : ¬ (k : Int) < t := by omega
      clear hall
      go_wp2_with fail
      go_region
      go_wp2_with fail
      go_ret
      rw [HF.out]
      exact ⟨rfl, q + 1, rfl⟩
end Go.Proofs.Ytajkbkllgbalkaa
