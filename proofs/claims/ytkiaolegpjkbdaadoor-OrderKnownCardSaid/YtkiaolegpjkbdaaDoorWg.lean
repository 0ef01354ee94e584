/- Rows of pairs that a slice holds: samePairs, is. -/
import Derived.Test.YtkiaolegpjkbdaaDoorWf
import Derived.ChangeKeysEq
namespace Go.Proofs.YtkiaolegpjkbdaaDoor
open Go Go.RowKit Go.Shelf

/-- A row of pairs. -/
def pvI (L : List (Int × Int)) : List Value := L.flatMap fun p => [Value.int .i64 p.1, Value.int .i64 p.2]
def up2 (p : Nat × Nat) : Int × Int := (p.1, p.2)
def pv (L : List (Nat × Nat)) : List Value := pvI (L.map up2)
theorem pvI_len : ∀ L : List (Int × Int), (pvI L).length = L.length * 2
  | [] => rfl
  | p :: L => by
    have := pvI_len L
    simp only [pvI, List.flatMap_cons, List.length_append, List.length_cons, List.length_nil] at *
    omega
theorem pv_len (L : List (Nat × Nat)) : (pv L).length = L.length * 2 := by rw [pv, pvI_len, List.length_map]
theorem pv_snoc (L : List (Nat × Nat)) (p : Nat × Nat) : pv (L ++ [p]) = pv L ++ [.int .i64 (p.1 : Nat), .int .i64 (p.2 : Nat)] := by simp [pv, pvI, up2]
theorem pvI_at : ∀ (L : List (Int × Int)) (i : Nat) (hi : i < L.length), (pvI L)[i * 2]? = some (.int .i64 L[i].1) ∧ (pvI L)[i * 2 + 1]? = some (.int .i64 L[i].2)
  | p :: L, 0, _ => by simp [pvI]
  | p :: L, i + 1, hi => by
    have h := pvI_at L i (by simpa using hi)
    have e : pvI (p :: L) = .int .i64 p.1 :: .int .i64 p.2 :: pvI L := by simp [pvI]
    rw [e, show (i + 1) * 2 = i * 2 + 1 + 1 by omega, List.getElem?_cons_succ, List.getElem?_cons_succ, show i * 2 + 1 + 1 + 1 = (i * 2 + 1) + 1 + 1 by omega, List.getElem?_cons_succ, List.getElem?_cons_succ]
    simpa using h
theorem Rd.pair {w : World} {A : Option Addr} {L : List (Int × Int)} (h : Rd w A (pvI L)) (i : Nat) (hi : i < L.length) : ∃ b off, A = some ⟨b, off, none⟩ ∧ b < w.heap.size ∧
    w.cell? ⟨b, off + i * 2, none⟩ = some (.int .i64 L[i].1) ∧ w.cell? ⟨b, off + i * 2 + 1, none⟩ = some (.int .i64 L[i].2) := by
  have hl := pvI_len L
  obtain ⟨a1, a2⟩ := pvI_at L i hi
  obtain ⟨b, off, e, hlt, hc⟩ := h (i * 2) (by omega)
  obtain ⟨b', off', e', _, hc'⟩ := h (i * 2 + 1) (by omega)
  obtain ⟨rfl, rfl⟩ : b' = b ∧ off' = off := by
    rw [e] at e'
    injection e' with e'
    injection e' with h1 h2
    exact ⟨h1.symm, h2.symm⟩
  rw [List.getElem?_eq_getElem (by omega)] at a1 a2
  exact ⟨b', off', e, hlt, hc.trans a1, by rw [Nat.add_assoc]; exact hc'.trans a2⟩
/-- A slice value that holds these pairs. -/
def Ps (w : World) (v : Value) (L : List (Int × Int)) : Prop := ∃ A c, v = .slice A L.length c ∧ Rd w A (pvI L)
theorem Ps.below {w w' : World} {v : Value} {L : List (Int × Int)} (h : Ps w v L) (hb : Below w.heap.size w w') : Ps w' v L := by
  obtain ⟨A, c, e, h⟩ := h
  exact ⟨A, c, e, h.below hb⟩
theorem Ps.own {w : World} {base : Nat} {e : TypeId} {v : Value} {L : List (Nat × Nat)} (h : w.ownsRow base e 2 v L.length (pv L)) : Ps w v (L.map up2) := by
  obtain ⟨A, c, e, h⟩ := Rd.own h
  exact ⟨A, c, by rw [List.length_map]; exact e, h⟩
theorem Ps.nil (w : World) : Ps w (.slice none 0 0) [] := ⟨none, 0, rfl, Rd.nil _ _⟩

theorem info3' : (Tryd.prog.info? 3).isSome = true := by kernel_rfl
theorem neq_pair (w : World) (a b c d : Int) : (binOp .neq 31 (.agg #[.int .i64 a, .int .i64 b]) (.agg #[.int .i64 c, .int .i64 d])).run Tryd.prog w = .ok (.bool (!(a == c && b == d))) w := by
  obtain ⟨i, hi⟩ := Option.isSome_iff_exists.1 info3'
  have hc : Tryd.prog.cellsOf 3 = 1 := by kernel_rfl
  have hu : Tryd.prog.underlying 31 = some (.array 2 3) := by kernel_rfl
  rw [run_neq_struct, run_equalIn_array _ 9999 (e := 3) (n := 2) (i := i) _ _ hu hi, hc]
  simp [List.range_succ, Op.eqItems, go_sem]
  by_cases h1 : a = c <;> by_cases h2 : b = d <;> simp [h1, h2]

set_option maxHeartbeats 400000 in
theorem samePairs_any (A B : Option Addr) (c d : Nat) (xs ys : List (Int × Int)) (w : World) (hx : Rd w A (pvI xs)) (hy : Rd w B (pvI ys)) (_hn : xs.length ≤ 1000000000) (hm : ys.length ≤ 1000000000) :
    Calls Tryd.prog 28 #[.slice A xs.length c, .slice B ys.length d] w fun e w' => e = .returned (.bool (decide (xs = ys))) ∧ ∃ n, w' = w.drewN n := by
  have HX := Lib.hid hx
  have HY := Lib.hid hy
  clear hx hy
  by_cases hl : xs.length = ys.length
  · have hl' : ((xs.length : Int) != ys.length) = false := by simp; omega
    have HL := Lib.hid hl
    have hl2 : xs.length ≤ ys.length := by omega
    clear hl
    have NP := neq_pair
    go_enter Tryd.func28, Tryd.ntmps28
    go_wp2
    go_loopw [5] (fun i wr => ∃ k n : Nat, k ≤ xs.length ∧ i = .int .i64 k ∧ Hid (xs.take k = ys.take k) ∧ wr = w.drewN n) (fun i _ => xs.length - (intOf i).toNat)
    case atStart => exact ⟨0, 0, Nat.zero_le _, rfl, by simp [Hid], rfl⟩
    case round =>
      obtain ⟨k, n, hk, rfl, heq, rfl⟩ := hrel
      by_cases hlt : k < xs.length
      · obtain ⟨b, o, rfl, hbl, hcell, hcel⟩ := HX.out.pair k hlt
        obtain ⟨b2, o2, rfl, hbl2, hcell2, hcel2⟩ := HY.out.pair k (by omega)
        have c1 : (0 : Int) ≤ k := by omega
        have c2 : (k : Int) < xs.length := by omega
        have c3 : (k : Int) < ys.length := by omega
        by_cases hw : xs[k] = ys[k]'(by omega)
        · have heq' : Hid (xs.take (k + 1) = ys.take (k + 1)) := by
            show _ = _
            rw [List.take_succ_eq_append_getElem hlt, List.take_succ_eq_append_getElem (by omega), heq.out, hw]
          have hs1 : (xs[k].1 == (ys[k]'(by omega)).1) = true := by rw [hw]; simp
          have hs2 : (xs[k].2 == (ys[k]'(by omega)).2) = true := by rw [hw]; simp
          clear hw
          go_wp2
          go_quiet (fail)
          go_wp2
          go_roundw
          case rel => exact ⟨k + 1, _, by omega, by go_num, heq', rfl⟩
          case measure => simp [intOf]; omega
        · have hfin : Hid (decide (xs = ys) = false) := decide_eq_false (by rintro rfl; exact hw rfl)
          have hs1 : (xs[k].1 == (ys[k]'(by omega)).1 && xs[k].2 == (ys[k]'(by omega)).2) = false := by
            rw [Bool.and_eq_false_iff, beq_eq_false_iff_ne, beq_eq_false_iff_ne]
            by_cases e : xs[k].1 = (ys[k]'(by omega)).1
            · exact .inr fun e2 => hw (Prod.ext e e2)
            · exact .inl e
          clear hw
          go_wp2
          go_quiet (fail)
          go_wp2
          go_ret
          exact ⟨ret_bool hfin.out.symm, _, World.drewN_drewN _ _ _⟩
      · have e1 : xs.take k = xs := List.take_of_length_le (by omega)
        have e2 : ys.take k = ys := List.take_of_length_le (by have := HL.out; omega)
        have hfin : Hid (decide (xs = ys) = true) := decide_eq_true (by have := heq.out; rwa [e1, e2] at this)
        clear e1 e2
        go_wp2
        go_ret
        exact ⟨ret_bool hfin.out.symm, _, rfl⟩
  · have hl' : ((xs.length : Int) != ys.length) = true := by simp; omega
    have hne : decide (xs = ys) = false := decide_eq_false (fun e => hl (by rw [e]))
    rw [hne]
    go_enter Tryd.func28, Tryd.ntmps28
    go_wp2
    go_ret
    exact ⟨rfl, 0, rfl⟩
set_option maxHeartbeats 400000 in
theorem is_any (A B : Option Addr) (c d : Nat) (xs ys : List (Int × Int)) (w : World) (hx : Rd w A (pvI xs)) (hy : Rd w B (pvI ys)) (_hn : xs.length ≤ 1000000000) (hm : ys.length ≤ 1000000000) :
    Calls Tryd.prog 34 #[.slice A xs.length c, .slice B ys.length d] w fun e w' => e = .returned (.bool (decide (xs = ys))) ∧ ∃ n, w' = w.drewN n := by
  have HX := Lib.hid hx
  have HY := Lib.hid hy
  clear hx hy
  by_cases hl : xs.length = ys.length
  · have hl' : ((xs.length : Int) != ys.length) = false := by simp; omega
    have HL := Lib.hid hl
    have hl2 : xs.length ≤ ys.length := by omega
    clear hl
    have NP := neq_pair
    go_enter Tryd.func34, Tryd.ntmps34
    go_wp2
    go_loopw [5] (fun i wr => ∃ k n : Nat, k ≤ xs.length ∧ i = .int .i64 k ∧ Hid (xs.take k = ys.take k) ∧ wr = w.drewN n) (fun i _ => xs.length - (intOf i).toNat)
    case atStart => exact ⟨0, 0, Nat.zero_le _, rfl, by simp [Hid], rfl⟩
    case round =>
      obtain ⟨k, n, hk, rfl, heq, rfl⟩ := hrel
      by_cases hlt : k < xs.length
      · obtain ⟨b, o, rfl, hbl, hcell, hcel⟩ := HX.out.pair k hlt
        obtain ⟨b2, o2, rfl, hbl2, hcell2, hcel2⟩ := HY.out.pair k (by omega)
        have c1 : (0 : Int) ≤ k := by omega
        have c2 : (k : Int) < xs.length := by omega
        have c3 : (k : Int) < ys.length := by omega
        by_cases hw : xs[k] = ys[k]'(by omega)
        · have heq' : Hid (xs.take (k + 1) = ys.take (k + 1)) := by
            show _ = _
            rw [List.take_succ_eq_append_getElem hlt, List.take_succ_eq_append_getElem (by omega), heq.out, hw]
          have hs1 : (xs[k].1 == (ys[k]'(by omega)).1) = true := by rw [hw]; simp
          have hs2 : (xs[k].2 == (ys[k]'(by omega)).2) = true := by rw [hw]; simp
          clear hw
          go_wp2
          go_quiet (fail)
          go_wp2
          go_roundw
          case rel => exact ⟨k + 1, _, by omega, by go_num, heq', rfl⟩
          case measure => simp [intOf]; omega
        · have hfin : Hid (decide (xs = ys) = false) := decide_eq_false (by rintro rfl; exact hw rfl)
          have hs1 : (xs[k].1 == (ys[k]'(by omega)).1 && xs[k].2 == (ys[k]'(by omega)).2) = false := by
            rw [Bool.and_eq_false_iff, beq_eq_false_iff_ne, beq_eq_false_iff_ne]
            by_cases e : xs[k].1 = (ys[k]'(by omega)).1
            · exact .inr fun e2 => hw (Prod.ext e e2)
            · exact .inl e
          clear hw
          go_wp2
          go_quiet (fail)
          go_wp2
          go_ret
          exact ⟨ret_bool hfin.out.symm, _, World.drewN_drewN _ _ _⟩
      · have e1 : xs.take k = xs := List.take_of_length_le (by omega)
        have e2 : ys.take k = ys := List.take_of_length_le (by have := HL.out; omega)
        have hfin : Hid (decide (xs = ys) = true) := decide_eq_true (by have := heq.out; rwa [e1, e2] at this)
        clear e1 e2
        go_wp2
        go_ret
        exact ⟨ret_bool hfin.out.symm, _, rfl⟩
  · have hl' : ((xs.length : Int) != ys.length) = true := by simp; omega
    have hne : decide (xs = ys) = false := decide_eq_false (fun e => hl (by rw [e]))
    rw [hne]
    go_enter Tryd.func34, Tryd.ntmps34
    go_wp2
    go_ret
    exact ⟨rfl, 0, rfl⟩
end Go.Proofs.YtkiaolegpjkbdaaDoor
