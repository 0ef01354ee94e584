/- Walks over lists of headers: both functions Same. -/
import Derived.Test.YthniggdimfldhaaGreatDoorHd
import Derived.Laws.StructEq
import Derived.ChangeKeysEq
namespace Go.Proofs.YthniggdimfldhaaGreatDoor
open Go Go.RowKit

theorem fieldsH : (Tryz.prog.fieldsOf 41).toList.map (fun f => (decide (f.name ≠ "_"), f.type, f.offset)) = [(true, 9, 0), (true, 9, 1)] := by kernel_rfl
theorem underH : Tryz.prog.underlying 41 = some (.struct (Tryz.prog.fieldsOf 41)) := by kernel_rfl
theorem part9 (w : World) (xs : Array Value) (k : Nat) (v : Value) (h : xs[k]? = some v) : (part 9 xs k).run Tryz.prog w = .ok v w := run_part_plain w (by kernel_rfl) h
theorem eq9 (w : World) (d : Nat) (a b : List UInt8) : (Op.equalIn (d + 1) 9 (.string ⟨a.toArray⟩) (.string ⟨b.toArray⟩)).run Tryz.prog w = .ok (a == b) w := by
  rw [run_equalIn_string w d _ _ _ Tryz.underlying9]
  simp [Lib.toList_data]
set_option maxRecDepth 100000 in
theorem equal_head (w : World) (a b c d : List UInt8) : (Op.equalIn 10000 41 (.agg #[.string ⟨a.toArray⟩, .string ⟨b.toArray⟩]) (.agg #[.string ⟨c.toArray⟩, .string ⟨d.toArray⟩])).run Tryz.prog w = .ok (a == c && b == d) w := by
  rw [run_equalIn_struct w 9999 _ _ _ underH (by kernel_rfl)]
  have hf := fieldsH
  match h : (Tryz.prog.fieldsOf 41).toList, hf with
  | [f, g], hf =>
    simp only [List.map_cons, List.map_nil, List.cons.injEq, Prod.mk.injEq, decide_eq_true_eq, and_true] at hf
    obtain ⟨⟨f1, f2, f3⟩, g1, g2, g3⟩ := hf
    have a0 := fun w => part9 w #[Value.string ⟨a.toArray⟩, Value.string ⟨b.toArray⟩] 0 (Value.string ⟨a.toArray⟩) rfl
    have a1 := fun w => part9 w #[Value.string ⟨a.toArray⟩, Value.string ⟨b.toArray⟩] 1 (Value.string ⟨b.toArray⟩) rfl
    have c0 := fun w => part9 w #[Value.string ⟨c.toArray⟩, Value.string ⟨d.toArray⟩] 0 (Value.string ⟨c.toArray⟩) rfl
    have c1 := fun w => part9 w #[Value.string ⟨c.toArray⟩, Value.string ⟨d.toArray⟩] 1 (Value.string ⟨d.toArray⟩) rfl
    have e9 : ∀ (w : World) (a b : List UInt8), (Op.equalIn 9999 9 (.string ⟨a.toArray⟩) (.string ⟨b.toArray⟩)).run Tryz.prog w = .ok (a == b) w := fun w a b => eq9 w 9998 a b
    simp only [Op.eqFields, f1, g1, ne_eq, not_false_eq_true, if_true, f2, f3, g2, g3, Sem.run_bind, a0, a1, c0, c1, Result.andThen_ok, e9, Sem.run_ite, Sem.run_pure]
    cases h1 : a == c <;> cases h2 : b == d <;> simp
  | [], hf => simp at hf
  | [_], hf => simp at hf
  | _ :: _ :: _ :: _, hf => simp at hf
theorem neq_head (w : World) (a b c d : List UInt8) : (binOp .neq 41 (.agg #[.string ⟨a.toArray⟩, .string ⟨b.toArray⟩]) (.agg #[.string ⟨c.toArray⟩, .string ⟨d.toArray⟩])).run Tryz.prog w = .ok (.bool (!(a == c && b == d))) w := by
  rw [run_neq_struct, equal_head]; rfl
theorem eql_head (w : World) (a b c d : List UInt8) : (binOp .eql 41 (.agg #[.string ⟨a.toArray⟩, .string ⟨b.toArray⟩]) (.agg #[.string ⟨c.toArray⟩, .string ⟨d.toArray⟩])).run Tryz.prog w = .ok (.bool (a == c && b == d)) w := by
  rw [run_eql_struct, equal_head]; rfl

/-- Slices of sizes that a machine has. -/
def Sm (l : List Hd) : Prop := l.length ≤ 1000 ∧ ∀ h ∈ l, h.1.length ≤ 1000 ∧ h.2.length ≤ 1000

set_option maxRecDepth 100000 in
set_option maxHeartbeats 400000 in
/-- the chapter's Same -/
theorem same_ref (A B : Option Addr) (c d : Nat) (xs ys : List Hd) (w : World) (hx : Rd w A (hv xs)) (hy : Rd w B (hv ys)) (_hn : xs.length ≤ 1000000000) (hm : ys.length ≤ 1000000000) :
    Calls Tryz.prog 41 #[.slice A xs.length c, .slice B ys.length d] w fun e w' => e = .returned (.bool (decide (xs = ys))) ∧ Below w.heap.size w w' := by
  have HX := Lib.hid hx
  have HY := Lib.hid hy
  clear hx hy
  by_cases hl : xs.length = ys.length
  · have hl' : ((xs.length : Int) != ys.length) = false := by simp; omega
    have HL := Lib.hid hl
    have hl2 : xs.length ≤ ys.length := by omega
    clear hl
    have NP := neq_head
    go_enter Tryz.func41, Tryz.ntmps41
    go_wp2
    go_loopw [5] (fun i wr => ∃ k n : Nat, k ≤ xs.length ∧ i = .int .i64 k ∧ Hid (xs.take k = ys.take k) ∧ wr = w.drewN n) (fun i _ => xs.length - (intOf i).toNat)
    case atStart => exact ⟨0, 0, Nat.zero_le _, rfl, by simp [Hid], rfl⟩
    case round =>
      obtain ⟨k, n, hk, rfl, heq, rfl⟩ := hrel
      by_cases hlt : k < xs.length
      · obtain ⟨b, o, rfl, hbl, hcell, hcel⟩ := HX.out.head k hlt
        obtain ⟨b2, o2, rfl, hbl2, hcell2, hcel2⟩ := HY.out.head k (by omega)
        have c1 : (0 : Int) ≤ k := by omega
        have c2 : (k : Int) < xs.length := by omega
        have c3 : (k : Int) < ys.length := by omega
        by_cases hw : xs[k] = ys[k]'(by omega)
        · have heq' : Hid (xs.take (k + 1) = ys.take (k + 1)) := by
            show _ = _
            rw [List.take_succ_eq_append_getElem hlt, List.take_succ_eq_append_getElem (by omega), heq.out, hw]
          have hs1 : (xs[k].1 == (ys[k]'(by omega)).1) = true := by rw [hw]; simp
          have hs2 : (xs[k].2 == (ys[k]'(by omega)).2) = true := by rw [hw]; simp
          clear hw
          generalize xs[k].1 = p1 at *
          generalize xs[k].2 = p2 at *
          generalize (ys[k]'(by omega)).1 = q1 at *
          generalize (ys[k]'(by omega)).2 = q2 at *
          go_wp2
          go_quiet (fail)
          go_wp2
          go_roundw
          case rel => exact ⟨k + 1, _, by omega, by go_num, heq', rfl⟩
          case measure => simp [intOf]; omega
        · have hfin : Hid (decide (xs = ys) = false) := decide_eq_false (by rintro rfl; exact hw rfl)
          have hs1 : (xs[k].1 == (ys[k]'(by omega)).1 && xs[k].2 == (ys[k]'(by omega)).2) = false := by
            rw [Bool.and_eq_false_iff, beq_eq_false_iff_ne, beq_eq_false_iff_ne]
            by_cases e : xs[k].1 = (ys[k]'(by omega)).1
            · exact .inr fun e2 => hw (Prod.ext e e2)
            · exact .inl e
          clear hw
          generalize xs[k].1 = p1 at *
          generalize xs[k].2 = p2 at *
          generalize (ys[k]'(by omega)).1 = q1 at *
          generalize (ys[k]'(by omega)).2 = q2 at *
          go_wp2
          go_quiet (fail)
          go_wp2
          go_ret
          exact ⟨ret_bool hfin.out.symm, below_drewN (below_drewN (Below.refl _ _) _) _⟩
      · have e1 : xs.take k = xs := List.take_of_length_le (by omega)
        have e2 : ys.take k = ys := List.take_of_length_le (by have := HL.out; omega)
        have hfin : Hid (decide (xs = ys) = true) := decide_eq_true (by have := heq.out; rwa [e1, e2] at this)
        clear e1 e2
        go_wp2
        go_ret
        exact ⟨ret_bool hfin.out.symm, below_drewN (Below.refl _ _) _⟩
  · have hl' : ((xs.length : Int) != ys.length) = true := by simp; omega
    have hne : decide (xs = ys) = false := decide_eq_false (fun e => hl (by rw [e]))
    rw [hne]
    go_enter Tryz.func41, Tryz.ntmps41
    go_wp2
    go_ret
    exact ⟨rfl, Below.refl _ _⟩
set_option maxRecDepth 100000 in
set_option maxHeartbeats 400000 in
/-- slices.Equal of headers -/
theorem equal_any (A B : Option Addr) (c d : Nat) (xs ys : List Hd) (w : World) (hx : Rd w A (hv xs)) (hy : Rd w B (hv ys)) (_hn : xs.length ≤ 1000000000) (hm : ys.length ≤ 1000000000) :
    Calls Tryz.prog 67 #[.slice A xs.length c, .slice B ys.length d] w fun e w' => e = .returned (.bool (decide (xs = ys))) ∧ Below w.heap.size w w' := by
  have HX := Lib.hid hx
  have HY := Lib.hid hy
  clear hx hy
  by_cases hl : xs.length = ys.length
  · have hl' : ((xs.length : Int) != ys.length) = false := by simp; omega
    have HL := Lib.hid hl
    have hl2 : xs.length ≤ ys.length := by omega
    clear hl
    have NP := neq_head
    go_enter Tryz.func67, Tryz.ntmps67
    go_wp2
    go_loopw [13] (fun i wr => ∃ k n : Nat, k ≤ xs.length ∧ i = .int .i64 k ∧ Hid (xs.take k = ys.take k) ∧ wr = w.drewN n) (fun i _ => xs.length - (intOf i).toNat)
    case atStart => exact ⟨0, 0, Nat.zero_le _, rfl, by simp [Hid], rfl⟩
    case round =>
      obtain ⟨k, n, hk, rfl, heq, rfl⟩ := hrel
      by_cases hlt : k < xs.length
      · obtain ⟨b, o, rfl, hbl, hcell, hcel⟩ := HX.out.head k hlt
        obtain ⟨b2, o2, rfl, hbl2, hcell2, hcel2⟩ := HY.out.head k (by omega)
        have c1 : (0 : Int) ≤ k := by omega
        have c2 : (k : Int) < xs.length := by omega
        have c3 : (k : Int) < ys.length := by omega
        by_cases hw : xs[k] = ys[k]'(by omega)
        · have heq' : Hid (xs.take (k + 1) = ys.take (k + 1)) := by
            show _ = _
            rw [List.take_succ_eq_append_getElem hlt, List.take_succ_eq_append_getElem (by omega), heq.out, hw]
          have hs1 : (xs[k].1 == (ys[k]'(by omega)).1) = true := by rw [hw]; simp
          have hs2 : (xs[k].2 == (ys[k]'(by omega)).2) = true := by rw [hw]; simp
          clear hw
          generalize xs[k].1 = p1 at *
          generalize xs[k].2 = p2 at *
          generalize (ys[k]'(by omega)).1 = q1 at *
          generalize (ys[k]'(by omega)).2 = q2 at *
          go_wp2
          go_quiet (fail)
          go_wp2
          go_roundw
          case rel => exact ⟨k + 1, _, by omega, by go_num, heq', rfl⟩
          case measure => simp [intOf]; omega
        · have hfin : Hid (decide (xs = ys) = false) := decide_eq_false (by rintro rfl; exact hw rfl)
          have hs1 : (xs[k].1 == (ys[k]'(by omega)).1 && xs[k].2 == (ys[k]'(by omega)).2) = false := by
            rw [Bool.and_eq_false_iff, beq_eq_false_iff_ne, beq_eq_false_iff_ne]
            by_cases e : xs[k].1 = (ys[k]'(by omega)).1
            · exact .inr fun e2 => hw (Prod.ext e e2)
            · exact .inl e
          clear hw
          generalize xs[k].1 = p1 at *
          generalize xs[k].2 = p2 at *
          generalize (ys[k]'(by omega)).1 = q1 at *
          generalize (ys[k]'(by omega)).2 = q2 at *
          go_wp2
          go_quiet (fail)
          go_wp2
          go_ret
          exact ⟨ret_bool hfin.out.symm, below_drewN (below_drewN (Below.refl _ _) _) _⟩
      · have e1 : xs.take k = xs := List.take_of_length_le (by omega)
        have e2 : ys.take k = ys := List.take_of_length_le (by have := HL.out; omega)
        have hfin : Hid (decide (xs = ys) = true) := decide_eq_true (by have := heq.out; rwa [e1, e2] at this)
        clear e1 e2
        go_wp2
        go_ret
        exact ⟨ret_bool hfin.out.symm, below_drewN (Below.refl _ _) _⟩
  · have hl' : ((xs.length : Int) != ys.length) = true := by simp; omega
    have hne : decide (xs = ys) = false := decide_eq_false (fun e => hl (by rw [e]))
    rw [hne]
    go_enter Tryz.func67, Tryz.ntmps67
    go_wp2
    go_ret
    exact ⟨rfl, Below.refl _ _⟩
set_option maxRecDepth 100000 in
/-- the program's Same -/
theorem same_any (A B : Option Addr) (c d : Nat) (xs ys : List Hd) (w : World) (hx : Rd w A (hv xs)) (hy : Rd w B (hv ys)) (hn : xs.length ≤ 1000000000) (hm : ys.length ≤ 1000000000) :
    Calls Tryz.prog 39 #[.slice A xs.length c, .slice B ys.length d] w fun e w' => e = .returned (.bool (decide (xs = ys))) ∧ Below w.heap.size w w' := by
  have con := Lib.hid (equal_any A B c d xs ys w hx hy hn hm)
  clear hx hy
  generalize decide (xs = ys) = q at *
  go_enter Tryz.func39, Tryz.ntmps39
  go_wp2_with fail
  go_at_call 67
  refine con.out.mono ?_
  rintro e w1 ⟨rfl, b1⟩
  go_wp2_with fail
  go_ret
  exact ⟨rfl, b1⟩
theorem same_anyH (v u : Value) (xs ys : List Hd) (w : World) (hx : Hs w v xs) (hy : Hs w u ys) (hn : xs.length ≤ 1000) (hm : ys.length ≤ 1000) :
    Calls Tryz.prog 39 #[v, u] w fun e w' => e = .returned (.bool (decide (xs = ys))) ∧ Below w.heap.size w w' := by
  obtain ⟨A, c, rfl, _, _, hx⟩ := hx
  obtain ⟨B, d, rfl, _, _, hy⟩ := hy
  exact same_any A B c d xs ys w hx hy (by omega) (by omega)
theorem same_refH (v u : Value) (xs ys : List Hd) (w : World) (hx : Hs w v xs) (hy : Hs w u ys) (hn : xs.length ≤ 1000) (hm : ys.length ≤ 1000) :
    Calls Tryz.prog 41 #[v, u] w fun e w' => e = .returned (.bool (decide (xs = ys))) ∧ Below w.heap.size w w' := by
  obtain ⟨A, c, rfl, _, _, hx⟩ := hx
  obtain ⟨B, d, rfl, _, _, hy⟩ := hy
  exact same_ref A B c d xs ys w hx hy (by omega) (by omega)
end Go.Proofs.YthniggdimfldhaaGreatDoor
