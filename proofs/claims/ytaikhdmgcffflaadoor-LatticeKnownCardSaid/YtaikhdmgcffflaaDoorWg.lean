/- Rows of pairs that a slice holds: samePairs, is. -/
import Derived.Test.YtaikhdmgcffflaaDoorWf
import Derived.ChangeKeysEq
namespace Go.Proofs.YtaikhdmgcffflaaDoor
open Go Go.RowKit Go.Shelf

/-- A row of pairs. -/
def pvI (L : List (Int × Int)) : List Value := L.flatMap fun p => [Value.int .i64 p.1, Value.int .i64 p.2]
def up2 (p : Nat × Nat) : Int × Int := (p.1, p.2)
def pv (L : List (Nat × Nat)) : List Value := pvI (L.map up2)
theorem pvI_len : ∀ L : List (Int × Int), (pvI L).length = L.length * 2
  | [] => rfl
  | p :: L => by
    have := pvI_len L
    simp only [pvI, List.flatMap_cons, List.length_append, List.length_cons, List.length_nil] at *
    omega
theorem pv_len (L : List (Nat × Nat)) : (pv L).length = L.length * 2 := by rw [pv, pvI_len, List.length_map]
theorem pv_snoc (L : List (Nat × Nat)) (p : Nat × Nat) : pv (L ++ [p]) = pv L ++ [.int .i64 (p.1 : Nat), .int .i64 (p.2 : Nat)] := by simp [pv, pvI, up2]
theorem pvI_at : ∀ (L : List (Int × Int)) (i : Nat) (hi : i < L.length), (pvI L)[i * 2]? = some (.int .i64 L[i].1) ∧ (pvI L)[i * 2 + 1]? = some (.int .i64 L[i].2)
  | p :: L, 0, _ => by simp [pvI]
  | p :: L, i + 1, hi => by
    have h := pvI_at L i (by simpa using hi)
    have e : pvI (p :: L) = .int .i64 p.1 :: .int .i64 p.2 :: pvI L := by simp [pvI]
    rw [e, show (i + 1) * 2 = i * 2 + 1 + 1 by omega, List.getElem?_cons_succ, List.getElem?_cons_succ, show i * 2 + 1 + 1 + 1 = (i * 2 + 1) + 1 + 1 by omega, List.getElem?_cons_succ, List.getElem?_cons_succ]
    simpa using h
theorem Rd.pair {w : World} {A : Option Addr} {L : List (Int × Int)} (h : Rd w A (pvI L)) (i : Nat) (hi : i < L.length) : ∃ b off, A = some ⟨b, off, none⟩ ∧ b < w.heap.size ∧
    w.cell? ⟨b, off + i * 2, none⟩ = some (.int .i64 L[i].1) ∧ w.cell? ⟨b, off + i * 2 + 1, none⟩ = some (.int .i64 L[i].2) := by
  have hl := pvI_len L
  obtain ⟨a1, a2⟩ := pvI_at L i hi
  obtain ⟨b, off, e, hlt, hc⟩ := h (i * 2) (by omega)
  obtain ⟨b', off', e', _, hc'⟩ := h (i * 2 + 1) (by omega)
  obtain ⟨rfl, rfl⟩ : b' = b ∧ off' = off := by
    rw [e] at e'
    injection e' with e'
    injection e' with h1 h2
    exact ⟨h1.symm, h2.symm⟩
  rw [List.getElem?_eq_getElem (by omega)] at a1 a2
  exact ⟨b', off', e, hlt, hc.trans a1, by rw [Nat.add_assoc]; exact hc'.trans a2⟩
/-- A slice value that holds these pairs. -/
def Ps (w : World) (v : Value) (L : List (Int × Int)) : Prop := ∃ A c, v = .slice A L.length c ∧ Rd w A (pvI L)
theorem Ps.below {w w' : World} {v : Value} {L : List (Int × Int)} (h : Ps w v L) (hb : Below w.heap.size w w') : Ps w' v L := by
  obtain ⟨A, c, e, h⟩ := h
  exact ⟨A, c, e, h.below hb⟩
theorem Ps.own {w : World} {base : Nat} {e : TypeId} {v : Value} {L : List (Nat × Nat)} (h : w.ownsRow base e 2 v L.length (pv L)) : Ps w v (L.map up2) := by
  obtain ⟨A, c, e, h⟩ := Rd.own h
  exact ⟨A, c, by rw [List.length_map]; exact e, h⟩
theorem Ps.nil (w : World) : Ps w (.slice none 0 0) [] := ⟨none, 0, rfl, Rd.nil _ _⟩

theorem info3' : (Tryd.prog.info? 3).isSome = true := by kernel_rfl
theorem neq_pair (w : World) (a b c d : Int) : (binOp .neq 41 (.agg #[.int .i64 a, .int .i64 b]) (.agg #[.int .i64 c, .int .i64 d])).run Tryd.prog w = .ok (.bool (!(a == c && b == d))) w := by
  obtain ⟨i, hi⟩ := Option.isSome_iff_exists.1 info3'
  have hc : Tryd.prog.cellsOf 3 = 1 := by kernel_rfl
  have hu : Tryd.prog.underlying 41 = some (.array 2 3) := by kernel_rfl
  rw [run_neq_struct, run_equalIn_array _ 9999 (e := 3) (n := 2) (i := i) _ _ hu hi, hc]
  simp [List.range_succ, Op.eqItems, go_sem]
  by_cases h1 : a = c <;> by_cases h2 : b = d <;> simp [h1, h2]

end Go.Proofs.YtaikhdmgcffflaaDoor
