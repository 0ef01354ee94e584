/- The laws' own functions: works, the values. append(s, make([]byte, k)...). -/
import Derived.Test.YtbmeceaefjdpaaaGreatDoorKzd
namespace Go.Proofs.YtbmeceaefjdpaaaGreatDoor
open Go Go.RowKit

def wB (c : UInt8) : List UInt8 := [22, 3, 1, 0, 57, 1, 0, 0, 53, 3, 3] ++ List.replicate 33 0 ++ [0, 2, 19, 1, 1, 0, 0, 10, 0, 0, 0, 6, 0, 4, 0, 0, 1, c]
theorem wB_ok : okG plG = true := by kernel_rfl
theorem wB_rec : recG plG = wB 97 := by kernel_rfl
theorem wB_97 : sniB (wB 97) [97] 0 = true := by kernel_rfl
theorem wB_65 : sniB (wB 65) [97] 0 = true := by kernel_rfl
theorem wB_46 : sniB (wB 46) [] 70 = true := by kernel_rfl
theorem wB_cut : sniB ((wB 97).take 61) [] 70 = true := by kernel_rfl
theorem wB_none : okG ⟨1, List.replicate 32 0, [], [4865], [], [97], 0, []⟩ = false := by kernel_rfl
theorem wB_twice : okG ⟨1, List.replicate 32 0, [], [4865], [0], [97], 0, [(0, [])]⟩ = false := by kernel_rfl
theorem wB_far : okG ⟨1, List.replicate 32 0, [], [4865], [0], [97], 1, []⟩ = false := by kernel_rfl
end Go.Proofs.YtbmeceaefjdpaaaGreatDoor
namespace Go.Proofs.YtbmeceaefjdpaaaGreatDoor
open Go Go.RowKit

theorem zeroCells_bytes (k : Nat) : Builtin.zeroCells (Value.int .u8 0).cells k = (Lib.byteCells (List.replicate k 0)).toArray := by
  have hl : (Lib.byteCells (List.replicate k 0)) = List.replicate k (Value.int .u8 0) := by
    unfold Lib.byteCells
    rw [List.map_replicate]
    rfl
  rw [hl]
  apply Array.ext
  · rw [size_zeroCells]
    simp [Value.cells]
  · intro i h1 h2
    simp [Builtin.zeroCells, Value.cells, Nat.mod_one]
theorem run_zerosG (w : World) (base : Nat) (ty : TypeId) (A : Option Addr) (l : List UInt8) (k : Nat) (h : RowG w base A l.length l) (hl : l ≠ []) (h0 : 0 < k) (hbase : base ≤ w.heap.size) (hlen : l.length + k ≤ 1000000) :
    ∃ (A' : Option Addr) (c' : Nat) (w' : World), (Builtin.append_ #[22, 3] ty #[.slice A l.length l.length, .int .i64 k]).run Tryz.prog w = .ok (.slice A' (l.length + k) c') w' ∧ RowG w' base A' c' (l ++ List.replicate k 0) ∧ Below base w w' ∧ (∀ k, k < w.heap.size → A ≠ some ⟨k, 0, none⟩ → w'.heap[k]? = w.heap[k]?) := by
  obtain ⟨i0, hi, hz0, hz1, hz2⟩ := info_parts info5
  have hzl : (List.replicate k (0 : UInt8)).length = k := List.length_replicate
  have hsrc := src_str w (List.replicate k 0)
  obtain ⟨A', c', w', hr, R, B, O, _⟩ := run_pushG w base ty 9 A l.length l (List.replicate k 0) _ h hsrc hbase (by rw [hzl]; omega)
  rcases h.at_ with ⟨rfl, hc⟩ | ⟨g, rfl, hb, hlt, hcs, hcl⟩
  · exact absurd (List.eq_nil_of_length_eq_zero hc) hl
  have hold : (Builtin.firstCells i0.size l.length (.slice (some ⟨g, 0, none⟩) l.length l.length)).run Tryz.prog w.drew = .ok (Lib.byteCells l).toArray w.drew := by
    rw [hz1]
    exact run_firstCells_some w.drew 1 l.length ⟨g, 0, none⟩ l.length l.length (Lib.byteCells l) (by rw [Lib.byteCells_length, Nat.mul_one]) (fun j u hj => by
      have hjl : j < l.length := by
        have := (List.getElem?_eq_some_iff.1 hj).1
        rwa [Lib.byteCells_length] at this
      show w.cell? _ = _
      rw [add_pl, Nat.zero_add, hcl j hjl, ← hj]
      unfold Lib.byteCells
      rw [List.getElem?_map, List.getElem?_eq_getElem hjl]
      rfl)
  have hx' : Src Tryz.prog i0.size 9 (.string ⟨(List.replicate k (0 : UInt8)).toArray⟩) (List.replicate k (0 : UInt8)).length (Lib.byteCells (List.replicate k 0)) w := by rw [hz1]; exact hsrc
  have h1 := run_append_grow_src (P := Tryz.prog) w 22 9 ty 5 i0 (.int .u8 0) Tryz.underlying22 hi hz0 (some ⟨g, 0, none⟩) l.length l.length (Lib.byteCells l) hold _ _ (Lib.byteCells (List.replicate k 0)) hx' (by rw [hzl]; omega) (by rw [hzl]; omega) (by rw [hz2]; exact growslice_fits (by rw [hzl]; omega) (by rw [hzl]; omega))
  have h2 := Lib.run_append_grow_zeros (P := Tryz.prog) w 22 3 ty 5 i0 (.int .u8 0) .i64 .i64 Tryz.underlying22 Tryz.underlying3 hi hz0 (some ⟨g, 0, none⟩) l.length l.length (Lib.byteCells l) hold k h0 (by rw [hz1]; decide) (by omega) (by omega) (by rw [hz2]; omega) (by rw [hz2]; exact growslice_fits (by omega) (by omega))
  rw [h1] at hr
  simp only [hzl] at hr
  rw [zeroCells_bytes k] at h2
  have e : (Lib.byteCells l ++ Lib.byteCells (List.replicate k 0)).toArray = (Lib.byteCells l).toArray ++ (Lib.byteCells (List.replicate k 0)).toArray := by simp
  rw [e] at hr
  injection hr with e1 e2
  injection e1 with e3 _ e4
  subst e2 e3 e4
  exact ⟨_, _, _, h2, R, B, O⟩
theorem wpList_zeros {ops : Array Oper} {rest : List Oper} {o : Oper} {a : Act} {Q : Exit → Act → World → Prop} (hgd : o.guard = none) (s x : Operand)
    (ho : o.op = .call { callee := .builtin .append, args := #[s, x], argTypes := #[22, 3] }) (w : World) (base : Nat) (A : Option Addr) (n k : Nat) (l : List UInt8) (hn : l.length = n) (hl : l ≠ []) (h0 : 0 < k)
    (hs : a.eval s = .slice A n n) (hx : a.eval x = .int .i64 k) (h : RowG w base A l.length l) (hbase : base ≤ w.heap.size) (hlen : l.length + k ≤ 1000000)
    (hk : ∀ (A' : Option Addr) (c' : Nat) w', RowG w' base A' c' (l ++ List.replicate k 0) → Below base w w' → (∀ k, k < w.heap.size → A ≠ some ⟨k, 0, none⟩ → w'.heap[k]? = w.heap[k]?) → wpList Tryz.prog ops Q rest (a.put o.dst (.slice A' (n + k : Nat) c')) w') :
    wpList Tryz.prog ops Q (o :: rest) a w := by
  subst hn
  refine wpList_plain hgd fun K hK => ?_
  obtain ⟨A', c', w', hr, h2, h3, h4⟩ := run_zerosG w base o.type A l k h hl h0 hbase hlen
  unfold Oper.wp execOp
  simp only [ho, resolve, invoke, builtin, Sem.run_bind, Sem.run_pure, Result.andThen_ok, List.map_toArray, List.map_cons, List.map_nil, hs, hx, hr]
  exact hK _ _ (hk A' c' w' h2 h3 h4)
/-- a row that was just built -/
theorem rowG_lit (w : World) (base : Nat) (l : List UInt8) (vs : List Value) (hv : vs = Lib.byteCells l) (hb : base ≤ w.heap.size) (hl : l.length ≤ 1000000) : RowG (w.alloc (.cells vs.toArray 5)) base (some ⟨w.heap.size, 0, none⟩) l.length l := by
  subst hv
  refine ⟨Nat.le_refl _, by unfold maxLen; omega, .inr ⟨w.heap.size, rfl, hb, by simp, fun j hj => ⟨?_, ?_⟩, fun j hj => ?_⟩⟩
  · unfold World.cell?; rw [heap_alloc_new]; simp [Lib.byteCells, hj]
  · unfold World.frozen?; rw [heap_alloc_new]; simp
  · unfold World.cell?; rw [heap_alloc_new]; simp [Lib.byteCells, hj]
end Go.Proofs.YtbmeceaefjdpaaaGreatDoor
