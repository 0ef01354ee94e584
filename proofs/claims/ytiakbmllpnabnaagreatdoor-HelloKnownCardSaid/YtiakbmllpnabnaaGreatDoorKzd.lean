/- The laws' own functions: plain, refused. The laws' own functions: works, the values. append(s, make([]byte, k)...). -/
import Derived.Test.YtiakbmllpnabnaaGreatDoorKza
import Derived.Test.YtiakbmllpnabnaaGreatDoorKk
namespace Go.Proofs.YtiakbmllpnabnaaGreatDoor
open Go Go.RowKit

def plG : Grt := ⟨1, List.replicate 32 0, [], [4865], [0], [97], 0, []⟩
def plA (g : Nat) : Adr := ⟨none, 0, some ⟨g + 1, 0, none⟩, 1, some ⟨g + 1 + 1, 0, none⟩, 1, none, 0⟩
theorem builtPl (g : Nat) : Tryz.prog.built 28 [(0, .int .i64 1), (3, .slice (some ⟨g + 1, 0, none⟩) 1 1), (4, .slice (some ⟨g + 1 + 1, 0, none⟩) 1 1), (5, .string ⟨#[97]⟩)] = some (grtA plG (plA g)) := by kernel_rfl
theorem wpList_buildV {P : Program} {ops : Array Oper} {rest : List Oper} {o : Oper} {a : Act} {w : World} {Q : Exit → Act → World → Prop} (hg : o.guard = none) (t : TypeId) (parts : Array (Nat × Operand)) (ho : o.op = .build t parts)
    (l : List (Nat × Value)) (hl : (parts.map fun (i, x) => (i, a.eval x)).toList = l) (row : Array Value) (hb : P.built t l = some row) (h : wpList P ops Q rest (a.put o.dst (.agg row)) w) : wpList P ops Q (o :: rest) a w := by
  refine wpList_build hg t parts ho ?_ ?_
  · rw [hl, hb]; rfl
  · rw [hl, hb]; exact h
/-- the chapter's greeting -/
def PlP (w : World) (e : Ending) (w' : World) : Prop := ∃ a : Adr, e = .returned (.agg (grtA plG a)) ∧ GrS (New w.heap.size w') w' plG a ∧ Below w.heap.size w w'
def PlQ (w : World) (e : Ending) (w' : World) : Prop := ∃ a : Adr, e = .returned (.agg (grtA plG a)) ∧ GrS (New w.heap.size w') w' plG a ∧ Below w.heap.size w w' ∧ 1 ≤ a.c2
theorem pl_fin {w w1 : World} (H0 : w1.heap[w.heap.size]? = some (.cells (gArr 0) 28 (0, 0))) (H1 : w1.heap[w.heap.size + 1]? = some (.cells #[.int .i64 4865] 3 (0, 0))) (H2 : w1.heap[w.heap.size + 1 + 1]? = some (.cells #[.int .u8 0] 5 (0, 0))) (HB : Below w.heap.size w w1) (HS : w1.heap.size = w.heap.size + 1 + 1 + 1) :
    (w1.setRow w.heap.size (grtA plG (plA w.heap.size))).heap[w.heap.size]? = some (.cells (grtA plG (plA w.heap.size)) 28 (0, 0)) ∧ GrS (New w.heap.size (w1.setRow w.heap.size (grtA plG (plA w.heap.size)))) (w1.setRow w.heap.size (grtA plG (plA w.heap.size))) plG (plA w.heap.size) ∧ Below w.heap.size w (w1.setRow w.heap.size (grtA plG (plA w.heap.size))) := by
  have k0 := setRow_heap w1 w.heap.size _ (grtA plG (plA w.heap.size)) _ _ H0
  have k1 := (setRow_other w1 w.heap.size (w.heap.size + 1) (grtA plG (plA w.heap.size)) (by omega)).trans H1
  have k2 := (setRow_other w1 w.heap.size (w.heap.size + 1 + 1) (grtA plG (plA w.heap.size)) (by omega)).trans H2
  have hsz : (w1.setRow w.heap.size (grtA plG (plA w.heap.size))).heap.size = w.heap.size + 1 + 1 + 1 := by rw [size_setRow]; exact HS
  refine ⟨k0, ⟨?_, ?_, ?_, ?_, by decide, by decide, by decide, by decide, by decide, rfl⟩, below_setRow7 HB (Nat.le_refl _) _⟩
  · exact ⟨Nat.zero_le _, fun _ => rfl, fun i hi => by simp [plG] at hi⟩
  · intro i hi
    have : i = 0 := by simp [plG] at hi; omega
    subst this
    refine ⟨w.heap.size + 1, 0, rfl, ⟨by omega, by rw [hsz]; omega⟩, ?_⟩
    unfold World.cell?
    rw [show (w1.setRow w.heap.size (grtA plG (plA w.heap.size))).heap[(⟨w.heap.size + 1, 0 + 0, none⟩ : Addr).block]? = _ from k1]
    rfl
  · refine ⟨Nat.le_refl 1, (fun e => by cases e), fun i hi => ?_⟩
    have : i = 0 := by simp [plG] at hi; omega
    subst this
    refine ⟨w.heap.size + 1 + 1, 0, rfl, ⟨by omega, by rw [hsz]; omega⟩, ?_⟩
    unfold World.cell?
    rw [show (w1.setRow w.heap.size (grtA plG (plA w.heap.size))).heap[(⟨w.heap.size + 1 + 1, 0 + 0, none⟩ : Addr).block]? = _ from k2]
    rfl
  · exact fun i hi => by simp [plG] at hi
set_option maxRecDepth 100000 in
set_option maxHeartbeats 400000 in
theorem plain_all (w : World) : Calls Tryz.prog 26 #[] w (PlQ w) := by
  have hs1 : (w.alloc (.cells (gArr 0) 28)).heap.size = w.heap.size + 1 := by simp
  have hs2 : ((w.alloc (.cells (gArr 0) 28)).alloc (.cells #[.int .i64 4865] 3)).heap.size = w.heap.size + 1 + 1 := by simp
  have hs3 : (((w.alloc (.cells (gArr 0) 28)).alloc (.cells #[.int .i64 4865] 3)).alloc (.cells #[.int .u8 0] 5)).heap.size = w.heap.size + 1 + 1 + 1 := by simp
  have hb1 := below_new w (.cells (gArr 0) 28)
  have hb2 := below_new (w.alloc (.cells (gArr 0) 28)) (.cells #[.int .i64 4865] 3)
  have hb3 := below_new ((w.alloc (.cells (gArr 0) 28)).alloc (.cells #[.int .i64 4865] 3)) (.cells #[.int .u8 0] 5)
  have h0 : (((w.alloc (.cells (gArr 0) 28)).alloc (.cells #[.int .i64 4865] 3)).alloc (.cells #[.int .u8 0] 5)).heap[w.heap.size]? = some (.cells (gArr 0) 28 (0, 0)) := (hb3.block _ (by rw [hs2]; omega)).trans ((hb2.block _ (by rw [hs1]; omega)).trans (heap_alloc_new w _))
  have h1 : (((w.alloc (.cells (gArr 0) 28)).alloc (.cells #[.int .i64 4865] 3)).alloc (.cells #[.int .u8 0] 5)).heap[w.heap.size + 1]? = some (.cells #[.int .i64 4865] 3 (0, 0)) := (hb3.block _ (by rw [hs2]; omega)).trans (by rw [← hs1]; exact heap_alloc_new _ _)
  have h2 : (((w.alloc (.cells (gArr 0) 28)).alloc (.cells #[.int .i64 4865] 3)).alloc (.cells #[.int .u8 0] 5)).heap[w.heap.size + 1 + 1]? = some (.cells #[.int .u8 0] 5 (0, 0)) := by rw [← hs2]; exact heap_alloc_new _ _
  have hb : Below w.heap.size w (((w.alloc (.cells (gArr 0) 28)).alloc (.cells #[.int .i64 4865] 3)).alloc (.cells #[.int .u8 0] 5)) := hb1.trans ((hb2.mono (by rw [hs1]; omega)).trans (hb3.mono (by rw [hs2]; omega)))
  have H0 := Lib.hid h0
  have FIN := Lib.hid (pl_fin h0 h1 h2 hb hs3)
  have BP := Lib.hid (builtPl w.heap.size)
  have HGO := Lib.hid (grtA_one plG (plA w.heap.size))
  have HGI := Lib.hid (infoGA plG (plA w.heap.size))
  clear hs1 hs2 hs3 hb1 hb2 hb3 h0 h1 h2 hb
  go_enter Tryz.func26, Tryz.ntmps26
  go_wp2_with (first
    | (refine wpList_buildV rfl 28 _ rfl _ rfl _ BP.out ?_)
    | (refine wpList_store_row rfl 28 (.tmp 0) (.tmp 3) rfl w.heap.size (grtA plG (plA w.heap.size)) rfl rfl 28 _ H0.out HGI.out rfl HGO.out ?_))
  refine bodyPost_ret (results_cell_row rfl _ _ w.heap.size 28 (grtA plG (plA w.heap.size)) (0, 0) _ rfl FIN.out.1 Tryz.underlying28 rfl HGI.out) rfl ?_
  exact ⟨plA w.heap.size, rfl, FIN.out.2.1, FIN.out.2.2, Nat.le_refl 1⟩
theorem plain_any (w : World) : Calls Tryz.prog 26 #[] w (PlP w) := (plain_all w).mono fun _ _ ⟨a, h1, h2, h3, _⟩ => ⟨a, h1, h2, h3⟩
set_option maxRecDepth 100000 in
set_option maxHeartbeats 400000 in
theorem refused_any {w : World} {g : Grt} {a : Adr} (h : GrV w.heap.size w g a) (hG : Gl w) (hd : ∀ x ∈ g.exts, x.2.length ≤ 1000000) (hok : okG g = false) :
    Calls Tryz.prog 27 #[.agg (grtA g a)] w (BoolP true w) := by
  have hb := below_new w (.cells (grtA g a) 28)
  have CW := Lib.hid (write_prog7 (h.below hb) (hG.below hb) hd)
  have HB := Lib.hid hb
  have HOK := Lib.hid hok
  have HGI := Lib.hid (infoGA g a)
  have HR := Lib.hid (heap_alloc_new w (.cells (grtA g a) 28))
  clear h hG hd hb hok
  go_enter Tryz.func27, Tryz.ntmps27
  go_wp2_with (refine wpList_load_row rfl 28 (.tmp 1) rfl w.heap.size rfl 28 _ (0, 0) _ HR.out Tryz.underlying28 rfl HGI.out ?_)
  refine Calls.mono CW.out ?_
  rintro e w1 ⟨_, h2⟩
  obtain ⟨rfl, hb⟩ := h2 HOK.out
  have B1 := Lib.hid (HB.out.trans (hb.mono HB.out.size))
  clear h2 hb CW
  go_wp2_with fail
  go_ret
  exact ⟨rfl, B1.out⟩
end Go.Proofs.YtiakbmllpnabnaaGreatDoor
namespace Go.Proofs.YtiakbmllpnabnaaGreatDoor
open Go Go.RowKit

def wB (c : UInt8) : List UInt8 := [22, 3, 1, 0, 57, 1, 0, 0, 53, 3, 3] ++ List.replicate 33 0 ++ [0, 2, 19, 1, 1, 0, 0, 10, 0, 0, 0, 6, 0, 4, 0, 0, 1, c]
theorem wB_ok : okG plG = true := by kernel_rfl
theorem wB_rec : recG plG = wB 97 := by kernel_rfl
theorem wB_97 : sniB (wB 97) [97] 0 = true := by kernel_rfl
theorem wB_65 : sniB (wB 65) [97] 0 = true := by kernel_rfl
theorem wB_46 : sniB (wB 46) [] 70 = true := by kernel_rfl
theorem wB_cut : sniB ((wB 97).take 61) [] 70 = true := by kernel_rfl
theorem wB_none : okG ⟨1, List.replicate 32 0, [], [4865], [], [97], 0, []⟩ = false := by kernel_rfl
theorem wB_twice : okG ⟨1, List.replicate 32 0, [], [4865], [0], [97], 0, [(0, [])]⟩ = false := by kernel_rfl
theorem wB_far : okG ⟨1, List.replicate 32 0, [], [4865], [0], [97], 1, []⟩ = false := by kernel_rfl
end Go.Proofs.YtiakbmllpnabnaaGreatDoor
namespace Go.Proofs.YtiakbmllpnabnaaGreatDoor
open Go Go.RowKit

theorem zeroCells_bytes (k : Nat) : Builtin.zeroCells (Value.int .u8 0).cells k = (Lib.byteCells (List.replicate k 0)).toArray := by
  have hl : (Lib.byteCells (List.replicate k 0)) = List.replicate k (Value.int .u8 0) := by
    unfold Lib.byteCells
    rw [List.map_replicate]
    rfl
  rw [hl]
  apply Array.ext
  · rw [size_zeroCells]
    simp [Value.cells]
  · intro i h1 h2
    simp [Builtin.zeroCells, Value.cells, Nat.mod_one]
theorem run_zerosG (w : World) (base : Nat) (ty : TypeId) (A : Option Addr) (l : List UInt8) (k : Nat) (h : RowG w base A l.length l) (hl : l ≠ []) (h0 : 0 < k) (hbase : base ≤ w.heap.size) (hlen : l.length + k ≤ 1000000) :
    ∃ (A' : Option Addr) (c' : Nat) (w' : World), (Builtin.append_ #[22, 3] ty #[.slice A l.length l.length, .int .i64 k]).run Tryz.prog w = .ok (.slice A' (l.length + k) c') w' ∧ RowG w' base A' c' (l ++ List.replicate k 0) ∧ Below base w w' ∧ (∀ k, k < w.heap.size → A ≠ some ⟨k, 0, none⟩ → w'.heap[k]? = w.heap[k]?) := by
  obtain ⟨i0, hi, hz0, hz1, hz2⟩ := info_parts info5
  have hzl : (List.replicate k (0 : UInt8)).length = k := List.length_replicate
  have hsrc := src_str w (List.replicate k 0)
  obtain ⟨A', c', w', hr, R, B, O, _⟩ := run_pushG w base ty 9 A l.length l (List.replicate k 0) _ h hsrc hbase (by rw [hzl]; omega)
  rcases h.at_ with ⟨rfl, hc⟩ | ⟨g, rfl, hb, hlt, hcs, hcl⟩
  · exact absurd (List.eq_nil_of_length_eq_zero hc) hl
  have hold : (Builtin.firstCells i0.size l.length (.slice (some ⟨g, 0, none⟩) l.length l.length)).run Tryz.prog w.drew = .ok (Lib.byteCells l).toArray w.drew := by
    rw [hz1]
    exact run_firstCells_some w.drew 1 l.length ⟨g, 0, none⟩ l.length l.length (Lib.byteCells l) (by rw [Lib.byteCells_length, Nat.mul_one]) (fun j u hj => by
      have hjl : j < l.length := by
        have := (List.getElem?_eq_some_iff.1 hj).1
        rwa [Lib.byteCells_length] at this
      show w.cell? _ = _
      rw [add_pl, Nat.zero_add, hcl j hjl, ← hj]
      unfold Lib.byteCells
      rw [List.getElem?_map, List.getElem?_eq_getElem hjl]
      rfl)
  have hx' : Src Tryz.prog i0.size 9 (.string ⟨(List.replicate k (0 : UInt8)).toArray⟩) (List.replicate k (0 : UInt8)).length (Lib.byteCells (List.replicate k 0)) w := by rw [hz1]; exact hsrc
  have h1 := run_append_grow_src (P := Tryz.prog) w 22 9 ty 5 i0 (.int .u8 0) Tryz.underlying22 hi hz0 (some ⟨g, 0, none⟩) l.length l.length (Lib.byteCells l) hold _ _ (Lib.byteCells (List.replicate k 0)) hx' (by rw [hzl]; omega) (by rw [hzl]; omega) (by rw [hz2]; exact growslice_fits (by rw [hzl]; omega) (by rw [hzl]; omega))
  have h2 := Lib.run_append_grow_zeros (P := Tryz.prog) w 22 3 ty 5 i0 (.int .u8 0) .i64 .i64 Tryz.underlying22 Tryz.underlying3 hi hz0 (some ⟨g, 0, none⟩) l.length l.length (Lib.byteCells l) hold k h0 (by rw [hz1]; decide) (by omega) (by omega) (by rw [hz2]; omega) (by rw [hz2]; exact growslice_fits (by omega) (by omega))
  rw [h1] at hr
  simp only [hzl] at hr
  rw [zeroCells_bytes k] at h2
  have e : (Lib.byteCells l ++ Lib.byteCells (List.replicate k 0)).toArray = (Lib.byteCells l).toArray ++ (Lib.byteCells (List.replicate k 0)).toArray := by simp
  rw [e] at hr
  injection hr with e1 e2
  injection e1 with e3 _ e4
  subst e2 e3 e4
  exact ⟨_, _, _, h2, R, B, O⟩
theorem wpList_zeros {ops : Array Oper} {rest : List Oper} {o : Oper} {a : Act} {Q : Exit → Act → World → Prop} (hgd : o.guard = none) (s x : Operand)
    (ho : o.op = .call { callee := .builtin .append, args := #[s, x], argTypes := #[22, 3] }) (w : World) (base : Nat) (A : Option Addr) (n k : Nat) (l : List UInt8) (hn : l.length = n) (hl : l ≠ []) (h0 : 0 < k)
    (hs : a.eval s = .slice A n n) (hx : a.eval x = .int .i64 k) (h : RowG w base A l.length l) (hbase : base ≤ w.heap.size) (hlen : l.length + k ≤ 1000000)
    (hk : ∀ (A' : Option Addr) (c' : Nat) w', RowG w' base A' c' (l ++ List.replicate k 0) → Below base w w' → (∀ k, k < w.heap.size → A ≠ some ⟨k, 0, none⟩ → w'.heap[k]? = w.heap[k]?) → wpList Tryz.prog ops Q rest (a.put o.dst (.slice A' (n + k : Nat) c')) w') :
    wpList Tryz.prog ops Q (o :: rest) a w := by
  subst hn
  refine wpList_plain hgd fun K hK => ?_
  obtain ⟨A', c', w', hr, h2, h3, h4⟩ := run_zerosG w base o.type A l k h hl h0 hbase hlen
  unfold Oper.wp execOp
  simp only [ho, resolve, invoke, builtin, Sem.run_bind, Sem.run_pure, Result.andThen_ok, List.map_toArray, List.map_cons, List.map_nil, hs, hx, hr]
  exact hK _ _ (hk A' c' w' h2 h3 h4)
/-- a row that was just built -/
theorem rowG_lit (w : World) (base : Nat) (l : List UInt8) (vs : List Value) (hv : vs = Lib.byteCells l) (hb : base ≤ w.heap.size) (hl : l.length ≤ 1000000) : RowG (w.alloc (.cells vs.toArray 5)) base (some ⟨w.heap.size, 0, none⟩) l.length l := by
  subst hv
  refine ⟨Nat.le_refl _, by unfold maxLen; omega, .inr ⟨w.heap.size, rfl, hb, by simp, fun j hj => ⟨?_, ?_⟩, fun j hj => ?_⟩⟩
  · unfold World.cell?; rw [heap_alloc_new]; simp [Lib.byteCells, hj]
  · unfold World.frozen?; rw [heap_alloc_new]; simp
  · unfold World.cell?; rw [heap_alloc_new]; simp [Lib.byteCells, hj]
end Go.Proofs.YtiakbmllpnabnaaGreatDoor
